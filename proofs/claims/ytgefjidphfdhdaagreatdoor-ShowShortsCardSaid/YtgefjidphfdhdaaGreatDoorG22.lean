/-
  SiK, SiL, ShZ, RowN
-/
import Derived.Test.YtgefjidphfdhdaaGreatDoorG21
import Derived.Lib.LaidTab
import Derived.ChangeSame
import Derived.RowKit
namespace Go.Proofs.YtgefjidphfdhdaaGreatDoor
open Go.Proofs.Tryz
open Go.IntKind
open Go.KRun Go.Nt Go.Wd Go.Rn Go.Rd Go.Pt
set_option maxRecDepth 100000
set_option linter.unusedVariables false
def soC (p:Int) (b:Bool) (f n E:Int) (S:Nat) (lo hi:List UInt8) (kk dh:Bool) (e:Ex) (z:Lf):Prop:=
 if kk=true then e=some none∧∃ t,z.1=[.int .u64 p,undef,bR lo]++t else if dh=true then e=some none∧∃ t,z.1=[.int .u64 p,undef,bR hi]++t else e=none∧(∃ g,z.1=soN p b f n++tl 104 g)∧z.2.1.blk? 0=some (w16 S)∧z.2.1.blk? 1=some (bOf b E (sOf 0 S))
section
variable {p f n E : Int} {b : Bool} {S B Q R V : Nat} {lo hi : List UInt8} {c : Code} {x : Lf} {kk dh : Bool} {H : Hp}
theorem Zpb (hr:RunsW (Zk prog Zf z8 Zby) c x fun e z=>e=some none∧(∃ g,z.1=[.int .u64 p,undef,bR lo]++tl 108 g)∧z.2.1=H) (hk:kk=true):RunsW (Zk prog Zf z8 Zby) c x (soC p b f n E S lo hi kk dh):=hr.mono fun e z ⟨he,⟨g,h1⟩,_⟩=>by
 unfold soC;rw[if_pos hk];exact⟨he,_,h1⟩
theorem ZsC (hr:RunsW (Zk prog Zf z8 Zby) c x fun e z=>e=some none∧(∃ g,z.1=[.int .u64 p,undef,bR hi]++tl 108 g)∧z.2.1=H) (hk:kk=false) (hd:dh=true):RunsW (Zk prog Zf z8 Zby) c x (soC p b f n E S lo hi kk dh):=hr.mono fun e z ⟨he,⟨g,h1⟩,_⟩=>by
 unfold soC;rw[if_neg (by rw[hk];decide),if_pos hd];exact⟨he,_,h1⟩
theorem Z3V (hr:RunsW (Zk prog Zf z8 Zby) c x fun e z=>e=none∧(∃ g,z.1=soN p b f n++tl 104 g)∧z.2.1=H) (hk:kk=false) (hd:dh=false) (h0:H.blk? 0=some (w16 S)) (h1:H.blk? 1=some (bOf b E (sOf 0 S))):RunsW (Zk prog Zf z8 Zby) c x (soC p b f n E S lo hi kk dh):=hr.mono fun e z ⟨he,hg,hh⟩=>by
 unfold soC;rw[if_neg (by rw[hk];decide),if_neg (by rw[hd];decide),hh];exact⟨he,hg,h0,h1⟩
theorem ZtP {l:List UInt8}{d:Bool}{rest:Log}(h1:((rdP 0 l).1==p)=d) (h2:(rdP 0 l).2.2=0) (h3:l.length≤10000) (hr:Zy rest):Zy (lRd l d p rest):=Za h1 (Za (zc h2) (Za (Xa (.inl h3)) hr))
theorem Zj9 {a b:Nat}:decide (zZ a b<0)=decide (a<b):=decide_eq_decide.2 (Zie a b).1
theorem ZyF {a s t:Value}{g:Nat→Value}{sc:List Dec}{dl dh:Bool}(lB:(d16 B).length<100000) (lR:(d16 R).length<100000) (l2:(d16 (2*R)).length<100000) (hQ:Q≠0) (hB:0<B) (a1:((rdP 0 lo).1==p)=dl) (a2:(rdP 0 lo).2.2=0) (a3:lo.length≤10000) (b1:((rdP 0 hi).1==p)=dh) (b2:(rdP 0 hi).2.2=0) (b3:hi.length≤10000):
  RunsW (Zk prog Zf z8 Zby) (cK (soB f10) 6) (soT p b f n a (s16 2 B) (s16 3 Q) (s16 4 R) s t (bR lo) (bR hi)++tl 96 g,soX b E S [B,Q,R,1,V],sc) (soC p b f n E S lo hi (dl && (!dh || decide (2*R<B) || (decide (2*R=B) && decide (Q % 2=0)))) dh):=by
 have eQ:∀ d,decide (Q % 2=0)=d→(((Q % 65536:Nat):Int).tmod 2==0)=d:=by
  intro d hd;have:((Q % 65536:Nat):Int).tmod 2=((Q % 2:Nat):Int):=by
   rw[Int.tmod_eq_emod_of_nonneg (Int.natCast_nonneg _)];omega
  rw[this,← hd];rcases Nat.mod_two_eq_zero_or_one Q with h | h<;>rw[h]<;>rfl
 have lQ:((d16 Q).length:Int)>0:=by have:=Zez.2 (Nat.pos_of_ne_zero hQ);omega
 have rd:∀ {rest:Log},Zy rest→Zy (lRd hi dh p (lRd lo dl p rest)):=fun hr=>ZtP b1 b2 b3 (ZtP a1 a2 a3 hr);rcases Nat.eq_zero_or_pos R with hR | hR
 ·subst hR;have hc:zZ 0 B= -1:=by unfold zZ;rw[if_pos hB]
  have k0:Zy (lC0 (soX b E S [B,Q,0,1,V]) 2 4 B 0 (zZ 0 B) []):=Z9D rfl rfl lB (fun x hx=>by cases hx);rw[hc] at k0;have k1:=rd k0;have cc:decide (2*0<B)=true:=Xa (by omega);rw[cc];cases dl<;>cases dh
  ·exact Z3V (Zb Za9 (ZyB p n E f (-1) 0 b S B Q 0 V lo hi a s t g) k1) rfl rfl rfl rfl
  ·exact ZsC (Zb Za9 (ZyC p n E f (-1) 0 b S B Q 0 V lo hi a s t g) k1) rfl rfl
  ·exact Zpb (Zb Za9 (ZyD p n E f (-1) 0 b S B Q 0 V lo hi a s t g) k1) rfl
  ·exact Zpb (Zb Za9 (Z3U p n E f (-1) 0 b S B Q 0 V lo hi a s t g) (Za (by decide) k1)) rfl
 ·have k0:Zy (lC1 (soX b E S [B,Q,R,1,V]) (soX b E S [B,Q,R,1,V,2*R]) 2 4 7 B R (zZ (2*R) B) []):=Z9C rfl rfl rfl lB lR l2 hR (fun x hx=>by cases hx);have k1:=rd k0;cases dl<;>cases dh
  ·exact Z3V (Zb Za9 (Zy8 p n E f (zZ (2*R) B) 0 b S B Q R V lo hi a s t g) k1) rfl rfl rfl rfl
  ·exact ZsC (Zb Za9 (Zy9 p n E f (zZ (2*R) B) 0 b S B Q R V lo hi a s t g) k1) rfl rfl
  ·exact Zpb (Zb Za9 (ZyA p n E f (zZ (2*R) B) 0 b S B Q R V lo hi a s t g) k1) rfl
  ·by_cases c1:2*R<B
   ·exact Zpb (Zb Za9 (Z3Q p n E f (zZ (2*R) B) 0 b S B Q R V lo hi a s t g) (Za (by rw[Zj9];exact Xa c1) k1)) (by rw[Xa c1];rfl)
   have n1:decide (zZ (2*R) B<0)=false:=by rw[Zj9];exact Xb c1
   by_cases c2:2*R=B
   ·have k2:=Za (Z3t hQ) (Za (show decide ((0:Int)≤0∧(0:Int)<((d16 Q).length:Int))=true from Xa ⟨by omega,lQ⟩) (Za (show (zZ (2*R) B==0)=true by rw[Zcp];exact Xa c2) (Za n1 k1)));by_cases c3:Q % 2=0
    ·exact Zpb (Zb Za9 (Z3S p n E f (zZ (2*R) B) ((Q % 65536:Nat):Int) b S B Q R V lo hi a s t g) (Za (eQ true (Xa c3)) (Za (by decide) k2))) (by rw[Xb c1,Xa c2,Xa c3];rfl)
    ·exact ZsC (Zb Za9 (Z3T p n E f (zZ (2*R) B) ((Q % 65536:Nat):Int) b S B Q R V lo hi a s t g) (Za (eQ false (Xb c3)) (Za (by decide) k2))) (by rw[Xb c1,Xb c3,Bool.and_false];rfl) rfl
   ·exact ZsC (Zb Za9 (Z3R p n E f (zZ (2*R) B) 0 b S B Q R V lo hi a s t g) (Za (by rw[Zcp];exact Xb c2) (Za n1 k1))) (by rw[Xb c1,Xb c2];rfl) rfl
end
theorem Z84 {p:Int}(hp:U p) {A:Nat}(hA:A≠0) (j:Int):((rdN 0 (sgn p) A j).1==p)=decide (deP 0 (sgn p) A j=mag p):=by
 unfold rdN;rw[if_neg hA];cases hs:sgn p with
 | true=>
  have h1:=Xc hs;rw[if_pos rfl];have:p=9223372036854775808+mag p:=by unfold U at hp;unfold mag;omega
  show decide (9223372036854775808+deP 0 true A j=p)=_;exact decide_eq_decide.2 ⟨fun h=>by omega,fun h=>by omega⟩
 | false=>
  have h1:=of_decide_eq_false hs;rw[if_neg (by decide)];have:p=mag p:=by unfold U at hp;unfold mag;omega
  show decide (deP 0 false A j=p)=_;rw[← this]
theorem Z3W {p f E:Int}{S B Q R N j:Nat}{a:Value}{g:Nat→Value}{s:List Dec}(hp:U p) (hN:N≤16) (hf: -324≤f∧f≤400) (q1:10^(N+1-1)≤Q) (q2:Q<10^(N+1)) (hB:0<B) (hRB:R<B) (hj:j≤7200) (hBj:B<2^j):
  RunsW (Zk prog Zf z8 Zby) (ZX [soP f10 2,soP f10 3,soP f10 4,soP f10 5] (cK (soB f10) 6)) (soQ p (sgn p) f ((N+1:Nat):Int) a (s16 2 B) (s16 3 Q) (s16 4 R)++tl 100 g,soX (sgn p) E S [B,Q,R],s)
   (soC p (sgn p) f ((N+1:Nat):Int) E S (txL (sgn p) (Zba (N+1) Q) f) (hiX (sgn p) (N+1) Q f) (decide (deP 0 (sgn p) Q (f-(((N+1:Nat):Int)-1))=mag p) && (!decide (deP 0 (sgn p) (Q+1) (f-(((N+1:Nat):Int)-1))=mag p) || decide (2*R<B) || (decide (2*R=B) && decide (Q % 2=0)))) (decide (deP 0 (sgn p) (Q+1) (f-(((N+1:Nat):Int)-1))=mag p))):=by
 have p10:0<10^(N+1-1):=Nat.pow_pos (by omega);have lB:=zl hBj (by omega);have lR:=zl (Nat.lt_trans hRB hBj) (by omega);have l2:(d16 (2*R)).length<100000:=zl (i:=j+1) (by rw[Nat.pow_succ];omega) (by omega);obtain⟨V,hV⟩:∃ V,V=Q+1:=⟨_,rfl⟩;obtain⟨u1,u2⟩:=Zpa (show Q≠0 by omega) (show Q≤10^(N+1) by omega) (by omega);obtain⟨u3,u4⟩:=Zpa (show V≠0 by omega) (show V≤10^(N+1) by omega) (by omega);obtain⟨d1,d2⟩:=Zga (n:=N+1) (by omega) q1 q2;have ew:i64.wrap (f+1)=f+1:=Zw (by omega) (by omega);have t1:=ZhS 0 (sgn p) (n:=N+1) (by omega) (by omega) q1 q2 (e:=f) (by omega);have t2:=Zwj 0 (sgn p) (n:=N+1) (by omega) (by omega) q1 q2 (f:=f) (by omega);have e1:∀ g s' a s t,RunsW (Zk prog Zf z8 Zby) (cK (soB f10) 6) (soT p (sgn p) f ((N+1:Nat):Int) a (s16 2 B) (s16 3 Q) (s16 4 R) s t (bR (txL (sgn p) (Zba (N+1) Q) f)) (bR (hiX (sgn p) (N+1) Q f))++tl 96 g,soX (sgn p) E S [B,Q,R,1,V],s') _:=fun g s' a s t=>ZyF (p:=p) (f:=f) (n:=((N+1:Nat):Int)) (E:=E) (b:=sgn p) (S:=S) (V:=V) (dl:=decide (deP 0 (sgn p) Q (f-(((N+1:Nat):Int)-1))=mag p)) (dh:=decide (deP 0 (sgn p) (Q+1) (f-(((N+1:Nat):Int)-1))=mag p)) lB lR l2 (by omega) hB (by rw[t1];exact Z84 hp (by omega) _) (by rw[t1];exact Znz _ _ _ _) (by have:=Zgf (sgn p) (Zba (N+1) Q) f;rw[← d1,d2] at this;rw[← d1];omega) (by rw[t2];exact Z84 hp (by omega) _) (by rw[t2];exact Znz _ _ _ _) (by have:=ZsB (sgn p) (N+1) Q f;omega);have hd:=Zs4 (sgn p) (n:=N+1) (by omega) q1 q2 f;rw[← hV] at hd;rw[← d1,← hd] at e1 ⊢;cases ht:ZaW Q with
 | nil=>rw[ht] at d2;simp at d2
 | cons c r=>
  rw[ht] at d2 e1 u2;obtain⟨l1,_,_⟩:=ZbX (W:=V) (by omega);cases hs:ZaW V with
  | nil=>rw[hs] at l1;simp at l1
  | cons h t=>
   rw[hs] at u4;rw[List.length_cons] at u2 u4;have rV:=RowV.at (h:=soX (sgn p) E S [B,Q,R,1,V]) (b:=6) (V:=V) rfl u3;have rQ:=RowV.at (h:=soX (sgn p) E S [B,Q,R,1]) (b:=3) (V:=Q) rfl u1;have r1:=RowV.at (h:=soX (sgn p) E S [B,Q,R,1]) (b:=5) (V:=1) rfl (zl (i:=1) (by decide) (by omega));have rQ':=RowV.at (h:=soX (sgn p) E S [B,Q,R]) (b:=3) (V:=Q) rfl u1;have k0:Zy (lTw (sgn p) E f S B Q R V c h r t):=Za (Xa ⟨by omega,by omega⟩) (Za (Xa ⟨by omega,by omega⟩) (Za (Zsc (h:=soX (sgn p) E S [B,Q,R,1,V]) (b:=6) (V:=V) rfl u3) (Za (by rw[rV.vo];exact Xa hs) (Za (by rw[rQ.vo,r1.vo];exact Xa hV.symm) (Za (RowV.two rQ r1) (Za (Xa (.inl (Zez.2 (by omega)))) (Za (by decide) (Za (Zsc (h:=soX (sgn p) E S [B,Q,R]) (b:=3) (V:=Q) rfl u1) (Z6 (by rw[rQ'.vo];exact Xa ht))))))))));by_cases hl:N+1<(h::t).length
   ·have hG:=Z8h p E f (sgn p) S B Q R V N a c h r t g;have ed:dcT (sgn p) (N+1) V f=txL (sgn p) (h::t.take N) (f+1):=by
     unfold dcT;rw[hs,if_pos hl];rfl
    rw[ew,← ed] at hG;refine Zv Za9 hG (Za (Xa ⟨by rw[List.length_take];omega,by omega⟩) (Za (Xa ⟨by omega,by omega⟩) (Za (Xa (by omega)) k0))) fun g=> ?_;exact e1 g _ _ _ _
   ·have hG:=Z8i p E f (sgn p) S B Q R V N a c h r t g;have ed:dcT (sgn p) (N+1) V f=txL (sgn p) (h::t) f:=by
     unfold dcT;rw[hs,if_neg hl]
    rw[← ed] at hG;refine Zv Za9 hG (Za (Xb (by omega)) k0) fun g=> ?_;exact e1 g _ _ _ _
theorem fa2 {α:Type}{P:α→Prop}{a b:α}(h:P a) (h':P b):∀ q∈[a,b],P q:=fun q hq=>by
 rcases List.mem_cons.1 hq with rfl | hq
 ·exact h
 ·exact fa1 h' q hq
theorem fa5 {α:Type}{P:α→Prop}{a b c d e:α}(h:P a) (h':P b) (h2:P c) (h3:P d) (h4:P e):∀ q∈[a,b,c,d,e],P q:=fun q hq=>by
 rcases List.mem_cons.1 hq with rfl | hq
 ·exact h
 ·rcases List.mem_cons.1 hq with rfl | hq
  ·exact h'
  ·exact fa3 h2 h3 h4 q hq
def soR (p f E:Int) (S N:Nat) (e:Ex) (z:Lf):Prop:=
 if loK (sgn p) (mag p) S E f (N+1)=true then e=some none∧∃ t,z.1=[.int .u64 p,undef,bR (txL (sgn p) (Zba (N+1) (qD S E f (N+1))) f)]++t else if hiB (sgn p) (mag p) S E f (N+1)=true then e=some none∧∃ t,z.1=[.int .u64 p,undef,bR (hiX (sgn p) (N+1) (qD S E f (N+1)) f)]++t else e=none∧(∃ g,z.1=soN p (sgn p) f ((N+1+1:Nat):Int)++tl 104 g)∧z.2.1=xH (sgn p) E S
theorem ZsD {p f E:Int}{S N:Nat}(hp:U p) (hN:N≤16) (hfi:Zav S E f) (hf: -324≤f∧f≤400) (x0:S≠0) (x3:S<2^53) (x1: -1074≤E) (x2:E≤972) (g:Nat→Value) (s:List Dec):
  RunsW (Zk prog Zf z8 Zby) (soL f10) (soN p (sgn p) f ((N+1:Nat):Int)++tl 104 g,xH (sgn p) E S,s) (soR p f E S N):=by
 obtain⟨b1,b2⟩:=Zrz hfi (n:=N+1) (by omega);obtain⟨k,ek⟩:∃ k:Int,k=((N+1:Nat):Int)-1-f:=⟨_,rfl⟩;have eK:dgK ((N+1:Nat):Int) f=k:=by
  unfold dgK;rw[Zw (n:=((N+1:Nat):Int)-1) (by omega) (by omega),Zw (by omega) (by omega),ek]
 obtain⟨Q,hQ⟩:∃ Q,Q=paN S E k/pbN E k:=⟨_,rfl⟩;obtain⟨R,hR⟩:∃ R,R=paN S E k % pbN E k:=⟨_,rfl⟩;have eQ:qD S E f (N+1)=Q:=by rw[hQ,ek];rfl
 have eR:Zt1 S E f (N+1)=R:=by rw[hR,ek];rfl
 rw[eQ] at b1 b2;have hB:=zQ E k;have hRB:R<pbN E k:=by rw[hR];exact Nat.mod_lt _ hB
 obtain⟨j,hj,hBj⟩:=ZyE (E:=E) (k:=k) x1 (by omega);have ehi:hiB (sgn p) (mag p) S E f (N+1)=decide (deP 0 (sgn p) (Q+1) (f-(((N+1:Nat):Int)-1))=mag p):=by unfold hiB;rw[eQ]
 have elo:loK (sgn p) (mag p) S E f (N+1)=(decide (deP 0 (sgn p) Q (f-(((N+1:Nat):Int)-1))=mag p) && (!decide (deP 0 (sgn p) (Q+1) (f-(((N+1:Nat):Int)-1))=mag p) || decide (2*R<pbN E k) || (decide (2*R=pbN E k) && decide (Q % 2=0)))):=by unfold loK loB;rw[ehi,eQ,eR,← ek]
 rw[ZoZ];refine RunsW.next (Zb Za9 (Z9N p f ((N+1:Nat):Int) (sgn p) (xH (sgn p) E S) g) (Z6 (Xa (by omega)))) fun g s=> ?_;refine RunsW.seq (P1:=soC p (sgn p) f ((N+1:Nat):Int) E S (txL (sgn p) (Zba (N+1) Q) f) (hiX (sgn p) (N+1) Q f) (loK (sgn p) (mag p) S E f (N+1)) (hiB (sgn p) (mag p) S E f (N+1))) ?_ ?_ ?_
 ·refine RunsW.block (P1:=soC p (sgn p) f ((N+1:Nat):Int) E S (txL (sgn p) (Zba (N+1) Q) f) (hiX (sgn p) (N+1) Q f) (loK (sgn p) (mag p) S E f (N+1)) (hiB (sgn p) (mag p) S E f (N+1))) ?_ (fun y hy=>hy) (fun y hy=>hy) (fun y hy=> ?_) (fun i y hi hy=>hy)
  ·have fin:∀ {ib V:Nat}{H:Hp}{a:Value}{g:Nat→Value},V=pbN E k→H.blk? ib=some (w16 V)→H.blk? 7=some (w16 Q)→H.blk? 8=some (w16 R)→H.blk? 0=some (w16 S)→H.blk? 1=some (bOf (sgn p) E (sOf 0 S))→[0,1,ib,7,8].Nodup→RunsW (Zk prog Zf z8 Zby) (ZX [soP f10 2,soP f10 3,soP f10 4,soP f10 5] (cK (soB f10) 6)) (soQ p (sgn p) f ((N+1:Nat):Int) a (s16 ib V) (s16 7 Q) (s16 8 R)++tl 100 g,H,[]) (soC p (sgn p) f ((N+1:Nat):Int) E S (txL (sgn p) (Zba (N+1) Q) f) (hiX (sgn p) (N+1) Q f) (loK (sgn p) (mag p) S E f (N+1)) (hiB (sgn p) (mag p) S E f (N+1))):=by
    intro ib V H a g hV hb h7 h8 h0 h1 hd;rw[elo,ehi];rw[← hV] at hB hRB hBj ⊢;refine RunsW.preP (s':=[]) [some (.int .u64 p),some undef,some (bR []),some (.bool (sgn p)),some (.pointer (some ⟨1,0,none⟩)),some (.int .i64 f),some (.int .i64 ((N+1:Nat):Int)),none,some (s16 2 V),some (s16 3 Q),some (s16 4 R)] [0,1,ib,7,8] [w16 S,bOf (sgn p) E (sOf 0 S),w16 V,w16 Q,w16 R] (fun j g'=> ?_) rfl (Nat.succ_pos 4) ⟨rfl,Zj7 _,rfl,rfl,rfl,rfl,rfl,rfl,rfl,rfl,trivial⟩ (fa5 (Ze2 h0) ⟨rfl,h1⟩ (Ze2 hb) (Ze2 h7) (Ze2 h8)) hd (by rfl);exact Z3W (E:=E) (S:=S) (g:=g') hp hN hf b1 b2 hB hRB hj hBj
   have q2:E<0→i64.wrap (0-E)= -E:=fun h=>by rw[Zw (by omega) (by omega)];omega
   have q1:k<0→i64.wrap (0-k)= -k:=fun h=>by rw[Zw (by omega) (by omega)];omega
   have hk1: -1500≤k∧k≤1500:=⟨by omega,by omega⟩;by_cases hE:0≤E
   ·by_cases hk:0≤k
    ·obtain⟨A,hA⟩:∃ A,A=S*2^E.toNat:=⟨_,rfl⟩;obtain⟨B,hB'⟩:∃ B,B=10^k.toNat:=⟨_,rfl⟩;obtain⟨V,hV⟩:∃ V,V=A*B:=⟨_,rfl⟩;obtain⟨_,ea,eb⟩:=Z3o (b:=sgn p) hA hB' hV rfl rfl x0 x3 ⟨x1,x2⟩ hk1 hE hk;have ok:=Z3o (b:=sgn p) hA hB' hV (show Q=V/1 by rw[ea,eb,hQ]) (show R=V % 1 by rw[ea,eb,hR]) x0 x3 ⟨x1,x2⟩ hk1 hE hk;have hG:=Z8d p ((N+1:Nat):Int) E f (sgn p) S A B V Q R g;rw[eK] at hG;exact Zv Za9 hG ok.1 fun g=>fin eb rfl rfl rfl rfl rfl (by decide)
    ·have hk:k<0:=by omega
     obtain⟨A,hA⟩:∃ A,A=S*2^E.toNat:=⟨_,rfl⟩;obtain⟨B,hB'⟩:∃ B,B=10^(-k).toNat:=⟨_,rfl⟩;obtain⟨V,hV⟩:∃ V,V=1*B:=⟨_,rfl⟩;obtain⟨_,ea,eb⟩:=Z3p (b:=sgn p) hA hB' hV rfl rfl x0 x3 ⟨x1,x2⟩ hk1 hE hk;have ok:=Z3p (b:=sgn p) hA hB' hV (show Q=A/V by rw[ea,eb,hQ]) (show R=A % V by rw[ea,eb,hR]) x0 x3 ⟨x1,x2⟩ hk1 hE hk;have hG:=Z8e p ((N+1:Nat):Int) E f (sgn p) S A B V Q R g;rw[eK,q1 hk] at hG;exact Zv Za9 hG ok.1 fun g=>fin eb rfl rfl rfl rfl rfl (by decide)
   ·have hE:E<0:=by omega
    by_cases hk:0≤k
    ·obtain⟨A,hA⟩:∃ A,A=1*2^(-E).toNat:=⟨_,rfl⟩;obtain⟨B,hB'⟩:∃ B,B=10^k.toNat:=⟨_,rfl⟩;obtain⟨V,hV⟩:∃ V,V=S*B:=⟨_,rfl⟩;obtain⟨_,ea,eb⟩:=Z3q (b:=sgn p) hA hB' hV rfl rfl x0 x3 ⟨x1,x2⟩ hk1 hE hk;have ok:=Z3q (b:=sgn p) hA hB' hV (show Q=V/A by rw[ea,eb,hQ]) (show R=V % A by rw[ea,eb,hR]) x0 x3 ⟨x1,x2⟩ hk1 hE hk;have hG:=Z8f p ((N+1:Nat):Int) E f (sgn p) S A B V Q R g;rw[eK,q2 hE] at hG;exact Zv Za9 hG ok.1 fun g=>fin eb rfl rfl rfl rfl rfl (by decide)
    ·have hk:k<0:=by omega
     obtain⟨A,hA⟩:∃ A,A=1*2^(-E).toNat:=⟨_,rfl⟩;obtain⟨B,hB'⟩:∃ B,B=10^(-k).toNat:=⟨_,rfl⟩;obtain⟨V,hV⟩:∃ V,V=A*B:=⟨_,rfl⟩;obtain⟨_,ea,eb⟩:=Z3r (b:=sgn p) hA hB' hV rfl rfl x0 x3 ⟨x1,x2⟩ hk1 hE hk;have ok:=Z3r (b:=sgn p) hA hB' hV (show Q=S/V by rw[ea,eb,hQ]) (show R=S % V by rw[ea,eb,hR]) x0 x3 ⟨x1,x2⟩ hk1 hE hk;have hG:=Z8g p ((N+1:Nat):Int) E f (sgn p) S A B V Q R g;rw[eK,q1 hk,q2 hE] at hG;exact Zv Za9 hG ok.1 fun g=>fin eb rfl rfl rfl rfl rfl (by decide)
  ·unfold soC at hy;split at hy
   ·cases hy.1
   ·split at hy<;>cases hy.1
 ·intro y hy;unfold soC at hy;split at hy
  ·cases hy.1
  ·rename_i c1;split at hy
   ·cases hy.1
   ·rename_i c2;obtain⟨_,⟨g,z1⟩,z2,z3⟩:=hy;obtain⟨t,h',sc⟩:=y;simp only at z1 z2 z3;subst z1;refine RunsW.preP (s':=[]) [some (.int .u64 p),some undef,some (bR []),some (.bool (sgn p)),some (.pointer (some ⟨1,0,none⟩)),some (.int .i64 f),some (.int .i64 ((N+1:Nat):Int))] [0,1] [w16 S,bOf (sgn p) E (sOf 0 S)] (fun j g'=> ?_) rfl (Nat.succ_pos 1) ⟨rfl,Zj7 _,rfl,rfl,rfl,rfl,rfl,trivial⟩ (fa2 (Ze2 z2) ⟨rfl,z3⟩) (by decide) (by rfl);have hG:=Z9P p f ((N+1:Nat):Int) (sgn p) (xH (sgn p) E S) g';rw[Zw (n:=((N+1:Nat):Int)+1) (by omega) (by omega),show ((N+1:Nat):Int)+1=((N+1+1:Nat):Int) by omega] at hG;refine (Zb Za9 hG (fun x hx=>by cases hx)).mono fun e z hz=> ?_;unfold soR;rw[if_neg c1,if_neg c2];exact hz
 ·intro e y hy;unfold soC at hy;unfold soR;rw[eQ];split at hy
  ·rename_i c1;rw[if_pos c1];exact hy
  ·rename_i c1;rw[if_neg c1];split at hy
   ·rename_i c2;rw[if_pos c2];exact hy
   ·cases hy.1
theorem Z3X (p:Int) (hp:U p) (h2:cl p≤2) (h0:cl p≠0) (w:World):Calls prog 10 #[.int .u64 p] w fun e w'=>e= .returned (bR (shT p))∧Za0 w w':=by
 have hs:spK p=0:=ZtN h2;have hF:=ZfY (ZtO h2 h0);obtain⟨hfi,f1,f2⟩:=ZgN hF;obtain⟨f,ef⟩:∃ f,f=frP p:=⟨_,rfl⟩;obtain⟨S,eS⟩:∃ S,S=(sg p).toNat:=⟨_,rfl⟩;obtain⟨E,eE⟩:∃ E,E=xp p:=⟨_,rfl⟩;have x0:=hF.ne;have x1:=hF.e0;have x2:=hF.e1;have x3:=hF.s1;have efr:frS S E=f:=by rw[ef,eS,eE];rfl
 rw[← eS] at x0 x3;rw[← eE] at x1 x2;rw[← eS,← eE,← ef] at hfi;rw[← ef] at f1 f2;have ev:shT p=shK (sgn p) (mag p) S E f 17 1:=by
  unfold shT;rw[if_neg (fun c=>c hs),if_neg h0];unfold shS;rw[← eS,← eE,efr];rfl
 refine Ze6 (T:=(Zk prog Zf z8 Zby)) func10 Zy7 (vals:=[.int .u64 p]) (by rfl) (by rfl) ?_ w;have ht:p.tmod 9223372036854775808≠0:=by
  intro c;have hp':=hp;unfold U at hp';rw[Int.tmod_eq_emod_of_nonneg hp'.1] at c;refine h0 ?_;unfold cl ex fr;rw[if_pos (by omega),if_pos (by omega)]
 refine Zv Za9 (Z9K p (sgn p)) (Za rfl (Za (Xa hp) (Za (ZS ht) (Za (by decide) (Za rfl (Za (Xa hs) (Z6 (Xa hp)))))))) fun g=> ?_;rw[← eS,← eE];have lS:(d16 S).length<100000:=zl (i:=53) x3 (by omega);have hG:=Z9L p E (sgn p) S g;rw[efr] at hG;refine Zv Za9 hG (Z6 ?_) fun g=> ?_
 ·have r:=RowV.at (h:=xH (sgn p) E S) (b:=0) (V:=S) rfl lS;unfold Z4w;rw[r.1,Xa r.2.1,Xa ⟨by omega,x3,x1,x2⟩];rfl
 refine RunsW.seq (P1:=fun e z=>(e=none∧shT p=[]∧∃ n g h s,z=(soN p (sgn p) f n++tl 104 g,h,s))∨(e=some none∧∃ t,z.1=[.int .u64 p,undef,bR (shT p)]++t)) ?_ ?_ ?_
 ·refine RunsW.next (Zb Za9 (Z9M p f (sgn p) (xH (sgn p) E S) g) (fun x hx=>by cases hx)) fun g s=> ?_;refine (RunsW.forLoop (P:=fun z=>shT p=[]∧∃ n g h s,z=(soN p (sgn p) f n++tl 104 g,h,s)) (R:=fun z=>∃ t,z.1=[.int .u64 p,undef,bR (shT p)]++t) (fun r y=>∃ N:Nat,r+N=17∧shK (sgn p) (mag p) S E f r (N+1)=shT p∧(∃ g,y.1=soN p (sgn p) f ((N+1:Nat):Int)++tl 104 g)∧y.2.1=xH (sgn p) E S) ?_ (n:=17) ⟨0,rfl,ev.symm,⟨g,rfl⟩,rfl⟩).mono fun e z hz=> ?_
  ·rintro r ⟨t,h',sc⟩ ⟨N,hr,hk,⟨g,ht⟩,hh⟩;simp only at ht hh;subst ht hh;cases r with
   | zero=>
    have eN:N=17:=by omega
    rw[ZoZ];refine RunsW.seq (Zb Za9 (Z9O p f ((N+1:Nat):Int) (sgn p) (xH (sgn p) E S) g) (Z6 (Xb (by omega)))) (fun y hy=>by cases hy.1) fun e y hy=> ?_;obtain⟨e1,⟨g',z1⟩,z2⟩:=hy;cases e1;obtain⟨yt,yh,ys⟩:=y;simp only at z1;exact⟨rfl,hk.symm,_,g',yh,ys,by rw[z1]⟩
   | succ r=>
    refine (ZsD hp (by omega) hfi ⟨f1,f2⟩ x0 x3 x1 x2 g sc).mono fun e z hz=> ?_;unfold soR at hz;unfold shK at hk;split at hz
    ·rename_i c1;rw[if_pos c1] at hk;obtain⟨rfl,t,ht⟩:=hz;rw[hk] at ht;exact⟨t,ht⟩
    ·rename_i c1;rw[if_neg c1] at hk;split at hz
     ·rename_i c2;rw[if_pos c2] at hk;obtain⟨rfl,t,ht⟩:=hz;rw[hk] at ht;exact⟨t,ht⟩
     ·rename_i c2;rw[if_neg c2] at hk;obtain⟨rfl,hg,hh⟩:=hz;exact⟨r,by omega,N+1,by omega,hk,hg,hh⟩
  ·match e,hz with
   | none,hz=>exact .inl ⟨rfl,hz⟩
   | some none,hz=>exact .inr ⟨rfl,hz⟩
   | some (some _),hz=>exact hz.elim
 ·rintro y (⟨_,hn,n,g,h,s,rfl⟩ | ⟨he,_⟩)
  ·refine (Zb Za9 (Z9Q p f n (sgn p) h g) (fun x hx=>by cases hx)).mono fun e z hz=> ?_;obtain⟨rfl,⟨g',z1⟩,z2⟩:=hz;refine⟨.inr rfl,?_⟩;rw[z1,hn];rfl
  ·cases he
 ·rintro e y (⟨he,_⟩ | ⟨he,t,ht⟩)
  ·cases he
  ·cases he;refine⟨.inr rfl,?_⟩;rw[ht];rfl
theorem Z9R (p k:Int):ZE (Zr (Zq prog Zf Zs3 true) 300 10 [.int .u64 p] [num k,sam true,num k]) (bR (spL k)) [(decide (spK p=k),true),(decide (U p),true),(!(Zpf (spL k) [] true).1,true),(decide (spK p=k),true),(decide (U p),true)]:=by and_intros<;>kernel_rfl
theorem Z9S (p:Int) (b:Bool):ZE (Zr (Zq prog Zf Zs3 true) 300 10 [.int .u64 p] [num 0,cmp b,cmp false,cmp true]) (bR (txL b [48] 0)) [(true,true),(p.tmod 9223372036854775808==0,true),(decide ((9223372036854775808:Int)=0),false),(decide (p≥9223372036854775808),b),(decide (spK p=0),true),(decide (U p),true)]:=by and_intros<;>kernel_rfl
theorem Zig (p:Int) (hp:U p) (w:World):Calls prog 10 #[.int .u64 p] w fun e w'=>e= .returned (bR (shT p))∧Za0 w w':=by
 have hu:decide (U p)=true:=Xa hp;by_cases hs:spK p=0
 ·by_cases h0:cl p=0
  ·have hz:p.tmod 9223372036854775808=0:=by
    have x:ex p=0∧fr p=0:=by
     unfold cl at h0;split at h0
     ·rename_i a;split at h0
      ·rename_i b;exact⟨a,b⟩
      ·omega
     ·split at h0
      ·split at h0
       ·omega
       ·split at h0<;>omega
      ·omega
    have hp':=hp;unfold U at hp';rw[Int.tmod_eq_emod_of_nonneg hp'.1];unfold ex fr at x;omega
   unfold shT;rw[if_neg (fun c=>c hs),if_pos h0];exact Ze (Zp ZfZ) (Z9S p (sgn p)) (Za rfl (Za (zc hz) (Za (by decide) (Za rfl (Za (Xa hs) (Z6 hu)))))) (by rfl) (by rfl) w
  ·refine Z3X p hp ?_ h0 w;rcases Int.lt_or_le 2 (cl p) with c | c
   ·exact absurd hs (Z3l hp (by omega)).1
   ·exact c
 ·unfold shT;rw[if_pos hs];exact Ze (Zp ZfZ) (Z9R p (spK p)) (Za (Xa rfl) (Za hu (Za (Z3m (Zy0 p hs)) (Za (Xa rfl) (Z6 hu))))) (by rfl) (by rfl) w
end Go.Proofs.YtgefjidphfdhdaaGreatDoor
namespace Go.Proofs.YtgefjidphfdhdaaGreatDoor
open Go.Proofs.Tryz
open Go.KRun Go.Nt Go.Rd Go.Pt
set_option maxRecDepth 100000
def Z3Y:Con:=alt 10 (gU fun p=>bR (shT p)) Zo
theorem ZsE:ConOk Z3Y:=ZN func10 rfl (ZnJ Zig) Zd
theorem Z8j (p:Int):ZE (zh (Zk prog Zf Z3Y Z8z) hT0 200 3 [.int .u64 p] [sam true]) (.bool true) [Zpf (shT p) (shT p) true,(decide (U p),true),(decide (U p),true)]:=by and_intros<;>kernel_rfl
theorem ZkB (p:Int) (hp:0≤p∧p<18446744073709551616) (w:World) (hk:knT w):Calls prog 3 #[.int .u64 p] w fun e w'=>e= .returned (.bool true)∧Za0 w w':=
 have hu:decide (U p)=true:=Xa hp
 ZfQ (Zh ZsE Zyz) (Z8j p) (Za (Zdj (Xa rfl)) (Za hu (Z6 hu))) (by rfl) (by rfl) hk
end Go.Proofs.YtgefjidphfdhdaaGreatDoor
namespace Go.Proofs.YtgefjidphfdhdaaGreatDoor
open Go.Proofs.Tryz
open Go.KRun Go.RowKit Go.ChangeShapes
set_option maxRecDepth 100000
theorem Zpc {H:Type}{enc:TypeId×Value→H}{P:Program}{f:Func}{s:ChangeSpec}{apart fresh handsOn again:Bool}{W W':World}{args:Array Value}{v:Value}{ds gs:List (DataW H)}
  (hW:DataW.Whole enc P f.params.toList s.vars apart W args.toList ds gs [])
  (hres:∀ (b:Nat) (sp:Nat→Bool) (hd:Bool),DataW.TrodAll enc P W' b sp hd f.resultTypes.toList (v.resultList f.resultTypes.size) (s.fn H (ds++gs)).results [])
  (hargs:∀ sp:Nat→Bool,DataW.TrodAll enc P W' 0 sp true f.params.toList args.toList (s.fn H (ds++gs)).args [])
  (hvars:∀ sp:Nat→Bool,DataW.TrodVars enc P W' sp s.vars (s.fn H (ds++gs)).vars [])
  (hk:W.keptBut W' (· ∈([]:List MemPlace)))
  (hok:∀ (j:Nat) (t:TypeId) (r:Value),f.resultTypes[j]? =some t→(v.resultList f.resultTypes.size)[j]? =some r→Value.okWide P W' .any 0 t r):
  s.post enc P f apart fresh handsOn again W args v W':=by
 refine⟨ds,gs,[],[],[],[],hW,hres _ _ _,hargs _,hvars _,World.keptBut_mono (fun p hp=>absurd hp List.not_mem_nil) hk,fun _=> ?_⟩;obtain⟨_,_,_,_,_,_,hn⟩:=hW;refine⟨hok,_,_,([]++[])++[],⟨[]++[],[],trodAll_append (hargs _) (hres _ _ _),hvars _,rfl,?_,?_⟩,?_⟩
 ·intro b off hp;exact absurd hp List.not_mem_nil
 ·intro ha;exact hn ha
 ·intro p hp _;exact absurd hp List.not_mem_nil
theorem Z3Z {P:Program}{w:World}:∀ {l:List (String×DataW Unit)}{ps:List MemPlace},DataW.LaidVars P w l ps→∀ {n:String}{d:DataW Unit},(n,d)∈l→∃ g t cs fuel p,P.globalNamed n=some g∧(P.globals[g]?).map (·.type)=some t∧w.var? P n=some cs∧DataW.trod (fun _=>()) P w 0 (fun _=>true) false fuel t cs.toList=some (d,p)
 | [],_,_,_,_,hm=>absurd hm List.not_mem_nil
 | (n',d')::r,ps,h,n,d,hm=>by
  obtain⟨g,t,cs,fuel,p,q,h1,h2,h3,h4,h5,_⟩:=h;rcases List.mem_cons.1 hm with e | e
  ·cases e;exact⟨g,t,cs,fuel,p,h1,h2,h3,h4⟩
  ·exact Z3Z h5 e
theorem ZsF {l:List (String×DataW Unit)}{W:World}(h:laidMet prog l W) {n:String}{d:DataW Unit}(hm:(n,d)∈l) (hn:prog.globalNamed n=some 2) (hd:d=Lib.tabData .u64 Lib.pow10Tab):knT W:=by
 obtain⟨ps,hl,_⟩:=h;obtain⟨g,t,cs,fuel,p,h1,h2,h3,h4⟩:=Z3Z hl hm;obtain rfl:=Option.some.inj (hn.symm.trans h1);have ht:(prog.globals[2]?).map (·.type)=some 255:=by kernel_rfl
 obtain rfl:=Option.some.inj (ht.symm.trans h2);rw[hd] at h4;have hc:=Lib.cells_of_tab underlying255 underlying22 (by kernel_rfl) (by kernel_rfl) h4;unfold World.var? at h3;rw[hn] at h3;simp only[Option.bind_some] at h3;split at h3
 ·rename_i c e z hb;cases h3;refine⟨e,z,?_⟩;rw[hb];congr 2;apply Array.toList_inj.1;rw[hc];rfl
 ·cases h3
end Go.Proofs.YtgefjidphfdhdaaGreatDoor
