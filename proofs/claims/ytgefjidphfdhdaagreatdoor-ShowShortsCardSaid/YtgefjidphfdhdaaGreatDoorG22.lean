/-
  SiL, ShZ, RowN
-/
import Derived.Test.YtgefjidphfdhdaaGreatDoorG21
import Derived.Lib.LaidTab
import Derived.ChangeSame
import Derived.RowKit
namespace Go.Proofs.YtgefjidphfdhdaaGreatDoor
open Go.Proofs.Tryz
open Go.IntKind
open Go.KRun Go.Nt Go.Wd Go.Rn Go.Rd Go.Pt
set_option maxRecDepth 100000
set_option linter.unusedVariables false
theorem fa2 {α:Type}{P:α→Prop}{a b:α}(h:P a) (h':P b):∀ q∈[a,b],P q:=fun q hq=>by
 rcases List.mem_cons.1 hq with rfl | hq
 ·exact h
 ·exact fa1 h' q hq
theorem fa5 {α:Type}{P:α→Prop}{a b c d e:α}(h:P a) (h':P b) (h2:P c) (h3:P d) (h4:P e):∀ q∈[a,b,c,d,e],P q:=fun q hq=>by
 rcases List.mem_cons.1 hq with rfl | hq
 ·exact h
 ·rcases List.mem_cons.1 hq with rfl | hq
  ·exact h'
  ·exact fa3 h2 h3 h4 q hq
def soR (p f E:Int) (S N:Nat) (e:Ex) (z:Lf):Prop:=
 if loK (sgn p) (mag p) S E f (N+1)=true then e=some none∧∃ t,z.1=[.int .u64 p,undef,bR (txL (sgn p) (Zba (N+1) (qD S E f (N+1))) f)]++t else if hiB (sgn p) (mag p) S E f (N+1)=true then e=some none∧∃ t,z.1=[.int .u64 p,undef,bR (hiX (sgn p) (N+1) (qD S E f (N+1)) f)]++t else e=none∧(∃ g,z.1=soN p (sgn p) f ((N+1+1:Nat):Int)++tl 104 g)∧z.2.1=xH (sgn p) E S
theorem ZsD {p f E:Int}{S N:Nat}(hp:U p) (hN:N≤16) (hfi:Zav S E f) (hf: -324≤f∧f≤400) (x0:S≠0) (x3:S<2^53) (x1: -1074≤E) (x2:E≤972) (g:Nat→Value) (s:List Dec):
  RunsW (Zk prog Zf z7 Zby) (soL f10) (soN p (sgn p) f ((N+1:Nat):Int)++tl 104 g,xH (sgn p) E S,s) (soR p f E S N):=by
 obtain⟨b1,b2⟩:=Zrz hfi (n:=N+1) (by omega);obtain⟨k,ek⟩:∃ k:Int,k=((N+1:Nat):Int)-1-f:=⟨_,rfl⟩;have eK:dgK ((N+1:Nat):Int) f=k:=by
  unfold dgK;rw[Zw (n:=((N+1:Nat):Int)-1) (by omega) (by omega),Zw (by omega) (by omega),ek]
 obtain⟨Q,hQ⟩:∃ Q,Q=paN S E k/pbN E k:=⟨_,rfl⟩;obtain⟨R,hR⟩:∃ R,R=paN S E k % pbN E k:=⟨_,rfl⟩;have eQ:qD S E f (N+1)=Q:=by rw[hQ,ek];rfl
 have eR:Zt1 S E f (N+1)=R:=by rw[hR,ek];rfl
 rw[eQ] at b1 b2;have hB:=zP E k;have hRB:R<pbN E k:=by rw[hR];exact Nat.mod_lt _ hB
 obtain⟨j,hj,hBj⟩:=ZyE (E:=E) (k:=k) x1 (by omega);have ehi:hiB (sgn p) (mag p) S E f (N+1)=decide (deP 0 (sgn p) (Q+1) (f-(((N+1:Nat):Int)-1))=mag p):=by unfold hiB;rw[eQ]
 have elo:loK (sgn p) (mag p) S E f (N+1)=(decide (deP 0 (sgn p) Q (f-(((N+1:Nat):Int)-1))=mag p) && (!decide (deP 0 (sgn p) (Q+1) (f-(((N+1:Nat):Int)-1))=mag p) || decide (2*R<pbN E k) || (decide (2*R=pbN E k) && decide (Q % 2=0)))):=by unfold loK loB;rw[ehi,eQ,eR,← ek]
 rw[ZoZ];refine RunsW.next (Zb Za9 (Z9R p f ((N+1:Nat):Int) (sgn p) (xH (sgn p) E S) g) (Z5 (Xa (by omega)))) fun g s=> ?_;refine RunsW.seq (P1:=soC p (sgn p) f ((N+1:Nat):Int) E S (txL (sgn p) (Zba (N+1) Q) f) (hiX (sgn p) (N+1) Q f) (loK (sgn p) (mag p) S E f (N+1)) (hiB (sgn p) (mag p) S E f (N+1))) ?_ ?_ ?_
 ·refine RunsW.block (P1:=soC p (sgn p) f ((N+1:Nat):Int) E S (txL (sgn p) (Zba (N+1) Q) f) (hiX (sgn p) (N+1) Q f) (loK (sgn p) (mag p) S E f (N+1)) (hiB (sgn p) (mag p) S E f (N+1))) ?_ (fun y hy=>hy) (fun y hy=>hy) (fun y hy=> ?_) (fun i y hi hy=>hy)
  ·have fin:∀ {ib V:Nat}{H:Hp}{a:Value}{g:Nat→Value},V=pbN E k→H.blk? ib=some (w16 V)→H.blk? 7=some (w16 Q)→H.blk? 8=some (w16 R)→H.blk? 0=some (w16 S)→H.blk? 1=some (bOf (sgn p) E (sOf 0 S))→[0,1,ib,7,8].Nodup→RunsW (Zk prog Zf z7 Zby) (ZW [soP f10 2,soP f10 3,soP f10 4,soP f10 5] (cK (soB f10) 6)) (soQ p (sgn p) f ((N+1:Nat):Int) a (s16 ib V) (s16 7 Q) (s16 8 R)++tl 100 g,H,[]) (soC p (sgn p) f ((N+1:Nat):Int) E S (txL (sgn p) (Zba (N+1) Q) f) (hiX (sgn p) (N+1) Q f) (loK (sgn p) (mag p) S E f (N+1)) (hiB (sgn p) (mag p) S E f (N+1))):=by
    intro ib V H a g hV hb h7 h8 h0 h1 hd;rw[elo,ehi];rw[← hV] at hB hRB hBj ⊢;refine RunsW.preP (s':=[]) [some (.int .u64 p),some undef,some (bR []),some (.bool (sgn p)),some (.pointer (some ⟨1,0,none⟩)),some (.int .i64 f),some (.int .i64 ((N+1:Nat):Int)),none,some (s16 2 V),some (s16 3 Q),some (s16 4 R)] [0,1,ib,7,8] [w16 S,bOf (sgn p) E (sOf 0 S),w16 V,w16 Q,w16 R] (fun j g'=> ?_) rfl (Nat.succ_pos 4) ⟨rfl,Zj7 _,rfl,rfl,rfl,rfl,rfl,rfl,rfl,rfl,trivial⟩ (fa5 (Ze1 h0) ⟨rfl,h1⟩ (Ze1 hb) (Ze1 h7) (Ze1 h8)) hd (by rfl);exact Z3W (E:=E) (S:=S) (g:=g') hp hN hf b1 b2 hB hRB hj hBj
   have q2:E<0→i64.wrap (0-E)= -E:=fun h=>by rw[Zw (by omega) (by omega)];omega
   have q1:k<0→i64.wrap (0-k)= -k:=fun h=>by rw[Zw (by omega) (by omega)];omega
   have hk1: -1500≤k∧k≤1500:=⟨by omega,by omega⟩;by_cases hE:0≤E
   ·by_cases hk:0≤k
    ·obtain⟨A,hA⟩:∃ A,A=S*2^E.toNat:=⟨_,rfl⟩;obtain⟨B,hB'⟩:∃ B,B=10^k.toNat:=⟨_,rfl⟩;obtain⟨V,hV⟩:∃ V,V=A*B:=⟨_,rfl⟩;obtain⟨_,ea,eb⟩:=Z3o (b:=sgn p) hA hB' hV rfl rfl x0 x3 ⟨x1,x2⟩ hk1 hE hk;have ok:=Z3o (b:=sgn p) hA hB' hV (show Q=V/1 by rw[ea,eb,hQ]) (show R=V % 1 by rw[ea,eb,hR]) x0 x3 ⟨x1,x2⟩ hk1 hE hk;have hG:=Z8h p ((N+1:Nat):Int) E f (sgn p) S A B V Q R g;rw[eK] at hG;exact Zv Za9 hG ok.1 fun g=>fin eb rfl rfl rfl rfl rfl (by decide)
    ·have hk:k<0:=by omega
     obtain⟨A,hA⟩:∃ A,A=S*2^E.toNat:=⟨_,rfl⟩;obtain⟨B,hB'⟩:∃ B,B=10^(-k).toNat:=⟨_,rfl⟩;obtain⟨V,hV⟩:∃ V,V=1*B:=⟨_,rfl⟩;obtain⟨_,ea,eb⟩:=Z3p (b:=sgn p) hA hB' hV rfl rfl x0 x3 ⟨x1,x2⟩ hk1 hE hk;have ok:=Z3p (b:=sgn p) hA hB' hV (show Q=A/V by rw[ea,eb,hQ]) (show R=A % V by rw[ea,eb,hR]) x0 x3 ⟨x1,x2⟩ hk1 hE hk;have hG:=Z8i p ((N+1:Nat):Int) E f (sgn p) S A B V Q R g;rw[eK,q1 hk] at hG;exact Zv Za9 hG ok.1 fun g=>fin eb rfl rfl rfl rfl rfl (by decide)
   ·have hE:E<0:=by omega
    by_cases hk:0≤k
    ·obtain⟨A,hA⟩:∃ A,A=1*2^(-E).toNat:=⟨_,rfl⟩;obtain⟨B,hB'⟩:∃ B,B=10^k.toNat:=⟨_,rfl⟩;obtain⟨V,hV⟩:∃ V,V=S*B:=⟨_,rfl⟩;obtain⟨_,ea,eb⟩:=Z3q (b:=sgn p) hA hB' hV rfl rfl x0 x3 ⟨x1,x2⟩ hk1 hE hk;have ok:=Z3q (b:=sgn p) hA hB' hV (show Q=V/A by rw[ea,eb,hQ]) (show R=V % A by rw[ea,eb,hR]) x0 x3 ⟨x1,x2⟩ hk1 hE hk;have hG:=Z8j p ((N+1:Nat):Int) E f (sgn p) S A B V Q R g;rw[eK,q2 hE] at hG;exact Zv Za9 hG ok.1 fun g=>fin eb rfl rfl rfl rfl rfl (by decide)
    ·have hk:k<0:=by omega
     obtain⟨A,hA⟩:∃ A,A=1*2^(-E).toNat:=⟨_,rfl⟩;obtain⟨B,hB'⟩:∃ B,B=10^(-k).toNat:=⟨_,rfl⟩;obtain⟨V,hV⟩:∃ V,V=A*B:=⟨_,rfl⟩;obtain⟨_,ea,eb⟩:=Z3r (b:=sgn p) hA hB' hV rfl rfl x0 x3 ⟨x1,x2⟩ hk1 hE hk;have ok:=Z3r (b:=sgn p) hA hB' hV (show Q=S/V by rw[ea,eb,hQ]) (show R=S % V by rw[ea,eb,hR]) x0 x3 ⟨x1,x2⟩ hk1 hE hk;have hG:=Z8k p ((N+1:Nat):Int) E f (sgn p) S A B V Q R g;rw[eK,q1 hk,q2 hE] at hG;exact Zv Za9 hG ok.1 fun g=>fin eb rfl rfl rfl rfl rfl (by decide)
  ·unfold soC at hy;split at hy
   ·cases hy.1
   ·split at hy<;>cases hy.1
 ·intro y hy;unfold soC at hy;split at hy
  ·cases hy.1
  ·rename_i c1;split at hy
   ·cases hy.1
   ·rename_i c2;obtain⟨_,⟨g,z1⟩,z2,z3⟩:=hy;obtain⟨t,h',sc⟩:=y;simp only at z1 z2 z3;subst z1;refine RunsW.preP (s':=[]) [some (.int .u64 p),some undef,some (bR []),some (.bool (sgn p)),some (.pointer (some ⟨1,0,none⟩)),some (.int .i64 f),some (.int .i64 ((N+1:Nat):Int))] [0,1] [w16 S,bOf (sgn p) E (sOf 0 S)] (fun j g'=> ?_) rfl (Nat.succ_pos 1) ⟨rfl,Zj7 _,rfl,rfl,rfl,rfl,rfl,trivial⟩ (fa2 (Ze1 z2) ⟨rfl,z3⟩) (by decide) (by rfl);have hG:=Z9T p f ((N+1:Nat):Int) (sgn p) (xH (sgn p) E S) g';rw[Zw (n:=((N+1:Nat):Int)+1) (by omega) (by omega),show ((N+1:Nat):Int)+1=((N+1+1:Nat):Int) by omega] at hG;refine (Zb Za9 hG (fun x hx=>by cases hx)).mono fun e z hz=> ?_;unfold soR;rw[if_neg c1,if_neg c2];exact hz
 ·intro e y hy;unfold soC at hy;unfold soR;rw[eQ];split at hy
  ·rename_i c1;rw[if_pos c1];exact hy
  ·rename_i c1;rw[if_neg c1];split at hy
   ·rename_i c2;rw[if_pos c2];exact hy
   ·cases hy.1
theorem Z3X (p:Int) (hp:U p) (h2:cl p≤2) (h0:cl p≠0) (w:World):Calls prog 10 #[.int .u64 p] w fun e w'=>e= .returned (bR (shT p))∧Za0 w w':=by
 have hs:spK p=0:=ZtN h2;have hF:=ZfX (ZtO h2 h0);obtain⟨hfi,f1,f2⟩:=ZgM hF;obtain⟨f,ef⟩:∃ f,f=frP p:=⟨_,rfl⟩;obtain⟨S,eS⟩:∃ S,S=(sg p).toNat:=⟨_,rfl⟩;obtain⟨E,eE⟩:∃ E,E=xp p:=⟨_,rfl⟩;have x0:=hF.ne;have x1:=hF.e0;have x2:=hF.e1;have x3:=hF.s1;have efr:frS S E=f:=by rw[ef,eS,eE];rfl
 rw[← eS] at x0 x3;rw[← eE] at x1 x2;rw[← eS,← eE,← ef] at hfi;rw[← ef] at f1 f2;have ev:shT p=shK (sgn p) (mag p) S E f 17 1:=by
  unfold shT;rw[if_neg (fun c=>c hs),if_neg h0];unfold shS;rw[← eS,← eE,efr];rfl
 refine Ze4 (T:=(Zk prog Zf z7 Zby)) func10 Zy7 (vals:=[.int .u64 p]) (by rfl) (by rfl) ?_ w;have ht:p.tmod 9223372036854775808≠0:=by
  intro c;have hp':=hp;unfold U at hp';rw[Int.tmod_eq_emod_of_nonneg hp'.1] at c;refine h0 ?_;unfold cl ex fr;rw[if_pos (by omega),if_pos (by omega)]
 refine Zv Za9 (Z9O p (sgn p)) (Za rfl (Za (Xa hp) (Za (ZR ht) (Za (by decide) (Za rfl (Za (Xa hs) (Z5 (Xa hp)))))))) fun g=> ?_;rw[← eS,← eE];have lS:(d16 S).length<100000:=zk (i:=53) x3 (by omega);have hG:=Z9P p E (sgn p) S g;rw[efr] at hG;refine Zv Za9 hG (Z5 ?_) fun g=> ?_
 ·have r:=RowV.at (h:=xH (sgn p) E S) (b:=0) (V:=S) rfl lS;unfold Z4w;rw[r.1,Xa r.2.1,Xa ⟨by omega,x3,x1,x2⟩];rfl
 refine RunsW.seq (P1:=fun e z=>(e=none∧shT p=[]∧∃ n g h s,z=(soN p (sgn p) f n++tl 104 g,h,s))∨(e=some none∧∃ t,z.1=[.int .u64 p,undef,bR (shT p)]++t)) ?_ ?_ ?_
 ·refine RunsW.next (Zb Za9 (Z9Q p f (sgn p) (xH (sgn p) E S) g) (fun x hx=>by cases hx)) fun g s=> ?_;refine (RunsW.forLoop (P:=fun z=>shT p=[]∧∃ n g h s,z=(soN p (sgn p) f n++tl 104 g,h,s)) (R:=fun z=>∃ t,z.1=[.int .u64 p,undef,bR (shT p)]++t) (fun r y=>∃ N:Nat,r+N=17∧shK (sgn p) (mag p) S E f r (N+1)=shT p∧(∃ g,y.1=soN p (sgn p) f ((N+1:Nat):Int)++tl 104 g)∧y.2.1=xH (sgn p) E S) ?_ (n:=17) ⟨0,rfl,ev.symm,⟨g,rfl⟩,rfl⟩).mono fun e z hz=> ?_
  ·rintro r ⟨t,h',sc⟩ ⟨N,hr,hk,⟨g,ht⟩,hh⟩;simp only at ht hh;subst ht hh;cases r with
   | zero=>
    have eN:N=17:=by omega
    rw[ZoZ];refine RunsW.seq (Zb Za9 (Z9S p f ((N+1:Nat):Int) (sgn p) (xH (sgn p) E S) g) (Z5 (Xb (by omega)))) (fun y hy=>by cases hy.1) fun e y hy=> ?_;obtain⟨e1,⟨g',z1⟩,z2⟩:=hy;cases e1;obtain⟨yt,yh,ys⟩:=y;simp only at z1;exact⟨rfl,hk.symm,_,g',yh,ys,by rw[z1]⟩
   | succ r=>
    refine (ZsD hp (by omega) hfi ⟨f1,f2⟩ x0 x3 x1 x2 g sc).mono fun e z hz=> ?_;unfold soR at hz;unfold shK at hk;split at hz
    ·rename_i c1;rw[if_pos c1] at hk;obtain⟨rfl,t,ht⟩:=hz;rw[hk] at ht;exact⟨t,ht⟩
    ·rename_i c1;rw[if_neg c1] at hk;split at hz
     ·rename_i c2;rw[if_pos c2] at hk;obtain⟨rfl,t,ht⟩:=hz;rw[hk] at ht;exact⟨t,ht⟩
     ·rename_i c2;rw[if_neg c2] at hk;obtain⟨rfl,hg,hh⟩:=hz;exact⟨r,by omega,N+1,by omega,hk,hg,hh⟩
  ·match e,hz with
   | none,hz=>exact .inl ⟨rfl,hz⟩
   | some none,hz=>exact .inr ⟨rfl,hz⟩
   | some (some _),hz=>exact hz.elim
 ·rintro y (⟨_,hn,n,g,h,s,rfl⟩ | ⟨he,_⟩)
  ·refine (Zb Za9 (Z9U p f n (sgn p) h g) (fun x hx=>by cases hx)).mono fun e z hz=> ?_;obtain⟨rfl,⟨g',z1⟩,z2⟩:=hz;refine⟨.inr rfl,?_⟩;rw[z1,hn];rfl
  ·cases he
 ·rintro e y (⟨he,_⟩ | ⟨he,t,ht⟩)
  ·cases he
  ·cases he;refine⟨.inr rfl,?_⟩;rw[ht];rfl
theorem Z9V (p k:Int):ZD (Zr (Zq prog Zf Zs3 true) 300 10 [.int .u64 p] [num k,sam true,num k]) (bR (spL k)) [(decide (spK p=k),true),(decide (U p),true),(!(Zpf (spL k) [] true).1,true),(decide (spK p=k),true),(decide (U p),true)]:=by and_intros<;>kernel_rfl
theorem Z9W (p:Int) (b:Bool):ZD (Zr (Zq prog Zf Zs3 true) 300 10 [.int .u64 p] [num 0,cmp b,cmp false,cmp true]) (bR (txL b [48] 0)) [(true,true),(p.tmod 9223372036854775808==0,true),(decide ((9223372036854775808:Int)=0),false),(decide (p≥9223372036854775808),b),(decide (spK p=0),true),(decide (U p),true)]:=by and_intros<;>kernel_rfl
theorem Zif (p:Int) (hp:U p) (w:World):Calls prog 10 #[.int .u64 p] w fun e w'=>e= .returned (bR (shT p))∧Za0 w w':=by
 have hu:decide (U p)=true:=Xa hp;by_cases hs:spK p=0
 ·by_cases h0:cl p=0
  ·have hz:p.tmod 9223372036854775808=0:=by
    have x:ex p=0∧fr p=0:=by
     unfold cl at h0;split at h0
     ·rename_i a;split at h0
      ·rename_i b;exact⟨a,b⟩
      ·omega
     ·split at h0
      ·split at h0
       ·omega
       ·split at h0<;>omega
      ·omega
    have hp':=hp;unfold U at hp';rw[Int.tmod_eq_emod_of_nonneg hp'.1];unfold ex fr at x;omega
   unfold shT;rw[if_neg (fun c=>c hs),if_pos h0];exact Ze (Zp ZfY) (Z9W p (sgn p)) (Za rfl (Za (za hz) (Za (by decide) (Za rfl (Za (Xa hs) (Z5 hu)))))) (by rfl) (by rfl) w
  ·refine Z3X p hp ?_ h0 w;rcases Int.lt_or_le 2 (cl p) with c | c
   ·exact absurd hs (Z3l hp (by omega)).1
   ·exact c
 ·unfold shT;rw[if_pos hs];exact Ze (Zp ZfY) (Z9V p (spK p)) (Za (Xa rfl) (Za hu (Za (Z3m (Zy0 p hs)) (Za (Xa rfl) (Z5 hu))))) (by rfl) (by rfl) w
end Go.Proofs.YtgefjidphfdhdaaGreatDoor
namespace Go.Proofs.YtgefjidphfdhdaaGreatDoor
open Go.Proofs.Tryz
open Go.KRun Go.Nt Go.Rd Go.Pt
set_option maxRecDepth 100000
def Z3Y:Con:=alt 10 (gU fun p=>bR (shT p)) Zo
theorem ZsE:ConOk Z3Y:=ZM func10 rfl (ZnJ Zif) Zd
theorem Z8n (p:Int):ZD (zg (Zk prog Zf Z3Y Z83) hT0 200 3 [.int .u64 p] [sam true]) (.bool true) [Zpf (shT p) (shT p) true,(decide (U p),true),(decide (U p),true)]:=by and_intros<;>kernel_rfl
theorem ZkB (p:Int) (hp:0≤p∧p<18446744073709551616) (w:World) (hk:knT w):Calls prog 3 #[.int .u64 p] w fun e w'=>e= .returned (.bool true)∧Za0 w w':=
 have hu:decide (U p)=true:=Xa hp
 ZfP (Zh ZsE Zyz) (Z8n p) (Za (Zdj (Xa rfl)) (Za hu (Z5 hu))) (by rfl) (by rfl) hk
end Go.Proofs.YtgefjidphfdhdaaGreatDoor
namespace Go.Proofs.YtgefjidphfdhdaaGreatDoor
open Go.Proofs.Tryz
open Go.KRun Go.RowKit Go.ChangeShapes
set_option maxRecDepth 100000
theorem Zpc {H:Type}{enc:TypeId×Value→H}{P:Program}{f:Func}{s:ChangeSpec}{apart fresh handsOn again:Bool}{W W':World}{args:Array Value}{v:Value}{ds gs:List (DataW H)}
  (hW:DataW.Whole enc P f.params.toList s.vars apart W args.toList ds gs [])
  (hres:∀ (b:Nat) (sp:Nat→Bool) (hd:Bool),DataW.TrodAll enc P W' b sp hd f.resultTypes.toList (v.resultList f.resultTypes.size) (s.fn H (ds++gs)).results [])
  (hargs:∀ sp:Nat→Bool,DataW.TrodAll enc P W' 0 sp true f.params.toList args.toList (s.fn H (ds++gs)).args [])
  (hvars:∀ sp:Nat→Bool,DataW.TrodVars enc P W' sp s.vars (s.fn H (ds++gs)).vars [])
  (hk:W.keptBut W' (· ∈([]:List MemPlace)))
  (hok:∀ (j:Nat) (t:TypeId) (r:Value),f.resultTypes[j]? =some t→(v.resultList f.resultTypes.size)[j]? =some r→Value.okWide P W' .any 0 t r):
  s.post enc P f apart fresh handsOn again W args v W':=by
 refine⟨ds,gs,[],[],[],[],hW,hres _ _ _,hargs _,hvars _,World.keptBut_mono (fun p hp=>absurd hp List.not_mem_nil) hk,fun _=> ?_⟩;obtain⟨_,_,_,_,_,_,hn⟩:=hW;refine⟨hok,_,_,([]++[])++[],⟨[]++[],[],trodAll_append (hargs _) (hres _ _ _),hvars _,rfl,?_,?_⟩,?_⟩
 ·intro b off hp;exact absurd hp List.not_mem_nil
 ·intro ha;exact hn ha
 ·intro p hp _;exact absurd hp List.not_mem_nil
theorem Z3Z {P:Program}{w:World}:∀ {l:List (String×DataW Unit)}{ps:List MemPlace},DataW.LaidVars P w l ps→∀ {n:String}{d:DataW Unit},(n,d)∈l→∃ g t cs fuel p,P.globalNamed n=some g∧(P.globals[g]?).map (·.type)=some t∧w.var? P n=some cs∧DataW.trod (fun _=>()) P w 0 (fun _=>true) false fuel t cs.toList=some (d,p)
 | [],_,_,_,_,hm=>absurd hm List.not_mem_nil
 | (n',d')::r,ps,h,n,d,hm=>by
  obtain⟨g,t,cs,fuel,p,q,h1,h2,h3,h4,h5,_⟩:=h;rcases List.mem_cons.1 hm with e | e
  ·cases e;exact⟨g,t,cs,fuel,p,h1,h2,h3,h4⟩
  ·exact Z3Z h5 e
theorem ZsF {l:List (String×DataW Unit)}{W:World}(h:laidMet prog l W) {n:String}{d:DataW Unit}(hm:(n,d)∈l) (hn:prog.globalNamed n=some 2) (hd:d=Lib.tabData .u64 Lib.pow10Tab):knT W:=by
 obtain⟨ps,hl,_⟩:=h;obtain⟨g,t,cs,fuel,p,h1,h2,h3,h4⟩:=Z3Z hl hm;obtain rfl:=Option.some.inj (hn.symm.trans h1);have ht:(prog.globals[2]?).map (·.type)=some 255:=by kernel_rfl
 obtain rfl:=Option.some.inj (ht.symm.trans h2);rw[hd] at h4;have hc:=Lib.cells_of_tab underlying255 underlying22 (by kernel_rfl) (by kernel_rfl) h4;unfold World.var? at h3;rw[hn] at h3;simp only[Option.bind_some] at h3;split at h3
 ·rename_i c e z hb;cases h3;refine⟨e,z,?_⟩;rw[hb];congr 2;apply Array.toList_inj.1;rw[hc];rfl
 ·cases h3
end Go.Proofs.YtgefjidphfdhdaaGreatDoor
