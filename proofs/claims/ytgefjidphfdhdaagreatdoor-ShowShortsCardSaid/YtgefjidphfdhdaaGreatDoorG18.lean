/-
  TxO, ConVB, ToS, ShA, ConVC, ConVD, ConVE
-/
import Derived.Test.YtgefjidphfdhdaaGreatDoorG17
namespace Go.Proofs.YtgefjidphfdhdaaGreatDoor
open Go.Proofs.Tryz
open Go.IntKind
open Go.KRun Go.Nt
set_option maxRecDepth 100000
theorem Z5g {r x:Int}(hr:0≤r∧r<10) (hx:0≤x∧x<65536):Zqy r x=(65536*r+x)/10∧Zzl r x=(65536*r+x) % 10∧0≤Zqy r x∧Zqy r x<65536:=by
 have eT:Z7u r x=65536*r+x:=by
  unfold Z7u;simp [IntKind.wrap,IntKind.bits,IntKind.signed];omega
 have q2:Zqy r x=(65536*r+x)/10:=by
  unfold Zqy;rw[eT,Int.tdiv_eq_ediv_of_nonneg (by omega)];simp [IntKind.wrap,IntKind.bits,IntKind.signed];omega
 have q3:Zzl r x=(65536*r+x) % 10:=by
  unfold Zzl;rw[eT,Int.tmod_eq_emod_of_nonneg (by omega)]
 rw[q2,q3];exact⟨rfl,rfl,by omega,by omega⟩
def a8 (x:Int):UInt8:=UInt8.ofNat (asc x).toNat
theorem Zzm:∀ k:Fin 10,(Zqz.drop k.val).take 1=[UInt8.ofNat (48+k.val)]:=by decide
theorem Zzn {r:Int}(hr:0≤r∧r<10) (l:List UInt8):Z5e r l=a8 r::l∧((Zqz.drop r.toNat).take ((u32.wrap (r+1)).toNat-r.toNat)).length=1∧u32.wrap (r+1)=r+1:=by
 have ew:u32.wrap (r+1)=r+1:=by
  simp [IntKind.wrap,IntKind.bits,IntKind.signed];omega
 have e1:(u32.wrap (r+1)).toNat-r.toNat=1:=by rw[ew];omega
 have h:=Zzm ⟨r.toNat,by omega⟩;simp only at h;unfold Z5e;rw[e1,h];refine⟨?_,rfl,ew⟩;unfold a8 asc;rw[show (48+r).toNat=48+r.toNat by omega];rfl
theorem ZC9 {L:List Int}(h:∀ x∈L,Dg 65536 x):∀ x∈L,0≤x∧x<4294967296:=fun x hx=>⟨(h x hx).1,by have:=(h x hx).2;omega⟩
theorem Z5h {X:List (List Value×TypeId)}(hX:X.length=1∨X.length=2) (a:Value) (l:List UInt8) (i:Value) {L:List Int}(hL:∀ x∈L,Dg 65536 x) (hN:L.length<1073741824) (hl:l.length<9223372036854775000) (g:Nat→Value) (sc:List Dec):
  RunsW (Zk prog Zf Zn ZdZ) (.seq (.seq (e8 f32) (.block 2 (.loop (eI f32)))) (eZ f32)) (eF a (bS l) (.slice (some ⟨X.length,0,none⟩) L.length grown) (uu 0) i++tl 39 g,hQd X (wU L),sc) fun e z=>e=none∧∃ Q:List Int,Q.length=L.length∧(∀ x∈Q,Dg 65536 x)∧vb 65536 Q=vb 65536 L/10∧z.2.1=hQd X (wU Q)∧∃ (j:Int) (g:Nat→Value),z.1=eF (sl X.length 0 (Zi Q) (Zi Q)) (bS (a8 ((vb 65536 L % 10:Nat):Int)::l)) (.slice (some ⟨X.length,0,none⟩) L.length grown) (uu ((vb 65536 L % 10:Nat):Int)) (.int .i64 j)++tl 39 g:=by
 refine RunsW.seq (P1:=fun e z=>e=none∧∃ Q:List Int,Q.length=L.length∧(∀ x∈Q,Dg 65536 x)∧vb 65536 Q=vb 65536 L/10∧z.2.1=hQd X (wU Q)∧∃ (j:Int) (g:Nat→Value),z.1=eF a (bS l) (.slice (some ⟨X.length,0,none⟩) L.length grown) (uu ((vb 65536 L % 10:Nat):Int)) (.int .i64 j)++tl 39 g) ?_ ?_ (fun e y he=>by cases he.1)
 ·refine RunsW.seq (Zb (s0:=sc) ZdK (ZC7 a (bS l) (uu 0) i X.length L.length _ g) ZuN) ?_ (fun e y he=>by cases he.1);rintro⟨t,hh,s⟩ ⟨_,⟨g',e1⟩,e2⟩;have ew:i64.wrap ((L.length:Int)-1)=(L.length:Int)-1:=Zw (by omega) (by omega);rw[ew] at e1;refine (RunsW.forLoop (R:=fun _=>False) (P:=fun z=>∃ Q:List Int,Q.length=L.length∧(∀ x∈Q,Dg 65536 x)∧vb 65536 Q=vb 65536 L/10∧z.2.1=hQd X (wU Q)∧∃ (j:Int) (g:Nat→Value),z.1=eF a (bS l) (.slice (some ⟨X.length,0,none⟩) L.length grown) (uu ((vb 65536 L % 10:Nat):Int)) (.int .i64 j)++tl 39 g)
   (fun m y=>∃ (A Q H:List Int) (r:Nat) (g:Nat→Value),y.1=eF a (bS l) (.slice (some ⟨X.length,0,none⟩) L.length grown) (uu (r:Nat)) (.int .i64 ((A.length:Int)-1))++tl 39 g∧y.2.1=hQd X (wU (A++Q))∧L=A++H∧H.length=Q.length∧(∀ x∈Q,Dg 65536 x)∧r<10∧vb 65536 H=vb 65536 Q*10+r∧m=A.length)
   ?_ (n:=L.length) ⟨L,[],[],0,g',e1,by rw[List.append_nil];exact e2,by simp,rfl,(fun x hx=>by cases hx),by omega,rfl,rfl⟩).mono fun e z hz=> ?_
  ·rintro m ⟨t,h',s'⟩ ⟨A,Q,H,r,g,ht,hh,hLA,hHQ,wQ,hr,hv,hm⟩;simp only at ht hh;subst ht hh;rcases List.eq_nil_or_concat A with rfl | ⟨A',x,rfl⟩
   ·refine (Zb (s0:=s') ZdK (ZC8 a (bS l) _ X.length L.length _ _ g) (Z4 (Xb (by simp)))).mono fun e z he=> ?_;obtain⟨rfl,⟨g',z1⟩,z2⟩:=he;have eH:L=H:=by simpa using hLA
    rw[← eH] at hv hHQ;refine⟨rfl,Q,hHQ.symm,wQ,by omega,z2,((([]:List Int).length:Nat):Int)-1,g',?_⟩;rw[show vb 65536 L % 10=r by omega];exact z1
   ·rw[List.concat_eq_append] at*;have hlen:L.length=A'.length+1+H.length:=by rw[hLA];simp;omega
    have hx:=hL x (by rw[hLA];simp);have hx':0≤x∧x<65536:=⟨hx.1,by have:=hx.2;omega⟩;obtain⟨n1,n2,n3,n4⟩:=Z5g (r:=((r:Nat):Int)) ⟨by omega,by omega⟩ hx';have ei:(((A'++[x]).length:Nat):Int)-1=(A'.length:Nat):=by simp
    have eS:wU (A'++[x]++Q)=wU (A'++x::Q):=by simp
    have cS:(wU (A'++x::Q))[0+A'.length]? =some (uu x):=by
     rw[Nat.zero_add];exact Zmx A' x Q
    have l1:decide (0+((A'.length:Nat):Int).toNat*1<(wU (A'++x::Q)).length)=true:=Xa (by unfold wU;simp);have l2:(inR (A'.length:Nat) L.length).1=(inR (A'.length:Nat) L.length).2:=Xa (by omega);have l3:(Zcr (wU (A'++x::Q)) 0 (A'.length:Nat) x).1=(Zcr (wU (A'++x::Q)) 0 (A'.length:Nat) x).2:=Zav cS;rw[ei,eS];refine (Zb (s0:=s') ZdK (ZAz hX a (bS l) L.length (r:Nat) (A'.length:Nat) x (wU (A'++x::Q)) g) (Za l1 (Za l2 (Za l3 (Za l2 (Z4 (Xa (by omega)))))))).mono fun e z he=> ?_;obtain⟨rfl,⟨g',z1⟩,z2⟩:=he;obtain⟨r',hr'⟩:=Int.eq_ofNat_of_zero_le (show 0≤Zzl (r:Nat) x by rw[n2];omega);rw[hr'] at z1 n2;refine⟨A'.length,by rw[hm];simp,A',Zqy (r:Nat) x::Q,x::H,r',g',?_,?_,by rw[hLA];simp,by simp [hHQ],?_,by omega,?_,rfl⟩
    ·rw[z1,Zw (by omega) (by omega)]
    ·rw[z2,Xg,Nat.mul_one,Nat.zero_add,ZgU];simp
    ·intro y hy;rcases List.mem_cons.1 hy with rfl | hy
     ·exact⟨n3,by omega⟩
     ·exact wQ y hy
    ·show x.toNat+65536*vb 65536 H=((Zqy (r:Nat) x).toNat+65536*vb 65536 Q)*10+r';rw[hv];omega
  ·match e,hz with
   | none,hz=>exact⟨rfl,hz⟩
 ·rintro⟨t,hh,s⟩ ⟨_,Q,q1,q2,q3,q4,j,g',q5⟩;simp only at q4 q5;subst q4 q5;obtain⟨c1,c2,c3⟩:=Zzn (r:=((vb 65536 L % 10:Nat):Int)) ⟨by omega,by omega⟩ l;have ec:Zz (wU Q) 0 L.length=Q:=by rw[Ziv,← q1,List.take_length]
  have lc:ZaW tU (wU Q) 0 L.length grown=true:=by
   rw[← q1];exact Zap (ZC9 q2) (by omega) (by rfl)
  have hG:Zg (evC (Zk prog Zf Zn ZdZ) 100 false (eZ f32) (eF a (bS l) (.slice (some ⟨X.length,0,none⟩) L.length grown) (uu ((vb 65536 L % 10:Nat):Int)) (.int .i64 j)++tl 39 g',hQd X (wU Q),[sam true,sam true]) ⟨[],[],[]⟩) 7 39 none (eF (sl X.length 0 (Zi (Zz (wU Q) 0 L.length)) (Zi (Zz (wU Q) 0 L.length))) (bS (Z5e ((vb 65536 L % 10:Nat):Int) l)) (.slice (some ⟨X.length,0,none⟩) L.length grown) (uu ((vb 65536 L % 10:Nat):Int)) (.int .i64 j)) (hQd X (wU Q)) [(ZaW tU (wU Q) 0 L.length grown,true),(decide (((Zqz.drop (((vb 65536 L % 10:Nat):Int)).toNat).take ((u32.wrap (((vb 65536 L % 10:Nat):Int)+1)).toNat-(((vb 65536 L % 10:Nat):Int)).toNat)).length+l.length≤9223372036854775807),true),(decide (0≤((vb 65536 L % 10:Nat):Int)∧((vb 65536 L % 10:Nat):Int)≤u32.wrap (((vb 65536 L % 10:Nat):Int)+1)∧u32.wrap (((vb 65536 L % 10:Nat):Int)+1)≤((Zqz.length:Nat):Int)),true)]:=by
   match X,hX with
   | [x1],_=>exact ZA0 a _ l L.length _ x1 (wU Q) g'
   | [x1,x2],_=>exact ZA1 a _ l L.length _ x1 x2 (wU Q) g'
  rw[c1,ec] at hG;refine (Zb (s0:=s) ZdK hG (Za lc (Za (Xa (by rw[c2];omega)) (Z4 (Xa ⟨by omega,by rw[c3];omega,by rw[c3,show Zqz.length=10 from rfl];omega⟩))))).mono fun e z he=> ?_;obtain⟨rfl,⟨g2,z1⟩,z2⟩:=he;exact⟨rfl,Q,q1,q2,q3,z2,j,g2,z1⟩
def rdI (V0 V:Nat) (l:List UInt8):Prop:=((db 10 V).reverse.map a8)++l=Zac V0
theorem Zkh {V0 V:Nat}{l:List UInt8}(hV:0<V) (h:rdI V0 V l):rdI V0 (V/10) (a8 ((V % 10:Nat):Int)::l):=by
 unfold rdI at*;rw[Zbb (by omega) (by omega),List.reverse_cons,List.map_append,List.append_assoc] at h;exact h
theorem Zzo {V0 V:Nat}{l:List UInt8}(h:rdI V0 V l):l.length≤(Zac V0).length:=by
 unfold rdI at h;rw[← h,List.length_append];omega
theorem Ztz {V n:Nat}(h:V<65536^n) (hn:0<n):(Zac V).length≤5*n:=by
 unfold Zac ZuS;by_cases h0:V=0
 ·rw[if_pos h0];simp;omega
 ·rw[if_neg h0,List.length_map,List.length_reverse];refine Zb6 (by omega) _ V (Nat.lt_of_lt_of_le h ?_);rw[Nat.pow_mul];exact Nat.pow_le_pow_left (by decide) n
def rdO (V0:Nat) (z:Lf):Prop:=∃ (a q r i:Value) (g:Nat→Value),z.1=eF a (bS (Zac V0)) q r i++tl 39 g
def Z1i (la:List Value) (V0:Nat) (m:Nat) (z:Lf):Prop:=∃ (Q:List Int) (l:List UInt8) (k j:Nat) (r i:Int) (g:Nat→Value),z.1=eF (sl 1 0 (Zi Q) (Zi Q)) (bS l) (.slice (some ⟨1,0,none⟩) k grown) (uu r) (.int .i64 i)++tl 39 g∧z.2.1=⟨2,[(wU Q,tU),(la,tR)]⟩∧(∀ x∈Q,Dg 65536 x)∧Q.length<1073741824∧rdI V0 (vb 65536 Q) l∧m=vb 65536 Q∧j=0
theorem ZpD {L:List Int}{n:Nat}(h0:0<n) (hn:n≤L.length) (hb:n<1073741824):Zd5 (wU L,tU) 0 n=true:=by
 unfold Zd5;rw[show Zae tU=false from by kernel_rfl,Nat.ble_eq_true_of_le (show 0+n≤(wU L).length by unfold wU;simp;omega),Zl.2 h0,Nat.ble_eq_true_of_le (by omega)];have:(((wU L).drop 0).take n).all one=true:=by
  rw[List.drop_zero,List.all_eq_true];exact fun v hv=>List.all_eq_true.1 (Zha L) v (List.mem_of_mem_take hv)
 rw[this];rfl
theorem Zt0 {la:List Value}(hla:la.all still=true) {V0:Nat}(hV0:(Zac V0).length<9223372036854775000) (m:Nat) (z:Lf) (h:Z1i la V0 m z):
  RunsW (Zk prog Zf Zn ZdZ) (.seq (eA f32) (.block 1 (ZZ (eQ f32) (.seq (.seq (e8 f32) (.block 2 (.loop (eI f32)))) (eZ f32))))) z fun e y=>match e with | none=>∃ m',m'<m∧Z1i la V0 m' y | some none=>False | some (some id')=>id'=0∧rdO V0 y:=by
 obtain⟨Q,l,k,j,r,i,g,ht,hh,hDQ,hQl,hI,hm,hj⟩:=h;obtain⟨t,h',sc⟩:=z;simp only at ht hh;subst ht hh;have htr:=Zan (b:=65536) (by omega) hDQ;have hle:=z7 Q;have hpos:0<Zi Q↔0<vb 65536 Q:=by
  rw[htr,List.length_pos_iff,ne_eq,Zcu (by omega)];omega
 by_cases h0:0<Zi Q
 ·have hV:=hpos.1 h0;have hll:=Zzo hI;refine RunsW.seq (P1:=fun e y=>e=none∧(∃ g,y.1=eF (sl 1 0 (Zi Q) (Zi Q)) (bS l) (.slice (some ⟨1,0,none⟩) k grown) (uu r) (.int .i64 i)++tl 39 g)∧y.2.1=⟨2,[(wU Q,tU),(la,tR)]⟩) (Zb (s0:=sc) ZdK (ZAu 1 0 (Zi Q) (Zi Q) true _ _ _ _ _ g) (Z4 (Xa (by omega)))) ?_ (fun e y he=>by cases he.1);rintro⟨t,hh,s⟩ ⟨_,⟨g1,e1⟩,e2⟩;simp only at e1 e2;subst e1 e2;have hin:RunsW (Zk prog Zf Zn ZdZ) (ZZ (eQ f32) (.seq (.seq (e8 f32) (.block 2 (.loop (eI f32)))) (eZ f32))) (eF (sl 1 0 (Zi Q) (Zi Q)) (bS l) (.slice (some ⟨1,0,none⟩) k grown) (uu r) (.int .i64 i)++tl 39 g1,⟨2,[(wU Q,tU),(la,tR)]⟩,s) fun e y=>e=none∧∃ Q':List Int,Q'.length=Zi Q∧(∀ x∈Q',Dg 65536 x)∧vb 65536 Q'=vb 65536 Q/10∧∃ (j:Int) (g:Nat→Value),y.1=eF (sl 2 0 (Zi Q') (Zi Q')) (bS (a8 ((vb 65536 Q % 10:Nat):Int)::l)) (.slice (some ⟨2,0,none⟩) (Zi Q) grown) (uu ((vb 65536 Q % 10:Nat):Int)) (.int .i64 j)++tl 39 g∧y.2.1=hQd [(wU Q,tU),(la,tR)] (wU Q'):=by
   refine Zu ZdK (ZAw (Zi Q) (Zi Q) (bS l) _ _ _ (wU Q) (la,tR) g1) (Z4 (ZpD h0 hle (by omega))) fun g2=> ?_;have ecp:((wU Q).drop 0).take (Zi Q)=wU (db 65536 (vb 65536 Q)):=by
    rw[List.drop_zero,← zf (by omega) Q hDQ];unfold wU;rw[List.map_take]
   rw[ecp];have hr:=Z5h (X:=[(wU Q,tU),(la,tR)]) (.inr rfl) (sl 1 0 (Zi Q) (Zi Q)) l (.int .i64 i) (L:=db 65536 (vb 65536 Q)) (ZkA (by omega) _) (by rw[← htr];omega) (by omega) g2 [];rw[ZbV (by omega),← htr] at hr;refine hr.mono fun e y he=> ?_;obtain⟨rfl,Q',p1,p2,p3,p4,j',g3,p5⟩:=he;exact⟨rfl,Q',p1,p2,p3,j',g3,p5,p4⟩
  have hblk:=RunsW.block (id:=1) (P:=fun e y=>e=none∧∃ Q':List Int,Q'.length=Zi Q∧(∀ x∈Q',Dg 65536 x)∧vb 65536 Q'=vb 65536 Q/10∧∃ (j:Int) (g:Nat→Value),y.1=eF (sl 2 0 (Zi Q') (Zi Q')) (bS (a8 ((vb 65536 Q % 10:Nat):Int)::l)) (.slice (some ⟨2,0,none⟩) (Zi Q) grown) (uu ((vb 65536 Q % 10:Nat):Int)) (.int .i64 j)++tl 39 g∧y.2.1=hQd [(wU Q,tU),(la,tR)] (wU Q')) hin (fun y he=>he) (fun y he=>by cases he.1) (fun y he=>by cases he.1) (fun id' y _ he=>by cases he.1);refine hblk.small (P':=fun e y=>match e with | none=>∃ m',m'<m∧Z1i la V0 m' y | some none=>False | some (some id')=>id'=0∧rdO V0 y) fun e y he=> .inr ?_;obtain⟨rfl,Q',p1,p2,p3,j',g3,p5,p4⟩:=he;obtain⟨t,hh,s3⟩:=y;simp only at p4 p5;subst p4 p5;refine⟨eF (sl 2 0 (Zi Q') (Zi Q')) (bS (a8 ((vb 65536 Q % 10:Nat):Int)::l)) (.slice (some ⟨2,0,none⟩) (Zi Q) grown) (uu ((vb 65536 Q % 10:Nat):Int)) (.int .i64 j'),eF (sl 1 0 (Zi Q') (Zi Q')) (bS (a8 ((vb 65536 Q % 10:Nat):Int)::l)) (.slice (some ⟨1,0,none⟩) (Zi Q) grown) (uu ((vb 65536 Q % 10:Nat):Int)) (.int .i64 j'),tl 39 g3,_,⟨2,[(wU Q',tU),(la,tR)]⟩,s3,zT 1 2,rfl,by kernel_rfl,rfl,Nat.succ_pos 1,fun i x hx=> ?_,fun i j x y hi hj _ _ hij=> ?_,?_,fun g4=> ?_⟩
  ·have hi2:i<2:=Hp.blk_lt hx;have h01:i=0∨i=1:=by omega
   rcases h01 with rfl | rfl
   ·obtain rfl:=(Option.some.inj hx).symm;exact⟨List.all_eq_true.1 hla,(la,tR),[],rfl,rfl,(List.append_nil _).symm⟩
   ·obtain rfl:=(Option.some.inj hx).symm;exact⟨List.all_eq_true.1 (ZaQ _),(wU Q',tU),[],rfl,rfl,(List.append_nil _).symm⟩
  ·have hi2:i<2:=Hp.blk_lt hi;have hj2:j<2:=Hp.blk_lt hj;have h01:i=0∨i=1:=by omega
   have h02:j=0∨j=1:=by omega
   rcases h01 with rfl | rfl<;>rcases h02 with rfl | rfl
   ·rfl
   ·exact absurd hij (by decide)
   ·exact absurd hij (by decide)
   ·rfl
  ·intro v hv;simp only[eF,List.mem_cons,List.not_mem_nil,or_false] at hv;rcases hv with rfl | rfl | rfl | rfl | rfl | rfl | rfl<;>rfl
  ·have hl39:(tl 39 g3).length=39:=by simp [tl]
   refine⟨vb 65536 Q',by rw[hm,p3];exact Nat.div_lt_self hV (by omega),Q',a8 ((vb 65536 Q % 10:Nat):Int)::l,Zi Q,0,((vb 65536 Q % 10:Nat):Int),j',g4,by rw[hl39],rfl,p2,by omega,?_,rfl,rfl⟩;rw[p3];exact Zkh hV hI
 ·have hz:vb 65536 Q=0:=by
   rcases Nat.eq_zero_or_pos (vb 65536 Q) with h1 | h1
   ·exact h1
   ·exact absurd (hpos.2 h1) h0
  refine RunsW.seq (P1:=fun e y=>e=some (some 0)∧rdO V0 y) ((Zb (s0:=sc) ZdK (ZAu 1 0 (Zi Q) (Zi Q) false _ _ _ _ _ g) (Z4 (Xb (by omega)))).mono fun e y he=> ?_) (fun y he=>by cases he.1) (fun e y he=> ?_)
  ·obtain⟨rfl,⟨g',z1⟩,z2⟩:=he;unfold rdI at hI;rw[hz,ze] at hI;have:l=Zac V0:=by simpa using hI
   rw[this] at z1;exact⟨rfl,_,_,_,_,g',z1⟩
  ·obtain⟨h1,h2⟩:=he;cases h1;exact⟨rfl,h2⟩
theorem ZpE {la:List Value}{o n c:Nat}{L:List Int}(hR:Row la o L) (hn:L.length=n) (hla:la.all still=true) (hD:∀ x∈L,Dg 65536 x) (h0:0<n) (hb:n<1073741824) (hV:0<vb 65536 L):
  RunsW (Zk prog Zf Zn ZdZ) (ZZ (eP f32) (.seq (.block 0 (.loop (.seq (eA f32) (.block 1 (ZZ (eQ f32) (.seq (.seq (e8 f32) (.block 2 (.loop (eI f32)))) (eZ f32))))))) (eE f32))) ([sl 0 o n c]++List.replicate 45 undef,h1R la,[]) fun e z=>(e=none∨e=some none)∧ZY prog f32 z.1 z.2.1=some (bS (Zac (vb 65536 L))):=by
 have hV0:(Zac (vb 65536 L)).length<9223372036854775000:=by
  have:=Ztz (V:=vb 65536 L) (n:=L.length) (Zby (by omega) L hD) (by omega);omega
 have hI0:rdI (vb 65536 L) (vb 65536 L) []:=by
  unfold rdI Zac ZuS;rw[if_neg (by omega),List.append_nil];rfl
 refine Zu ZdK (Z5d n c o _) (Z4 (by simp;omega)) fun g=> ?_;refine RunsW.seq (P1:=fun e y=>e=none∧rdO (vb 65536 L) y) ?_ ?_ (fun e y he=>by cases he.1)
 ·
  refine (RunsW.forLoop (R:=fun _=>False) (P:=rdO (vb 65536 L)) (fun m z=>(m=vb 65536 L+1∧(∃ g,z.1=eF (sl 0 o n c) (bS []) undef undef undef++tl 39 g)∧z.2.1=h1R la)∨(m≤vb 65536 L∧Z1i la (vb 65536 L) m z)) ?_ (n:=vb 65536 L+1) (.inl ⟨rfl,⟨g,rfl⟩,rfl⟩)).mono fun e z hz=> ?_
  ·rintro m z (⟨hm,⟨g,ht⟩,hh⟩ | ⟨hm,hS⟩)
   ·obtain⟨t,h',sc⟩:=z;simp only at ht hh;subst ht hh;refine RunsW.seq (P1:=fun e y=>e=none∧(∃ g,y.1=eF (sl 0 o n c) (bS []) undef undef undef++tl 39 g)∧y.2.1=h1R la) (Zb (s0:=sc) ZdK (ZAu 0 o n c true _ _ _ _ _ g) (Z4 (Xa (by omega)))) ?_ (fun e y he=>by cases he.1);rintro⟨t,hh,s⟩ ⟨_,⟨g1,e1⟩,e2⟩;simp only at e1 e2;subst e1 e2;have lc:Zd5 (la,tR) o n=true:=by
     have h1:=hR.cut;have h2:=hR.len;unfold ZbL at h1;rw[hn] at h1 h2;unfold Zd5;simp only;rw[show Zae tR=false from by kernel_rfl,Nat.ble_eq_true_of_le h2,Zl.2 h0,h1,Zha,Nat.ble_eq_true_of_le (by omega)];rfl
    have hin:RunsW (Zk prog Zf Zn ZdZ) (ZZ (eQ f32) (.seq (.seq (e8 f32) (.block 2 (.loop (eI f32)))) (eZ f32))) (eF (sl 0 o n c) (bS []) undef undef undef++tl 39 g1,h1R la,s) fun e y=>e=none∧∃ m',m'<m∧(m'≤vb 65536 L∧Z1i la (vb 65536 L) m' y):=by
     refine Zu ZdK (ZAv o n c (bS []) undef undef undef la tR g1) (Z4 lc) fun g2=> ?_;have ecp:(la.drop o).take n=wU L:=by
      have h1:=hR.cut;unfold ZbL at h1;rw[hn] at h1;exact h1
     rw[ecp];have hr:=Z5h (X:=[(la,tR)]) (.inl rfl) (sl 0 o n c) [] undef hD (by omega) (by decide) g2 [];rw[hn] at hr;refine hr.mono fun e y he=> ?_;obtain⟨rfl,Q',p1,p2,p3,p4,j',g3,p5⟩:=he;refine⟨rfl,vb 65536 Q',by rw[hm,p3];have:=Nat.div_le_self (vb 65536 L) 10;omega,by rw[p3];exact Nat.div_le_self _ _,Q',_,n,0,_,j',g3,p5,p4,p2,by omega,?_,rfl,rfl⟩;rw[p3];exact Zkh hV hI0
    refine (RunsW.block (id:=1) (P:=fun e y=>e=none∧∃ m',m'<m∧(m'≤vb 65536 L∧Z1i la (vb 65536 L) m' y)) hin (fun y he=>he) (fun y he=>by cases he.1) (fun y he=>by cases he.1) (fun id' y _ he=>by cases he.1)).mono fun e y he=> ?_;obtain⟨rfl,m',h1,h2⟩:=he;exact⟨m',h1,.inr h2⟩
   ·refine (Zt0 hla hV0 m z hS).mono fun e y he=> ?_
    match e,he with
    | none,he=>
     obtain⟨m',h1,h2⟩:=he;exact⟨m',h1,.inr ⟨by omega,h2⟩⟩
    | some (some id'),he=>exact he
  ·match e,hz with
   | none,hz=>exact⟨rfl,hz⟩
 ·rintro⟨t,hh,s⟩ ⟨_,a,q,r,i,g',e1⟩;simp only at e1;subst e1;refine (Zb (s0:=s) ZdK (Z5f a _ q r i hh g') ZuN).mono fun e z he=> ?_;obtain⟨rfl,⟨g2,z1⟩,z2⟩:=he;refine⟨.inr rfl,?_⟩;rw[z1];rfl
def Z7v:Zaf:=fun vals h s=>
 match vals,s with
 | [.slice p n c],.inr (.inr (.inr (.inr (.inr (.string b)))))::s'=>some (.string b,h,s',[(zC h p n c && Zdf (Zm h p n) && Nat.blt n 1073741824,true),(decide (Zac (vO h p n)=b.data.toList),true)])
 | _,_=>none
theorem ZpF:Z8 32 Z7v:=by
 intro vals h s v h' s' lg hg hl m B w E hv;unfold Z7v at hg;split at hg
 ·rename_i p n c b s2;cases hg;obtain⟨q,q0⟩:=Zfq hl;obtain⟨l3,_⟩:=Zfq q0;have l3:=Xc l3;have et:Value.string b=bS b.data.toList:=rfl;rw[et,← l3];simp only[Xh] at q;obtain⟨⟨q1,q2⟩,q3⟩:=q;have q2:=Zds q2;have q3:=Zl.1 q3;have hlen:=zE q1;by_cases hn:n=0
  ·subst hn;have e0:Zm h p 0=[]:=List.length_eq_zero_iff.1 hlen;have ev:vO h p 0=0:=by unfold vO;rw[e0];rfl
   obtain⟨x,p',a,NA,eA,fA⟩:=ZbE 0 q1;have hr:Runs (Zk prog Zf Zn ZdZ) (Zs f32) ([.slice p' 0 c]++List.replicate 45 undef,⟨1,[x]⟩,[]) fun e z=>(e=none∨e=some none)∧ZY prog f32 z.1 z.2.1=some (bS (Zac (vO h p 0))):=by
    refine (Zc ZdK (Zty p' 0 c _) (Z4 rfl)).mono fun e z he=> ?_;obtain⟨rfl,⟨g,e2⟩,e3⟩:=he;refine⟨.inr rfl,?_⟩;rw[e2,e3,ev];rfl
   have:=Z9 (T:=(Zk prog Zf Zn ZdZ)) func32 Ztx (h0:=⟨1,[x]⟩) ⟨rfl,fun b z hz=>by obtain⟨_,rfl⟩:=Z3H hz;exact⟨NA.ros.1,NA.lt0,NA.ros.2⟩⟩ (vals:=[.slice p' 0 c]) (fun v hv=>by rw[List.mem_singleton.1 hv];exact NA.lt (by show 0<1;omega)) (by rfl) hr.w E (s:=fun _=>a) (fun i z hz ht=>by obtain⟨_,rfl⟩:=Z3H hz;exact fA ht);simp only[List.map_cons,List.map_nil] at this;rw[eA _ rfl] at this;exact this
  ·rcases ZF q1 with ⟨rfl,rfl,rfl,e0⟩ | ⟨bk,o,x,rfl,hx,r1,_,e0⟩
   ·exact absurd rfl hn
   ·rw[e0] at q2 hlen;obtain⟨h1,h2,h3,h4,h5,h6,h7⟩:=zm r1;have ev:vO h (some ⟨bk,o,none⟩) n=vb 65536 (Zz x.1 o n):=by unfold vO;rw[e0]
    rw[ev];have hVp:0<vb 65536 (Zz x.1 o n):=by
     rcases Nat.eq_zero_or_pos (vb 65536 (Zz x.1 o n)) with hz | hz
     ·exfalso
      have:=ZgY (by omega) q2;rw[hz,ze] at this;rw[← this] at hlen;exact hn hlen.symm
     ·exact hz
    exact Z9 (T:=(Zk prog Zf Zn ZdZ)) func32 Zzk (Za5 h7) (vals:=[sl 0 o n c]) (fun v hv=>by rw[List.mem_singleton.1 hv];rfl) (by rfl) (ZpE h1 h2 (List.all_eq_true.2 h7) q2.1 (by omega) q3 hVp) E (s:=fun _=>bk) (zD hx h5 h6 rfl)
 ·cases hg
def f4 (n:Int):List Int:=[u32.wrap (n.tmod 65536),u32.wrap ((u64.wrap (n.tdiv 65536)).tmod 65536),u32.wrap ((u64.wrap (n.tdiv 4294967296)).tmod 65536),u32.wrap (u64.wrap (n.tdiv 281474976710656))]
theorem Zt1:f34.body=some (Zs f34):=by kernel_rfl
theorem Z5i (n:Int):Zg (evC (Zk prog Zf Zn hcV) 100 false (Zs f34) ([.int .u64 n]++List.replicate 18 undef,⟨0,[]⟩,[cmp true,cmp true,cmp true]) ⟨[],[],[]⟩) 3 16 (some none) [.int .u64 n,undef,sl 0 0 (Zi (Zz (wU (f4 n)) 0 4)) (Zi (Zz (wU (f4 n)) 0 4))] ⟨1,[(wU (f4 n),tU)]⟩ [(ZaW tU (wU (f4 n)) 0 4 4,true),(decide ((65536:Int)=0),false),(decide ((65536:Int)=0),false),(decide ((65536:Int)=0),false)]:=by and_intros<;>kernel_rfl
theorem Zf1 {n:Int}(h0:0≤n) (h1:n<18446744073709551616):u64.wrap n=n:=by simp [IntKind.wrap,IntKind.bits,IntKind.signed];omega
theorem Z5j {n:Int}(h0:0≤n) (h1:n<18446744073709551616):f4 n=[n % 65536,n/65536 % 65536,n/4294967296 % 65536,n/281474976710656]:=by
 unfold f4;rw[Int.tmod_eq_emod_of_nonneg h0,Int.tdiv_eq_ediv_of_nonneg h0,Int.tdiv_eq_ediv_of_nonneg h0,Int.tdiv_eq_ediv_of_nonneg h0,Zf1 (n:=n/65536) (by omega) (by omega),Zf1 (n:=n/4294967296) (by omega) (by omega),Zf1 (n:=n/281474976710656) (by omega) (by omega),Int.tmod_eq_emod_of_nonneg (by omega),Int.tmod_eq_emod_of_nonneg (by omega),zy (n:=n % 65536) (by omega) (by omega),zy (n:=n/65536 % 65536) (by omega) (by omega),zy (n:=n/4294967296 % 65536) (by omega) (by omega),zy (by omega) (by omega)]
theorem ZA2 {n:Int}(h0:0≤n) (h1:n<18446744073709551616):∀ x∈f4 n,Dg 65536 x:=by
 rw[Z5j h0 h1];intro x hx;simp only[List.mem_cons,List.not_mem_nil,or_false] at hx;rcases hx with rfl | rfl | rfl | rfl<;>exact⟨by omega,by omega⟩
theorem Z5k {n:Int}(h0:0≤n) (h1:n<18446744073709551616):vb 65536 (f4 n)=n.toNat:=by
 rw[Z5j h0 h1];simp only[vb];omega
def Zzp:Zaf:=fun vals h s=>
 match vals with
 | [.int .u64 n]=>Zdq n.toNat h s [(decide (0≤n∧n<18446744073709551616),true)]
 | _=>none
theorem ZeF:Z8 34 Zzp:=by
 intro vals h s v h' s' lg hg hl m B w E hv;unfold Zzp at hg;split at hg
 ·rename_i n;unfold Zdq at hg;cases hg;have q:=Xc (hl _ Xf);have hd:=ZA2 q.1 q.2;have hv4:=Z5k q.1 q.2;have hl4:(f4 n).length=4:=rfl;have ec:Zz (wU (f4 n)) 0 4=f4 n:=by
   have:=Zbc (f4 n);rw[hl4] at this;exact this
  have et:Zi (f4 n)=(d16 n.toNat).length:=by
   rw[Zan (by omega) hd,hv4];rfl
  have hrow:ZaW tU (wU (f4 n)) 0 4 4=true:=by
   have:=Zap (L:=f4 n) (fun x hx=>⟨(hd x hx).1,by have:=(hd x hx).2;omega⟩) (by rw[hl4];omega) (c:=4) (by rw[hl4];rfl);rw[hl4] at this;exact this
  have hr:Runs (Zk prog Zf Zn hcV) (Zs f34) ([.int .u64 n]++List.replicate 18 undef,⟨0,[]⟩,[]) fun e z=>(e=none∨e=some none)∧ZY prog f34 z.1 z.2.1=some (sl 0 0 (d16 n.toNat).length (d16 n.toNat).length)∧∃ r,z.2.1.blk? 0=some (wU (d16 n.toNat)++r,tU):=by
   refine (Zc (Zh Zd Zy) (Z5i n) (Zj hrow (Zj rfl (Zj rfl (Zv rfl))))).mono fun e z he=> ?_;obtain⟨rfl,⟨g,e1⟩,e2⟩:=he;refine⟨.inr rfl,?_,?_⟩
   ·rw[e1,e2,ec,et];rfl
   ·rw[e2];refine⟨wU ((f4 n).drop (Zi (f4 n))),?_⟩;have e3:wU (d16 n.toNat)++wU ((f4 n).drop (Zi (f4 n)))=wU (f4 n):=by
     unfold d16;rw[← hv4,← zf (by omega) _ hd,← zg,List.take_append_drop]
    rw[e3];rfl
  have:=ZM (T:=Zk prog Zf Zn hcV) func34 Zt1 (h0:=⟨0,[]⟩) ⟨rfl,fun b x hx=>by have:b<0:=Hp.blk_lt hx;omega⟩ (vals:=[.int .u64 n]) (fun v hv=>by rw[List.mem_singleton.1 hv];rfl) (k:=0) (cs:=wU (d16 n.toNat)) (ty:=tU) (Zbf _) (by kernel_rfl) hr.w (by rfl) E (s:=fun i=>i) (fun i x hx _=>by have:i<0:=Hp.blk_lt hx;omega);exact this
 ·cases hg
def Z1j (F:Func):List Code:=[Z1 (Zs F),Z1 (Z0 (Zs F))]
def wR2 (F:Func):Code:=Z1 (Z1 (Z0 (Z0 (Zs F))))
def wLp (F:Func):Code:=cIn (cIn (Z0 (Z1 (Z0 (Z0 (Zs F))))))
def wEn (F:Func):Code:=Z0 (Z0 (Z0 (Zs F)))
def m4 (n:Nat):Int:=i64.wrap ((if (4:Int)<(n:Int) then 4 else (n:Int))-1)
theorem ZpG:f110.body=some (ZZ (Z1j f110) (.seq (.seq (wR2 f110) (.block 0 (.loop (wLp f110)))) (wEn f110))):=by kernel_rfl
theorem Zt2 (a:Value) (h:Hp):Zg (evL (Zk prog Zf Zn hcV) 100 (Z1j f110) ([a]++List.replicate 21 undef,h,[]) ⟨[],[],[]⟩) 4 18 none [a,undef,.int .u64 0,.int .u64 0] h []:=by and_intros<;>kernel_rfl
theorem Zzq (p:Option Addr) (n c:Nat) (h:Hp) (g:Nat→Value):Zg (evC (Zk prog Zf Zn hcV) 100 false (wR2 f110) ([.slice p n c,undef,.int .u64 0,.int .u64 0]++tl 18 g,h,[]) ⟨[],[],[]⟩) 5 17 none [.slice p n c,undef,.int .u64 0,.int .u64 0,.int .i64 (m4 n)] h []:=by and_intros<;>kernel_rfl
def lw (y x:Int):Int:=u64.wrap (u64.wrap (65536*y)+u64.wrap x)
theorem Zzr (o n c:Nat) (x y k:Int) (l:List Value) (g:Nat→Value):Zg (evC (Zk prog Zf Zn hcV) 100 false (wLp f110) ([sl 0 o n c,undef,.int .u64 0,.int .u64 y,.int .i64 k]++tl 17 g,⟨1,[(l,tR)]⟩,[cmp true,at_,val (.int .u32 x)]) ⟨[],[],[]⟩) 5 17 none [sl 0 o n c,undef,.int .u64 0,.int .u64 (lw y x),.int .i64 (i64.wrap (k-1))] ⟨1,[(l,tR)]⟩ [(Z5 (l[o+k.toNat*1]?) (.int .u32 x),true),(decide (0≤k∧k<n),true),(decide (k≥0),true)]:=by and_intros<;>kernel_rfl
theorem Zt3 (a:Value) (y k:Int) (h:Hp) (g:Nat→Value):Zg (evC (Zk prog Zf Zn hcV) 100 false (wLp f110) ([a,undef,.int .u64 0,.int .u64 y,.int .i64 k]++tl 17 g,h,[cmp false]) ⟨[],[],[]⟩) 5 17 (some (some 0)) [a,undef,.int .u64 0,.int .u64 y,.int .i64 k] h [(decide (k≥0),false)]:=by and_intros<;>kernel_rfl
theorem Zt4 (a:Value) (y k:Int) (h:Hp) (g:Nat→Value):Zg (evC (Zk prog Zf Zn hcV) 100 false (wEn f110) ([a,undef,.int .u64 0,.int .u64 y,.int .i64 k]++tl 17 g,h,[]) ⟨[],[],[]⟩) 3 19 (some none) [a,undef,.int .u64 y] h []:=by and_intros<;>kernel_rfl
def hiV (L:List Int) (k:Nat):Nat:=vb 65536 ((L.take 4).drop k)
theorem Zt5 {L:List Int}{k:Nat}(hk:k<(L.take 4).length):hiV L k=dgN L k+65536*hiV L (k+1):=by
 unfold hiV dgN;rw[List.drop_eq_getElem_cons hk];simp only[vb];congr 2;rw[List.getElem_take];rw[List.length_take] at hk;simp [List.getD,List.getElem?_eq_getElem (show k<L.length by omega)]
theorem Zv6 {L:List Int}(hd:∀ x∈L,Dg 65536 x) (k:Nat):hiV L k<65536^(4-k):=by
 have h:=Zby (b:=65536) (by omega) ((L.take 4).drop k) (fun x hx=>hd x (List.mem_of_mem_take (List.mem_of_mem_drop hx)));have hl:((L.take 4).drop k).length≤4-k:=by simp;omega
 exact Nat.lt_of_lt_of_le h (Nat.pow_le_pow_right (by omega) hl)
theorem Zt6 {L:List Int}(hd:∀ x∈L,Dg 65536 x):hiV L 0=vb 65536 L % 18446744073709551616:=by
 have e:L=L.take 4++L.drop 4:=(List.take_append_drop 4 L).symm;have h4:=Zv6 hd 0;unfold hiV at*;rw[List.drop_zero] at*;have ev:vb 65536 L=vb 65536 (L.take 4)+65536^(L.take 4).length*vb 65536 (L.drop 4):=by
  conv=>lhs;rw[e]
  exact Za7 _ _ _
 rw[ev];have e4:(65536:Nat)^(4-0)=18446744073709551616:=rfl;by_cases hl:L.length≤4
 ·rw[List.drop_of_length_le hl];simp only[vb,Nat.mul_zero,Nat.add_zero];omega
 ·have:(L.take 4).length=4:=by simp;omega
  have e5:(65536:Nat)^4=18446744073709551616:=rfl;rw[this,e5];omega
theorem ZpH {l:List Value}{o c:Nat}{L:List Int}(hR:Row l o L) (hd:∀ x∈L,Dg 65536 x) (hn:L.length<1073741824):
  Runs (Zk prog Zf Zn hcV) (ZZ (Z1j f110) (.seq (.seq (wR2 f110) (.block 0 (.loop (wLp f110)))) (wEn f110))) ([sl 0 o L.length c]++List.replicate 21 undef,⟨1,[(l,tR)]⟩,[]) fun e z=>(e=none∨e=some none)∧ZY prog f110 z.1 z.2.1=some (.int .u64 ((vb 65536 L % 18446744073709551616:Nat):Int)):=by
 have hm:m4 L.length=(((L.take 4).length:Nat):Int)-1:=by
  unfold m4;rw[List.length_take];split
  ·rw[Zw (by omega) (by omega)];omega
  ·rw[Zw (by omega) (by omega)];omega
 have hz:hiV L (L.take 4).length=0:=by unfold hiV;rw[List.drop_of_length_le (Nat.le_refl _)];rfl
 refine Z2 (Zh Zd Zy) (Zt2 _ _) (fun x hx=>by cases hx) fun g=> ?_;refine Runs.seq (P1:=fun e Y=>match e with | none=>(∃ g,Y.1=[sl 0 o L.length c,undef,.int .u64 0,.int .u64 (hiV L 0:Nat),.int .i64 (-1)]++tl 17 g)∧Y.2.1=⟨1,[(l,tR)]⟩ | some none=>False | some (some _)=>False) (Runs.seq (P1:=fun e Y=>e=none∧(∃ g,Y.1=[sl 0 o L.length c,undef,.int .u64 0,.int .u64 0,.int .i64 (m4 L.length)]++tl 17 g)∧Y.2.1=⟨1,[(l,tR)]⟩) (Zc (Zh Zd Zy) (Zzq _ L.length c _ g) (fun x hx=>by cases hx)) ?_ (fun e y he=>by cases he.1)) ?_ (fun e Y he=>by match e,he with | none,he=>exact he.elim | some id,he=>exact he.elim)
 ·rintro⟨t,h',s⟩ ⟨_,⟨g',ht⟩,hh⟩;simp only at ht hh;subst ht hh;refine Runs.script (s:=[]) (Runs.forLoop (P:=fun Y=>(∃ g,Y.1=[sl 0 o L.length c,undef,.int .u64 0,.int .u64 (hiV L 0:Nat),.int .i64 (-1)]++tl 17 g)∧Y.2.1=⟨1,[(l,tR)]⟩) (R:=fun _=>False)
   (fun k Y=>k≤(L.take 4).length∧(∃ g,Y.1=[sl 0 o L.length c,undef,.int .u64 0,.int .u64 (hiV L k:Nat),.int .i64 ((k:Int)-1)]++tl 17 g)∧Y.2.1=⟨1,[(l,tR)]⟩) ?_ (n:=(L.take 4).length) ⟨Nat.le_refl _,⟨g',by rw[hz,hm];rfl⟩,rfl⟩)
  rintro k ⟨t,h',s⟩ ⟨hk,⟨g,ht⟩,hh⟩;simp only at ht hh;subst ht hh;have hl4:(L.take 4).length≤L.length:=by simp;omega
  have hl5:(L.take 4).length≤4:=by simp;omega
  cases k with
  | zero=>
   refine (Zc (Zh Zd Zy) (Zt3 _ _ _ _ g) (Zv (Xb (by omega)))).mono fun e z hz=> ?_;obtain⟨rfl,⟨g',z1⟩,z2⟩:=hz;exact⟨rfl,⟨g',z1⟩,z2⟩
  | succ k=>
   have hd1:=zK hd k;have hlt:=Zv6 hd (k+1);have hs:=Zt5 (L:=L) (k:=k) (by omega);have ek:((k+1:Nat):Int)-1=(k:Int):=by omega
   have hp:hiV L (k+1)<281474976710656:=by
    have:65536^(4-(k+1))≤65536^3:=Nat.pow_le_pow_right (by omega) (by omega);have e3:(65536:Nat)^3=281474976710656:=rfl;omega
   rw[ek];refine (Zc (Zh Zd Zy) (Zzr o L.length c (L.getD k 0) _ k l g) (Zj (by rw[Xg,Nat.mul_one,hR.cell (by omega)];simp [Z5]) (Zj (Xa (by omega)) (Zv (show decide ((k:Int)≥0)=true from Xa (by omega)))))).mono fun e z hz=> ?_;obtain⟨rfl,⟨g',z1⟩,z2⟩:=hz;have e1:lw (hiV L (k+1):Nat) (L.getD k 0)=((hiV L k:Nat):Int):=by
    unfold lw;rw[← hd1.2,Zf1 (n:=65536*((hiV L (k+1):Nat):Int)) (by omega) (by omega),Zf1 (n:=((dgN L k:Nat):Int)) (by omega) (by omega),Zf1 (by omega) (by omega)];omega
   have e2:i64.wrap ((k:Int)-1)=(k:Int)-1:=Zw (by omega) (by omega);exact⟨k,by omega,by omega,⟨g',by rw[z1,e1,e2]⟩,z2⟩
 ·rintro⟨t,h',s⟩ ⟨⟨g',ht⟩,hh⟩;simp only at ht hh;subst ht hh;refine (Zc (Zh Zd Zy) (Zt4 _ _ _ _ g') (fun x hx=>by cases hx)).mono fun e z hz=> ?_;obtain⟨rfl,⟨g2,z1⟩,z2⟩:=hz;refine⟨.inr rfl,?_⟩;rw[z1,z2,Zt6 hd];rfl
theorem Zlu:f110.body=some (Zs f110):=by kernel_rfl
theorem ZpI (p:Option Addr) (c:Nat) (h:Hp):Zg (evC (Zk prog Zf Zn hcV) 100 false (Zs f110) ([.slice p 0 c]++List.replicate 21 undef,h,[cmp false]) ⟨[],[],[]⟩) 3 19 (some none) [.slice p 0 c,undef,.int .u64 0] h [(decide (m4 0≥0),false)]:=by and_intros<;>kernel_rfl
theorem Zzs:decide (m4 0≥0)=false:=by decide
def Zzt (h:Hp) (p:Option Addr) (n c:Nat):Bool:=zC h p n c && dgB (Zm h p n) && Nat.blt n 1073741824
def Zzu:Zaf:=fun vals h s=>
 match vals with
 | [.slice p n c]=>some (.int .u64 ((vO h p n % 18446744073709551616:Nat):Int),h,s,[(Zzt h p n c,true)])
 | _=>none
theorem Zt7:Z8 110 Zzu:=by
 intro vals h s v h' s' lg hg hl m B w E hv;unfold Zzu at hg;split at hg
 ·rename_i p n c;cases hg;have q:=hl _ Xf;simp only[Zzt,Xh] at q;obtain⟨⟨q1,q2⟩,q3⟩:=q;have q2:=Zb7 q2;have q3:=Zl.1 q3;have hlen:=zE q1;by_cases hn:n=0
  ·subst hn;have e0:Zm h p 0=[]:=List.length_eq_zero_iff.1 hlen;have ev:vO h p 0=0:=by unfold vO;rw[e0];rfl
   obtain⟨x,p',a,NA,eA,fA⟩:=ZbE 0 q1;have hr:Runs (Zk prog Zf Zn hcV) (Zs f110) ([.slice p' 0 c]++List.replicate 21 undef,⟨1,[x]⟩,[]) fun e z=>(e=none∨e=some none)∧ZY prog f110 z.1 z.2.1=some (.int .u64 ((vO h p 0 % 18446744073709551616:Nat):Int)):=by
    refine (Zc (Zh Zd Zy) (ZpI p' c _) (Zv Zzs)).mono fun e z he=> ?_;obtain⟨rfl,⟨g,e2⟩,e3⟩:=he;refine⟨.inr rfl,?_⟩;rw[e2,e3,ev];rfl
   have b1:∀ {i:Nat}{z:List Value×TypeId},(⟨1,[x]⟩:Hp).blk? i=some z→i=0∧z=x:=fun {i z} hz=>by
    have:i<1:=Hp.blk_lt hz;have hi:i=0:=by omega
    subst hi;exact⟨rfl,(Option.some.inj hz).symm⟩
   have:=Z9 (T:=Zk prog Zf Zn hcV) func110 Zlu (h0:=⟨1,[x]⟩) ⟨rfl,fun b z hz=>by obtain⟨_,rfl⟩:=b1 hz;exact⟨NA.ros.1,NA.lt0,NA.ros.2⟩⟩ (vals:=[.slice p' 0 c]) (fun v hv=>by rw[List.mem_singleton.1 hv];exact NA.lt (by show 0<1;omega)) (by rfl) hr.w E (s:=fun _=>a) (fun i z hz ht=>by obtain⟨_,rfl⟩:=b1 hz;exact fA ht);simp only[List.map_cons,List.map_nil] at this;rw[eA _ rfl] at this;exact this
  rcases ZF q1 with ⟨rfl,rfl,rfl,e0⟩ | ⟨b,o,x,rfl,hx,r1,_,e0⟩
  ·exact absurd rfl hn
  ·rw[e0] at q2 hlen;obtain⟨h1,h2,h3,h4,h5,h6,h7⟩:=zm r1;have r:=ZpH (c:=c) h1 q2 (by rw[h2];exact q3);rw[h2] at r;have ev:vO h (some ⟨b,o,none⟩) n=vb 65536 (Zz x.1 o n):=by unfold vO;rw[e0]
   rw[ev];exact Z9 (T:=Zk prog Zf Zn hcV) func110 ZpG (Za5 h7) (vals:=[sl 0 o n c]) (fun v hv=>by rw[List.mem_singleton.1 hv];rfl) (by rfl) r.w E (s:=fun _=>b) (zD hx h5 h6 rfl)
 ·cases hg
end Go.Proofs.YtgefjidphfdhdaaGreatDoor
namespace Go.Proofs.YtgefjidphfdhdaaGreatDoor
open Go.KRun Go.Nt
set_option maxRecDepth 100000
theorem Zd2 {x:Bool×Bool}{l:Log}(h:Zx (x::l)):x.1=x.2∧Zx l:=⟨h _ Xe,fun y hy=>h y (Xd _ hy)⟩
def Zea (h:Hp) (p:Option Addr) (n c:Nat) (k:Int):Bool:=zC h p n c && dgB (Zm h p n) && Nat.blt (k.toNat/16+n+3) 1073741824 && decide (0≤k)
def Zki:Zaf:=fun vals h s=>
 match vals,s with
 | [.slice p n c,.int .i64 k],.inr (.inr (.inr (.inl d)))::s'=>
  match d,s' with
  | true,.inr (.inl V)::s2=>Zdq V.toNat h s2 [(decide (vO h p n*2^k.toNat=V.toNat),true),(Zea h p n c k,true),(decide (0<n),true)]
  | false,_=>some (Zo,h,s',[(zC h p n c,true),(decide (0<n),false)])
  | _,_=>none
 | _,_=>none
theorem ZhA:Z8 36 Zki:=by
 intro vals h s v h' s' lg hg hl;unfold Zki at hg;split at hg
 ·rename_i p n c k d s2;split at hg
  ·rename_i V s3;unfold Zdq at hg;cases hg;obtain⟨l1,l2⟩:=Zd2 hl;have l1:=Xc l1;refine ZfO _ h [cmp true] _ _ [] _ ?_ l2;simp only[ZrH,Zdq,l1];rfl
  ·cases hg;exact ZfO _ h [cmp false] _ _ [] _ rfl hl
  ·cases hg
 ·cases hg
def Zkj:Zaf:=fun vals h s=>
 match vals,s with
 | [.slice p n c,.slice q n' c'],.inr (.inl k)::s'=>some (.int .i64 k,h,s',[(decide (Zag (vO h p n) (vO h q n')=k),true),(ZN h p q n c n' c',true)])
 | _,_=>none
theorem ZhB:Z8 35 Zkj:=by
 intro vals h s v h' s' lg hg hl;unfold Zkj at hg;split at hg
 ·rename_i p n c q n' c' V s3;cases hg;obtain⟨l1,l2⟩:=Zd2 hl;have l1:=Xc l1;refine ZfL _ h [] _ _ [] _ ?_ l2;simp only[ZmO,l1]
 ·cases hg
section
variable {h : Hp} {b b' V W : Nat}
theorem oSh {k:Nat}(hb:h.blk? b=some (wU (d16 V),tU)) (hl:(d16 V).length<100000) (hk:k<100000):Zea h (some ⟨b,0,none⟩) (d16 V).length (d16 V).length (k:Int)=true:=by
 unfold Zea;rw[ZP hb (by omega),Zai hb,Zl.2 (by rw[Xg];omega),Xa (by omega)];rfl
theorem ZCA (hb:h.blk? b=some (wU (d16 V),tU)) (hc:h.blk? b'=some (wU (d16 W),tU)) (hl:(d16 V).length<100000) (hm:(d16 W).length<100000):ZN h (some ⟨b,0,none⟩) (some ⟨b',0,none⟩) (d16 V).length (d16 V).length (d16 W).length (d16 W).length=true:=by
 unfold ZN;rw[ZP hb (by omega),Zai hb,ZP hc (by omega),Zai hc,Zl.2 (by omega)];rfl
end
def Z6 (b:Nat):Option Addr:=some ⟨b,0,none⟩
def w16 (X:Nat):List Value×TypeId:=(wU (d16 X),tU)
section
variable {h : Hp} {b V : Nat}
theorem ZdL (hb:h.blk? b=some (wU (d16 V),tU)):vO h (Z6 b) (d16 V).length=V:=zO hb
theorem ZeG:0<(d16 V).length↔0<V:=by
 unfold d16;rw[List.length_pos_iff,ne_eq,Zcu (by omega)];omega
end
end Go.Proofs.YtgefjidphfdhdaaGreatDoor
namespace Go.Proofs.YtgefjidphfdhdaaGreatDoor
open Go.Proofs.Tryz
open Go.IntKind
open Go.KRun Go.Nt Go.Rd
set_option maxRecDepth 100000
def ZA3:Hc:=zd 34 Zzp (zd 32 Z7v hcN)
theorem Zzv:HcOk ZA3:=Zt func34 rfl ZeF (Zt func32 rfl ZpF zx)
def ZpJ:Con:=alt 47 (gU vT) Zn
theorem Zt8:ConOk ZpJ:=ZE func47 rfl Zvw Zd
def hD1 (x:Int):Hp:=⟨1,[w16 x.toNat]⟩
theorem Zt9 {h:Hp}{b V:Nat}(hb:h.blk? b=some (wU (d16 V),tU)) (hl:(d16 V).length<100000):(zC h (Z6 b) (d16 V).length (d16 V).length && Zdf (Zm h (Z6 b) (d16 V).length) && Nat.blt (d16 V).length 1073741824)=true:=by
 unfold Z6;rw[ZP hb (by omega),Zaq hb,show Zdf (d16 V)=true from ZbW (Zcv (by omega) _),Zl.2 (by omega)];rfl
theorem ZA4 (n:Int) (b:List UInt8):ZB (Zr (Zk prog Zf Zn ZA3) 300 49 [.int .i64 n] [cmp true,val (bR b),sam true]) (bR (45::b)) [(decide (1+b.length≤9223372036854775807),true),(zC (hD1 (u64.wrap (i64.wrap (0-n)))) (Z6 0) (d16 (u64.wrap (i64.wrap (0-n))).toNat).length (d16 (u64.wrap (i64.wrap (0-n))).toNat).length && Zdf (Zm (hD1 (u64.wrap (i64.wrap (0-n)))) (Z6 0) (d16 (u64.wrap (i64.wrap (0-n))).toNat).length) && Nat.blt (d16 (u64.wrap (i64.wrap (0-n))).toNat).length 1073741824,true),(decide (Zac (vO (hD1 (u64.wrap (i64.wrap (0-n)))) (Z6 0) (d16 (u64.wrap (i64.wrap (0-n))).toNat).length)=b),true),(decide (0≤(u64.wrap (i64.wrap (0-n)))∧(u64.wrap (i64.wrap (0-n)))<18446744073709551616),true),(decide (n<0),true)]:=by and_intros<;>kernel_rfl
theorem ZA5 (n:Int) (b:List UInt8):ZB (Zr (Zk prog Zf Zn ZA3) 300 49 [.int .i64 n] [cmp false,val (bR b)]) (bR b) [(zC (hD1 (u64.wrap n)) (Z6 0) (d16 (u64.wrap n).toNat).length (d16 (u64.wrap n).toNat).length && Zdf (Zm (hD1 (u64.wrap n)) (Z6 0) (d16 (u64.wrap n).toNat).length) && Nat.blt (d16 (u64.wrap n).toNat).length 1073741824,true),(decide (Zac (vO (hD1 (u64.wrap n)) (Z6 0) (d16 (u64.wrap n).toNat).length)=b),true),(decide (0≤(u64.wrap n)∧(u64.wrap n)<18446744073709551616),true),(decide (n<0),false)]:=by and_intros<;>kernel_rfl
theorem Zgv (n:Int) (hn:n.natAbs≤2000000) (w:World):Calls prog 49 #[.int .i64 n] w fun r w'=>r= .returned (bR (ZaA n))∧Zak w w':=by
 have T:=Zh Zd Zzv;have lb:=Zi7 n.natAbs;have ls:(d16 n.natAbs).length≤4:=Zc8 (A:=n.natAbs) (k:=4) (Nat.lt_of_le_of_lt hn (by decide));obtain⟨b,hb0⟩:∃ b,b=dcL n.natAbs:=⟨_,rfl⟩;have hb:Zac n.natAbs=b:=by rw[hb0];exact Ztf (by omega)
 rw[← hb0] at lb;unfold ZaA;rw[← hb0];by_cases h:n<0
 ·rw[if_pos h];have e:(u64.wrap (i64.wrap (0-n)))=(n.natAbs:Nat):=by
   rw[Zw (n:=0-n) (by omega) (by omega)];simp [IntKind.wrap,IntKind.bits,IntKind.signed];omega
  have hf:=ZA4 n b;rw[e,Xg] at hf;exact Ze T hf (Za (Xa (by omega)) (Za (Zt9 (h:=hD1 _) (b:=0) rfl (by omega)) (Za (Xa (by rw[ZdL (V:=_) rfl];exact hb)) (Za (Xa ⟨by omega,by omega⟩) (Z4 (Xa h)))))) (by rfl) (by rfl) w
 ·rw[if_neg h];have e:(u64.wrap n)=(n.natAbs:Nat):=by
   simp [IntKind.wrap,IntKind.bits,IntKind.signed];omega
  have hf:=ZA5 n b;rw[e,Xg] at hf;exact Ze T hf (Za (Zt9 (h:=hD1 _) (b:=0) rfl (by omega)) (Za (Xa (by rw[ZdL (V:=_) rfl];exact hb)) (Za (Xa ⟨by omega,by omega⟩) (Z4 (Xb h))))) (by rfl) (by rfl) w
def ZA6:Ans:=fun vals s=>
 match vals with
 | [.int .i64 n]=>some (bR (ZaA n),s,[(decide (n.natAbs≤2000000),true)])
 | _=>none
theorem Zzw:zw 49 ZA6:=by
 intro vals s v s' lg h hl w;unfold ZA6 at h;split at h
 ·cases h;exact Zgv _ (Xc (hl _ Xf)) w
 ·cases h
theorem ZA7 (p:Int):ZB (Zr (Zq prog Zf ZpJ true) 300 25 [.int .u64 p] [cmp true]) (bR [110,97,110]) [(decide (Go.Pt.cl p>3),true),(decide (Go.Pt.U p),true)]:=by and_intros<;>kernel_rfl
theorem ZA8 (p:Int):ZB (Zr (Zq prog Zf ZpJ true) 300 25 [.int .u64 p] [cmp false,cmp true]) (bR [105,110,102]) [(p==9218868437227405312,true),(decide (Go.Pt.cl p>3),false),(decide (Go.Pt.U p),true)]:=by and_intros<;>kernel_rfl
theorem ZA9 (p:Int):ZB (Zr (Zq prog Zf ZpJ true) 300 25 [.int .u64 p] [cmp false,cmp false,cmp true]) (bR [45,105,110,102]) [(p==18442240474082181120,true),(p==9218868437227405312,false),(decide (Go.Pt.cl p>3),false),(decide (Go.Pt.U p),true)]:=by and_intros<;>kernel_rfl
theorem ZAA (p:Int):ZB (Zr (Zq prog Zf ZpJ true) 300 25 [.int .u64 p] [cmp false,cmp false,cmp false]) (bR []) [(p==18442240474082181120,false),(p==9218868437227405312,false),(decide (Go.Pt.cl p>3),false),(decide (Go.Pt.U p),true)]:=by and_intros<;>kernel_rfl
def spK (p:Int):Int:=if 3<Go.Pt.cl p then 1 else if p=9218868437227405312 then 2 else if p=18442240474082181120 then 3 else 0
def spL (k:Int):List UInt8:=if k=1 then [110,97,110] else if k=2 then [105,110,102] else if k=3 then [45,105,110,102] else []
theorem Zgw (p:Int) (hp:Go.Pt.U p) (w:World):Calls prog 25 #[.int .u64 p] w fun r w'=>r= .returned (bR (spL (spK p)))∧Zak w w':=by
 have T:=Zp Zt8;unfold spK;by_cases h0:3<Go.Pt.cl p
 ·rw[if_pos h0];exact Ze T (ZA7 p) (Za (Xa (by omega)) (Z4 (Xa hp))) (by rfl) (by rfl) w
 rw[if_neg h0];by_cases h1:p=9218868437227405312
 ·rw[if_pos h1];exact Ze T (ZA8 p) (Za (ZQ h1) (Za (Xb (by omega)) (Z4 (Xa hp)))) (by rfl) (by rfl) w
 rw[if_neg h1];by_cases h2:p=18442240474082181120
 ·rw[if_pos h2];exact Ze T (ZA9 p) (Za (ZQ h2) (Za (ZI h1) (Za (Xb (by omega)) (Z4 (Xa hp))))) (by rfl) (by rfl) w
 rw[if_neg h2];exact Ze T (ZAA p) (Za (ZI h2) (Za (ZI h1) (Za (Xb (by omega)) (Z4 (Xa hp))))) (by rfl) (by rfl) w
def ZAB:Ans:=fun vals s=>
 match vals,s with
 | [.int .u64 p],.inr (.inl k)::s'=>some (bR (spL k),s',[(decide (spK p=k),true),(decide (Go.Pt.U p),true)])
 | _,_=>none
theorem Zzx:zw 25 ZAB:=by
 intro vals s v s' lg h hl w;unfold ZAB at h;split at h
 ·cases h;rw[Zm9,Zm9] at hl;obtain⟨l1,l2,_⟩:=hl;have l1:=Xc l1;rw[← l1];exact Zgw _ (Xc l2) w
 ·cases h
def ZpK:Con:=alt 49 ZA6 Zn
theorem ZtA:ConOk ZpK:=ZE func49 rfl Zzw Zd
theorem Z5l (c:UInt8) (r:List UInt8) (e:Int):ZB (Zr (Zq prog Zf ZpK true) 300 27 [bR (c::r),.int .i64 e,.bool true] [sam true,cmp true,sam true,sam true,sam true,sam true,sam true,sam true]) (bR (45::((c::46::r)++[101]++ZaA e))) [(decide (1+((c::46::r)++[101]++ZaA e).length≤9223372036854775807),true),(decide (((c::46::r)++[101]).length+(ZaA e).length≤9223372036854775807),true),(decide (e.natAbs≤2000000),true),(decide ((c::46::r).length+1≤9223372036854775807),true),(decide ([c,46].length+r.length≤9223372036854775807),true),(decide ((0:Int)≤1∧(1:Int)≤(((c::r).length:Nat):Int)),true),(decide ([c].length+1≤9223372036854775807),true),(decide ((((c::r).length:Nat):Int)>1),true),(decide ((0:Int)≤1∧(1:Int)≤(((c::r).length:Nat):Int)),true)]:=by and_intros<;>kernel_rfl
theorem Z5m (c:UInt8) (r:List UInt8) (e:Int):ZB (Zr (Zq prog Zf ZpK true) 300 27 [bR (c::r),.int .i64 e,.bool true] [sam true,cmp false,sam true,sam true,sam true]) (bR (45::([c]++[101]++ZaA e))) [(decide (1+([c]++[101]++ZaA e).length≤9223372036854775807),true),(decide (([c]++[101]).length+(ZaA e).length≤9223372036854775807),true),(decide (e.natAbs≤2000000),true),(decide ([c].length+1≤9223372036854775807),true),(decide ((((c::r).length:Nat):Int)>1),false),(decide ((0:Int)≤1∧(1:Int)≤(((c::r).length:Nat):Int)),true)]:=by and_intros<;>kernel_rfl
theorem Z5n (c:UInt8) (r:List UInt8) (e:Int):ZB (Zr (Zq prog Zf ZpK true) 300 27 [bR (c::r),.int .i64 e,.bool false] [sam true,cmp true,sam true,sam true,sam true,sam true,sam true]) (bR ((c::46::r)++[101]++ZaA e)) [(decide (((c::46::r)++[101]).length+(ZaA e).length≤9223372036854775807),true),(decide (e.natAbs≤2000000),true),(decide ((c::46::r).length+1≤9223372036854775807),true),(decide ([c,46].length+r.length≤9223372036854775807),true),(decide ((0:Int)≤1∧(1:Int)≤(((c::r).length:Nat):Int)),true),(decide ([c].length+1≤9223372036854775807),true),(decide ((((c::r).length:Nat):Int)>1),true),(decide ((0:Int)≤1∧(1:Int)≤(((c::r).length:Nat):Int)),true)]:=by and_intros<;>kernel_rfl
theorem Z5o (c:UInt8) (r:List UInt8) (e:Int):ZB (Zr (Zq prog Zf ZpK true) 300 27 [bR (c::r),.int .i64 e,.bool false] [sam true,cmp false,sam true,sam true]) (bR ([c]++[101]++ZaA e)) [(decide (([c]++[101]).length+(ZaA e).length≤9223372036854775807),true),(decide (e.natAbs≤2000000),true),(decide ([c].length+1≤9223372036854775807),true),(decide ((((c::r).length:Nat):Int)>1),false),(decide ((0:Int)≤1∧(1:Int)≤(((c::r).length:Nat):Int)),true)]:=by and_intros<;>kernel_rfl
theorem Zlv (c:UInt8) (r:List UInt8) (e:Int) (n:Bool) (hr:r.length≤100000) (he:e.natAbs≤2000000) (w:World):Calls prog 27 #[bR (c::r),.int .i64 e,.bool n] w fun x w'=>x= .returned (bR (txL n (c::r) e))∧Zak w w':=by
 have T:=Zp ZtA;have hx:=ZcT e;cases r with
 | nil=>
  cases n with
  | true=>
   have hv:txL true [c] e=45::([c]++[101]++ZaA e):=by unfold txL;simp
   rw[hv];exact Ze T (Z5m c [] e) (Za (Xa (by simp only[List.length_append,List.length_cons,List.length_nil];omega)) (Za (Xa (by simp only[List.length_append,List.length_cons,List.length_nil];omega)) (Za (Xa he) (Za (Xa (by simp only[List.length_cons,List.length_nil];omega)) (Za (Xb (by simp only[List.length_cons,List.length_nil];omega)) (Z4 (Xa ⟨by omega,by rw[List.length_cons];omega⟩))))))) (by rfl) (by rfl) w
  | false=>
   have hv:txL false [c] e=[c]++[101]++ZaA e:=by unfold txL;simp
   rw[hv];exact Ze T (Z5o c [] e) (Za (Xa (by simp only[List.length_append,List.length_cons,List.length_nil];omega)) (Za (Xa he) (Za (Xa (by simp only[List.length_cons,List.length_nil];omega)) (Za (Xb (by simp only[List.length_cons,List.length_nil];omega)) (Z4 (Xa ⟨by omega,by rw[List.length_cons];omega⟩)))))) (by rfl) (by rfl) w
 | cons d r=>
  rw[List.length_cons] at hr;cases n with
  | true=>
   have hv:txL true (c::d::r) e=45::((c::46::d::r)++[101]++ZaA e):=by unfold txL;simp
   rw[hv];exact Ze T (Z5l c (d::r) e) (Za (Xa (by simp only[List.length_append,List.length_cons,List.length_nil];omega)) (Za (Xa (by simp only[List.length_append,List.length_cons,List.length_nil];omega)) (Za (Xa he) (Za (Xa (by simp only[List.length_cons];omega)) (Za (Xa (by simp only[List.length_cons,List.length_nil];omega)) (Za (Xa ⟨by omega,by rw[List.length_cons];omega⟩) (Za (Xa (by simp only[List.length_cons,List.length_nil];omega)) (Za (Xa (by simp only[List.length_cons];omega)) (Z4 (Xa ⟨by omega,by rw[List.length_cons];omega⟩)))))))))) (by rfl) (by rfl) w
  | false=>
   have hv:txL false (c::d::r) e=(c::46::d::r)++[101]++ZaA e:=by unfold txL;simp
   rw[hv];exact Ze T (Z5n c (d::r) e) (Za (Xa (by simp only[List.length_append,List.length_cons,List.length_nil];omega)) (Za (Xa he) (Za (Xa (by simp only[List.length_cons];omega)) (Za (Xa (by simp only[List.length_cons,List.length_nil];omega)) (Za (Xa ⟨by omega,by rw[List.length_cons];omega⟩) (Za (Xa (by simp only[List.length_cons,List.length_nil];omega)) (Za (Xa (by simp only[List.length_cons];omega)) (Z4 (Xa ⟨by omega,by rw[List.length_cons];omega⟩))))))))) (by rfl) (by rfl) w
def ZAC:Ans:=fun vals s=>
 match vals with
 | [.string ⟨⟨c::r⟩⟩,.int .i64 e,.bool n]=>some (bR (txL n (c::r) e),s,[(decide (r.length≤100000∧e.natAbs≤2000000),true)])
 | _=>none
theorem Zzy:zw 27 ZAC:=by
 intro vals s v s' lg h hl w;unfold ZAC at h;split at h
 ·cases h;obtain⟨h1,h2⟩:=Xc (hl _ Xf);exact Zlv _ _ _ _ h1 h2 w
 ·cases h
end Go.Proofs.YtgefjidphfdhdaaGreatDoor
namespace Go.Proofs.YtgefjidphfdhdaaGreatDoor
open Go.Proofs.Tryz
open Go.IntKind
open Go.KRun Go.Nt
set_option maxRecDepth 100000
theorem ZpL:f160.body=some (ZZ (Z1j f160) (.seq (.seq (wR2 f160) (.block 0 (.loop (wLp f160)))) (wEn f160))):=by kernel_rfl
theorem ZtB (p:Option Addr) (n c:Nat) (k:Int) (h:Hp):Zg (evL (Zk prog Zf Zn hcV) 100 (Z1j f160) ([.slice p n c,.int .i64 k]++List.replicate 20 undef,h,[]) ⟨[],[],[]⟩) 6 16 none [.slice p n c,.int .i64 k,undef,undef,.int .i64 0,.int .u32 (atN (Zm h p n) (k16 k))] h [(zC h p n c,true)]:=by and_intros<;>kernel_rfl
theorem Zzz (a:Value) (k x:Int) (h:Hp) (g:Nat→Value):Zg (evC (Zk prog Zf Zn hcV) 100 false (wR2 f160) ([a,.int .i64 k,undef,undef,.int .i64 0,.int .u32 x]++tl 16 g,h,[]) ⟨[],[],[]⟩) 7 15 none [a,.int .i64 k,undef,undef,.int .i64 0,.int .u32 x,.int .i64 0] h []:=by and_intros<;>kernel_rfl
theorem Zz0 (a:Value) (k x i:Int) (h:Hp) (g:Nat→Value):Zg (evC (Zk prog Zf Zn hcV) 100 false (wLp f160) ([a,.int .i64 k,undef,undef,.int .i64 0,.int .u32 x,.int .i64 i]++tl 15 g,h,[cmp true,cmp true]) ⟨[],[],[]⟩) 7 15 none [a,.int .i64 k,undef,undef,.int .i64 0,.int .u32 (u32.wrap (x.tdiv 2)),.int .i64 (i64.wrap (i+1))] h [(decide (i<k.tmod 16),true),(decide ((16:Int)=0),false)]:=by and_intros<;>kernel_rfl
theorem ZtC (a:Value) (k x i:Int) (h:Hp) (g:Nat→Value):Zg (evC (Zk prog Zf Zn hcV) 100 false (wLp f160) ([a,.int .i64 k,undef,undef,.int .i64 0,.int .u32 x,.int .i64 i]++tl 15 g,h,[cmp true,cmp false]) ⟨[],[],[]⟩) 7 15 (some (some 0)) [a,.int .i64 k,undef,undef,.int .i64 0,.int .u32 x,.int .i64 i] h [(decide (i<k.tmod 16),false),(decide ((16:Int)=0),false)]:=by and_intros<;>kernel_rfl
theorem ZtD (a:Value) (k x i:Int) (h:Hp) (g:Nat→Value):Zg (evC (Zk prog Zf Zn hcV) 100 false (wEn f160) ([a,.int .i64 k,undef,undef,.int .i64 0,.int .u32 x,.int .i64 i]++tl 15 g,h,[cmp true]) ⟨[],[],[]⟩) 5 17 (some none) [a,.int .i64 k,undef,undef,.int .i64 (i64.wrap (x.tmod 2))] h [(decide ((2:Int)=0),false)]:=by and_intros<;>kernel_rfl
theorem ZpM (a:Value) (k x:Nat) (hx:x<65536) (h:Hp) (g:Nat→Value):
  Runs (Zk prog Zf Zn hcV) (.block 0 (.loop (wLp f160))) ([a,.int .i64 (k:Nat),undef,undef,.int .i64 0,.int .u32 (x:Nat),.int .i64 0]++tl 15 g,h,[]) fun e Y=>match e with | none=>(∃ g i,Y.1=[a,.int .i64 (k:Nat),undef,undef,.int .i64 0,.int .u32 ((x/2^(k % 16):Nat):Int),.int .i64 i]++tl 15 g)∧Y.2.1=h | some none=>False | some (some _)=>False:=by
 have em:(k:Int).tmod 16=((k % 16:Nat):Int):=by rw[Int.tmod_eq_emod_of_nonneg (by omega)];omega
 refine Runs.forLoop (P:=fun Y=>(∃ g i,Y.1=[a,.int .i64 (k:Nat),undef,undef,.int .i64 0,.int .u32 ((x/2^(k % 16):Nat):Int),.int .i64 i]++tl 15 g)∧Y.2.1=h) (R:=fun _=>False)
  (fun m Y=>∃ j:Nat,j≤k % 16∧m=k % 16-j∧(∃ g,Y.1=[a,.int .i64 (k:Nat),undef,undef,.int .i64 0,.int .u32 ((x/2^j:Nat):Int),.int .i64 (j:Nat)]++tl 15 g)∧Y.2.1=h) ?_ (n:=k % 16) ⟨0,by omega,by omega,⟨g,by simp⟩,rfl⟩
 rintro m ⟨t,h',s⟩ ⟨j,hj,hm,⟨g,ht⟩,hh⟩;simp only at ht hh;subst ht hh;have hle:x/2^j≤x:=Nat.div_le_self _ _;by_cases hlt:j<k % 16
 ·refine (Zc (Zh Zd Zy) (Zz0 a k _ j h' g) (Zj (by rw[em];exact Xa (by omega)) (Zv rfl))).mono fun e z hz=> ?_;obtain⟨rfl,⟨g',z1⟩,z2⟩:=hz;have e1:u32.wrap (((x/2^j:Nat):Int).tdiv 2)=((x/2^(j+1):Nat):Int):=by
   rw[Nat.pow_succ,← Nat.div_div_eq_div_mul];generalize x/2^j=y at hle ⊢;rw[Int.tdiv_eq_ediv_of_nonneg (by omega),zy (by omega) (by omega)];rfl
  have e2:i64.wrap ((j:Int)+1)=((j+1:Nat):Int):=by rw[Zw (by omega) (by omega)];omega
  exact⟨k % 16-(j+1),by omega,j+1,by omega,rfl,⟨g',by rw[z1,e1,e2]⟩,z2⟩
 ·have hj':j=k % 16:=by omega
  subst hj';refine (Zc (Zh Zd Zy) (ZtC a k _ _ h' g) (Zj (by rw[em];exact Xb (by omega)) (Zv rfl))).mono fun e z hz=> ?_;obtain⟨rfl,⟨g',z1⟩,z2⟩:=hz;exact⟨rfl,⟨g',_,z1⟩,z2⟩
def Zz1 (h:Hp) (p:Option Addr) (n c:Nat):Bool:=zC h p n c && dgB (Zm h p n) && Nat.blt n 1073741824
def Zz2:Zaf:=fun vals h s=>
 match vals with
 | [.slice p n c,.int .i64 k]=>some (.int .i64 ((vO h p n/2^k.toNat % 2:Nat):Int),h,s,[(Zz1 h p n c,true),(decide (0≤k∧k<4611686018427387904),true)])
 | _=>none
theorem Zv7 (L:List Int) (i:Nat):dgS L i=dgN L i:=rfl
theorem ZhC {x:List Value×TypeId}{i:Nat}{z:List Value×TypeId}(hz:(⟨1,[x]⟩:Hp).blk? i=some z):i=0∧z=x:=by
 have:i<1:=Hp.blk_lt hz;have hi:i=0:=by omega
 subst hi;exact⟨rfl,(Option.some.inj hz).symm⟩
theorem ZtE:Z8 160 Zz2:=by
 intro vals h s v h' s' lg hg hl m B w E hv;unfold Zz2 at hg;split at hg
 ·rename_i p n c k;cases hg;have q:=hl _ (Xe);have qk:=Xc (hl _ (Xd _ Xf));simp only[Zz1,Xh] at q;obtain⟨⟨q1,q2⟩,q3⟩:=q;have q2:=Zb7 q2;obtain⟨K,rfl⟩:=Int.eq_ofNat_of_zero_le qk.1;obtain⟨x,p',a,NA,eA,fA⟩:=ZbE 0 q1;obtain⟨rp,ro'⟩:=NA.row ⟨1,[x]⟩ rfl;have ek:k16 (K:Int)=((K/16:Nat):Int):=by unfold k16;rw[Int.tdiv_eq_ediv_of_nonneg (by omega),Zw (by omega) (by omega)];omega
  have hd:=zK q2 (K/16);have hr:Runs (Zk prog Zf Zn hcV) (ZZ (Z1j f160) (.seq (.seq (wR2 f160) (.block 0 (.loop (wLp f160)))) (wEn f160))) ([.slice p' n c,.int .i64 (K:Nat)]++List.replicate 20 undef,⟨1,[x]⟩,[]) fun e z=>(e=none∨e=some none)∧ZY prog f160 z.1 z.2.1=some (.int .i64 ((vO h p n/2^K % 2:Nat):Int)):=by
   refine Z2 (Zh Zd Zy) (ZtB p' n c K _) (Zv rp) fun g=> ?_;rw[ro',ek,Zay,← hd.2];refine Runs.seq (P1:=fun e Y=>match e with | none=>(∃ g i,Y.1=[.slice p' n c,.int .i64 (K:Nat),undef,undef,.int .i64 0,.int .u32 ((dgN (Zm h p n) (K/16)/2^(K % 16):Nat):Int),.int .i64 i]++tl 15 g)∧Y.2.1=⟨1,[x]⟩ | some none=>False | some (some _)=>False) (Runs.seq (P1:=fun e Y=>e=none∧(∃ g,Y.1=[.slice p' n c,.int .i64 (K:Nat),undef,undef,.int .i64 0,.int .u32 ((dgN (Zm h p n) (K/16):Nat):Int),.int .i64 0]++tl 15 g)∧Y.2.1=⟨1,[x]⟩) (Zc (Zh Zd Zy) (Zzz _ K _ _ g) (fun x hx=>by cases hx)) ?_ (fun e y he=>by cases he.1)) ?_ (fun e Y he=>by match e,he with | none,he=>exact he.elim | some id,he=>exact he.elim)
   ·rintro⟨t,h',s⟩ ⟨_,⟨g',ht⟩,hh⟩;simp only at ht hh;subst ht hh;exact Runs.script (ZpM _ K _ hd.1 _ g')
   ·rintro⟨t,h',s⟩ ⟨⟨g',i,ht⟩,hh⟩;simp only at ht hh;subst ht hh;refine (Zc (Zh Zd Zy) (ZtD _ _ _ _ _ g') (Zv rfl)).mono fun e z hz=> ?_;obtain⟨rfl,⟨g2,z1⟩,z2⟩:=hz;refine⟨.inr rfl,?_⟩;have e1:i64.wrap ((((dgN (Zm h p n) (K/16)/2^(K % 16):Nat):Int)).tmod 2)=((vO h p n/2^K % 2:Nat):Int):=by
     unfold vO;rw[Z2q q2 K,Zv7];generalize dgN (Zm h p n) (K/16)/2^(K % 16)=y;rw[Int.tmod_eq_emod_of_nonneg (by omega),Zw (by omega) (by omega)];rfl
    rw[z1,z2,e1];rfl
  have:=Z9 (T:=Zk prog Zf Zn hcV) func160 ZpL (h0:=⟨1,[x]⟩) ⟨rfl,fun b z hz=>by obtain⟨_,rfl⟩:=ZhC hz;exact⟨NA.ros.1,NA.lt0,NA.ros.2⟩⟩ (vals:=[.slice p' n c,.int .i64 (K:Nat)]) (fun v hv=>by
   simp only[List.mem_cons,List.not_mem_nil,or_false] at hv;rcases hv with rfl | rfl
   ·exact NA.lt (by show 0<1;omega)
   ·rfl) (by rfl) hr.w E (s:=fun _=>a) (fun i z hz ht=>by obtain⟨_,rfl⟩:=ZhC hz;exact fA ht)
  simp only[List.map_cons,List.map_nil] at this;rw[eA _ rfl] at this;exact this
 ·cases hg
def rB (F:Func):Code:=Z0 (Z0 (Z0 (Z0 (Zs F))))
def rPr (F:Func):List Code:=[Z1 (Zs F),Z1 (Z0 (Zs F)),Z1 (Z0 (Z0 (Zs F))),Z1 (Z0 (Z0 (Z0 (Zs F))))]
def rR5 (F:Func):Code:=Z1 (Z1 (rB F))
def rL1 (F:Func):Code:=cIn (cIn (Z0 (Z1 (rB F))))
def rC (F:Func):Code:=Z0 (rB F)
def rIf (F:Func):Code:=Z1 (rC F)
def ZAD (F:Func):Code:=Z1 (Z0 (rC F))
def rD (F:Func):Code:=Z0 (Z0 (rC F))
def ZAE (F:Func):Code:=Z1 (Z1 (rD F))
def rL2 (F:Func):Code:=cIn (cIn (Z0 (Z1 (rD F))))
def Z7w (F:Func):Code:=Z1 (Z0 (rD F))
def ZAF (F:Func):Code:=Z1 (Z0 (Z0 (rD F)))
def rE (F:Func):Code:=Z0 (Z0 (Z0 (rD F)))
def ZAG (F:Func):Code:=Z1 (Z1 (rE F))
def rL3 (F:Func):Code:=cIn (cIn (Z0 (Z1 (rE F))))
def rEn (F:Func):Code:=Z0 (rE F)
theorem ZpN:f159.body=some (ZZ (rPr f159) (.seq (.seq (rR5 f159) (.block 0 (.loop (rL1 f159)))) (.seq (rIf f159) (.seq (ZAD f159) (.seq (.seq (ZAE f159) (.block 2 (.loop (rL2 f159)))) (.seq (Z7w f159) (.seq (ZAF f159) (.seq (.seq (ZAG f159) (.block 4 (.loop (rL3 f159)))) (rEn f159))))))))):=by kernel_rfl
theorem Zlw:f159.body=some (Zs f159):=by kernel_rfl
theorem Zz3 (p:Option Addr) (n c:Nat) (k:Int) (h:Hp):Zg (evL (Zk prog Zf Zn hcV) 100 (rPr f159) ([.slice p n c,.int .i64 k]++List.replicate 87 undef,h,[cmp false]) ⟨[],[],[]⟩) 8 81 none [.slice p n c,.int .i64 k,undef,undef,Zo,.bool false,.bool false,.int .i64 (k16 k)] h [(decide (k≤0),false)]:=by and_intros<;>kernel_rfl
theorem Z5p (a:Value) (k b:Int) (h:Hp) (g:Nat→Value):Zg (evC (Zk prog Zf Zn hcV) 100 false (rR5 f159) ([a,.int .i64 k,undef,undef,Zo,.bool false,.bool false,.int .i64 b]++tl 81 g,h,[]) ⟨[],[],[]⟩) 9 80 none [a,.int .i64 k,undef,undef,Zo,.bool false,.bool false,.int .i64 b,.int .i64 0] h []:=by and_intros<;>kernel_rfl
theorem Zz4 (p:Option Addr) (n c:Nat) (k b i:Int) (h:Hp) (g:Nat→Value):Zg (evC (Zk prog Zf Zn hcV) 100 false (rL1 f159) ([.slice p n c,.int .i64 k,undef,undef,Zo,.bool false,.bool true,.int .i64 b,.int .i64 i]++tl 80 g,h,[cmp true,cmp true]) ⟨[],[],[]⟩) 9 80 none [.slice p n c,.int .i64 k,undef,undef,Zo,.bool false,.bool true,.int .i64 b,.int .i64 (i64.wrap (i+1))] h [(decide (i<n),true),(decide (i<b),true)]:=by and_intros<;>kernel_rfl
theorem Zz5 (o n c:Nat) (k b i x:Int) (l:List Value) (d:Bool) (g:Nat→Value):Zg (evC (Zk prog Zf Zn hcV) 100 false (rL1 f159) ([sl 0 o n c,.int .i64 k,undef,undef,Zo,.bool false,.bool false,.int .i64 b,.int .i64 i]++tl 80 g,⟨1,[(l,tR)]⟩,[cmp true,cmp true,at_,val (.int .u32 x),cmp d]) ⟨[],[],[]⟩) 9 80 none [sl 0 o n c,.int .i64 k,undef,undef,Zo,.bool false,.bool d,.int .i64 b,.int .i64 (i64.wrap (i+1))] ⟨1,[(l,tR)]⟩ [(x !=0,d),(Z5 (l[o+i.toNat*1]?) (.int .u32 x),true),(decide (0≤i∧i<n),true),(decide (i<n),true),(decide (i<b),true)]:=by and_intros<;>kernel_rfl
theorem Zz6 (p:Option Addr) (n c:Nat) (k b i:Int) (e:Bool) (h:Hp) (g:Nat→Value):Zg (evC (Zk prog Zf Zn hcV) 100 false (rL1 f159) ([.slice p n c,.int .i64 k,undef,undef,Zo,.bool false,.bool e,.int .i64 b,.int .i64 i]++tl 80 g,h,[cmp false]) ⟨[],[],[]⟩) 9 80 (some (some 0)) [.slice p n c,.int .i64 k,undef,undef,Zo,.bool false,.bool e,.int .i64 b,.int .i64 i] h [(decide (i<b),false)]:=by and_intros<;>kernel_rfl
theorem Zz7 (p:Option Addr) (n c:Nat) (k b i:Int) (e:Bool) (h:Hp) (g:Nat→Value):Zg (evC (Zk prog Zf Zn hcV) 100 false (rL1 f159) ([.slice p n c,.int .i64 k,undef,undef,Zo,.bool false,.bool e,.int .i64 b,.int .i64 i]++tl 80 g,h,[cmp true,cmp false]) ⟨[],[],[]⟩) 9 80 (some (some 0)) [.slice p n c,.int .i64 k,undef,undef,Zo,.bool false,.bool e,.int .i64 b,.int .i64 i] h [(decide (i<n),false),(decide (i<b),true)]:=by and_intros<;>kernel_rfl
theorem Zz8 (p:Option Addr) (n c:Nat) (k b i:Int) (e:Bool) (h:Hp) (g:Nat→Value):Zg (evC (Zk prog Zf Zn hcV) 100 false (rIf f159) ([.slice p n c,.int .i64 k,undef,undef,Zo,.bool false,.bool e,.int .i64 b,.int .i64 i]++tl 80 g,h,[cmp true]) ⟨[],[],[]⟩) 6 83 (some none) [.slice p n c,.int .i64 k,undef,undef,Zo,.bool e] h [(decide (b≥n),true)]:=by and_intros<;>kernel_rfl
theorem Zz9 (p:Option Addr) (n c:Nat) (k b i:Int) (e:Bool) (h:Hp) (g:Nat→Value):Zg (evC (Zk prog Zf Zn hcV) 100 false (rIf f159) ([.slice p n c,.int .i64 k,undef,undef,Zo,.bool false,.bool e,.int .i64 b,.int .i64 i]++tl 80 g,h,[cmp false]) ⟨[],[],[]⟩) 9 80 none [.slice p n c,.int .i64 k,undef,undef,Zo,.bool false,.bool e,.int .i64 b,.int .i64 i] h [(decide (b≥n),false)]:=by and_intros<;>kernel_rfl
theorem ZzA (a:Value) (k b i:Int) (e:Bool) (h:Hp) (g:Nat→Value):Zg (evC (Zk prog Zf Zn hcV) 100 false (ZAD f159) ([a,.int .i64 k,undef,undef,Zo,.bool false,.bool e,.int .i64 b,.int .i64 i]++tl 80 g,h,[]) ⟨[],[],[]⟩) 10 79 none [a,.int .i64 k,undef,undef,Zo,.bool false,.bool e,.int .i64 b,.int .i64 i,.int .u32 1] h []:=by and_intros<;>kernel_rfl
theorem ZzB (a:Value) (k b i:Int) (e:Bool) (h:Hp) (g:Nat→Value):Zg (evC (Zk prog Zf Zn hcV) 100 false (ZAE f159) ([a,.int .i64 k,undef,undef,Zo,.bool false,.bool e,.int .i64 b,.int .i64 i,.int .u32 1]++tl 79 g,h,[]) ⟨[],[],[]⟩) 11 78 none [a,.int .i64 k,undef,undef,Zo,.bool false,.bool e,.int .i64 b,.int .i64 i,.int .u32 1,.int .i64 0] h []:=by and_intros<;>kernel_rfl
theorem Z5q (a:Value) (k b u i q:Int) (e:Bool) (h:Hp) (g:Nat→Value):Zg (evC (Zk prog Zf Zn hcV) 100 false (rL2 f159) ([a,.int .i64 k,undef,undef,Zo,.bool false,.bool e,.int .i64 b,.int .i64 u,.int .u32 q,.int .i64 i]++tl 78 g,h,[cmp true,cmp true]) ⟨[],[],[]⟩) 11 78 none [a,.int .i64 k,undef,undef,Zo,.bool false,.bool e,.int .i64 b,.int .i64 u,.int .u32 (u32.wrap (2*q)),.int .i64 (i64.wrap (i+1))] h [(decide (i<k.tmod 16),true),(decide ((16:Int)=0),false)]:=by and_intros<;>kernel_rfl
theorem Z5r (a:Value) (k b u i q:Int) (e:Bool) (h:Hp) (g:Nat→Value):Zg (evC (Zk prog Zf Zn hcV) 100 false (rL2 f159) ([a,.int .i64 k,undef,undef,Zo,.bool false,.bool e,.int .i64 b,.int .i64 u,.int .u32 q,.int .i64 i]++tl 78 g,h,[cmp true,cmp false]) ⟨[],[],[]⟩) 11 78 (some (some 2)) [a,.int .i64 k,undef,undef,Zo,.bool false,.bool e,.int .i64 b,.int .i64 u,.int .u32 q,.int .i64 i] h [(decide (i<k.tmod 16),false),(decide ((16:Int)=0),false)]:=by and_intros<;>kernel_rfl
theorem ZzC (a:Value) (k b u i q:Int) (h:Hp) (g:Nat→Value):Zg (evC (Zk prog Zf Zn hcV) 100 false (Z7w f159) ([a,.int .i64 k,undef,undef,Zo,.bool false,.bool true,.int .i64 b,.int .i64 u,.int .u32 q,.int .i64 i]++tl 78 g,h,[]) ⟨[],[],[]⟩) 11 78 none [a,.int .i64 k,undef,undef,Zo,.bool false,.bool true,.int .i64 b,.int .i64 u,.int .u32 q,.int .i64 i] h []:=by and_intros<;>kernel_rfl
theorem ZzD (o n c:Nat) (k b u i q x:Int) (l:List Value) (d:Bool) (g:Nat→Value):Zg (evC (Zk prog Zf Zn hcV) 100 false (Z7w f159) ([sl 0 o n c,.int .i64 k,undef,undef,Zo,.bool false,.bool false,.int .i64 b,.int .i64 u,.int .u32 q,.int .i64 i]++tl 78 g,⟨1,[(l,tR)]⟩,[at_,val (.int .u32 x),cmp false,cmp d]) ⟨[],[],[]⟩) 11 78 none [sl 0 o n c,.int .i64 k,undef,undef,Zo,.bool false,.bool d,.int .i64 b,.int .i64 u,.int .u32 q,.int .i64 i] ⟨1,[(l,tR)]⟩ [(x.tmod q !=0,d),(decide (q=0),false),(Z5 (l[o+b.toNat*1]?) (.int .u32 x),true),(decide (0≤b∧b<n),true)]:=by and_intros<;>kernel_rfl
theorem ZzE (a:Value) (k b u i q:Int) (e:Bool) (h:Hp) (g:Nat→Value):Zg (evC (Zk prog Zf Zn hcV) 100 false (ZAF f159) ([a,.int .i64 k,undef,undef,Zo,.bool false,.bool e,.int .i64 b,.int .i64 u,.int .u32 q,.int .i64 i]++tl 78 g,h,[]) ⟨[],[],[]⟩) 12 77 none [a,.int .i64 k,undef,undef,Zo,.bool false,.bool e,.int .i64 b,.int .i64 u,.int .u32 q,.int .i64 i,Zo] h []:=by and_intros<;>kernel_rfl
theorem ZzF (a:Value) (k b u i q:Int) (e:Bool) (h:Hp) (g:Nat→Value):Zg (evC (Zk prog Zf Zn hcV) 100 false (ZAG f159) ([a,.int .i64 k,undef,undef,Zo,.bool false,.bool e,.int .i64 b,.int .i64 u,.int .u32 q,.int .i64 i,Zo]++tl 77 g,h,[]) ⟨[],[],[]⟩) 13 76 none [a,.int .i64 k,undef,undef,Zo,.bool false,.bool e,.int .i64 b,.int .i64 u,.int .u32 q,.int .i64 i,Zo,.int .i64 b] h []:=by and_intros<;>kernel_rfl
theorem Zv8 (p:Option Addr) (n c:Nat) (v:Value) (k b u u2 i q:Int) (e:Bool) (h:Hp) (g:Nat→Value):Zg (evC (Zk prog Zf Zn hcV) 100 false (rL3 f159) ([.slice p n c,.int .i64 k,undef,undef,Zo,.bool false,.bool e,.int .i64 b,.int .i64 u,.int .u32 q,.int .i64 u2,v,.int .i64 i]++tl 76 g,h,[cmp false]) ⟨[],[],[]⟩) 13 76 (some (some 4)) [.slice p n c,.int .i64 k,undef,undef,Zo,.bool false,.bool e,.int .i64 b,.int .i64 u,.int .u32 q,.int .i64 u2,v,.int .i64 i] h [(decide (i<n),false)]:=by and_intros<;>kernel_rfl
def dwn (h:Hp) (o n:Nat) (i q q1 q2:Int):Int:=u32.wrap (q1+u32.wrap ((atN (Zm h (some ⟨0,o,none⟩) n) (i64.wrap (i+1))).tmod q*q2))
def lDw (h:Hp) (l:List Value) (o n c:Nat) (i q x q1 q2:Int):Log:=[(decide (q=0),false),(zC h (some ⟨0,o,none⟩) n c,true),(decide (q=0),false),(decide (u32.wrap (Int.tdiv 65536 q)=q2),true),(decide (q=0),false),(decide (u32.wrap (x.tdiv q)=q1),true),(Z5 (l[o+i.toNat*1]?) (.int .u32 x),true),(decide (0≤i∧i<n),true),(decide (i<n),true)]
theorem ZzG (o n c:Nat) (k b u u2 i q x q1 q2:Int) (e:Bool) (l:List Value) (g:Nat→Value):Zg (evC (Zk prog Zf Zn hcV) 100 false (rL3 f159) ([sl 0 o n c,.int .i64 k,undef,undef,Zo,.bool false,.bool e,.int .i64 b,.int .i64 u,.int .u32 q,.int .i64 u2,Zo,.int .i64 i]++tl 76 g,⟨1,[(l,tR)]⟩,[cmp true,at_,val (.int .u32 x),num q1,num q2,cmp false]) ⟨[],[],[]⟩) 13 76 none [sl 0 o n c,.int .i64 k,undef,undef,Zo,.bool false,.bool e,.int .i64 b,.int .i64 u,.int .u32 q,.int .i64 u2,sl 2 0 1 grown,.int .i64 (i64.wrap (i+1))] ⟨3,[([.int .u32 (dwn ⟨1,[(l,tR)]⟩ o n i q q1 q2)],tU),([.int .u32 (dwn ⟨1,[(l,tR)]⟩ o n i q q1 q2)],tU),(l,tR)]⟩ (lDw ⟨1,[(l,tR)]⟩ l o n c i q x q1 q2):=by and_intros<;>kernel_rfl
theorem ZzH (o n c z:Nat) (k b u u2 i q x q1 q2:Int) (e:Bool) (l lo:List Value) (g:Nat→Value):Zg (evC (Zk prog Zf Zn hcV) 100 false (rL3 f159) ([sl 0 o n c,.int .i64 k,undef,undef,Zo,.bool false,.bool e,.int .i64 b,.int .i64 u,.int .u32 q,.int .i64 u2,sl 1 0 z grown,.int .i64 i]++tl 76 g,⟨2,[(lo,tU),(l,tR)]⟩,[cmp true,at_,val (.int .u32 x),num q1,num q2,cmp false,at_]) ⟨[],[],[]⟩) 13 76 none [sl 0 o n c,.int .i64 k,undef,undef,Zo,.bool false,.bool e,.int .i64 b,.int .i64 u,.int .u32 q,.int .i64 u2,sl 3 0 (z+1) grown,.int .i64 (i64.wrap (i+1))] ⟨4,[(lo++[.int .u32 (dwn ⟨2,[(lo,tU),(l,tR)]⟩ o n i q q1 q2)],tU),([.int .u32 (dwn ⟨2,[(lo,tU),(l,tR)]⟩ o n i q q1 q2)],tU),([],2*za),(l,tR)]⟩ ((zY tU (lo,tU) ([.int .u32 (dwn ⟨2,[(lo,tU),(l,tR)]⟩ o n i q q1 q2)],tU) z 0 1,true)::lDw ⟨2,[(lo,tU),(l,tR)]⟩ l o n c i q x q1 q2):=by and_intros<;>kernel_rfl
theorem ZzI (a:Value) (k b u u2 q u3:Int) (e:Bool) (z:Nat) (x:List Value×TypeId) (lo:List Value) (g:Nat→Value):Zg (evC (Zk prog Zf Zn hcV) 100 false (rEn f159) ([a,.int .i64 k,undef,undef,Zo,.bool false,.bool e,.int .i64 b,.int .i64 u,.int .u32 q,.int .i64 u2,sl 1 0 z grown,.int .i64 u3]++tl 76 g,⟨2,[(lo,tU),x]⟩,[]) ⟨[],[],[]⟩) 6 83 (some none) [a,.int .i64 k,undef,undef,sl 1 0 (Zi (Zz lo 0 z)) (Zi (Zz lo 0 z)),.bool e] ⟨2,[(lo,tU),x]⟩ [(ZaW tU lo 0 z grown,true)]:=by and_intros<;>kernel_rfl
theorem ZpO (p:Option Addr) (c:Nat) (k:Int) (h:Hp):Zg (evC (Zk prog Zf Zn hcV) 100 false (Zs f159) ([.slice p 0 c,.int .i64 k]++List.replicate 87 undef,h,[cmp false,cmp true,cmp false,cmp true]) ⟨[],[],[]⟩) 6 83 (some none) [.slice p 0 c,.int .i64 k,undef,undef,Zo,.bool false] h [(decide (k16 k≥((0:Nat):Int)),true),(decide ((0:Int)<((0:Nat):Int)),false),(decide (0<k16 k),true),(decide (k≤0),false)]:=by and_intros<;>kernel_rfl
theorem Zlx (p:Option Addr) (c:Nat) (k:Int) (h:Hp):Zg (evC (Zk prog Zf Zn hcV) 100 false (Zs f159) ([.slice p 0 c,.int .i64 k]++List.replicate 87 undef,h,[cmp false,cmp false,cmp true]) ⟨[],[],[]⟩) 6 83 (some none) [.slice p 0 c,.int .i64 k,undef,undef,Zo,.bool false] h [(decide (k16 k≥((0:Nat):Int)),true),(decide (0<k16 k),false),(decide (k≤0),false)]:=by and_intros<;>kernel_rfl
section
variable {l : List Value} {o c : Nat} {A : List Int}
theorem ZpP (A:List Int) (j:Nat):vb 65536 (A.take (j+1))=vb 65536 (A.take j)+65536^j*dgN A j:=Za9 65536 A j
theorem Zly (hR:Row l o A) (hA:∀ x∈A,Dg 65536 x) (hn:A.length<1073741824) (k:Int) {z:Nat}(hz:z<4611686018427387904) (g:Nat→Value):
  Runs (Zk prog Zf Zn hcV) (.block 0 (.loop (rL1 f159))) ([sl 0 o A.length c,.int .i64 k,undef,undef,Zo,.bool false,.bool false,.int .i64 (z:Nat),.int .i64 0]++tl 80 g,⟨1,[(l,tR)]⟩,[]) fun e Y=>match e with | none=>(∃ g u,Y.1=[sl 0 o A.length c,.int .i64 k,undef,undef,Zo,.bool false,.bool (decide (vb 65536 (A.take z)≠0)),.int .i64 (z:Nat),.int .i64 u]++tl 80 g)∧Y.2.1=⟨1,[(l,tR)]⟩ | some none=>False | some (some _)=>False:=by
 refine Runs.forLoop (P:=fun Y=>(∃ g u,Y.1=[sl 0 o A.length c,.int .i64 k,undef,undef,Zo,.bool false,.bool (decide (vb 65536 (A.take z)≠0)),.int .i64 (z:Nat),.int .i64 u]++tl 80 g)∧Y.2.1=⟨1,[(l,tR)]⟩) (R:=fun _=>False)
  (fun m Y=>∃ j:Nat,j≤z∧j≤A.length∧m=A.length-j∧(∃ g,Y.1=[sl 0 o A.length c,.int .i64 k,undef,undef,Zo,.bool false,.bool (decide (vb 65536 (A.take j)≠0)),.int .i64 (z:Nat),.int .i64 (j:Nat)]++tl 80 g)∧Y.2.1=⟨1,[(l,tR)]⟩) ?_ (n:=A.length) ⟨0,by omega,by omega,by omega,⟨g,by simp [vb]⟩,rfl⟩
 rintro m ⟨t,h',s⟩ ⟨j,hj,hj',hm,⟨g,ht⟩,hh⟩;simp only at ht hh;subst ht hh;have e2:i64.wrap ((j:Int)+1)=((j+1:Nat):Int):=by rw[Zw (by omega) (by omega)];omega
 have hs:=ZpP A j;have hp:0<65536^j:=Nat.pow_pos (by omega);by_cases h1:j<z
 ·by_cases h2:j<A.length
  ·have hd:=zK hA j;by_cases h0:vb 65536 (A.take j)=0
   ·have ef:decide (vb 65536 (A.take j)≠0)=false:=Xb (by omega);rw[ef];refine (Zc (Zh Zd Zy) (Zz5 o A.length c k z j (A.getD j 0) l (A.getD j 0 !=0) g) (Zj rfl (Zj (by rw[Xg,Nat.mul_one,hR.cell h2];simp [Z5]) (Zj (Xa (by omega)) (Zj (Xa (by omega)) (Zv (Xa (by omega)))))))).mono fun e w hw=> ?_;obtain⟨rfl,⟨g',z1⟩,z2⟩:=hw;have e3:(A.getD j 0 !=0)=decide (vb 65536 (A.take (j+1))≠0):=by
     rw[hs,h0,Nat.zero_add,← hd.2,Bool.eq_iff_iff];simp only[bne_iff_ne,ne_eq,Xi,Nat.mul_eq_zero];omega
    exact⟨A.length-(j+1),by omega,j+1,by omega,by omega,rfl,⟨g',by rw[z1,e2,e3]⟩,z2⟩
   ·have ef:decide (vb 65536 (A.take j)≠0)=true:=Xa h0;rw[ef];refine (Zc (Zh Zd Zy) (Zz4 _ A.length c k z j _ g) (Zj (Xa (by omega)) (Zv (Xa (by omega))))).mono fun e w hw=> ?_;obtain⟨rfl,⟨g',z1⟩,z2⟩:=hw;have e3:true=decide (vb 65536 (A.take (j+1))≠0):=(Xa (by rw[hs];omega)).symm;exact⟨A.length-(j+1),by omega,j+1,by omega,by omega,rfl,⟨g',by rw[z1,e2,← e3];rfl⟩,z2⟩
  ·have hjl:A.take j=A.take z:=by rw[List.take_of_length_le (by omega),List.take_of_length_le (by omega)]
   rw[hjl];refine (Zc (Zh Zd Zy) (Zz7 _ A.length c k z j _ _ g) (Zj (Xb (by omega)) (Zv (Xa (by omega))))).mono fun e w hw=> ?_;obtain⟨rfl,⟨g',z1⟩,z2⟩:=hw;exact⟨rfl,⟨g',_,z1⟩,z2⟩
 ·have hjz:j=z:=by omega
  subst hjz;refine (Zc (Zh Zd Zy) (Zz6 _ A.length c k j j _ _ g) (Zv (Xb (by omega)))).mono fun e w hw=> ?_;obtain⟨rfl,⟨g',z1⟩,z2⟩:=hw;exact⟨rfl,⟨g',_,z1⟩,z2⟩
theorem Zlz (a:Value) (k:Nat) (b u:Int) (e:Bool) (h:Hp) (g:Nat→Value):
  Runs (Zk prog Zf Zn hcV) (.block 2 (.loop (rL2 f159))) ([a,.int .i64 (k:Nat),undef,undef,Zo,.bool false,.bool e,.int .i64 b,.int .i64 u,.int .u32 1,.int .i64 0]++tl 78 g,h,[]) fun ex Y=>match ex with | none=>(∃ g u2,Y.1=[a,.int .i64 (k:Nat),undef,undef,Zo,.bool false,.bool e,.int .i64 b,.int .i64 u,.int .u32 ((2^(k % 16):Nat):Int),.int .i64 u2]++tl 78 g)∧Y.2.1=h | some none=>False | some (some _)=>False:=by
 have em:(k:Int).tmod 16=((k % 16:Nat):Int):=by rw[Int.tmod_eq_emod_of_nonneg (by omega)];omega
 refine Runs.forLoop (P:=fun Y=>(∃ g u2,Y.1=[a,.int .i64 (k:Nat),undef,undef,Zo,.bool false,.bool e,.int .i64 b,.int .i64 u,.int .u32 ((2^(k % 16):Nat):Int),.int .i64 u2]++tl 78 g)∧Y.2.1=h) (R:=fun _=>False)
  (fun m Y=>∃ j:Nat,j≤k % 16∧m=k % 16-j∧(∃ g,Y.1=[a,.int .i64 (k:Nat),undef,undef,Zo,.bool false,.bool e,.int .i64 b,.int .i64 u,.int .u32 ((2^j:Nat):Int),.int .i64 (j:Nat)]++tl 78 g)∧Y.2.1=h) ?_ (n:=k % 16) ⟨0,by omega,by omega,⟨g,rfl⟩,rfl⟩
 rintro m ⟨t,h',s⟩ ⟨j,hj,hm,⟨g,ht⟩,hh⟩;simp only at ht hh;subst ht hh;by_cases hlt:j<k % 16
 ·refine (Zc (Zh Zd Zy) (Z5q a k b u j _ e h' g) (Zj (by rw[em];exact Xa (by omega)) (Zv rfl))).mono fun ex w hw=> ?_;obtain⟨rfl,⟨g',z1⟩,z2⟩:=hw;have hp:2^j≤32768:=by
   have:=Nat.pow_le_pow_right (show 0<2 by omega) (show j≤15 by omega);omega
  have e1:u32.wrap (2*((2^j:Nat):Int))=((2^(j+1):Nat):Int):=by
   rw[Nat.pow_succ];generalize 2^j=Q at hp ⊢;rw[zy (by omega) (by omega)];omega
  have e2:i64.wrap ((j:Int)+1)=((j+1:Nat):Int):=by rw[Zw (by omega) (by omega)];omega
  exact⟨k % 16-(j+1),by omega,j+1,by omega,rfl,⟨g',by rw[z1,e1,e2]⟩,z2⟩
 ·have hj':j=k % 16:=by omega
  subst hj';refine (Zc (Zh Zd Zy) (Z5r a k b u _ _ e h' g) (Zj (by rw[em];exact Xb (by omega)) (Zv rfl))).mono fun ex w hw=> ?_;obtain⟨rfl,⟨g',z1⟩,z2⟩:=hw;exact⟨rfl,⟨g',_,z1⟩,z2⟩
def Fst (l:List Value) (o c:Nat) (A:List Int):Prop:=∀ h:Hp,h.blk? 0=some (l,tR)→zC h (some ⟨0,o,none⟩) A.length c=true∧Zm h (some ⟨0,o,none⟩) A.length=A
def dwV (A:List Int) (P R i:Nat):Nat:=dgN A i/P+dgN A (i+1) % P*R
def rSt (l:List Value) (o c:Nat) (A:List Int) (k b u u2:Int) (e:Bool) (P j i:Nat) (O:List Int) (Y:Lf):Prop:=
 (j=0∧(∃ g,Y.1=[sl 0 o A.length c,.int .i64 k,undef,undef,Zo,.bool false,.bool e,.int .i64 b,.int .i64 u,.int .u32 (P:Nat),.int .i64 u2,Zo,.int .i64 (i:Nat)]++tl 76 g)∧Y.2.1=⟨1,[(l,tR)]⟩)∨
 (0<j∧(∃ g,Y.1=[sl 0 o A.length c,.int .i64 k,undef,undef,Zo,.bool false,.bool e,.int .i64 b,.int .i64 u,.int .u32 (P:Nat),.int .i64 u2,sl 1 0 j grown,.int .i64 (i:Nat)]++tl 76 g)∧Y.2.1=⟨2,[(wU O,tU),(l,tR)]⟩)
theorem Zl0 (hR:Row l o A) (hF:Fst l o c A) (hs:∀ v∈l,still v=true) (hA:∀ x∈A,Dg 65536 x) (hn:A.length+2<1073741824) {k b u u2:Int}{e:Bool}{P R j i:Nat}{O:List Int}(hP:0<P) (hPR:P*R=65536) (hO:O.length=j) (hj:j≤i) (hi:i<A.length) {Y:Lf}(hY:rSt l o c A k b u u2 e P j i O Y):
  RunsW (Zk prog Zf Zn hcV) (rL3 f159) Y fun ex W=>ex=none∧(∃ g,W.1=[sl 0 o A.length c,.int .i64 k,undef,undef,Zo,.bool false,.bool e,.int .i64 b,.int .i64 u,.int .u32 (P:Nat),.int .i64 u2,sl 1 0 (j+1) grown,.int .i64 ((i+1:Nat):Int)]++tl 76 g)∧W.2.1=⟨2,[(wU (O++[((dwV A P R i:Nat):Int)]),tU),(l,tR)]⟩:=by
 obtain⟨t,h',s⟩:=Y;have hd:=zK hA i;have hd1:=zK hA (i+1);have hPb:P≤65536:=by
  rcases Nat.eq_zero_or_pos R with h0 | h0
  ·rw[h0] at hPR;omega
  ·have:=Nat.mul_le_mul_left P h0;omega
 have hRb:R≤65536:=by
  have:=Nat.mul_le_mul_right R hP;omega
 have e3:i64.wrap ((i:Int)+1)=((i+1:Nat):Int):=by rw[Zw (by omega) (by omega)];omega
 have ne0:decide ((P:Int)=0)=false:=Xb (by omega);have hdiv:dgN A i/P≤dgN A i:=Nat.div_le_self _ _;have eq1:u32.wrap ((A.getD i 0).tdiv (P:Int))=((dgN A i/P:Nat):Int):=by
  rw[← hd.2,Int.tdiv_eq_ediv_of_nonneg (by omega),show ((dgN A i:Nat):Int)/(P:Int)=((dgN A i/P:Nat):Int) from rfl];generalize dgN A i/P=y at hdiv ⊢;exact zy (by omega) (by omega)
 have eq2:u32.wrap (Int.tdiv 65536 (P:Int))=(R:Int):=by
  have:65536/P=R:=by rw[← hPR,Nat.mul_div_cancel_left _ hP]
  rw[Int.tdiv_eq_ediv_of_nonneg (by omega),show (65536:Int)/(P:Int)=((65536/P:Nat):Int) from rfl,this];exact zy (by omega) (by omega)
 have hlt:=Zn3 (x1:=dgN A (i+1)) hP hPR hd.1;have hdw:∀ h:Hp,h.blk? 0=some (l,tR)→dwn h o A.length i P ((dgN A i/P:Nat):Int) R=((dwV A P R i:Nat):Int):=fun h hh=>by
  unfold dwn dwV;rw[(hF h hh).2,e3,Zay,← hd1.2,Int.tmod_eq_emod_of_nonneg (by omega),show ((dgN A (i+1):Nat):Int) % (P:Int)=((dgN A (i+1) % P:Nat):Int) from rfl,show ((dgN A (i+1) % P:Nat):Int)*(R:Int)=((dgN A (i+1) % P*R:Nat):Int) from by simp];generalize dgN A i/P=y1 at hlt ⊢;generalize dgN A (i+1) % P*R=y2 at hlt ⊢;rw[zy (n:=(y2:Int)) (by omega) (by omega),zy (by omega) (by omega)];omega
 have hlog:∀ h:Hp,h.blk? 0=some (l,tR)→Zx (lDw h l o A.length c i P (A.getD i 0) ((dgN A i/P:Nat):Int) R):=fun h hh=>Zj ne0 (Zj (hF h hh).1 (Zj ne0 (Zj (Xa eq2) (Zj ne0 (Zj (Xa eq1) (Zj (by
  show Z5 (l[o+(i:Int).toNat*1]?) _=true;rw[Xg,Nat.mul_one,hR.cell hi];simp [Z5]) (Zj (Xa (by omega)) (Zv (Xa (by omega))))))))))
 have key:∀ {h:Hp}{bb:Nat},1≤bb→h.blk? 0=some (l,tR)→h.blk? bb=some (wU (O++[((dwV A P R i:Nat):Int)]),tU)→RunsW (Zk prog Zf Zn hcV) (rL3 f159) (t,h',s) (fun ex W=>ex=none∧(∃ g,W.1=[sl 0 o A.length c,.int .i64 k,undef,undef,Zo,.bool false,.bool e,.int .i64 b,.int .i64 u,.int .u32 (P:Nat),.int .i64 u2,sl bb 0 (j+1) grown,.int .i64 ((i+1:Nat):Int)]++tl 76 g)∧W.2.1=h)→
   RunsW (Zk prog Zf Zn hcV) (rL3 f159) (t,h',s) fun ex W=>ex=none∧(∃ g,W.1=[sl 0 o A.length c,.int .i64 k,undef,undef,Zo,.bool false,.bool e,.int .i64 b,.int .i64 u,.int .u32 (P:Nat),.int .i64 u2,sl 1 0 (j+1) grown,.int .i64 ((i+1:Nat):Int)]++tl 76 g)∧W.2.1=⟨2,[(wU (O++[((dwV A P R i:Nat):Int)]),tU),(l,tR)]⟩:=fun {h bb} hb h0 hB fin=>
  fin.kept (k:=1) (b:=bb) (base:=[(l,tR)]) (y:=(wU (O++[((dwV A P R i:Nat):Int)]),tU)) (front':=[sl 0 o A.length c,.int .i64 k,undef,undef,Zo,.bool false,.bool e,.int .i64 b,.int .i64 u,.int .u32 (P:Nat),.int .i64 u2,sl 1 0 (j+1) grown,.int .i64 ((i+1:Nat):Int)]) rfl
   (by kernel_rfl) (fun j x hx=>by
    obtain⟨rfl,rfl⟩:=ZhC hx;exact⟨h0,hs⟩) hB hb (ZJ _) (fun v hv=>by
    simp only[List.mem_cons,List.not_mem_nil,or_false] at hv;rcases hv with rfl | rfl | rfl | rfl | rfl | rfl | rfl | rfl | rfl | rfl | rfl | rfl | rfl<;>rfl)
 rcases hY with ⟨h0,⟨g,ht⟩,hh⟩ | ⟨h0,⟨g,ht⟩,hh⟩
 ·simp only at ht hh;subst ht hh;have hO0:O=[]:=List.length_eq_zero_iff.1 (by omega);subst hO0;subst h0;have fin:=Zb (Zh Zd Zy) (s0:=s) (ZzG o A.length c k b u u2 i P (A.getD i 0) ((dgN A i/P:Nat):Int) R e l g) (hlog _ rfl);rw[e3,hdw _ rfl] at fin;exact key (bb:=2) (by omega) rfl rfl fin
 ·simp only at ht hh;subst ht hh;have hchk:zY tU (wU O,tU) ([.int .u32 ((dwV A P R i:Nat):Int)],tU) j 0 1=true:=
   Zbn (L:=O) (M:=[((dwV A P R i:Nat):Int)]) hO.symm (show 0<1 by omega) (by show O.length+1≤_;omega)
  have ew:wU O++[.int .u32 ((dwV A P R i:Nat):Int)]=wU (O++[((dwV A P R i:Nat):Int)]):=by rw[zg];rfl
  have fin:=Zb (Zh Zd Zy) (s0:=s) (ZzH o A.length c j k b u u2 i P (A.getD i 0) ((dgN A i/P:Nat):Int) R e l (wU O) g) (Zj (by rw[hdw _ rfl];exact hchk) (hlog _ rfl));rw[e3,hdw _ rfl,ew] at fin;exact key (bb:=3) (by omega) rfl rfl fin
def ZAH (l:List Value) (o c:Nat) (A:List Int) (k b u u2:Int) (e:Bool) (P z:Nat) (Y:Lf):Prop:=
 ∃ O:List Int,O.length=A.length-z∧(∀ x∈O,Dg 65536 x)∧vb 65536 O*P+dgN A z % P=vb 65536 (A.drop z)∧rSt l o c A k b u u2 e P (A.length-z) A.length O Y
def ZCB (l:List Value) (o c:Nat) (A:List Int) (k b u u2:Int) (e:Bool) (P z:Nat) (m:Nat) (Y:Lf):Prop:=
 ∃ (i:Nat) (O:List Int),m=A.length-i∧z≤i∧i≤A.length∧O.length=i-z∧(∀ x∈O,Dg 65536 x)∧vb 65536 O*P+dgN A z % P=vb 65536 ((A.drop z).take (i-z))+65536^(i-z)*(dgN A i % P)∧rSt l o c A k b u u2 e P (i-z) i O Y
theorem ZpQ (A:List Int) (z j:Nat):(A.drop z).getD j 0=A.getD (z+j) 0:=by simp [List.getD,List.getElem?_drop]
theorem Zl1 (hR:Row l o A) (hF:Fst l o c A) (hs:∀ v∈l,still v=true) (hA:∀ x∈A,Dg 65536 x) (hn:A.length+2<1073741824) {k b u u2:Int}{e:Bool}{P R z:Nat}(hP:0<P) (hPR:P*R=65536) (hz:z≤A.length) (g:Nat→Value):
  RunsW (Zk prog Zf Zn hcV) (.block 4 (.loop (rL3 f159))) ([sl 0 o A.length c,.int .i64 k,undef,undef,Zo,.bool false,.bool e,.int .i64 b,.int .i64 u,.int .u32 (P:Nat),.int .i64 u2,Zo,.int .i64 (z:Nat)]++tl 76 g,⟨1,[(l,tR)]⟩,[]) fun ex Y=>match ex with | none=>ZAH l o c A k b u u2 e P z Y | some none=>False | some (some _)=>False:=by
 refine RunsW.forLoop (P:=ZAH l o c A k b u u2 e P z) (R:=fun _=>False) (ZCB l o c A k b u u2 e P z) ?_ (n:=A.length-z) ⟨z,[],rfl,Nat.le_refl _,hz,by simp,(fun x hx=>by cases hx),by simp [vb],.inl ⟨by omega,⟨g,rfl⟩,rfl⟩⟩;rintro m Y ⟨i,O,hm,hzi,hi,hO,hOd,hv,hY⟩;by_cases hlt:i<A.length
 ·refine (Zl0 hR hF hs hA hn hP hPR hO (by omega) hlt hY).mono fun ex W hW=> ?_;obtain⟨rfl,z1,z2⟩:=hW;have hd:=zK hA i;have hl:=Zn3 (x1:=dgN A (i+1)) hP hPR hd.1;have ej:i+1-z=i-z+1:=by omega
  refine⟨A.length-(i+1),by omega,i+1,O++[((dwV A P R i:Nat):Int)],rfl,by omega,by omega,by rw[List.length_append,hO,ej];rfl,fun x hx=> ?_,?_,.inr ⟨by omega,by rw[ej];exact z1,z2⟩⟩
  ·rcases List.mem_append.1 hx with hx | hx
   ·exact hOd x hx
   ·rw[List.mem_singleton.1 hx];unfold dwV;exact⟨Int.natCast_nonneg _,Int.ofNat_lt.2 hl⟩
  ·have h1:=Zn2 (x1:=dgN A (i+1)) hPR hO hv;have h2:vb 65536 ((A.drop z).take (i-z+1))=vb 65536 ((A.drop z).take (i-z))+65536^(i-z)*dgN A i:=by
    rw[Za9,ZpQ,show z+(i-z)=i by omega];rfl
   rw[ej,h2];exact h1
 ·have hil:i=A.length:=by omega
  subst hil;have hz0:dgN A A.length=0:=by unfold dgN;simp [List.getD]
  rw[List.take_of_length_le (by simp),hz0] at hv;simp only[Nat.zero_mod,Nat.mul_zero,Nat.add_zero] at hv;obtain⟨t,h',s⟩:=Y;rcases hY with ⟨h0,⟨g,ht⟩,hh⟩ | ⟨h0,⟨g,ht⟩,hh⟩
  ·simp only at ht hh;subst ht hh;refine (Zb (Zh Zd Zy) (Zv8 _ _ _ _ _ _ _ _ _ _ _ _ g) (Zv (Xb (by omega)))).mono fun ex W hW=> ?_;obtain⟨rfl,⟨g',z1⟩,z2⟩:=hW;exact⟨rfl,O,hO,hOd,hv,.inl ⟨h0,⟨g',z1⟩,z2⟩⟩
  ·simp only at ht hh;subst ht hh;refine (Zb (Zh Zd Zy) (Zv8 _ _ _ _ _ _ _ _ _ _ _ _ g) (Zv (Xb (by omega)))).mono fun ex W hW=> ?_;obtain⟨rfl,⟨g',z1⟩,z2⟩:=hW;exact⟨rfl,O,hO,hOd,hv,.inr ⟨h0,⟨g',z1⟩,z2⟩⟩
end
end Go.Proofs.YtgefjidphfdhdaaGreatDoor
