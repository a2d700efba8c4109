/-
  ConVA, NumPa, ConVL, ConVM, SlH, NumS, NumI, ConVG, ConVH
-/
import Derived.Test.YtjlponbdflkbjaaGreatDoorG09
namespace Go.Proofs.YtjlponbdflkbjaaGreatDoor
open Go.Proofs.Tryz
open Go.IntKind
open Go.KRun Go.Nt
set_option maxRecDepth 100000
theorem ZjW (a v:Value) (k:Nat) (h:Hp) (g:Nat→Value):
  Runs (Zr prog Zf Zn hcV) (.block 0 (.loop (sL1 f55))) ([a,.int .i64 (k:Nat),undef,undef,Zp,v,.int .u32 1,.int .i64 0]++tl 42 g,h,[]) fun e Y=>match e with | none=>(∃ g,Y.1=[a,.int .i64 (k:Nat),undef,undef,Zp,v,.int .u32 ((2^(k % 16):Nat):Int),.int .i64 ((k % 16:Nat):Int)]++tl 42 g)∧Y.2.1=h | some none=>False | some (some _)=>False:=by
 have em:(k:Int).tmod 16=((k % 16:Nat):Int):=by rw[Int.tmod_eq_emod_of_nonneg (by omega)];omega
 refine Runs.forLoop (P:=fun Y=>(∃ g,Y.1=[a,.int .i64 (k:Nat),undef,undef,Zp,v,.int .u32 ((2^(k % 16):Nat):Int),.int .i64 ((k % 16:Nat):Int)]++tl 42 g)∧Y.2.1=h) (R:=fun _=>False)
  (fun m Y=>∃ j:Nat,j≤k % 16∧m=k % 16-j∧(∃ g,Y.1=[a,.int .i64 (k:Nat),undef,undef,Zp,v,.int .u32 ((2^j:Nat):Int),.int .i64 (j:Nat)]++tl 42 g)∧Y.2.1=h) ?_ (n:=k % 16) ⟨0,by omega,by omega,⟨g,rfl⟩,rfl⟩
 rintro m ⟨t,h',s⟩ ⟨j,hj,hm,⟨g,ht⟩,hh⟩;simp only at ht hh;subst ht hh;by_cases hlt:j<k % 16
 ·refine (Zb (Zh Zd Zu) (Zvm a v k _ j h' g) (Zi (by rw[em];exact Xa (by omega)) (Zt rfl))).mono fun e z hz=> ?_;obtain⟨rfl,⟨g',z1⟩,z2⟩:=hz;have hp:2^j≤32768:=by
   have:=Nat.pow_le_pow_right (show 0<2 by omega) (show j≤15 by omega);omega
  have e1:u32.wrap (2*((2^j:Nat):Int))=((2^(j+1):Nat):Int):=by
   rw[Nat.pow_succ];generalize 2^j=Q at hp ⊢;rw[zl (by omega) (by omega)];omega
  have e2:i64.wrap ((j:Int)+1)=((j+1:Nat):Int):=by rw[Zv (by omega) (by omega)];omega
  exact⟨k % 16-(j+1),by omega,j+1,by omega,rfl,⟨g',by rw[z1,e1,e2]⟩,z2⟩
 ·have hj':j=k % 16:=by omega
  subst hj';refine (Zb (Zh Zd Zu) (Zvn a v k _ _ h' g) (Zi (by rw[em];exact Xb (by omega)) (Zt rfl))).mono fun e z hz=> ?_;obtain⟨rfl,⟨g',z1⟩,z2⟩:=hz;exact⟨rfl,⟨g',z1⟩,z2⟩
theorem Zg3 {L M:List Int}{k c:Nat}(hk:k=L.length) (hc:k=c) (hM:0<M.length) (hb:L.length+M.length≤1073741824):Zdo (wU L,tU) (wU M,tU) k c 0 M.length=true:=by
 subst hc;subst hk;unfold Zdo;simp only[Xh,Bool.not_eq_true',Zak];refine⟨⟨⟨⟨⟨⟨⟨⟨Nat.beq_refl _,Nat.ble_eq_true_of_le hb⟩,by kernel_rfl⟩,Zo.2 (by unfold ZZ;omega)⟩,?_⟩,by kernel_rfl⟩,Nat.ble_eq_true_of_le (by omega)⟩,Zo.2 hM⟩,?_⟩
 ·cases h:Nat.ble (L.length+M.length) L.length
  ·rfl
  ·have:=Nat.le_of_ble_eq_true h;omega
 ·rw[List.drop_zero,← Zak,List.take_length];exact ZsR M
theorem Z05 {e x P:Nat}(he:e<P) (hx:x<65536) (hP:P≤32768):cy e x P=((e+x*P:Nat):Int)∧e+x*P<65536*P:=by
 have h1:x*P≤65535*P:=Nat.mul_le_mul_right P (by omega);have e1:(x:Int)*(P:Int)=((x*P:Nat):Int):=by simp
 unfold cy;rw[e1,zl (n:=((x*P:Nat):Int)) (by omega) (by omega),zl (by omega) (by omega)];omega
theorem Zqz {O:List Int}{z i e x P W:Nat}(hO:O.length=z+i) (h:vb 65536 O+65536^(z+i)*e=65536^z*(P*W)):
  vb 65536 (O++[(((e+x*P) % 65536:Nat):Int)])+65536^(z+(i+1))*((e+x*P)/65536)=65536^z*(P*(W+65536^i*x)):=by
 rw[Zdb,Xg,hO,← Nat.add_assoc,Nat.pow_succ,Nat.mul_assoc];have e0:=Nat.mod_add_div (e+x*P) 65536;have e1:65536^(z+i)*((e+x*P) % 65536)+65536^(z+i)*(65536*((e+x*P)/65536))=65536^(z+i)*e+65536^(z+i)*(x*P):=by rw[← Nat.mul_add,e0,Nat.mul_add]
 have e2:65536^z*(P*(W+65536^i*x))=65536^z*(P*W)+65536^(z+i)*(x*P):=by
  rw[Nat.mul_add P,Nat.mul_add (65536^z),Nat.pow_add];congr 1;rw[Nat.mul_assoc (65536^z),Nat.mul_comm x P,Nat.mul_left_comm P]
 omega
section
variable {l : List Value} {o c : Nat} {A : List Int}
def hSt (l:List Value) (o c n z i P e:Nat) (j1 j7:Value) (O:List Int) (Y:Lf):Prop:=
 (i=0∧(∃ g,Y.1=[sl 0 o n c,j1,undef,undef,Zp,sl 1 0 z z,.int .u32 (P:Nat),j7,.int .u32 (e:Nat),.int .i64 (i:Nat)]++tl 40 g)∨(0<i∧∃ g,Y.1=[sl 0 o n c,j1,undef,undef,Zp,sl 1 0 (z+i) grown,.int .u32 (P:Nat),j7,.int .u32 (e:Nat),.int .i64 (i:Nat)]++tl 40 g))∧Y.2.1=⟨2,[(wU O,tU),(l,tR)]⟩
theorem ZjX (hR:Row l o A) (hs:∀ v∈l,still v=true) (hA:∀ x∈A,Dg 65536 x) {z i P e:Nat}{O:List Int}(hO:O.length=z+i) (he:e<P) (hP:P≤32768) (hi:i<A.length) (hz:z+A.length+2<1073741824) {j1 j7:Value}(w1:lt 2 j1=true∧rn (zD 1 3) j1=j1) (w7:lt 2 j7=true∧rn (zD 1 3) j7=j7) {Y:Lf}(hY:hSt l o c A.length z i P e j1 j7 O Y):
  RunsW (Zr prog Zf Zn hcV) (sL2 f55) Y fun ex W=>ex=none∧(∃ g,W.1=[sl 0 o A.length c,j1,undef,undef,Zp,sl 1 0 (z+(i+1)) grown,.int .u32 (P:Nat),j7,.int .u32 (((e+dgN A i*P)/65536:Nat):Int),.int .i64 ((i+1:Nat):Int)]++tl 40 g)∧W.2.1=⟨2,[(wU (O++[(((e+dgN A i*P) % 65536:Nat):Int)]),tU),(l,tR)]⟩:=by
 obtain⟨t,h',s⟩:=Y;have hd:=zy hA i;obtain⟨ec,hlt⟩:=Z05 he hd.1 hP;have e1:(cy e (A.getD i 0) P).tmod 65536=(((e+dgN A i*P) % 65536:Nat):Int):=by rw[← hd.2,ec,Zf1]
 have e2:u32.wrap ((cy e (A.getD i 0) P).tdiv 65536)=(((e+dgN A i*P)/65536:Nat):Int):=by rw[← hd.2,ec,Zf2 (by omega)]
 have e3:i64.wrap ((i:Int)+1)=((i+1:Nat):Int):=by rw[Zv (by omega) (by omega)];omega
 have hlog:Z2 (lAx l o A.length i (A.getD i 0)):=Zi rfl (Zi (by
  show Z5 (l[o+(i:Int).toNat*1]?) _=true;rw[Xg,Nat.mul_one,hR.cell hi];simp [Z5]) (Zi (Xa (by omega)) (Zt (Xa (by omega)))))
 have ew:wU O++[.int .u32 (((e+dgN A i*P) % 65536:Nat):Int)]=wU (O++[(((e+dgN A i*P) % 65536:Nat):Int)]):=by rw[ZX];rfl
 have key:∀ {X:List Value×TypeId},RunsW (Zr prog Zf Zn hcV) (sL2 f55) (t,h',s) (fun ex W=>ex=none∧(∃ g,W.1=[sl 0 o A.length c,j1,undef,undef,Zp,sl 3 0 (z+i+1) grown,.int .u32 (P:Nat),j7,.int .u32 (((e+dgN A i*P)/65536:Nat):Int),.int .i64 ((i+1:Nat):Int)]++tl 40 g)∧W.2.1=⟨4,[(wU (O++[(((e+dgN A i*P) % 65536:Nat):Int)]),tU),([.int .u32 (((e+dgN A i*P) % 65536:Nat):Int)],tU),X,(l,tR)]⟩)→
   RunsW (Zr prog Zf Zn hcV) (sL2 f55) (t,h',s) fun ex W=>ex=none∧(∃ g,W.1=[sl 0 o A.length c,j1,undef,undef,Zp,sl 1 0 (z+(i+1)) grown,.int .u32 (P:Nat),j7,.int .u32 (((e+dgN A i*P)/65536:Nat):Int),.int .i64 ((i+1:Nat):Int)]++tl 40 g)∧W.2.1=⟨2,[(wU (O++[(((e+dgN A i*P) % 65536:Nat):Int)]),tU),(l,tR)]⟩:=fun {X} fin=>
  fin.kept (k:=1) (b:=3) (base:=[(l,tR)]) (y:=(wU (O++[(((e+dgN A i*P) % 65536:Nat):Int)]),tU)) (front':=[sl 0 o A.length c,j1,undef,undef,Zp,sl 1 0 (z+(i+1)) grown,.int .u32 (P:Nat),j7,.int .u32 (((e+dgN A i*P)/65536:Nat):Int),.int .i64 ((i+1:Nat):Int)]) rfl
   (by simp only[List.map_cons,List.map_nil,w1.2,w7.2];kernel_rfl) (fun j x hx=>by
    have hj:j<1:=Hp.blk_lt hx;have hj0:j=0:=by omega
    subst hj0;have hx':x=(l,tR):=(Option.some.inj hx).symm;subst hx';exact⟨rfl,hs⟩) rfl (by omega) (ZD _) (fun v hv=>by
    simp only[List.mem_cons,List.not_mem_nil,or_false] at hv;rcases hv with rfl | rfl | rfl | rfl | rfl | rfl | rfl | rfl | rfl | rfl
    ·rfl
    ·exact w1.1
    ·rfl
    ·rfl
    ·rfl
    ·rfl
    ·rfl
    ·exact w7.1
    ·rfl
    ·rfl)
 obtain⟨hY,hh⟩:=hY;simp only at hY hh;subst hh;rcases hY with ⟨h0,g,ht⟩ | ⟨h0,g,ht⟩
 ·subst ht;have hchk:Zdo (wU O,tU) ([.int .u32 ((cy e (A.getD i 0) P).tmod 65536)],tU) z z 0 1=true:=
   Zg3 (L:=O) (M:=[(cy e (A.getD i 0) P).tmod 65536]) (by omega) rfl (show 0<1 by omega) (by show O.length+1≤_;omega)
  have fin:=Ze (Zh Zd Zu) (s0:=s) (Zqw o A.length c z z P e i (A.getD i 0) l (wU O) j1 j7 g) (Zi hchk hlog);rw[e1,e2,e3,ew] at fin;refine key (X:=(wU O,tU)) (fin.mono fun ex W hW=> ?_);subst h0;exact hW
 ·subst ht;have hchk:Zae tU (wU O,tU) ([.int .u32 ((cy e (A.getD i 0) P).tmod 65536)],tU) (z+i) 0 1=true:=
   Zba (L:=O) (M:=[(cy e (A.getD i 0) P).tmod 65536]) hO.symm (show 0<1 by omega) (by show O.length+1≤_;omega)
  have fin:=Ze (Zh Zd Zu) (s0:=s) (Zqx o A.length c (z+i) P e i (A.getD i 0) l (wU O) j1 j7 g) (Zi hchk hlog);rw[e1,e2,e3,ew] at fin;exact key (X:=([],2*ZZ)) fin
def Z9b (l:List Value) (o c z P:Nat) (A:List Int) (j1 j7:Value) (m:Nat) (Y:Lf):Prop:=
 ∃ (i e:Nat) (O:List Int),m=A.length-i∧i≤A.length∧O.length=z+i∧e<P∧(∀ x∈O,Dg 65536 x)∧vb 65536 O+65536^(z+i)*e=65536^z*(P*vb 65536 (A.take i))∧hSt l o c A.length z i P e j1 j7 O Y
def Z51 (l:List Value) (o c z P:Nat) (A:List Int) (j1 j7:Value) (Y:Lf):Prop:=
 ∃ (e:Nat) (O:List Int),O.length=z+A.length∧e<P∧(∀ x∈O,Dg 65536 x)∧vb 65536 O+65536^(z+A.length)*e=65536^z*(P*vb 65536 A)∧hSt l o c A.length z A.length P e j1 j7 O Y
theorem ZjY (hR:Row l o A) (hs:∀ v∈l,still v=true) (hA:∀ x∈A,Dg 65536 x) {z P:Nat}(h0:0<P) (hP:P≤32768) (hz:z+A.length+2<1073741824) {j1 j7:Value}(w1:lt 2 j1=true∧rn (zD 1 3) j1=j1) (w7:lt 2 j7=true∧rn (zD 1 3) j7=j7) (g:Nat→Value):
  RunsW (Zr prog Zf Zn hcV) (.block 2 (.loop (sL2 f55))) ([sl 0 o A.length c,j1,undef,undef,Zp,sl 1 0 z z,.int .u32 (P:Nat),j7,.int .u32 0,.int .i64 0]++tl 40 g,⟨2,[(zz z,tU),(l,tR)]⟩,[]) fun e Y=>match e with | none=>Z51 l o c z P A j1 j7 Y | some none=>False | some (some _)=>False:=by
 have ez:zz z=wU (List.replicate z 0):=by unfold zz wU;rw[List.map_replicate]
 have vz:∀ k,vb 65536 (List.replicate k 0)=0:=fun k=>by
  induction k with
  | zero=>rfl
  | succ k ih=>rw[List.replicate_succ];simp [vb,ih]
 refine RunsW.forLoop (P:=Z51 l o c z P A j1 j7) (R:=fun _=>False) (Z9b l o c z P A j1 j7) ?_ (n:=A.length) ⟨0,0,List.replicate z 0,by omega,by omega,by simp,h0,(fun x hx=>by rw[List.eq_of_mem_replicate hx];exact⟨by omega,by omega⟩),by rw[vz];simp [vb],.inl ⟨rfl,g,rfl⟩,by rw[ez]⟩;rintro m Y ⟨i,e,O,hm,hi,hO,he,hOd,hv,hY⟩;by_cases hlt:i<A.length
 ·have r:=ZjX hR hs hA hO he hP hlt hz w1 w7 hY;refine r.mono fun ex W hW=> ?_;obtain⟨rfl,z1,z2⟩:=hW;have hd:=zy hA i;obtain⟨_,hl2⟩:=Z05 he hd.1 hP;refine⟨A.length-(i+1),by omega,i+1,(e+dgN A i*P)/65536,O++[(((e+dgN A i*P) % 65536:Nat):Int)],rfl,by omega,by rw[List.length_append,hO];rfl,Nat.div_lt_of_lt_mul hl2,fun x hx=> ?_,?_,.inr ⟨by omega,z1⟩,z2⟩
  ·rcases List.mem_append.1 hx with hx | hx
   ·exact hOd x hx
   ·rw[List.mem_singleton.1 hx];exact⟨by omega,by omega⟩
  ·have e1:vb 65536 (A.take (i+1))=vb 65536 (A.take i)+65536^i*dgN A i:=Zaj 65536 A i;rw[e1];exact Zqz hO hv
 ·have hil:i=A.length:=by omega
  subst hil;rw[List.take_length] at hv;obtain⟨t,h',s⟩:=Y;obtain⟨hY,hh⟩:=hY;simp only at hY hh;subst hh;rcases hY with ⟨h0,g,ht⟩ | ⟨h0,g,ht⟩
  ·subst ht;refine (Ze (Zh Zd Zu) (Zm8 _ _ _ _ _ _ _ _ j1 j7 g) (Zt (Xb (by omega)))).mono fun ex W hW=> ?_;obtain⟨rfl,⟨g',z1⟩,z2⟩:=hW;exact⟨rfl,e,O,hO,he,hOd,hv,.inl ⟨h0,g',z1⟩,z2⟩
  ·subst ht;refine (Ze (Zh Zd Zu) (Zm8 _ _ _ _ _ _ _ _ j1 j7 g) (Zt (Xb (by omega)))).mono fun ex W hW=> ?_;obtain⟨rfl,⟨g',z1⟩,z2⟩:=hW;exact⟨rfl,e,O,hO,he,hOd,hv,.inr ⟨h0,g',z1⟩,z2⟩
end
theorem Zm9 {l:List Value}{o c:Nat}{A:List Int}(hR:Row l o A) (hs:∀ v∈l,still v=true) (hA:∀ x∈A,Dg 65536 x) (h0:0<A.length) {k:Nat}(hk:k/16+A.length+3<1073741824) {V:Nat}(hV:V=vb 65536 A*2^k):
  RunsW (Zr prog Zf Zn hcV) (za (sPr f55) (.seq (.seq (sR5 f55) (.block 0 (.loop (sL1 f55)))) (.seq (sR9 f55) (.seq (.seq (Z50 f55) (.block 2 (.loop (sL2 f55)))) (sEn f55))))) ([sl 0 o A.length c,.int .i64 (k:Nat)]++List.replicate 48 undef,⟨1,[(l,tR)]⟩,[]) fun e z=>(e=none∨e=some none)∧ZV prog f55 z.1 z.2.1=some (sl 3 0 (d16 V).length (d16 V).length)∧∃ r,z.2.1.blk? 3=some (wU (d16 V)++r,tU):=by
 have ek:k16 (k:Int)=((k/16:Nat):Int):=by
  unfold k16;rw[Int.tdiv_eq_ediv_of_nonneg (by omega),Zv (by omega) (by omega)];omega
 have hP:2^(k % 16)≤32768:=by
  have:=Nat.pow_le_pow_right (show 0<2 by omega) (show k % 16≤15 by omega);omega
 have hP0:0<2^(k % 16):=Nat.pow_pos (by omega);have hpk:2^k=65536^(k/16)*2^(k % 16):=by
  rw[Zf5,← Nat.pow_add];congr 1;omega
 refine Z1 (Zh Zd Zu) (Zqu o A.length c k (l,tR)) (Zi (by rw[ek];exact Xa (by omega)) (Zt (beq_eq_false_iff_ne.2 (by omega)))) fun g=> ?_;rw[ek,Xg];refine Zgw (Ze (Zh Zd Zu) (Zvl _ _ k _ g) (fun x hx=>by cases hx)) (fun e y he=>by cases he.1) (P2:=fun e Y=>match e with | none=>(∃ g,Y.1=[sl 0 o A.length c,.int .i64 (k:Nat),undef,undef,Zp,sl 1 0 (k/16) (k/16),.int .u32 ((2^(k % 16):Nat):Int),.int .i64 ((k % 16:Nat):Int)]++tl 42 g)∧Y.2.1=⟨2,[(zz (k/16),tU),(l,tR)]⟩ | some none=>False | some (some _)=>False) ?_ ?_ ?_
 ·rintro⟨t,h',s⟩ ⟨_,⟨g',ht⟩,hh⟩;simp only at ht hh;subst ht hh;exact RunsW.script (ZjW _ _ k _ g').w
 ·intro e y he
  match e,he with
  | none,he=>exact he
  | some id,he=>exact he
 ·rintro⟨t,h',s⟩ ⟨⟨g',ht⟩,hh⟩;simp only at ht hh;subst ht hh;refine RunsW.seq (P1:=fun e Y=>e=none∧(∃ g,Y.1=[sl 0 o A.length c,.int .i64 (k:Nat),undef,undef,Zp,sl 1 0 (k/16) (k/16),.int .u32 ((2^(k % 16):Nat):Int),.int .i64 ((k % 16:Nat):Int),.int .u32 0]++tl 41 g)∧Y.2.1=⟨2,[(zz (k/16),tU),(l,tR)]⟩) (Ze (Zh Zd Zu) (Zvo _ _ k _ _ _ g') (fun x hx=>by cases hx)) ?_ (fun e y he=>by cases he.1);rintro⟨t,h',s⟩ ⟨_,⟨g',ht⟩,hh⟩;simp only at ht hh;subst ht hh;refine Zgw (Ze (Zh Zd Zu) (Zqv _ _ k _ _ _ g') (fun x hx=>by cases hx)) (fun e y he=>by cases he.1) (P2:=fun e Y=>match e with | none=>Z51 l o c (k/16) (2^(k % 16)) A (.int .i64 (k:Nat)) (.int .i64 ((k % 16:Nat):Int)) Y | some none=>False | some (some _)=>False) ?_ ?_ ?_
  ·rintro⟨t,h',s⟩ ⟨_,⟨g',ht⟩,hh⟩;simp only at ht hh;subst ht hh;exact RunsW.script (ZjY hR hs hA hP0 hP (by omega) ⟨rfl,rfl⟩ ⟨rfl,rfl⟩ g')
  ·intro e y he
   match e,he with
   | none,he=>exact he
   | some id,he=>exact he
  ·rintro⟨t,h',s⟩ ⟨e,O,hO,he,hOd,hv,hY,hh⟩;simp only at hY hh;subst hh;rcases hY with ⟨e0,_⟩ | ⟨_,g',ht⟩
   ·omega
   ·subst ht;have hOd':∀ x∈O++[(e:Int)],Dg 65536 x:=fun x hx=>by
     rcases List.mem_append.1 hx with hx | hx
     ·exact hOd x hx
     ·rw[List.mem_singleton.1 hx];exact⟨by omega,by omega⟩
    have hlen:(O++[(e:Int)]).length=k/16+A.length+1:=by rw[List.length_append,hO];rfl
    have ew:wU O++[.int .u32 (e:Int)]=wU (O++[(e:Int)]):=by rw[ZX];rfl
    have hval:vb 65536 (O++[(e:Int)])=V:=by
     rw[Zdb,hO,Xg,hv,hV,hpk,Nat.mul_comm (vb 65536 A),Nat.mul_assoc]
    have hrow:Zbm tU (wU (O++[(e:Int)])) 0 (k/16+A.length+1) grown=true:=by
     rw[← hlen];exact Zap (fun x hx=>⟨(hOd' x hx).1,by have:=(hOd' x hx).2;omega⟩) (by omega) (ZyR _)
    have hchk:Zae tU (wU O,tU) ([.int .u32 (e:Int)],tU) (k/16+A.length) 0 1=true:=
     Zba (L:=O) (M:=[(e:Int)]) hO.symm (show 0<1 by omega) (by show O.length+1≤_;omega)
    refine (Ze (Zh Zd Zu) (Zqy _ (k/16+A.length) _ e _ (l,tR) (wU O) _ _ g') (by rw[ew];exact Zi hrow (Zt hchk))).mono fun ex W hW=> ?_;rw[ew] at hW;obtain⟨rfl,⟨g2,z1⟩,z2⟩:=hW;have et:Zl (Zx (wU (O++[(e:Int)])) 0 (k/16+A.length+1))=(d16 V).length:=by
     rw[← hlen,ZaO,Zat (by omega) hOd',hval];rfl
    refine⟨.inr rfl,?_,?_⟩
    ·rw[z1,z2,et];rfl
    ·rw[z2];refine⟨wU ((O++[(e:Int)]).drop (Zl (O++[(e:Int)]))),?_⟩;have e3:wU (d16 V)++wU ((O++[(e:Int)]).drop (Zl (O++[(e:Int)])))=wU (O++[(e:Int)]):=by
      unfold d16;rw[← hval,← zk (by omega) _ hOd',← ZX,List.take_append_drop]
     rw[e3];rfl
def Zq0:Zac:=fun vals h s=>
 match vals,s with
 | [.slice p n c,.int .i64 k],.inr (.inr (.inr (.inl d)))::s'=>
  match d with
  | true=>Zdf (vO h p n*2^k.toNat) h s' [(zS h p n c && dgB (Zq h p n) && Nat.blt (k.toNat/16+n+3) 1073741824 && decide (0≤k),true),(decide (0<n),true)]
  | false=>some (Zp,h,s',[(zS h p n c,true),(decide (0<n),false)])
 | _,_=>none
theorem ZfC:Z8 55 Zq0:=by
 intro vals h s v h' s' lg hg hl m B w E hv;unfold Zq0 at hg;split at hg
 ·rename_i p n c k d s2;split at hg
  ·unfold Zdf at hg;cases hg;have q1:=hl _ (Xe);have q2:=hl _ (Xd _ Xf);simp only[Xh,Xi] at q1 q2;obtain⟨⟨⟨r1,r2⟩,r3⟩,r4⟩:=q1;have r2:=Zbw r2;have r3:=Zo.1 r3;obtain⟨K,rfl⟩:=Int.eq_ofNat_of_zero_le r4;rw[Xg] at r3 ⊢;rcases ZF r1 with ⟨rfl,rfl,rfl,e0⟩ | ⟨b,o,x,rfl,hx,t1,t2,e0⟩
   ·omega
   ·rw[e0] at r2;obtain⟨h1,h2,h3,h4,h5,h6,h7⟩:=zu t1;have ev:vO h (some ⟨b,o,none⟩) n=vb 65536 (Zx x.1 o n):=by unfold vO;rw[e0]
    have r:=Zm9 (c:=c) h1 t2 r2 (by rw[h2];exact q2) (k:=K) (by rw[h2];exact r3) rfl;rw[h2] at r;rw[ev];exact ZE (T:=Zr prog Zf Zn hcV) func55 Zm6 (ZaJ h7) (vals:=[sl 0 o n c,.int .i64 (K:Nat)]) (fun v hv=>by
     simp only[List.mem_cons,List.not_mem_nil,or_false] at hv;rcases hv with rfl | rfl<;>rfl) (k:=3) (cs:=wU (d16 (vb 65536 (Zx x.1 o n)*2^K))) (ty:=tU) (Zbb _) (by kernel_rfl) r (by rfl) E (s:=fun _=>b) (zQ hx h5 h6 rfl)
  ·cases hg;have q1:=hl _ (Xe);have q2:=hl _ (Xd _ Xf);simp only[decide_eq_false_iff_not] at q1 q2;have hn:n=0:=by omega
   subst hn;obtain⟨x,p',a,NA,eA,fA⟩:=ZbF 0 q1;have hr:Runs (Zr prog Zf Zn hcV) (Zs f55) ([.slice p' 0 c,.int .i64 k]++List.replicate 48 undef,⟨1,[x]⟩,[]) fun e z=>(e=none∨e=some none)∧ZV prog f55 z.1 z.2.1=some Zp:=by
    refine (Zb (Zh Zd Zu) (Zm7 p' 0 c _ _) (Zt rfl)).mono fun e z he=> ?_;obtain⟨rfl,⟨g,e2⟩,e3⟩:=he;refine⟨.inr rfl,?_⟩;rw[e2,e3];rfl
   have b1:∀ {i:Nat}{z:List Value×TypeId},(⟨1,[x]⟩:Hp).blk? i=some z→i=0∧z=x:=fun {i z} hz=>by
    have:i<1:=Hp.blk_lt hz;have hi:i=0:=by omega
    subst hi;exact⟨rfl,(Option.some.inj hz).symm⟩
   have:=ZB (T:=Zr prog Zf Zn hcV) func55 ZjV (h0:=⟨1,[x]⟩) ⟨rfl,fun b z hz=>by obtain⟨_,rfl⟩:=b1 hz;exact⟨NA.ros.1,NA.lt0,NA.ros.2⟩⟩ (vals:=[.slice p' 0 c,.int .i64 k]) (fun v hv=>by
    simp only[List.mem_cons,List.not_mem_nil,or_false] at hv;rcases hv with rfl | rfl
    ·exact NA.lt (by show 0<1;omega)
    ·rfl) (v:=Zp) (by rfl) hr.w E (s:=fun _=>a) (fun i z hz ht=>by obtain⟨_,rfl⟩:=b1 hz;exact fA ht)
   simp only[List.map_cons,List.map_nil] at this;rw[eA _ rfl] at this;exact this
 ·cases hg
end Go.Proofs.YtjlponbdflkbjaaGreatDoor
namespace Go.Nt
set_option maxRecDepth 100000
theorem Zh5:∀ (i V:Nat),((db 65536 V).getD i 0).toNat=V/65536^i % 65536
 | i,V=>by
  by_cases hV:V=0
  ·rw[hV,zt];simp
  ·rw[Zc1 (by omega) hV];cases i with
   | zero=>simp;omega
   | succ i=>
    have:=Zh5 i (V/65536);rw[List.getD_cons_succ,this,Nat.div_div_eq_div_mul,Nat.pow_succ,Nat.mul_comm (65536^i)]
theorem Z52 {c:Nat}(h:c<4294967296):c/65536 % 65536*65536+c % 65536=c:=by omega
theorem Zvp {v:Nat}(h:v<281474976710656):v/4294967296 % 65536*4294967296+v/65536 % 65536*65536+v % 65536=v:=by
 have h1:v/4294967296<65536:=by omega
 have h2:v/4294967296=v/65536/65536:=by rw[Nat.div_div_eq_div_mul]
 rw[Nat.mod_eq_of_lt h1,h2];omega
theorem Z53 {v:Nat}(h:v<4294967296):v/65536 % 65536*4294967296+v % 65536*65536+0=v*65536:=by omega
def Zq1 (V n:Nat):Nat:=(V/65536^n % 65536)*4294967296+(V/65536^(n-1) % 65536)*65536+(if 2≤n then V/65536^(n-2) % 65536 else 0)
def ZoF (B n:Nat):Nat:=(B/65536^(n-1) % 65536)*65536+(if 2≤n then B/65536^(n-2) % 65536 else 0)
theorem Z06 {V B n:Nat}(hn:1≤n) (h0:65536^(n-1)≤B) (h1:B<65536^n) (hV:V<65536*B):0<ZoF B n∧ZoF B n<4294967296∧Zq1 V n<281474976710656∧V/B≤Zq1 V n/ZoF B n∧V/B<65536:=by
 have hp:0<65536^(n-1):=Nat.pow_pos (by omega);have hB:0<B:=by omega
 have hd:V/B<65536:=by rw[Nat.div_lt_iff_lt_mul hB];exact hV
 have b1:ZoF B n<4294967296:=by
  have:=Nat.mod_lt (B/65536^(n-1)) (show 0<65536 by omega);have:=Nat.mod_lt (B/65536^(n-2)) (show 0<65536 by omega);unfold ZoF;split<;>omega
 have b2:Zq1 V n<281474976710656:=by
  have:=Nat.mod_lt (V/65536^n) (show 0<65536 by omega);have:=Nat.mod_lt (V/65536^(n-1)) (show 0<65536 by omega);have:=Nat.mod_lt (V/65536^(n-2)) (show 0<65536 by omega);unfold Zq1;split<;>omega
 by_cases h2:2≤n
 ·obtain⟨k,rfl⟩:∃ k,n=k+2:=⟨n-2,by omega⟩;have e1:k+2-1=k+1:=by omega
  have e2:k+2-2=k:=by omega
  rw[e1] at h0;unfold Zq1 ZoF at*;rw[e1,e2,if_pos h2] at*;rw[if_pos h2] at*;have hw:0<65536^k:=Nat.pow_pos (by omega);have dv:∀ x j:Nat,x/65536^(k+j)=x/65536^k/65536^j:=fun x j=>by rw[Nat.pow_add,Nat.div_div_eq_div_mul]
  rw[dv V 2,dv V 1,dv B 1] at*;have p1:(65536:Nat)^1=65536:=rfl;have p2:(65536:Nat)^2=4294967296:=rfl;rw[p1,p2] at*;have hBw:B/65536^k<4294967296:=by
   rw[Nat.div_lt_iff_lt_mul hw];have:65536^(k+2)=4294967296*65536^k:=by rw[Nat.pow_add,p2,Nat.mul_comm]
   omega
  have hBl:65536≤B/65536^k:=by
   rw[Nat.le_div_iff_mul_le hw];have:65536^(k+1)=65536*65536^k:=by rw[Nat.pow_add,p1,Nat.mul_comm]
   omega
  have hVw:V/65536^k<281474976710656:=by
   rw[Nat.div_lt_iff_lt_mul hw];have:65536^(k+2)=4294967296*65536^k:=by rw[Nat.pow_add,p2,Nat.mul_comm]
   omega
  have hm:V/B*(B/65536^k)≤V/65536^k:=by
   rw[Nat.le_div_iff_mul_le hw,Nat.mul_assoc];have h3:B/65536^k*65536^k≤B:=Nat.div_mul_le_self _ _;have h4:=Nat.mul_le_mul_left (V/B) h3;have h5:=Nat.div_mul_le_self V B;omega
  generalize V/65536^k=v at*;generalize B/65536^k=c at*;have ec:=Z52 hBw;have ev:=Zvp hVw;rw[ec,ev];have hc:0<c:=Nat.lt_of_lt_of_le (by decide) hBl;refine⟨hc,hBw,hVw,?_,hd⟩;rw[Nat.le_div_iff_mul_le hc];exact hm
 ·have e:n=1:=by omega
  subst e;unfold Zq1 ZoF at*;rw[if_neg h2] at*;rw[if_neg h2] at*;have p1:(65536:Nat)^1=65536:=rfl;have p0:(65536:Nat)^(1-1)=1:=rfl;rw[p1] at*;rw[p0] at*;rw[Nat.div_one] at*;rw[Nat.div_one] at*;have hB1:B<65536:=h1;have hV1:V<4294967296:=Nat.lt_of_lt_of_le hV (Nat.mul_le_mul_left 65536 (Nat.le_of_lt hB1));have eB:B % 65536*65536+0=B*65536:=by rw[Nat.mod_eq_of_lt hB1,Nat.add_zero]
  have eV:=Z53 hV1;rw[eB,eV];rw[eB] at b1;rw[eV] at b2;refine⟨Nat.mul_pos hB (by decide),b1,b2,?_,hd⟩;rw[Nat.mul_div_mul_right _ _ (by decide)];exact Nat.le_refl _
theorem Z07 {L:List Int}(hC:Zbk 65536 L) (h:1≤L.length):65536^(L.length-1)≤vb 65536 L:=by
 rcases Nat.lt_or_ge (vb 65536 L) (65536^(L.length-1)) with h1 | h1
 ·have:=ZaZ (b:=65536) (by omega) _ _ h1;rw[Zly (by omega) hC] at this;omega
 ·exact h1
theorem ZfD {L:List Int}{i:Nat}(h:i<L.length):vb 65536 (L.drop i)=(L.getD i 0).toNat+65536*vb 65536 (L.drop (i+1)):=by
 rw[List.drop_eq_getElem_cons h];simp only[vb];simp [List.getD,List.getElem?_eq_getElem h]
end Go.Nt
namespace Go.Proofs.YtjlponbdflkbjaaGreatDoor
open Go.Proofs.Tryz
open Go.IntKind
open Go.KRun Go.Nt
set_option maxRecDepth 100000
set_option linter.unusedVariables false
def paP (F:Func):List Code:=[Z3 (Zs F),Z3 (Z0 (Zs F)),Z3 (Z0 (Z0 (Zs F))),Z3 (Z0 (Z0 (Z0 (Zs F))))]
def paS (F:Func):Code:=Z0 (Z0 (Z0 (Z0 (Zs F))))
def paB (F:Func):Code:=Z3 (paS F)
def paL (F:Func):Code:=cIn (cIn (Z0 (paB F)))
def paE (F:Func):Code:=Z0 (paS F)
def paH (F:Func):Code:=Z3 (paL F)
def paX (F:Func):Code:=cIn (Z3 (Z0 (paL F)))
def paI (F:Func):Code:=Z0 (Z0 (paL F))
def x7 (F:Func):Code:=Z3 (paX F)
def x8 (F:Func):Code:=Z3 (Z0 (paX F))
def x9 (F:Func):Code:=Z3 (Z0 (Z0 (paX F)))
def x10 (F:Func):Code:=Z3 (Z0 (Z0 (Z0 (paX F))))
def x11 (F:Func):Code:=Z3 (Z0 (Z0 (Z0 (Z0 (paX F)))))
def xT (F:Func):Code:=Z0 (Z0 (Z0 (Z0 (Z0 (paX F)))))
def yL (F:Func):Code:=cIn (cIn (Z3 (xT F)))
def yH (F:Func):Code:=Z3 (yL F)
def yB (F:Func):Code:=cIn (Z0 (yL F))
def xE (F:Func):Code:=Z0 (xT F)
def hcP:Hc:=zP 93 Z4o (zP 92 Zma (zP 91 ZpP (zP 94 gAt (zP 88 Ziq hcN))))
def pFr (o n c o' n' c' z:Nat) (r:Value) (i:Int) (v10 v11:Value):List Value:=[sl 0 o n c,sl 1 o' n' c',undef,undef,Zp,Zp,r,sl 2 0 z z,.int .i64 n',.int .i64 i,v10,v11]
def hB3 (wq lb la:List Value):Hp:=⟨3,[(wq,tU),(lb,tR),(la,tR)]⟩
def hB4 (wr wq lb la:List Value):Hp:=⟨4,[(wr,tU),(wq,tU),(lb,tR),(la,tR)]⟩
def hB5 (wp wr wq lb la:List Value):Hp:=⟨5,[(wp,tU),(wr,tU),(wq,tU),(lb,tR),(la,tR)]⟩
theorem Z08:HcOk hcP:=Zz func93 rfl Zh4 (Zz func92 rfl Zf4 (Zz func91 rfl Ziu (Zz func94 rfl ZsS (Zz func88 rfl Zgv Zag))))
theorem Zvq:f54.body=some (za (paP f54) (.seq (.seq (Z3 (paB f54)) (.block 0 (.loop (paL f54)))) (paE f54))):=by kernel_rfl
theorem ZmA:paL f54= .seq (paH f54) (.seq (.block 1 (paX f54)) (paI f54)):=by kernel_rfl
theorem Z9c:paX f54= .seq (x7 f54) (.seq (x8 f54) (.seq (x9 f54) (.seq (x10 f54) (.seq (x11 f54) (.seq (.block 2 (.loop (yL f54))) (xE f54)))))):=by kernel_rfl
theorem Z9d:yL f54= .seq (yH f54) (.block 3 (yB f54)):=by kernel_rfl
def aP (b o:Nat):Option Addr:=some ⟨b,o,none⟩
def inP (i:Int) (n:Nat):Bool×Bool:=(decide (0≤i∧i<(n:Int)),true)
def ceP (l:List Value) (o:Nat) (i x:Int):Bool×Bool:=(Z5 (l[o+i.toNat*1]?) (.int .u32 x),true)
def tR3 (R:List Int) (n':Nat):Int:=u64.wrap (u64.wrap (u64.wrap (u64.wrap (atN R n')*2^min (Int.toNat 32) 64)+u64.wrap (u64.wrap (atN R (i64.wrap ((n':Int)-1)))*2^min (Int.toNat 16) 64))+u64.wrap (atN R (i64.wrap ((n':Int)-2))))
def tB2 (x:Int) (L:List Int) (n':Nat):Int:=u64.wrap (u64.wrap (u64.wrap x*2^min (Int.toNat 16) 64)+u64.wrap (atN L (i64.wrap ((n':Int)-2))))
def Z54 (q:Int):Int:=if 65535<q then 65535 else q
theorem Z09 (o n c o' n' c':Nat) (la lb:List Value):Zg (evL (Zr prog Zf Zn hcP) 200 (paP f54) ([sl 0 o n c,sl 1 o' n' c']++List.replicate 93 undef,⟨2,[(lb,tR),(la,tR)]⟩,[at_]) ⟨[],[],[]⟩) 12 83 none [sl 0 o n c,sl 1 o' n' c',undef,undef,Zp,Zp,Zp,sl 2 0 (n:Int).toNat (n:Int).toNat,.int .i64 n',undef,undef,undef] (hB3 (List.replicate (n:Int).toNat (.int .u32 0)) lb la) [(ZI 4 (n:Int) (n:Int),true)]:=by and_intros<;>kernel_rfl
theorem Z55 (o n c o' n' c' z:Nat) (r v9 v10 v11:Value) (h:Hp) (g:Nat→Value):Zg (evC (Zr prog Zf Zn hcP) 200 false (Z3 (paB f54)) ([sl 0 o n c,sl 1 o' n' c',undef,undef,Zp,Zp,r,sl 2 0 z z,.int .i64 n',v9,v10,v11]++tl 83 g,h,[]) ⟨[],[],[]⟩) 12 83 none (pFr o n c o' n' c' z r (i64.wrap ((n:Int)-1)) v10 v11) h []:=by and_intros<;>kernel_rfl
theorem Z56 (o n c o' n' c' z:Nat) (r v10 v11:Value) (i:Int) (h:Hp) (g:Nat→Value):Zg (evC (Zr prog Zf Zn hcP) 200 false (paH f54) (pFr o n c o' n' c' z r i v10 v11++tl 83 g,h,[cmp true]) ⟨[],[],[]⟩) 12 83 none (pFr o n c o' n' c' z r i v10 v11) h [(decide (i≥0),true)]:=by and_intros<;>kernel_rfl
theorem Z57 (o n c o' n' c' z:Nat) (r v10 v11:Value) (i:Int) (h:Hp) (g:Nat→Value):Zg (evC (Zr prog Zf Zn hcP) 200 false (paH f54) (pFr o n c o' n' c' z r i v10 v11++tl 83 g,h,[cmp false]) ⟨[],[],[]⟩) 12 83 (some (some 0)) (pFr o n c o' n' c' z r i v10 v11) h [(decide (i≥0),false)]:=by and_intros<;>kernel_rfl
theorem Z58 (o n c o' n' c' z:Nat) (v10 v11:Value) (i d:Int) (wq lb la:List Value) (g:Nat→Value):Zg (evC (Zr prog Zf Zn hcP) 200 false (x7 f54) (pFr o n c o' n' c' z Zp i v10 v11++tl 83 g,hB3 wq lb la,[at_,val (.int .u32 d)]) ⟨[],[],[]⟩) 12 83 none (pFr o n c o' n' c' z (sl 3 0 (Zl (Zx [.int .u32 d] 0 1)) (Zl (Zx [.int .u32 d] 0 1))) i v10 v11) (hB4 [.int .u32 d] wq lb la) [(Zbm tU [.int .u32 d] 0 1 1,true),ceP la o i d,inP i n]:=by and_intros<;>kernel_rfl
theorem Z59 (o n c o' n' c' z:Nat) (v10 v11:Value) (i d:Int) (wr wq lb la:List Value) (g:Nat→Value):Zg (evC (Zr prog Zf Zn hcP) 200 false (x7 f54) (pFr o n c o' n' c' z (sl 3 0 0 0) i v10 v11++tl 83 g,hB4 wr wq lb la,[at_,val (.int .u32 d)]) ⟨[],[],[]⟩) 12 83 none (pFr o n c o' n' c' z (sl 4 0 (Zl (Zx [.int .u32 d] 0 1)) (Zl (Zx [.int .u32 d] 0 1))) i v10 v11) (hB5 [.int .u32 d] wr wq lb la) [(Zbm tU [.int .u32 d] 0 1 1,true),ceP la o i d,inP i n]:=by and_intros<;>kernel_rfl
theorem Z5A (o n c o' n' c' z k:Nat) (v10 v11:Value) (i d:Int) (wr wq lb la:List Value) (g:Nat→Value):Zg (evC (Zr prog Zf Zn hcP) 200 false (x7 f54) (pFr o n c o' n' c' z (sl 3 0 k k) i v10 v11++tl 83 g,hB4 wr wq lb la,[at_,val (.int .u32 d),num 0]) ⟨[],[],[]⟩) 12 83 none (pFr o n c o' n' c' z (sl 5 0 (Zl (Zx ([.int .u32 d]++List.take k (List.drop 0 wr)) 0 (1+k))) (Zl (Zx ([.int .u32 d]++List.take k (List.drop 0 wr)) 0 (1+k)))) i v10 v11) ⟨6,[(([.int .u32 d]++List.take k (List.drop 0 wr)),tU),([.int .u32 d],tU),(wr,tU),(wq,tU),(lb,tR),(la,tR)]⟩ [(Zbm tU ([.int .u32 d]++List.take k (List.drop 0 wr)) 0 (1+k) grown,true),(Zdo ([.int .u32 d],tU) (wr,tU) 1 1 0 k,true),ceP la o i d,inP i n]:=by and_intros<;>kernel_rfl
theorem Z5B (o n c o' n' c' z k:Nat) (v10 v11:Value) (i:Int) (wr wq lb la:List Value) (g:Nat→Value):Zg (evC (Zr prog Zf Zn hcP) 200 false (x8 f54) (pFr o n c o' n' c' z (sl 3 0 k k) i v10 v11++tl 83 g,hB4 wr wq lb la,[cmp true]) ⟨[],[],[]⟩) 12 83 (some (some 1)) (pFr o n c o' n' c' z (sl 3 0 k k) i v10 v11) (hB4 wr wq lb la) [(decide (ZcT (vO (hB4 wr wq lb la) (aP 3 0) k) (vO (hB4 wr wq lb la) (aP 1 o') n')<0),true),(ZS (hB4 wr wq lb la) (aP 3 0) (aP 1 o') k k n' c',true)]:=by and_intros<;>kernel_rfl
theorem Z5C (o n c o' n' c' z k:Nat) (v10 v11:Value) (i:Int) (wr wq lb la:List Value) (g:Nat→Value):Zg (evC (Zr prog Zf Zn hcP) 200 false (x8 f54) (pFr o n c o' n' c' z (sl 3 0 k k) i v10 v11++tl 83 g,hB4 wr wq lb la,[cmp false]) ⟨[],[],[]⟩) 12 83 none (pFr o n c o' n' c' z (sl 3 0 k k) i v10 v11) (hB4 wr wq lb la) [(decide (ZcT (vO (hB4 wr wq lb la) (aP 3 0) k) (vO (hB4 wr wq lb la) (aP 1 o') n')<0),false),(ZS (hB4 wr wq lb la) (aP 3 0) (aP 1 o') k k n' c',true)]:=by and_intros<;>kernel_rfl
theorem Z9e (o n c o' n' c' z:Nat) (r v10 v11:Value) (i:Int) (h:Hp) (g:Nat→Value):Zg (evC (Zr prog Zf Zn hcP) 200 false (paI f54) (pFr o n c o' n' c' z r i v10 v11++tl 83 g,h,[]) ⟨[],[],[]⟩) 12 83 none (pFr o n c o' n' c' z r (i64.wrap (i-1)) v10 v11) h []:=by and_intros<;>kernel_rfl
theorem Z9f (o n c o' n' c' z k:Nat) (v10 v11:Value) (i:Int) (wr wq lb la:List Value) (g:Nat→Value):Zg (evC (Zr prog Zf Zn hcP) 200 false (x9 f54) (pFr o n c o' n' c' z (sl 3 0 k k) i v10 v11++tl 83 g,hB4 wr wq lb la,[]) ⟨[],[],[]⟩) 12 83 none (pFr o n c o' n' c' z (sl 3 0 k k) i (.int .u64 (tR3 (Zq (hB4 wr wq lb la) (aP 3 0) k) n')) v11) (hB4 wr wq lb la) [(zS (hB4 wr wq lb la) (aP 3 0) k k,true),(decide ((16:Int)<0),false),(zS (hB4 wr wq lb la) (aP 3 0) k k,true),(decide ((32:Int)<0),false),(zS (hB4 wr wq lb la) (aP 3 0) k k,true)]:=by and_intros<;>kernel_rfl
theorem Z5D (o n c o' n' c' z k:Nat) (v11:Value) (i t x q:Int) (wr wq lb la:List Value) (g:Nat→Value):Zg (evC (Zr prog Zf Zn hcP) 200 false (x10 f54) (pFr o n c o' n' c' z (sl 3 0 k k) i (.int .u64 t) v11++tl 83 g,hB4 wr wq lb la,[at_,val (.int .u32 x),num q]) ⟨[],[],[]⟩) 12 83 none (pFr o n c o' n' c' z (sl 3 0 k k) i (.int .u64 t) (.int .u64 (Z54 q))) (hB4 wr wq lb la) [(decide ((tB2 x (Zq (hB4 wr wq lb la) (aP 1 o') n') n')=0),false),(decide (u64.wrap (t.tdiv (tB2 x (Zq (hB4 wr wq lb la) (aP 1 o') n') n'))=q),true),(zS (hB4 wr wq lb la) (aP 1 o') n' c',true),(decide ((16:Int)<0),false),ceP lb o' (i64.wrap ((n':Int)-1)) x,inP (i64.wrap ((n':Int)-1)) n']:=by and_intros<;>kernel_rfl
def pV (h:Hp) (o' n':Nat) (e:Int):Nat:=vO h (aP 1 o') n'*(u32.wrap e).toNat+Int.toNat 0
theorem Z5E (o n c o' n' c' z k:Nat) (v10:Value) (i e:Int) (wr wq lb la:List Value) (g:Nat→Value):Zg (evC (Zr prog Zf Zn hcP) 200 false (x11 f54) (pFr o n c o' n' c' z (sl 3 0 k k) i v10 (.int .u64 e)++tl 83 g,hB4 wr wq lb la,[cmp true]) ⟨[],[],[]⟩) 13 82 none (pFr o n c o' n' c' z (sl 3 0 k k) i v10 (.int .u64 e)++[sl 4 0 (d16 (pV (hB4 wr wq lb la) o' n' e)).length (d16 (pV (hB4 wr wq lb la) o' n' e)).length]) (hB5 (wU (d16 (pV (hB4 wr wq lb la) o' n' e))) wr wq lb la) [(ZaU (hB4 wr wq lb la) (aP 1 o') n' c' (u32.wrap e) 0,true),(decide (0<n'∨(0:Int)<0),true)]:=by and_intros<;>kernel_rfl
theorem Z5F (o n c o' n' c' z k j:Nat) (v10:Value) (i e:Int) (wp wr wq lb la:List Value) (g:Nat→Value):Zg (evC (Zr prog Zf Zn hcP) 200 false (yH f54) (pFr o n c o' n' c' z (sl 3 0 k k) i v10 (.int .u64 e)++[sl 4 0 j j]++tl 82 g,hB5 wp wr wq lb la,[cmp true]) ⟨[],[],[]⟩) 13 82 none (pFr o n c o' n' c' z (sl 3 0 k k) i v10 (.int .u64 e)++[sl 4 0 j j]) (hB5 wp wr wq lb la) [(decide (ZcT (vO (hB5 wp wr wq lb la) (aP 4 0) j) (vO (hB5 wp wr wq lb la) (aP 3 0) k)>0),true),(ZS (hB5 wp wr wq lb la) (aP 4 0) (aP 3 0) j j k k,true)]:=by and_intros<;>kernel_rfl
theorem Z5G (o n c o' n' c' z k j:Nat) (v10:Value) (i e:Int) (wp wr wq lb la:List Value) (g:Nat→Value):Zg (evC (Zr prog Zf Zn hcP) 200 false (yH f54) (pFr o n c o' n' c' z (sl 3 0 k k) i v10 (.int .u64 e)++[sl 4 0 j j]++tl 82 g,hB5 wp wr wq lb la,[cmp false]) ⟨[],[],[]⟩) 13 82 (some (some 2)) (pFr o n c o' n' c' z (sl 3 0 k k) i v10 (.int .u64 e)++[sl 4 0 j j]) (hB5 wp wr wq lb la) [(decide (ZcT (vO (hB5 wp wr wq lb la) (aP 4 0) j) (vO (hB5 wp wr wq lb la) (aP 3 0) k)>0),false),(ZS (hB5 wp wr wq lb la) (aP 4 0) (aP 3 0) j j k k,true)]:=by and_intros<;>kernel_rfl
theorem Z5H (o n c o' n' c' z k j:Nat) (v10:Value) (i e:Int) (wp wr wq lb la:List Value) (g:Nat→Value):Zg (evC (Zr prog Zf Zn hcP) 200 false (yB f54) (pFr o n c o' n' c' z (sl 3 0 k k) i v10 (.int .u64 e)++[sl 4 0 j j]++tl 82 g,hB5 wp wr wq lb la,[cmp true]) ⟨[],[],[]⟩) 13 82 none (pFr o n c o' n' c' z (sl 3 0 k k) i v10 (.int .u64 (u64.wrap (e-1)))++[sl 5 0 (d16 (vO (hB5 wp wr wq lb la) (aP 4 0) j-vO (hB5 wp wr wq lb la) (aP 1 o') n')).length (d16 (vO (hB5 wp wr wq lb la) (aP 4 0) j-vO (hB5 wp wr wq lb la) (aP 1 o') n')).length]) ⟨6,[(wU (d16 (vO (hB5 wp wr wq lb la) (aP 4 0) j-vO (hB5 wp wr wq lb la) (aP 1 o') n')),tU),(wp,tU),(wr,tU),(wq,tU),(lb,tR),(la,tR)]⟩ [(ZS (hB5 wp wr wq lb la) (aP 4 0) (aP 1 o') j j n' c' && Nat.ble (vO (hB5 wp wr wq lb la) (aP 1 o') n') (vO (hB5 wp wr wq lb la) (aP 4 0) j),true),(decide (0<j),true)]:=by and_intros<;>kernel_rfl
theorem Z9g (o n c o' n' c' z k j:Nat) (v10:Value) (i e:Int) (wp wr wq lb la:List Value) (g:Nat→Value):Zg (evC (Zr prog Zf Zn hcP) 200 false (xE f54) (pFr o n c o' n' c' z (sl 3 0 k k) i v10 (.int .u64 e)++[sl 4 0 j j]++tl 82 g,hB5 wp wr wq lb la,[cmp true,at_,at_]) ⟨[],[],[]⟩) 12 83 none (pFr o n c o' n' c' z (sl 5 0 (d16 (vO (hB5 wp wr wq lb la) (aP 3 0) k-vO (hB5 wp wr wq lb la) (aP 4 0) j)).length (d16 (vO (hB5 wp wr wq lb la) (aP 3 0) k-vO (hB5 wp wr wq lb la) (aP 4 0) j)).length) i v10 (.int .u64 e)) ⟨6,[(wU (d16 (vO (hB5 wp wr wq lb la) (aP 3 0) k-vO (hB5 wp wr wq lb la) (aP 4 0) j)),tU),(wp,tU),(wr,tU),(wq.set (0+i.toNat*1) (.int .u32 (u32.wrap e)),tU),(lb,tR),(la,tR)]⟩ [(decide (0+i.toNat*1<wq.length),true),inP i z,(ZS (hB5 wp wr wq lb la) (aP 3 0) (aP 4 0) k k j j && Nat.ble (vO (hB5 wp wr wq lb la) (aP 4 0) j) (vO (hB5 wp wr wq lb la) (aP 3 0) k),true),(decide (0<k),true)]:=by and_intros<;>kernel_rfl
theorem Z0A (o n c o' n' c' z k:Nat) (v9 v10 v11:Value) (wr wq lb la:List Value) (g:Nat→Value):Zg (evC (Zr prog Zf Zn hcP) 200 false (paE f54) ([sl 0 o n c,sl 1 o' n' c',undef,undef,Zp,Zp,sl 3 0 k k,sl 2 0 z z,.int .i64 n',v9,v10,v11]++tl 83 g,hB4 wr wq lb la,[]) ⟨[],[],[]⟩) 6 89 (some none) [sl 0 o n c,sl 1 o' n' c',undef,undef,sl 2 0 (Zl (Zx wq 0 z)) (Zl (Zx wq 0 z)),sl 3 0 k k] (hB4 wr wq lb la) [(Zbm tU wq 0 z z,true)]:=by and_intros<;>kernel_rfl
theorem RunsW.next {T:Tab}{c1 c2:Code}{x:Lf}{front:List Value}{n:Nat}{h:Hp}{P:Ex→Lf→Prop}(h1:RunsW T c1 x fun e y=>e=none∧(∃ g,y.1=front++tl n g)∧y.2.1=h) (h2:∀ g s,RunsW T c2 (front++tl n g,h,s) P):RunsW T (.seq c1 c2) x P:=by
 refine RunsW.seq h1 (fun y hy=> ?_) (fun e y hy=>by cases hy.1);obtain⟨_,⟨g,e1⟩,e2⟩:=hy;obtain⟨t,hh,s⟩:=y;simp only at e1 e2;subst e1 e2;exact h2 g s
theorem ZbK {h:Hp}{b A:Nat}{ty:TypeId}(hb:h.blk? b=some (wU (d16 A),ty)):Zq h (aP b 0) (d16 A).length=d16 A:=by
 unfold Zq aP;simp only[hb];exact ZaO _
theorem Zq2 {h:Hp}{b A:Nat}{ty:TypeId}(hb:h.blk? b=some (wU (d16 A),ty)):vO h (aP b 0) (d16 A).length=A:=by
 unfold vO;rw[ZbK hb];exact ZbC (by omega) A
theorem ZmB (A:Nat):∀ x∈d16 A,0≤x∧x<4294967296:=fun x hx=>⟨(Zbd A x hx).1,by have:=(Zbd A x hx).2;omega⟩
theorem Z4p {n:Nat}(h:n<1000000000):Zda 0 n n=true:=by
 unfold Zda;have:ZA n=true:=by unfold ZA;exact Zo.2 (by have:ZZ=4611686018427387904:=rfl;omega)
 rw[this,Nat.ble_eq_true_of_le (Nat.le_refl n)];rfl
theorem Zg4 {h:Hp}{b A:Nat}(hb:h.blk? b=some (wU (d16 A),tU)) (hl:(d16 A).length<1000000000):zS h (aP b 0) (d16 A).length (d16 A).length=true:=by
 unfold zS aP;simp only[hb];rw[Zap (ZmB A) (by omega) (Z4p hl),List.all_eq_true.2 (ZD _)];rfl
theorem ZdA {h:Hp}{p q:Option Addr}{n c n' c':Nat}(h1:zS h p n c=true) (h2:zS h q n' c'=true) (h3:∀ x∈Zq h p n,Dg 65536 x) (h4:∀ x∈Zq h q n',Dg 65536 x) (h5:max n n'+2<1073741824):ZS h p q n c n' c'=true:=by
 unfold ZS;rw[h1,h2,ZbG h3,ZbG h4,Zo.2 h5];rfl
theorem ZcA {A k:Nat}(h:A<65536^k):(d16 A).length≤k:=ZaZ (by omega) k A h
theorem Zi7 (V:Nat) (i:Int):atN (d16 V) i=if 0≤i then ((V/65536^i.toNat % 65536:Nat):Int) else 0:=by
 unfold atN;split
 ·have h1:=Zh5 i.toNat V;have h2:=Zef (Zbd V) i.toNat;have h3:((d16 V).getD i.toNat 0).toNat=V/65536^i.toNat % 65536:=h1;have:=h2.1;omega
 ·rfl
theorem w64 {n:Int}(h0:0≤n) (h1:n<18446744073709551616):u64.wrap n=n:=by simp [IntKind.wrap,IntKind.bits,IntKind.signed];omega
theorem Z0B (V n:Nat) (hn:1≤n) (hn2:n<1000000):tR3 (d16 V) n=(Zq1 V n:Int):=by
 have e1:i64.wrap ((n:Int)-1)=((n-1:Nat):Int):=by rw[Zv (by omega) (by omega)];omega
 have e2:i64.wrap ((n:Int)-2)=(n:Int)-2:=Zv (by omega) (by omega);have p32:(2:Int)^min (Int.toNat 32) 64=4294967296:=rfl;have p16:(2:Int)^min (Int.toNat 16) 64=65536:=rfl;have m1:=Nat.mod_lt (V/65536^n) (show 0<65536 by omega);have m2:=Nat.mod_lt (V/65536^(n-1)) (show 0<65536 by omega);have m3:=Nat.mod_lt (V/65536^(n-2)) (show 0<65536 by omega);unfold tR3 Zq1;rw[e1,e2,p32,p16,Zi7,Zi7,Zi7,if_pos (by omega),if_pos (by omega),Xg,Xg];by_cases h2:2≤n
 ·have e3:((n:Int)-2).toNat=n-2:=by omega
  rw[if_pos (by omega),if_pos h2,e3];generalize V/65536^n % 65536=a at*;generalize V/65536^(n-1) % 65536=b at*;generalize V/65536^(n-2) % 65536=d at*;rw[w64 (n:=(a:Int)) (by omega) (by omega),w64 (n:=(a:Int)*4294967296) (by omega) (by omega),w64 (n:=(b:Int)) (by omega) (by omega),w64 (n:=(b:Int)*65536) (by omega) (by omega),w64 (n:=(d:Int)) (by omega) (by omega),w64 (n:=(a:Int)*4294967296+(b:Int)*65536) (by omega) (by omega),w64 (by omega) (by omega)];omega
 ·rw[if_neg (by omega),if_neg h2];generalize V/65536^n % 65536=a at*;generalize V/65536^(n-1) % 65536=b at*;rw[w64 (n:=(a:Int)) (by omega) (by omega),w64 (n:=(a:Int)*4294967296) (by omega) (by omega),w64 (n:=(b:Int)) (by omega) (by omega),w64 (n:=(b:Int)*65536) (by omega) (by omega),w64 (n:=(0:Int)) (by omega) (by omega),w64 (n:=(a:Int)*4294967296+(b:Int)*65536) (by omega) (by omega),w64 (by omega) (by omega)];omega
theorem Z0C {L:List Int}(hC:Zbk 65536 L) (hn:1≤L.length) (hn2:L.length<1000000):tB2 (L.getD (L.length-1) 0) L L.length=(ZoF (vb 65536 L) L.length:Int):=by
 have e2:i64.wrap ((L.length:Int)-2)=(L.length:Int)-2:=Zv (by omega) (by omega);have p16:(2:Int)^min (Int.toNat 16) 64=65536:=rfl;obtain⟨B,hB⟩:∃ B,B=vb 65536 L:=⟨_,rfl⟩;have eL:L=d16 B:=by rw[hB];exact (Zly (by omega) hC).symm
 have ex:L.getD (L.length-1) 0=((B/65536^(L.length-1) % 65536:Nat):Int):=by
  have h1:=Zh5 (L.length-1) B;have h2:=(Zef hC.1 (L.length-1)).1;have h3:(L.getD (L.length-1) 0).toNat=B/65536^(L.length-1) % 65536:=by
   rw[← h1];show (L.getD _ 0).toNat=((d16 B).getD _ 0).toNat;rw[← eL]
  omega
 have ea:atN L ((L.length:Int)-2)=if 0≤(L.length:Int)-2 then ((B/65536^((L.length:Int)-2).toNat % 65536:Nat):Int) else 0:=by
  have:=Zi7 B ((L.length:Int)-2);rw[← eL] at this;exact this
 have m2:=Nat.mod_lt (B/65536^(L.length-1)) (show 0<65536 by omega);have m3:=Nat.mod_lt (B/65536^(L.length-2)) (show 0<65536 by omega);unfold tB2 ZoF;rw[← hB,e2,p16,ea,ex];by_cases h2:2≤L.length
 ·have e3:((L.length:Int)-2).toNat=L.length-2:=by omega
  rw[if_pos (by omega),if_pos h2,e3];generalize B/65536^(L.length-1) % 65536=b at*;generalize B/65536^(L.length-2) % 65536=d at*;rw[w64 (n:=(b:Int)) (by omega) (by omega),w64 (n:=(b:Int)*65536) (by omega) (by omega),w64 (n:=(d:Int)) (by omega) (by omega),w64 (by omega) (by omega)];omega
 ·rw[if_neg (by omega),if_neg h2];generalize B/65536^(L.length-1) % 65536=b at*;rw[w64 (n:=(b:Int)) (by omega) (by omega),w64 (n:=(b:Int)*65536) (by omega) (by omega),w64 (n:=(0:Int)) (by omega) (by omega),w64 (by omega) (by omega)];omega
structure Two (la lb:List Value) (o o' c':Nat) (A L:List Int):Prop where
 ra:Row la o A
 rb:Row lb o' L
 dA:∀ x∈A,Dg 65536 x
 cL:Zbk 65536 L
 n1:1≤L.length
 n2:L.length<1000000
 a1:1≤A.length
 a2:A.length<1000000
 cb:Zbm tR lb o' L.length c'=true
 sb:∀ v∈lb,still v=true
 sa:∀ v∈la,still v=true
 eb:Zx lb o' L.length=L
section
variable {la lb : List Value} {o c o' c' : Nat} {A L : List Int}
theorem Two.row (H:Two la lb o o' c' A L) {h:Hp}(hb:h.blk? 1=some (lb,tR)):zS h (aP 1 o') L.length c'=true∧Zq h (aP 1 o') L.length=L∧vO h (aP 1 o') L.length=vb 65536 L:=by
 have e:Zq h (aP 1 o') L.length=L:=by
  unfold Zq aP;simp only[hb];exact H.eb
 refine⟨?_,e,by unfold vO;rw[e]⟩;unfold zS aP;simp only[hb];rw[H.cb,List.all_eq_true.2 H.sb];rfl
theorem Two.bnd (H:Two la lb o o' c' A L):65536^(L.length-1)≤vb 65536 L∧vb 65536 L<65536^L.length∧0<vb 65536 L:=by
 have h1:=Z07 H.cL H.n1;have h2:=Zbl (b:=65536) (by omega) L H.cL.1;have:0<65536^(L.length-1):=Nat.pow_pos (by omega);exact⟨h1,h2,by omega⟩
theorem Zb0:TabOk (Zr prog Zf Zn hcP):=Zh Zd Z08
theorem Zq3 (V:Nat) {d:Int}(hd:Dg 65536 d):Zl (d::d16 V)=(d16 (d.toNat+65536*V)).length∧wU (d::d16 V)=wU (d16 (d.toNat+65536*V))++wU ((d::d16 V).drop (Zl (d::d16 V))):=by
 have hD:∀ x∈d::d16 V,Dg 65536 x:=fun x hx=>by
  rcases List.mem_cons.1 hx with rfl | hx
  ·exact hd
  ·exact Zbd V x hx
 have ev:vb 65536 (d::d16 V)=d.toNat+65536*V:=by
  simp only[vb];rw[show vb 65536 (d16 V)=V from ZbC (by omega) V]
 have h1:=Zat (b:=65536) (by omega) hD;have h2:=zk (b:=65536) (by omega) _ hD;rw[ev] at h1 h2;refine⟨h1,?_⟩;rw[← ZX];congr 1;show _=db 65536 _++_;rw[← h2,List.take_append_drop]
theorem Z0D {d:Int}(hd:Dg 65536 d):∀ x∈d::([]:List Int),0≤x∧x<4294967296:=fun x hx=>by
 rw[List.mem_singleton.1 hx];exact⟨hd.1,by have:=hd.2;omega⟩
theorem Zq4 {wq:List Value}(hq:∀ v∈wq,still v=true) (hb:∀ v∈lb,still v=true) (ha:∀ v∈la,still v=true) {h:Hp}(h0:h.blk? 0=some (la,tR)) (h1:h.blk? 1=some (lb,tR)) (h2:h.blk? 2=some (wq,tU)):∀ i x,(⟨3,[(wq,tU),(lb,tR),(la,tR)]⟩:Hp).blk? i=some x→h.blk? i=some x∧∀ v∈x.1,still v=true:=by
 intro i x hx;have hi:i<3:=Hp.blk_lt hx;have h3:i=0∨i=1∨i=2:=by omega
 rcases h3 with rfl | rfl | rfl
 ·have:(la,tR)=x:=Option.some.inj hx;subst this;exact⟨h0,ha⟩
 ·have:(lb,tR)=x:=Option.some.inj hx;subst this;exact⟨h1,hb⟩
 ·have:(wq,tU)=x:=Option.some.inj hx;subst this;exact⟨h2,hq⟩
theorem Zte {n n' z t:Nat}{i:Int}{v10 v11:Value}(k1:KRun.lt 4 v10=true) (k2:KRun.lt 4 v11=true):∀ v∈pFr o n c o' n' c' z (sl 3 0 t t) i v10 v11,KRun.lt 4 v=true:=by
 intro v hv;simp only[pFr,List.mem_cons,List.not_mem_nil,or_false] at hv;rcases hv with rfl | rfl | rfl | rfl | rfl | rfl | rfl | rfl | rfl | rfl | rfl | rfl
 ·rfl
 ·rfl
 ·rfl
 ·rfl
 ·rfl
 ·rfl
 ·rfl
 ·rfl
 ·rfl
 ·rfl
 ·exact k1
 ·exact k2
end
end Go.Proofs.YtjlponbdflkbjaaGreatDoor
namespace Go.Proofs.YtjlponbdflkbjaaGreatDoor.Na
open Go.KRun Go.Nt
set_option maxRecDepth 100000
set_option linter.unusedVariables false
def Z9h (H:Hp) (p:Option Addr) (n c V:Nat):Prop:=zS H p n c=true∧Zq H p n=d32 V
theorem ZfE (V:Nat):wds (d32 V):=Zfy (by omega) V
theorem Zq5 {L:List Int}(n:Nat):Zx (wU L) 0 n=L.take n:=by
 unfold Zx Zch wU;rw[List.drop_zero,← List.map_take,List.map_map];exact (List.map_congr_left fun z _=>rfl).trans (List.map_id' _)
theorem Z5I {H:Hp}{b V m:Nat}(hb:H.blk? b=some (wU (dg m (V:Int)),tU)) (hV:V<4294967296^m) (hm:m≤1000):Z9h H (some ⟨b,0,none⟩) (Zl (dg m (V:Int))) m V:=by
 have hw:=Za2 m (V:Int);have hl:=ZR m (V:Int);have ht:=Za4 (dg m (V:Int));refine⟨?_,?_⟩
 ·unfold zS;simp only[hb];unfold Zbm;have e1:Zab tU=false:=by kernel_rfl
  have e2:Nat.beq (rt tU) tU=true:=by kernel_rfl
  have e3:Nat.ble (0+Zl (dg m (V:Int))) (wU (dg m (V:Int))).length=true:=Nat.ble_eq_true_of_le (by rw[Zak];omega);have e4:Nat.blt (Zl (dg m (V:Int))) 4611686018427387904=true:=Zo.2 (by omega);have e5:((Zch (wU (dg m (V:Int))) 0 (Zl (dg m (V:Int)))).all isU)=true:=by
   unfold Zch;rw[List.drop_zero];refine List.all_eq_true.2 fun v hv=> ?_;have hv:=List.mem_of_mem_take hv;unfold wU at hv;obtain⟨x,hx,rfl⟩:=List.mem_map.1 hv;exact Xa (hw x hx)
  have e6:Zda 0 (Zl (dg m (V:Int))) m=true:=by
   unfold Zda;rw[show ZA m=true from Zo.2 (by have:ZZ=4611686018427387904:=rfl;omega),Nat.ble_eq_true_of_le (by omega)];rfl
  rw[e1,e2,e3,e4,e5,e6,List.all_eq_true.2 (ZD _)];rfl
 ·unfold Zq;simp only[hb];rw[Zq5];refine ZuF ?_;have:((4294967296^m:Nat):Int)=4294967296^m:=by rw[Int.natCast_pow];rfl
  rw[← this];omega
end Go.Proofs.YtjlponbdflkbjaaGreatDoor.Na
namespace Go.Nt
def dgS (L:List Int) (i:Nat):Nat:=(L.getD i 0).toNat
theorem Zcp (k:Nat):2^k=65536^(k/16)*2^(k % 16):=by
 rw[Zf5,← Nat.pow_add];congr 1;omega
theorem Z5J {L:List Int}(h:∀ x∈L,Dg 65536 x) (i:Nat):dgS L i<65536:=by
 unfold dgS;by_cases hi:i<L.length
 ·have:=h (L.getD i 0) (by simp [List.getD,List.getElem?_eq_getElem hi]);omega
 ·simp [List.getD,List.getElem?_eq_none (show L.length≤i by omega)]
theorem ZmC {L:List Int}(h:∀ x∈L,Dg 65536 x) (z:Nat):vb 65536 L/65536^z=vb 65536 (L.drop z)∧vb 65536 L % 65536^z=vb 65536 (L.take z):=by
 have hp:0<65536^z:=Nat.pow_pos (by omega);by_cases hz:z≤L.length
 ·have e:vb 65536 L=vb 65536 (L.take z)+65536^z*vb 65536 (L.drop z):=by
   conv=>lhs;rw[← List.take_append_drop z L]
   rw[Zay,List.length_take,show min z L.length=z by omega]
  have hl:vb 65536 (L.take z)<65536^z:=by
   have:=Zbl (b:=65536) (by omega) (L.take z) (fun x hx=>h x (List.mem_of_mem_take hx));rw[List.length_take,show min z L.length=z by omega] at this;exact this
  rw[e];exact⟨by rw[Nat.add_mul_div_left _ _ hp,Nat.div_eq_of_lt hl,Nat.zero_add],by rw[Nat.add_mul_mod_self_left,Nat.mod_eq_of_lt hl]⟩
 ·have hl:vb 65536 L<65536^z:=by
   have h1:=Zbl (b:=65536) (by omega) L h;have h2:=Nat.pow_le_pow_right (show 0<65536 by omega) (show L.length≤z by omega);omega
  rw[List.drop_of_length_le (by omega),List.take_of_length_le (by omega)];exact⟨Nat.div_eq_of_lt hl,Nat.mod_eq_of_lt hl⟩
theorem Zcl {L:List Int}{z:Nat}:vb 65536 (L.drop z)=dgS L z+65536*vb 65536 (L.drop (z+1)):=by
 by_cases hz:z<L.length
 ·rw[List.drop_eq_getElem_cons hz];simp only[vb,dgS];simp [List.getD,List.getElem?_eq_getElem hz]
 ·rw[List.drop_of_length_le (by omega),List.drop_of_length_le (by omega)];simp [vb,dgS,List.getD,List.getElem?_eq_none (show L.length≤z by omega)]
theorem Zh6 {s:Nat}(h:s≤16):2^s*2^(16-s)=65536:=by rw[← Nat.pow_add,show s+(16-s)=16 by omega]
theorem Z0E {L:List Int}(h:∀ x∈L,Dg 65536 x) (k:Nat):vb 65536 L/2^k % 2=dgS L (k/16)/2^(k % 16) % 2:=by
 obtain⟨e,_⟩:=ZmC h (k/16);rw[Zcp,← Nat.div_div_eq_div_mul,e,Zcl];have hd:=Zh6 (s:=k % 16+1) (by omega);have e2:65536*vb 65536 (L.drop (k/16+1))=2^(k % 16)*(2*(2^(16-(k % 16+1))*vb 65536 (L.drop (k/16+1)))):=by
  rw[← hd,Nat.pow_succ];simp only[Nat.mul_assoc]
 have hp:0<2^(k % 16):=Nat.pow_pos (by omega);rw[e2,Nat.add_mul_div_left _ _ hp];omega
theorem lost_iff {L:List Int}(h:∀ x∈L,Dg 65536 x) (k:Nat):(vb 65536 L % 2^k≠0)↔(vb 65536 (L.take (k/16))≠0∨dgS L (k/16) % 2^(k % 16)≠0):=by
 obtain⟨e1,e2⟩:=ZmC h (k/16);have hp:0<65536^(k/16):=Nat.pow_pos (by omega);rw[Zcp,Nat.mod_mul,e1,e2,Zcl];have hd:=Zh6 (s:=k % 16) (by omega);have e3:(dgS L (k/16)+65536*vb 65536 (L.drop (k/16+1))) % 2^(k % 16)=dgS L (k/16) % 2^(k % 16):=by
  rw[← hd,Nat.mul_assoc,Nat.add_mul_mod_self_left]
 rw[e3];generalize dgS L (k/16) % 2^(k % 16)=r;generalize vb 65536 (L.take (k/16))=u;constructor
 ·intro h0;by_cases hu:u=0
  ·right
   intro hr;apply h0;rw[hu,hr,Nat.mul_zero]
  ·exact .inl hu
 ·rintro (h0 | h0) hh
  ·omega
  ·have:0<65536^(k/16)*r:=Nat.mul_pos hp (by omega);omega
theorem ZmD {O:List Int}{P R y x0 x1 j W:Nat}(hPR:P*R=65536) (hO:O.length=j) (h:vb 65536 O*P+y=W+65536^j*(x0 % P)):
  vb 65536 (O++[((x0/P+x1 % P*R:Nat):Int)])*P+y=(W+65536^j*x0)+65536^(j+1)*(x1 % P):=by
 have e:vb 65536 (O++[((x0/P+x1 % P*R:Nat):Int)])=vb 65536 O+65536^j*(x0/P+x1 % P*R):=by
  rw[Zdb,hO,Xg]
 have e2:=Nat.div_add_mod x0 P;have e3:65536^j*(x0/P+x1 % P*R)*P=65536^j*(P*(x0/P))+65536^(j+1)*(x1 % P):=by
  rw[Nat.mul_assoc,Nat.add_mul,Nat.mul_add,Nat.mul_comm (x0/P) P,Nat.mul_assoc (x1 % P),Nat.mul_comm R P,hPR,Nat.pow_succ,Nat.mul_comm (x1 % P),Nat.mul_assoc]
 have e4:65536^j*x0=65536^j*(P*(x0/P))+65536^j*(x0 % P):=by rw[← Nat.mul_add,e2]
 rw[e,Nat.add_mul,e3];omega
theorem ZmE {P R x0 x1:Nat}(hP:0<P) (hPR:P*R=65536) (h0:x0<65536):x0/P+x1 % P*R<65536:=by
 have h1:x0/P<R:=Nat.div_lt_of_lt_mul (by omega);have h2:x1 % P+1≤P:=Nat.mod_lt _ hP;have h3:=Nat.mul_le_mul_right R h2;rw[Nat.add_mul,Nat.one_mul,hPR] at h3;omega
theorem Zq6 {L:List Int}(h:∀ x∈L,Dg 65536 x) {k V':Nat}(e:V'*2^(k % 16)+dgS L (k/16) % 2^(k % 16)=vb 65536 (L.drop (k/16))):V'=vb 65536 L/2^k:=by
 have hp:0<2^(k % 16):=Nat.pow_pos (by omega);obtain⟨e1,_⟩:=ZmC h (k/16);rw[Zcp,← Nat.div_div_eq_div_mul,e1,← e,Nat.add_comm,Nat.mul_comm,Nat.add_mul_div_left _ _ hp,Nat.div_eq_of_lt (Nat.mod_lt _ hp),Nat.zero_add]
theorem ZmF {b:Nat}:∀ {L:List Int}{j:Nat},j<L.length→∀ v:Int,vb b (L.set j v)+b^j*(L.getD j 0).toNat=vb b L+b^j*v.toNat
 | [],_,h,_=>by simp at h
 | x::L,0,_,v=>by simp [vb];omega
 | x::L,j+1,h,v=>by
  have ih:=ZmF (b:=b) (L:=L) (j:=j) (by simpa using h) v;have e:(x::L).getD (j+1) 0=L.getD j 0:=by simp [List.getD]
  simp only[List.set,vb,e];have h2:=congrArg (fun t=>b*t) ih;simp only[Nat.mul_add] at h2;rw[Nat.pow_succ,Nat.mul_comm (b^j) b,Nat.mul_assoc,Nat.mul_assoc];omega
theorem ZmG {L:List Int}(h:∀ x∈L,Dg 65536 x) {v:Int}(hv:Dg 65536 v) (j:Nat):∀ x∈L.set j v,Dg 65536 x:=fun x hx=>by
 rcases List.mem_or_eq_of_mem_set hx with hx | rfl
 ·exact h x hx
 ·exact hv
theorem Zq7 {L:List Int}{j:Nat}(hj:j<L.length) (hL:∀ x∈L,Dg 65536 x) {c p q:Nat}(hc:c<65536) (hp:p<65536) (hq:q<65536):
  let t:=c+(L.getD j 0).toNat+p*q
  vb 65536 (L.set j ((t % 65536:Nat):Int))+t/65536*65536^(j+1)=vb 65536 L+c*65536^j+p*q*65536^j∧t/65536<65536∧(∀ x∈L.set j ((t % 65536:Nat):Int),Dg 65536 x):=by
 intro t;have hd:(L.getD j 0).toNat<65536:=Z5J hL j;have hpq:p*q≤65535*65535:=Nat.mul_le_mul (by omega) (by omega);have ht:t=c+(L.getD j 0).toNat+p*q:=rfl;refine⟨?_,by omega,ZmG hL ⟨by omega,by omega⟩ j⟩;have h1:=ZmF (b:=65536) hj ((t % 65536:Nat):Int);rw[Xg] at h1;have h2:=Nat.div_add_mod t 65536;have h3:65536^j*t=65536^j*(65536*(t/65536))+65536^j*(t % 65536):=by rw[← Nat.mul_add,h2]
 have h4:65536^j*t=65536^j*c+65536^j*(L.getD j 0).toNat+65536^j*(p*q):=by rw[ht,Nat.mul_add,Nat.mul_add]
 have h5:t/65536*65536^(j+1)=65536^j*(65536*(t/65536)):=by rw[Nat.pow_succ,Nat.mul_comm,Nat.mul_assoc]
 rw[h5,Nat.mul_comm c,Nat.mul_comm (p*q)];omega
end Go.Nt
namespace Go.Proofs.YtjlponbdflkbjaaGreatDoor
open Go.Proofs.Tryz
open Go.IntKind
open Go.KRun Go.Nt
set_option maxRecDepth 100000
set_option linter.unusedVariables false
def muB (F:Func):Code:=Z3 (Z0 (Z0 (Zs F)))
def muO (F:Func):Code:=cIn (cIn (Z0 (muB F)))
def muI (F:Func):Code:=cIn (Z3 (Z0 (muO F)))
def muL (F:Func):Code:=cIn (cIn (Z0 (Z3 (Z0 (muI F)))))
def ZyW (F:Func):List Code:=[Z3 (Zs F),Z3 (Z0 (Zs F))]
def muE (F:Func):Code:=Z0 (Z0 (Z0 (Zs F)))
theorem Zg5:f52.body=some (za (ZyW f52) (.seq (.seq (Z3 (muB f52)) (.block 0 (.loop (muO f52)))) (muE f52))):=by kernel_rfl
theorem Zi8:muO f52= .seq (Z3 (muO f52)) (.seq (.block 1 (muI f52)) (Z0 (Z0 (muO f52)))):=by kernel_rfl
theorem Zq8:muI f52= .seq (Z3 (muI f52)) (.seq (.seq (Z3 (Z3 (Z0 (muI f52)))) (.block 2 (.loop (muL f52)))) (Z0 (Z0 (muI f52)))):=by kernel_rfl
def mFr (o n c o' n' c' z:Nat) (i v7 v8:Value):List Value:=[sl 0 o n c,sl 1 o' n' c',undef,undef,Zp,sl 2 0 z z,i,v7,v8]
def hM3 (lo lb la:List Value):Hp:=⟨3,[(lo,tU),(lb,tR),(la,tR)]⟩
def zM (n n':Nat):Int:=i64.wrap ((n:Int)+n')
def inM (j:Int) (n:Nat):Bool×Bool:=(decide (0≤j∧j<(n:Int)),true)
def ceM (l:List Value) (o:Nat) (j x:Int):Bool×Bool:=(Z5 (l[o+j.toNat*1]?) (.int .u32 x),true)
def stM (l:List Value) (j:Int):Bool×Bool:=(decide (0+j.toNat*1<l.length),true)
def d65:Bool×Bool:=(decide ((65536:Int)=0),false)
def tM (c7 d p q:Int):Int:=u64.wrap (u64.wrap (c7+u64.wrap d)+u64.wrap (u64.wrap p*u64.wrap q))
def ijM (i k:Int):Int:=i64.wrap (i+k)
theorem Z0F (o n c o' n' c':Nat) (la lb:List Value):Zg (evL (Zr prog Zf Zn hcV) 200 (ZyW f52) ([sl 0 o n c,sl 1 o' n' c']++List.replicate 66 undef,h2 la lb,[at_]) ⟨[],[],[]⟩) 6 62 none [sl 0 o n c,sl 1 o' n' c',undef,undef,Zp,sl 2 0 (zM n n').toNat (zM n n').toNat] (hM3 (List.replicate (zM n n').toNat (.int .u32 0)) lb la) [(ZI 4 (zM n n') (zM n n'),true)]:=by and_intros<;>kernel_rfl
theorem Z0G (v0 v1 v5:Value) (h:Hp) (g:Nat→Value):Zg (evC (Zr prog Zf Zn hcV) 200 false (Z3 (muB f52)) ([v0,v1,undef,undef,Zp,v5]++tl 62 g,h,[]) ⟨[],[],[]⟩) 9 59 none [v0,v1,undef,undef,Zp,v5,.int .i64 0,g 1,g 2] h []:=by and_intros<;>kernel_rfl
theorem Z5K (o n c o' n' c' z:Nat) (i c7 k d p q:Int) (v7 v8:Value) (lo lb la:List Value) (g:Nat→Value):Zg (evC (Zr prog Zf Zn hcV) 200 false (Z3 (muO f52)) (mFr o n c o' n' c' z (.int .i64 i) v7 v8++tl 59 g,hM3 lo lb la,[cmp true]) ⟨[],[],[]⟩) 9 59 none (mFr o n c o' n' c' z (.int .i64 i) v7 v8) (hM3 lo lb la) [(decide (i<(n:Int)),true)]:=by and_intros<;>kernel_rfl
theorem Z5L (o n c o' n' c' z:Nat) (i c7 k d p q:Int) (v7 v8:Value) (lo lb la:List Value) (g:Nat→Value):Zg (evC (Zr prog Zf Zn hcV) 200 false (Z3 (muO f52)) (mFr o n c o' n' c' z (.int .i64 i) v7 v8++tl 59 g,hM3 lo lb la,[cmp false]) ⟨[],[],[]⟩) 9 59 (some (some 0)) (mFr o n c o' n' c' z (.int .i64 i) v7 v8) (hM3 lo lb la) [(decide (i<(n:Int)),false)]:=by and_intros<;>kernel_rfl
theorem Z5M (o n c o' n' c' z:Nat) (i c7 k d p q:Int) (v7 v8:Value) (lo lb la:List Value) (g:Nat→Value):Zg (evC (Zr prog Zf Zn hcV) 200 false (Z3 (muI f52)) (mFr o n c o' n' c' z (.int .i64 i) v7 v8++tl 59 g,hM3 lo lb la,[]) ⟨[],[],[]⟩) 9 59 none (mFr o n c o' n' c' z (.int .i64 i) (.int .u64 0) v8) (hM3 lo lb la) []:=by and_intros<;>kernel_rfl
theorem Z5N (o n c o' n' c' z:Nat) (i c7 k d p q:Int) (v7 v8:Value) (lo lb la:List Value) (g:Nat→Value):Zg (evC (Zr prog Zf Zn hcV) 200 false (Z3 (Z3 (Z0 (muI f52)))) (mFr o n c o' n' c' z (.int .i64 i) v7 v8++tl 59 g,hM3 lo lb la,[]) ⟨[],[],[]⟩) 9 59 none (mFr o n c o' n' c' z (.int .i64 i) v7 (.int .i64 0)) (hM3 lo lb la) []:=by and_intros<;>kernel_rfl
theorem Z5O (o n c o' n' c' z:Nat) (i c7 k d p q:Int) (v7 v8:Value) (lo lb la:List Value) (g:Nat→Value):Zg (evC (Zr prog Zf Zn hcV) 200 false (muL f52) (mFr o n c o' n' c' z (.int .i64 i) (.int .u64 c7) (.int .i64 k)++tl 59 g,hM3 lo lb la,[cmp true,at_,val (.int .u32 d),at_,val (.int .u32 p),at_,val (.int .u32 q),cmp true,at_,at_]) ⟨[],[],[]⟩) 9 59 none (mFr o n c o' n' c' z (.int .i64 i) (.int .u64 (u64.wrap ((tM c7 d p q).tdiv 65536))) (.int .i64 (i64.wrap (k+1)))) (hM3 (lo.set (0+(ijM i k).toNat*1) (.int .u32 (u32.wrap ((tM c7 d p q).tmod 65536)))) lb la) [stM lo (ijM i k),inM (ijM i k) z,d65,ceM lb o' k q,inM k n',ceM la o i p,inM i n,ceM lo 0 (ijM i k) d,inM (ijM i k) z,(decide (k<(n':Int)),true)]:=by and_intros<;>kernel_rfl
theorem Z0H (o n c o' n' c' z:Nat) (i c7 k d p q:Int) (v7 v8:Value) (lo lb la:List Value) (g:Nat→Value):Zg (evC (Zr prog Zf Zn hcV) 200 false (muL f52) (mFr o n c o' n' c' z (.int .i64 i) (.int .u64 c7) (.int .i64 k)++tl 59 g,hM3 lo lb la,[cmp false]) ⟨[],[],[]⟩) 9 59 (some (some 2)) (mFr o n c o' n' c' z (.int .i64 i) (.int .u64 c7) (.int .i64 k)) (hM3 lo lb la) [(decide (k<(n':Int)),false)]:=by and_intros<;>kernel_rfl
theorem Z0I (o n c o' n' c' z:Nat) (i c7 k d p q:Int) (v7 v8:Value) (lo lb la:List Value) (g:Nat→Value):Zg (evC (Zr prog Zf Zn hcV) 200 false (Z0 (Z0 (muI f52))) (mFr o n c o' n' c' z (.int .i64 i) (.int .u64 c7) v8++tl 59 g,hM3 lo lb la,[at_,at_]) ⟨[],[],[]⟩) 9 59 none (mFr o n c o' n' c' z (.int .i64 i) (.int .u64 c7) v8) (hM3 (lo.set (0+(ijM i n').toNat*1) (.int .u32 (u32.wrap c7))) lb la) [stM lo (ijM i n'),inM (ijM i n') z]:=by and_intros<;>kernel_rfl
theorem Z5P (o n c o' n' c' z:Nat) (i c7 k d p q:Int) (v7 v8:Value) (lo lb la:List Value) (g:Nat→Value):Zg (evC (Zr prog Zf Zn hcV) 200 false (Z0 (Z0 (muO f52))) (mFr o n c o' n' c' z (.int .i64 i) v7 v8++tl 59 g,hM3 lo lb la,[]) ⟨[],[],[]⟩) 9 59 none (mFr o n c o' n' c' z (.int .i64 (i64.wrap (i+1))) v7 v8) (hM3 lo lb la) []:=by and_intros<;>kernel_rfl
theorem Z0J (o n c o' n' c' z:Nat) (i c7 k d p q:Int) (v7 v8:Value) (lo lb la:List Value) (g:Nat→Value):Zg (evC (Zr prog Zf Zn hcV) 200 false (muE f52) (mFr o n c o' n' c' z (.int .i64 i) v7 v8++tl 59 g,hM3 lo lb la,[]) ⟨[],[],[]⟩) 5 63 (some none) [sl 0 o n c,sl 1 o' n' c',undef,undef,sl 2 0 (Zl (Zx lo 0 z)) (Zl (Zx lo 0 z))] (hM3 lo lb la) [(Zbm tU lo 0 z z,true)]:=by and_intros<;>kernel_rfl
theorem Runs.next {T:Tab}{c1 c2:Code}{x:Lf}{front:List Value}{n:Nat}{h:Hp}{P:Ex→Lf→Prop}(h1:Runs T c1 x fun e y=>e=none∧(∃ g,y.1=front++tl n g)∧y.2.1=h) (h2:∀ g s,Runs T c2 (front++tl n g,h,s) P):Runs T (.seq c1 c2) x P:=by
 refine Runs.seq h1 (fun y hy=> ?_) (fun e y hy=>by cases hy.1);obtain⟨_,⟨g,e1⟩,e2⟩:=hy;obtain⟨t,hh,s⟩:=y;simp only at e1 e2;subst e1 e2;exact h2 g s
theorem ZmH (O:List Int) (j:Nat) (v:Int):(wU O).set j (.int .u32 v)=wU (O.set j v):=by unfold wU;rw[List.map_set]
theorem Zcq {n:Int}(h0:0≤n) (h1:n<18446744073709551616):u64.wrap n=n:=by simp [IntKind.wrap,IntKind.bits,IntKind.signed];omega
theorem Zvr {O:List Int}{j:Nat}(h:j<O.length):(wU O)[0+j*1]? =some (.int .u32 (O.getD j 0)):=by
 rw[Nat.zero_add,Nat.mul_one];unfold wU;rw[List.getElem?_map,List.getElem?_eq_getElem h];simp [List.getD,List.getElem?_eq_getElem h]
theorem ZmI {n:Nat}(h:n<1000000):ZA n=true:=by
 unfold ZA;exact Zo.2 (by have:ZZ=4611686018427387904:=rfl;omega)
theorem ZmJ {x:Int}(h:Dg 65536 x):∃ p:Nat,x=(p:Int)∧p<65536:=⟨x.toNat,by have:=h.1;omega,by have:=h.1;have:=h.2;omega⟩
section
variable {la lb : List Value} {o c o' c' : Nat} {A B : List Int}
def mSt (o n c o' n' c' z:Nat) (la lb:List Value) (O:List Int) (i:Nat) (v7 v8:Value) (Y:Lf):Prop:=(∃ g,Y.1=mFr o n c o' n' c' z (.int .i64 ((i:Nat):Int)) v7 v8++tl 59 g)∧Y.2.1=hM3 (wU O) lb la
def mOk (z i n':Nat) (O:List Int):Prop:=O.length=z∧(∀ x∈O,Dg 65536 x)∧∀ j,i+n'≤j→O.getD j 0=0
def mIn (o c o' c':Nat) (la lb:List Value) (A B:List Int) (i V:Nat) (m:Nat) (Y:Lf):Prop:=
 ∃ k O c7,m=B.length-k∧k≤B.length∧mOk (A.length+B.length) i B.length O∧c7<65536∧vb 65536 O+c7*65536^(i+k)=V+(A.getD i 0).toNat*vb 65536 (B.take k)*65536^i∧mSt o A.length c o' B.length c' (A.length+B.length) la lb O i (.int .u64 ((c7:Nat):Int)) (.int .i64 ((k:Nat):Int)) Y
def mFi (o c o' c':Nat) (la lb:List Value) (A B:List Int) (i V:Nat) (Y:Lf):Prop:=
 ∃ O c7 v8,mOk (A.length+B.length) i B.length O∧c7<65536∧vb 65536 O+c7*65536^(i+B.length)=V+(A.getD i 0).toNat*vb 65536 B*65536^i∧mSt o A.length c o' B.length c' (A.length+B.length) la lb O i (.int .u64 ((c7:Nat):Int)) v8 Y
theorem Zvs {z i n':Nat}{O:List Int}(h:mOk z i n' O) {j:Nat}(hj:j<i+n') {v:Int}(hv:∀ x∈O.set j v,Dg 65536 x):mOk z i n' (O.set j v):=by
 refine⟨by rw[List.length_set];exact h.1,hv,fun t ht=> ?_⟩;have:=h.2.2 t ht;simp only[List.getD] at*;rw[List.getElem?_set_ne (by omega)];exact this
theorem ZjZ (rA:Row la o A) (rB:Row lb o' B) (dA:∀ x∈A,Dg 65536 x) (dB:∀ x∈B,Dg 65536 x) (hz:A.length+B.length<1000000) {i V:Nat}(hi:i<A.length) {Y0:Lf}(h0:mIn o c o' c' la lb A B i V B.length Y0):
  Runs (Zr prog Zf Zn hcV) (.block 2 (.loop (muL f52))) Y0 fun e Y=>match e with | none=>mFi o c o' c' la lb A B i V Y | some none=>False | some (some _)=>False:=by
 refine Runs.forLoop (P:=mFi o c o' c' la lb A B i V) (R:=fun _=>False) (mIn o c o' c' la lb A B i V) ?_ (n:=B.length) h0;rintro m ⟨t,h',s⟩ ⟨k,O,c7,hm,hk,hO,hc,hval,⟨g,ht⟩,hh⟩;simp only at ht hh;subst ht hh;by_cases hlt:k<B.length
 ·have hj:i+k<O.length:=by rw[hO.1];omega
  obtain⟨p,ep,hp⟩:=ZmJ (Zef dA i);obtain⟨q,eq,hq⟩:=ZmJ (Zef dB k);obtain⟨d,ed,hd⟩:=ZmJ (Zef hO.2.1 (i+k));have eij:ijM i k=((i+k:Nat):Int):=by unfold ijM;rw[Zv (by omega) (by omega)];omega
  have hpq:p*q≤65535*65535:=Nat.mul_le_mul (by omega) (by omega);have epq:(p:Int)*(q:Int)=((p*q:Nat):Int):=by simp
  have eT:tM c7 d p q=((c7+d+p*q:Nat):Int):=by
   unfold tM;rw[Zcq (n:=(d:Int)) (by omega) (by omega),Zcq (n:=(p:Int)) (by omega) (by omega),Zcq (n:=(q:Int)) (by omega) (by omega),epq,Zcq (n:=((p*q:Nat):Int)) (by omega) (by omega),Zcq (n:=(c7:Int)+(d:Int)) (by omega) (by omega),Zcq (by omega) (by omega)];omega
  have e1:u64.wrap ((tM c7 d p q).tdiv 65536)=(((c7+d+p*q)/65536:Nat):Int):=by
   rw[eT,Int.tdiv_eq_ediv_of_nonneg (by omega),Zcq (by omega) (by omega)];omega
  have e2:u32.wrap ((tM c7 d p q).tmod 65536)=(((c7+d+p*q) % 65536:Nat):Int):=by
   rw[eT,Int.tmod_eq_emod_of_nonneg (by omega),zl (by omega) (by omega)];omega
  have e3:i64.wrap ((k:Int)+1)=((k+1:Nat):Int):=by rw[Zv (by omega) (by omega)];omega
  have hstep:=Zq7 hj hO.2.1 hc hp hq;rw[ed,Xg] at hstep;obtain⟨s1,s2,s3⟩:=hstep;have hw:=Z5O o A.length c o' B.length c' (A.length+B.length) i c7 k d p q undef undef (wU O) lb la g;have lg:Z2 [stM (wU O) (ijM i k),inM (ijM i k) (A.length+B.length),d65,ceM lb o' k q,inM k B.length,ceM la o i p,inM i A.length,ceM (wU O) 0 (ijM i k) d,inM (ijM i k) (A.length+B.length),(decide ((k:Int)<((B.length:Nat):Int)),true)]:=by
   have g1:decide (0+(ijM i k).toNat*1<(wU O).length)=true:=Xa (by rw[eij,Xg,Zak];omega);have g2:decide (0≤ijM i k∧ijM i k<((A.length+B.length:Nat):Int))=true:=Xa (by rw[eij];omega);have g3:Z5 (lb[o'+(k:Int).toNat*1]?) (.int .u32 q)=true:=by rw[Xg,Nat.mul_one,rB.cell hlt,eq];simp [Z5]
   have g4:decide (0≤(k:Int)∧(k:Int)<((B.length:Nat):Int))=true:=Xa (by omega);have g5:Z5 (la[o+(i:Int).toNat*1]?) (.int .u32 p)=true:=by rw[Xg,Nat.mul_one,rA.cell hi,ep];simp [Z5]
   have g6:decide (0≤(i:Int)∧(i:Int)<((A.length:Nat):Int))=true:=Xa (by omega);have g7:Z5 ((wU O)[0+(ijM i k).toNat*1]?) (.int .u32 d)=true:=by rw[eij,Xg,Zvr hj,ed];simp [Z5]
   exact Zi g1 (Zi g2 (Zi rfl (Zi g3 (Zi g4 (Zi g5 (Zi g6 (Zi g7 (Zi g2 (Zt (Xa (by omega)))))))))))
  rw[e1,e2,e3,eij,Xg,Nat.zero_add,Nat.mul_one,ZmH] at hw;refine (Zb (Zh Zd Zu) hw (by rw[← Xg (i+k),← eij] at*;exact lg)).mono fun e z hz=> ?_;obtain⟨rfl,z1,z2⟩:=hz;refine⟨B.length-(k+1),by omega,k+1,O.set (i+k) (((c7+d+p*q) % 65536:Nat):Int),(c7+d+p*q)/65536,rfl,by omega,Zvs hO (by omega) s3,s2,?_,z1,z2⟩;rw[Zaj,Nat.mul_add,Nat.add_mul,eq,Xg,ep,Xg];rw[ep,Xg] at hval;have x1:p*(65536^k*q)*65536^i=p*q*65536^(i+k):=by rw[Nat.pow_add,Nat.mul_comm (65536^k) q,← Nat.mul_assoc,Nat.mul_assoc (p*q),Nat.mul_comm (65536^k)]
  rw[x1];have x2:i+(k+1)=i+k+1:=by omega
  rw[x2];omega
 ·have hkl:k=B.length:=by omega
  subst hkl;refine (Zb (Zh Zd Zu) (Z0H o A.length c o' B.length c' (A.length+B.length) i c7 ((B.length:Nat):Int) 0 0 0 undef undef (wU O) lb la g) (Zt (Xb (by omega)))).mono fun e z hz=> ?_;obtain⟨rfl,z1,z2⟩:=hz;rw[List.take_length] at hval;exact⟨rfl,O,c7,_,hO,hc,hval,z1,z2⟩
theorem Z9i {T:Tab}{c:Code}{id:Nat}{x:Lf}{P:Lf→Prop}(h:Runs T c x fun e y=>e=none∧P y):Runs T (.block id c) x fun e y=>e=none∧P y:=
 Runs.block h (fun y hy=>hy) (fun y hy=>by cases hy.1) (fun y hy=>by cases hy.1) (fun id' y _ hy=>by cases hy.1)
def mOu (o c o' c':Nat) (la lb:List Value) (A B:List Int) (i:Nat) (Y:Lf):Prop:=
 ∃ O v7 v8,mOk (A.length+B.length) i B.length O∧vb 65536 O=vb 65536 (A.take i)*vb 65536 B∧mSt o A.length c o' B.length c' (A.length+B.length) la lb O i v7 v8 Y
theorem Zka (rA:Row la o A) (rB:Row lb o' B) (dA:∀ x∈A,Dg 65536 x) (dB:∀ x∈B,Dg 65536 x) (hz:A.length+B.length<1000000) {i:Nat}(hi:i<A.length) {Y0:Lf}(h0:mOu o c o' c' la lb A B i Y0):
  Runs (Zr prog Zf Zn hcV) (muO f52) Y0 fun e Y=>e=none∧mOu o c o' c' la lb A B (i+1) Y:=by
 obtain⟨O,v7,v8,hO,hval,⟨g,ht⟩,hh⟩:=h0;obtain⟨t,h',s⟩:=Y0;simp only at ht hh;subst ht hh;have hT:=Zh Zd Zu;rw[Zi8];refine Runs.next (Zb hT (Z5K o A.length c o' B.length c' (A.length+B.length) i 0 0 0 0 0 v7 v8 (wU O) lb la g) (Zt (Xa (by omega)))) fun g s=> ?_;refine Runs.seq (P1:=fun e Y=>e=none∧∃ O v7 v8,mOk (A.length+B.length) (i+1) B.length O∧vb 65536 O=vb 65536 (A.take (i+1))*vb 65536 B∧mSt o A.length c o' B.length c' (A.length+B.length) la lb O i v7 v8 Y) (Z9i ?_) ?_ (fun e y hy=>by cases hy.1)
 ·rw[Zq8];refine Runs.next (Zb hT (Z5M o A.length c o' B.length c' (A.length+B.length) i 0 0 0 0 0 v7 v8 (wU O) lb la g) (fun _ h=>by cases h)) fun g s=> ?_;refine Runs.seq (P1:=fun e Y=>e=none∧mFi o c o' c' la lb A B i (vb 65536 O) Y) ?_ ?_ (fun e y hy=>by cases hy.1)
  ·refine Runs.next (Zb hT (Z5N o A.length c o' B.length c' (A.length+B.length) i 0 0 0 0 0 (.int .u64 0) v8 (wU O) lb la g) (fun _ h=>by cases h)) fun g s=> ?_;refine (ZjZ rA rB dA dB hz hi (V:=vb 65536 O) ⟨0,O,0,by omega,by omega,hO,by omega,?_,⟨g,rfl⟩,rfl⟩).mono fun e Y hY=> ?_
   ·simp [vb]
   ·match e,hY with
    | none,hY=>exact⟨rfl,hY⟩
    | some none,hY=>exact hY.elim
    | some (some _),hY=>exact hY.elim
  ·rintro⟨t,h',s⟩ ⟨_,O',c7,w8,hO',hc7,hv',⟨g,ht⟩,hh⟩;simp only at ht hh;subst ht hh;have hj:i+B.length<O'.length:=by rw[hO'.1];omega
   have eij:ijM i ((B.length:Nat):Int)=((i+B.length:Nat):Int):=by unfold ijM;rw[Zv (by omega) (by omega)];omega
   have e1:u32.wrap ((c7:Nat):Int)=((c7:Nat):Int):=zl (by omega) (by omega);have hw:=Z0I o A.length c o' B.length c' (A.length+B.length) i c7 0 0 0 0 undef w8 (wU O') lb la g;have g1:decide (0+(ijM i ((B.length:Nat):Int)).toNat*1<(wU O').length)=true:=Xa (by rw[eij,Xg,Zak];omega);have g2:decide (0≤ijM i ((B.length:Nat):Int)∧ijM i ((B.length:Nat):Int)<((A.length+B.length:Nat):Int))=true:=Xa (by rw[eij];omega);have r:=Zb (s0:=s) hT hw (Zi g1 (Zt g2));rw[e1,eij,Xg,Nat.zero_add,Nat.mul_one,ZmH] at r;refine r.mono fun e z hz=> ?_;obtain⟨rfl,z1,z2⟩:=hz;have hdg:∀ x∈O'.set (i+B.length) ((c7:Nat):Int),Dg 65536 x:=ZmG hO'.2.1 ⟨by omega,by omega⟩ _;refine⟨rfl,O'.set (i+B.length) ((c7:Nat):Int),_,_,⟨by rw[List.length_set];exact hO'.1,hdg,fun j hj'=> ?_⟩,?_,z1,z2⟩
   ·have:=hO'.2.2 j (by omega);simp only[List.getD] at*;rw[List.getElem?_set_ne (by omega)];exact this
   ·have hs:=ZmF (b:=65536) hj ((c7:Nat):Int);rw[hO'.2.2 (i+B.length) (Nat.le_refl _),Xg] at hs;rw[Zaj,Nat.add_mul,← hval];have x1:65536^i*(A.getD i 0).toNat*vb 65536 B=(A.getD i 0).toNat*vb 65536 B*65536^i:=by rw[Nat.mul_assoc,Nat.mul_comm]
    rw[x1];have x2:c7*65536^(i+B.length)=65536^(i+B.length)*c7:=Nat.mul_comm _ _;have x3:(65536:Nat)^(i+B.length)*(0:Int).toNat=0:=by simp
    omega
 ·rintro⟨t,h',s⟩ ⟨_,O',w7,w8,hO',hv',⟨g,ht⟩,hh⟩;simp only at ht hh;subst ht hh;have e3:i64.wrap ((i:Int)+1)=((i+1:Nat):Int):=by rw[Zv (by omega) (by omega)];omega
  have hw:=Z5P o A.length c o' B.length c' (A.length+B.length) i 0 0 0 0 0 w7 w8 (wU O') lb la g;rw[e3] at hw;refine (Zb hT hw (fun _ h=>by cases h)).mono fun e z hz=> ?_;obtain⟨rfl,z1,z2⟩:=hz;exact⟨rfl,O',w7,w8,hO',hv',z1,z2⟩
theorem ZmK (rA:Row la o A) (rB:Row lb o' B) (dA:∀ x∈A,Dg 65536 x) (dB:∀ x∈B,Dg 65536 x) (hz:A.length+B.length<1000000) {Y0:Lf}(h0:mOu o c o' c' la lb A B 0 Y0):
  Runs (Zr prog Zf Zn hcV) (.block 0 (.loop (muO f52))) Y0 fun e Y=>match e with | none=>mOu o c o' c' la lb A B A.length Y | some none=>False | some (some _)=>False:=by
 refine Runs.forLoop (P:=mOu o c o' c' la lb A B A.length) (R:=fun _=>False) (fun m Y=>∃ i,m=A.length-i∧i≤A.length∧mOu o c o' c' la lb A B i Y) ?_ (n:=A.length) ⟨0,by omega,by omega,h0⟩;rintro m Y ⟨i,hm,hi,hY⟩;by_cases hlt:i<A.length
 ·refine (Zka rA rB dA dB hz hlt hY).mono fun e z hz'=> ?_;obtain⟨rfl,z1⟩:=hz';exact⟨A.length-(i+1),by omega,i+1,rfl,by omega,z1⟩
 ·have hil:i=A.length:=by omega
  subst hil;obtain⟨O,v7,v8,hO,hval,⟨g,ht⟩,hh⟩:=hY;obtain⟨t,h',s⟩:=Y;simp only at ht hh;subst ht hh;rw[Zi8];refine Runs.seq (Zb (Zh Zd Zu) (Z5L o A.length c o' B.length c' (A.length+B.length) ((A.length:Nat):Int) 0 0 0 0 0 v7 v8 (wU O) lb la g) (Zt (Xb (by omega)))) (fun y hy=>by cases hy.1) (fun e y hy=> ?_);obtain⟨e1,z1,z2⟩:=hy;cases e1;exact⟨rfl,O,v7,v8,hO,hval,z1,z2⟩
theorem ZmL (rA:Row la o A) (rB:Row lb o' B) (dA:∀ x∈A,Dg 65536 x) (dB:∀ x∈B,Dg 65536 x) (hz:A.length+B.length<1000000):
  Runs (Zr prog Zf Zn hcV) (za (ZyW f52) (.seq (.seq (Z3 (muB f52)) (.block 0 (.loop (muO f52)))) (muE f52))) ([sl 0 o A.length c,sl 1 o' B.length c']++List.replicate 66 undef,h2 la lb,[]) fun e z=>(e=none∨e=some none)∧ZV prog f52 z.1 z.2.1=some (sl 2 0 (d16 (vb 65536 A*vb 65536 B)).length (d16 (vb 65536 A*vb 65536 B)).length)∧∃ r,z.2.1.blk? 2=some (wU (d16 (vb 65536 A*vb 65536 B))++r,tU):=by
 have hT:=Zh Zd Zu;have ez:zM A.length B.length=((A.length+B.length:Nat):Int):=by unfold zM;rw[Zv (by omega) (by omega)];omega
 have hp:=Z0F o A.length c o' B.length c' la lb;have mk:ZI 4 (zM A.length B.length) (zM A.length B.length)=true:=by unfold ZI;rw[ez];exact Xa (by omega)
 refine Zw hT hp (Zt mk) fun g=> ?_;rw[ez,Xg];have ew:List.replicate (A.length+B.length) (Value.int .u32 0)=wU (List.replicate (A.length+B.length) 0):=by unfold wU;rw[List.map_replicate]
 rw[ew];have hrep:mOk (A.length+B.length) 0 B.length (List.replicate (A.length+B.length) (0:Int)):=by
  refine⟨by simp,fun x hx=> ?_,fun j _=> ?_⟩
  ·rw[List.eq_of_mem_replicate hx];exact⟨by omega,by omega⟩
  ·simp only[List.getD,List.getElem?_replicate];split<;>rfl
 have hv0:∀ n:Nat,vb 65536 (List.replicate n (0:Int))=0:=fun n=>by
  induction n with
  | zero=>rfl
  | succ n ih=>rw[List.replicate_succ];simp only[vb,ih];rfl
 refine Runs.seq (P1:=fun e Y=>e=none∧mOu o c o' c' la lb A B A.length Y) ?_ ?_ (fun e y hy=>by cases hy.1)
 ·refine Runs.next (Zb hT (Z0G (sl 0 o A.length c) (sl 1 o' B.length c') (sl 2 0 (A.length+B.length) (A.length+B.length)) _ g) (fun _ h=>by cases h)) fun g s=> ?_;refine (ZmK rA rB dA dB hz ⟨List.replicate (A.length+B.length) 0,_,_,hrep,by rw[hv0];simp [vb],⟨g,rfl⟩,rfl⟩).mono fun e Y hY=> ?_
  match e,hY with
  | none,hY=>exact⟨rfl,hY⟩
  | some none,hY=>exact hY.elim
  | some (some _),hY=>exact hY.elim
 ·rintro⟨t,h',s⟩ ⟨_,O,v7,v8,hO,hval,⟨g,ht⟩,hh⟩;simp only at ht hh;subst ht hh;rw[List.take_length] at hval;have hl:=hO.1;have hrow:Zbm tU (wU O) 0 (A.length+B.length) (A.length+B.length)=true:=by
   have:=Zap (L:=O) (fun x hx=>⟨(hO.2.1 x hx).1,by have:=(hO.2.1 x hx).2;omega⟩) (by rw[hl];omega) (c:=A.length+B.length) (by rw[hl];unfold Zda;simp;exact .inl (ZmI (by omega)));rw[hl] at this;exact this
  have ec:Zx (wU O) 0 (A.length+B.length)=O:=by
   have:=ZaO O;rw[hl] at this;exact this
  have et:Zl O=(d16 (vb 65536 A*vb 65536 B)).length:=by
   rw[Zat (by omega) hO.2.1,hval];rfl
  refine (Zb hT (Z0J o A.length c o' B.length c' (A.length+B.length) ((A.length:Nat):Int) 0 0 0 0 0 v7 v8 (wU O) lb la g) (Zt hrow)).mono fun e z hz'=> ?_;obtain⟨rfl,⟨g',e1⟩,e2⟩:=hz';refine⟨.inr rfl,?_,?_⟩
  ·rw[e1,e2,ec,et];rfl
  ·rw[e2];refine⟨wU (O.drop (Zl O)),?_⟩;have e3:wU (d16 (vb 65536 A*vb 65536 B))++wU (O.drop (Zl O))=wU O:=by
    unfold d16;rw[← hval,← zk (by omega) _ hO.2.1,← ZX,List.take_append_drop]
   rw[e3];rfl
end
def Ztf (h:Hp) (p q:Option Addr) (n c n' c':Nat):Bool:=zS h p n c && dgB (Zq h p n) && (zS h q n' c' && dgB (Zq h q n')) && Nat.blt (n+n') 1000000
def Z0K:Zac:=fun vals h s=>
 match vals with
 | [.slice (some ⟨b,o,none⟩) n c,.slice (some ⟨b',o',none⟩) n' c']=>Zdf (vO h (some ⟨b,o,none⟩) n*vO h (some ⟨b',o',none⟩) n') h s [(Ztf h (some ⟨b,o,none⟩) (some ⟨b',o',none⟩) n c n' c',true)]
 | _=>none
theorem Zq9:Z8 52 Z0K:=by
 intro vals h s v h' s' lg hg hl m B w E0 hv;unfold Z0K at hg;split at hg
 ·rename_i b o n c b' o' n' c';unfold Zdf at hg;cases hg;have l3:=hl _ Xf;simp only[Ztf,Xh] at l3;obtain⟨⟨⟨q1,q2⟩,⟨p1,p2⟩⟩,q4⟩:=l3;have q2:=Zbw q2;have p2:=Zbw p2;have q4:=Zo.1 q4;rcases ZF q1 with ⟨h0,_⟩ | ⟨b1,o1,x,hp,hx,r1,rs,e0⟩
  ·cases h0
  ·cases hp;rcases ZF p1 with ⟨h0,_⟩ | ⟨b2,o2,y,hp',hy,t1,ts,f0⟩
   ·cases h0
   ·cases hp';rw[e0] at q2;rw[f0] at p2;obtain⟨h1,h2',h3,h4,h5,h6,h7⟩:=zu r1;obtain⟨k1,k2,k3,k4,k5,k6,k7⟩:=zu t1;have ev:vO h (some ⟨b,o,none⟩) n=vb 65536 (Zx x.1 o n):=by unfold vO;rw[e0]
    have ev':vO h (some ⟨b',o',none⟩) n'=vb 65536 (Zx y.1 o' n'):=by unfold vO;rw[f0]
    have r:=ZmL (c:=c) (c':=c') h1 k1 q2 p2 (by rw[h2',k2];exact q4);rw[h2',k2,← ev,← ev'] at r;have evals:List.map (rn (ZeT b b')) [sl 0 o n c,sl 1 o' n' c']=[.slice (some ⟨b,o,none⟩) n c,.slice (some ⟨b',o',none⟩) n' c']:=by
     simp [rn,rn2,rn1,sl,ZeT]
    have fin:=ZE (T:=Zr prog Zf Zn hcV) func52 Zg5 (Zhm h7 k7) (vals:=[sl 0 o n c,sl 1 o' n' c']) (fun v hv=>by
     simp only[List.mem_cons,List.not_mem_nil,or_false] at hv;rcases hv with h1 | h1<;>rw[h1]<;>rfl) (k:=2) (cs:=wU (d16 (vO h (some ⟨b,o,none⟩) n*vO h (some ⟨b',o',none⟩) n'))) (ty:=tU) (Zbb _) (by kernel_rfl) r.w (by rfl) E0 (s:=ZeT b b') (ZdV hx h5 h6 hy k5 k6)
    rw[evals] at fin;exact fin
 ·cases hg
end Go.Proofs.YtjlponbdflkbjaaGreatDoor
