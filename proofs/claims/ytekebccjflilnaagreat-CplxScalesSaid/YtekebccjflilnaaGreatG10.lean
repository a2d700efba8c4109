/-
  ConVA, ConVB, ConVC, ConVD, ConVE, ConVF, RfA, RfN, RfB
-/
import Derived.Test.YtekebccjflilnaaGreatG09
namespace Go.Proofs.YtekebccjflilnaaGreat
open Go.Proofs.Tryz
open Go.IntKind
open Go.KRun Go.Nt
set_option maxRecDepth 100000
theorem ZiG (a v:Value) (k:Nat) (h:Hp) (g:Nat→Value):
  Runs (Zp prog Zh Zo hcV) (.block 0 (.loop (sL1 f44))) ([a,.int .i64 (k:Nat),undef,undef,Zn,v,.int .u32 1,.int .i64 0]++tl 42 g,h,[]) fun e Y=>match e with | none=>(∃ g,Y.1=[a,.int .i64 (k:Nat),undef,undef,Zn,v,.int .u32 ((2^(k % 16):Nat):Int),.int .i64 ((k % 16:Nat):Int)]++tl 42 g)∧Y.2.1=h | some none=>False | some (some _)=>False:=by
 have em:(k:Int).tmod 16=((k % 16:Nat):Int):=by rw[Int.tmod_eq_emod_of_nonneg (by omega)];omega
 refine Runs.forLoop (P:=fun Y=>(∃ g,Y.1=[a,.int .i64 (k:Nat),undef,undef,Zn,v,.int .u32 ((2^(k % 16):Nat):Int),.int .i64 ((k % 16:Nat):Int)]++tl 42 g)∧Y.2.1=h) (R:=fun _=>False)
  (fun m Y=>∃ j:Nat,j≤k % 16∧m=k % 16-j∧(∃ g,Y.1=[a,.int .i64 (k:Nat),undef,undef,Zn,v,.int .u32 ((2^j:Nat):Int),.int .i64 (j:Nat)]++tl 42 g)∧Y.2.1=h) ?_ (n:=k % 16) ⟨0,by omega,by omega,⟨g,rfl⟩,rfl⟩
 rintro m ⟨t,h',s⟩ ⟨j,hj,hm,⟨g,ht⟩,hh⟩;simp only at ht hh;subst ht hh;by_cases hlt:j<k % 16
 ·refine (Zj (Zg Zd Zs) (Zs4 a v k _ j h' g) (Zt (by rw[em];exact Xa (by omega)) (Z2 rfl))).mono fun e z hz=> ?_;obtain⟨rfl,⟨g',z1⟩,z2⟩:=hz;have hp:2^j≤32768:=by
   have:=Nat.pow_le_pow_right (show 0<2 by omega) (show j≤15 by omega);omega
  have e1:u32.wrap (2*((2^j:Nat):Int))=((2^(j+1):Nat):Int):=by
   rw[Nat.pow_succ];generalize 2^j=Q at hp ⊢;rw[ze (by omega) (by omega)];omega
  have e2:i64.wrap ((j:Int)+1)=((j+1:Nat):Int):=by rw[ZL (by omega) (by omega)];omega
  exact⟨k % 16-(j+1),by omega,j+1,by omega,rfl,⟨g',by rw[z1,e1,e2]⟩,z2⟩
 ·have hj':j=k % 16:=by omega
  subst hj';refine (Zj (Zg Zd Zs) (Zs5 a v k _ _ h' g) (Zt (by rw[em];exact Xb (by omega)) (Z2 rfl))).mono fun e z hz=> ?_;obtain⟨rfl,⟨g',z1⟩,z2⟩:=hz;exact⟨rfl,⟨g',z1⟩,z2⟩
theorem ZfG {L M:List Int}{k c:Nat}(hk:k=L.length) (hc:k=c) (hM:0<M.length) (hb:L.length+M.length≤1073741824):Zc7 (wU L,tU) (wU M,tU) k c 0 M.length=true:=by
 subst hc;subst hk;unfold Zc7;simp only[Xh,Bool.not_eq_true',Zbr];refine⟨⟨⟨⟨⟨⟨⟨⟨Nat.beq_refl _,Nat.ble_eq_true_of_le hb⟩,by kernel_rfl⟩,Zk.2 (by unfold ZV;omega)⟩,?_⟩,by kernel_rfl⟩,Nat.ble_eq_true_of_le (by omega)⟩,Zk.2 hM⟩,?_⟩
 ·cases h:Nat.ble (L.length+M.length) L.length
  ·rfl
  ·have:=Nat.le_of_ble_eq_true h;omega
 ·rw[List.drop_zero,← Zbr,List.take_length];exact Zqk M
theorem Zwt {e x P:Nat}(he:e<P) (hx:x<65536) (hP:P≤32768):cy e x P=((e+x*P:Nat):Int)∧e+x*P<65536*P:=by
 have h1:x*P≤65535*P:=Nat.mul_le_mul_right P (by omega);have e1:(x:Int)*(P:Int)=((x*P:Nat):Int):=by simp
 unfold cy;rw[e1,ze (n:=((x*P:Nat):Int)) (by omega) (by omega),ze (by omega) (by omega)];omega
theorem Zo1 {O:List Int}{z i e x P W:Nat}(hO:O.length=z+i) (h:vb 65536 O+65536^(z+i)*e=65536^z*(P*W)):
  vb 65536 (O++[(((e+x*P) % 65536:Nat):Int)])+65536^(z+(i+1))*((e+x*P)/65536)=65536^z*(P*(W+65536^i*x)):=by
 rw[Zcv,Xg,hO,← Nat.add_assoc,Nat.pow_succ,Nat.mul_assoc];have e0:=Nat.mod_add_div (e+x*P) 65536;have e1:65536^(z+i)*((e+x*P) % 65536)+65536^(z+i)*(65536*((e+x*P)/65536))=65536^(z+i)*e+65536^(z+i)*(x*P):=by rw[← Nat.mul_add,e0,Nat.mul_add]
 have e2:65536^z*(P*(W+65536^i*x))=65536^z*(P*W)+65536^(z+i)*(x*P):=by
  rw[Nat.mul_add P,Nat.mul_add (65536^z),Nat.pow_add];congr 1;rw[Nat.mul_assoc (65536^z),Nat.mul_comm x P,Nat.mul_left_comm P]
 omega
section
variable {l : List Value} {o c : Nat} {A : List Int}
def hSt (l:List Value) (o c n z i P e:Nat) (j1 j7:Value) (O:List Int) (Y:Lf):Prop:=
 (i=0∧(∃ g,Y.1=[sl 0 o n c,j1,undef,undef,Zn,sl 1 0 z z,.int .u32 (P:Nat),j7,.int .u32 (e:Nat),.int .i64 (i:Nat)]++tl 40 g)∨(0<i∧∃ g,Y.1=[sl 0 o n c,j1,undef,undef,Zn,sl 1 0 (z+i) grown,.int .u32 (P:Nat),j7,.int .u32 (e:Nat),.int .i64 (i:Nat)]++tl 40 g))∧Y.2.1=⟨2,[(wU O,tU),(l,tR)]⟩
theorem ZiH (hR:Row l o A) (hs:∀ v∈l,still v=true) (hA:∀ x∈A,Dg 65536 x) {z i P e:Nat}{O:List Int}(hO:O.length=z+i) (he:e<P) (hP:P≤32768) (hi:i<A.length) (hz:z+A.length+2<1073741824) {j1 j7:Value}(w1:lt 2 j1=true∧rn (zv 1 3) j1=j1) (w7:lt 2 j7=true∧rn (zv 1 3) j7=j7) {Y:Lf}(hY:hSt l o c A.length z i P e j1 j7 O Y):
  RunsW (Zp prog Zh Zo hcV) (sL2 f44) Y fun ex W=>ex=none∧(∃ g,W.1=[sl 0 o A.length c,j1,undef,undef,Zn,sl 1 0 (z+(i+1)) grown,.int .u32 (P:Nat),j7,.int .u32 (((e+dgN A i*P)/65536:Nat):Int),.int .i64 ((i+1:Nat):Int)]++tl 40 g)∧W.2.1=⟨2,[(wU (O++[(((e+dgN A i*P) % 65536:Nat):Int)]),tU),(l,tR)]⟩:=by
 obtain⟨t,h',s⟩:=Y;have hd:=zn hA i;obtain⟨ec,hlt⟩:=Zwt he hd.1 hP;have e1:(cy e (A.getD i 0) P).tmod 65536=(((e+dgN A i*P) % 65536:Nat):Int):=by rw[← hd.2,ec,ZeP]
 have e2:u32.wrap ((cy e (A.getD i 0) P).tdiv 65536)=(((e+dgN A i*P)/65536:Nat):Int):=by rw[← hd.2,ec,ZeQ (by omega)]
 have e3:i64.wrap ((i:Int)+1)=((i+1:Nat):Int):=by rw[ZL (by omega) (by omega)];omega
 have hlog:Zx (lAx l o A.length i (A.getD i 0)):=Zt rfl (Zt (by
  show ZC (l[o+(i:Int).toNat*1]?) _=true;rw[Xg,Nat.mul_one,hR.cell hi];simp [ZC]) (Zt (Xa (by omega)) (Z2 (Xa (by omega)))))
 have ew:wU O++[.int .u32 (((e+dgN A i*P) % 65536:Nat):Int)]=wU (O++[(((e+dgN A i*P) % 65536:Nat):Int)]):=by rw[ZO];rfl
 have key:∀ {X:List Value×TypeId},RunsW (Zp prog Zh Zo hcV) (sL2 f44) (t,h',s) (fun ex W=>ex=none∧(∃ g,W.1=[sl 0 o A.length c,j1,undef,undef,Zn,sl 3 0 (z+i+1) grown,.int .u32 (P:Nat),j7,.int .u32 (((e+dgN A i*P)/65536:Nat):Int),.int .i64 ((i+1:Nat):Int)]++tl 40 g)∧W.2.1=⟨4,[(wU (O++[(((e+dgN A i*P) % 65536:Nat):Int)]),tU),([.int .u32 (((e+dgN A i*P) % 65536:Nat):Int)],tU),X,(l,tR)]⟩)→
   RunsW (Zp prog Zh Zo hcV) (sL2 f44) (t,h',s) fun ex W=>ex=none∧(∃ g,W.1=[sl 0 o A.length c,j1,undef,undef,Zn,sl 1 0 (z+(i+1)) grown,.int .u32 (P:Nat),j7,.int .u32 (((e+dgN A i*P)/65536:Nat):Int),.int .i64 ((i+1:Nat):Int)]++tl 40 g)∧W.2.1=⟨2,[(wU (O++[(((e+dgN A i*P) % 65536:Nat):Int)]),tU),(l,tR)]⟩:=fun {X} fin=>
  fin.kept (k:=1) (b:=3) (base:=[(l,tR)]) (y:=(wU (O++[(((e+dgN A i*P) % 65536:Nat):Int)]),tU)) (front':=[sl 0 o A.length c,j1,undef,undef,Zn,sl 1 0 (z+(i+1)) grown,.int .u32 (P:Nat),j7,.int .u32 (((e+dgN A i*P)/65536:Nat):Int),.int .i64 ((i+1:Nat):Int)]) rfl
   (by simp only[List.map_cons,List.map_nil,w1.2,w7.2];kernel_rfl) (fun j x hx=>by
    have hj:j<1:=Hp.blk_lt hx;have hj0:j=0:=by omega
    subst hj0;have hx':x=(l,tR):=(Option.some.inj hx).symm;subst hx';exact⟨rfl,hs⟩) rfl (by omega) (ZP _) (fun v hv=>by
    simp only[List.mem_cons,List.not_mem_nil,or_false] at hv;rcases hv with rfl | rfl | rfl | rfl | rfl | rfl | rfl | rfl | rfl | rfl
    ·rfl
    ·exact w1.1
    ·rfl
    ·rfl
    ·rfl
    ·rfl
    ·rfl
    ·exact w7.1
    ·rfl
    ·rfl)
 obtain⟨hY,hh⟩:=hY;simp only at hY hh;subst hh;rcases hY with ⟨h0,g,ht⟩ | ⟨h0,g,ht⟩
 ·subst ht;have hchk:Zc7 (wU O,tU) ([.int .u32 ((cy e (A.getD i 0) P).tmod 65536)],tU) z z 0 1=true:=
   ZfG (L:=O) (M:=[(cy e (A.getD i 0) P).tmod 65536]) (by omega) rfl (show 0<1 by omega) (by show O.length+1≤_;omega)
  have fin:=Zc (Zg Zd Zs) (s0:=s) (Zoy o A.length c z z P e i (A.getD i 0) l (wU O) j1 j7 g) (Zt hchk hlog);rw[e1,e2,e3,ew] at fin;refine key (X:=(wU O,tU)) (fin.mono fun ex W hW=> ?_);subst h0;exact hW
 ·subst ht;have hchk:zQ tU (wU O,tU) ([.int .u32 ((cy e (A.getD i 0) P).tmod 65536)],tU) (z+i) 0 1=true:=
   ZaE (L:=O) (M:=[(cy e (A.getD i 0) P).tmod 65536]) hO.symm (show 0<1 by omega) (by show O.length+1≤_;omega)
  have fin:=Zc (Zg Zd Zs) (s0:=s) (Zoz o A.length c (z+i) P e i (A.getD i 0) l (wU O) j1 j7 g) (Zt hchk hlog);rw[e1,e2,e3,ew] at fin;exact key (X:=([],2*ZV)) fin
def Z2N (l:List Value) (o c z P:Nat) (A:List Int) (j1 j7:Value) (m:Nat) (Y:Lf):Prop:=
 ∃ (i e:Nat) (O:List Int),m=A.length-i∧i≤A.length∧O.length=z+i∧e<P∧(∀ x∈O,Dg 65536 x)∧vb 65536 O+65536^(z+i)*e=65536^z*(P*vb 65536 (A.take i))∧hSt l o c A.length z i P e j1 j7 O Y
def Z09 (l:List Value) (o c z P:Nat) (A:List Int) (j1 j7:Value) (Y:Lf):Prop:=
 ∃ (e:Nat) (O:List Int),O.length=z+A.length∧e<P∧(∀ x∈O,Dg 65536 x)∧vb 65536 O+65536^(z+A.length)*e=65536^z*(P*vb 65536 A)∧hSt l o c A.length z A.length P e j1 j7 O Y
theorem ZiI (hR:Row l o A) (hs:∀ v∈l,still v=true) (hA:∀ x∈A,Dg 65536 x) {z P:Nat}(h0:0<P) (hP:P≤32768) (hz:z+A.length+2<1073741824) {j1 j7:Value}(w1:lt 2 j1=true∧rn (zv 1 3) j1=j1) (w7:lt 2 j7=true∧rn (zv 1 3) j7=j7) (g:Nat→Value):
  RunsW (Zp prog Zh Zo hcV) (.block 2 (.loop (sL2 f44))) ([sl 0 o A.length c,j1,undef,undef,Zn,sl 1 0 z z,.int .u32 (P:Nat),j7,.int .u32 0,.int .i64 0]++tl 40 g,⟨2,[(zz z,tU),(l,tR)]⟩,[]) fun e Y=>match e with | none=>Z09 l o c z P A j1 j7 Y | some none=>False | some (some _)=>False:=by
 have ez:zz z=wU (List.replicate z 0):=by unfold zz wU;rw[List.map_replicate]
 have vz:∀ k,vb 65536 (List.replicate k 0)=0:=fun k=>by
  induction k with
  | zero=>rfl
  | succ k ih=>rw[List.replicate_succ];simp [vb,ih]
 refine RunsW.forLoop (P:=Z09 l o c z P A j1 j7) (R:=fun _=>False) (Z2N l o c z P A j1 j7) ?_ (n:=A.length) ⟨0,0,List.replicate z 0,by omega,by omega,by simp,h0,(fun x hx=>by rw[List.eq_of_mem_replicate hx];exact⟨by omega,by omega⟩),by rw[vz];simp [vb],.inl ⟨rfl,g,rfl⟩,by rw[ez]⟩;rintro m Y ⟨i,e,O,hm,hi,hO,he,hOd,hv,hY⟩;by_cases hlt:i<A.length
 ·have r:=ZiH hR hs hA hO he hP hlt hz w1 w7 hY;refine r.mono fun ex W hW=> ?_;obtain⟨rfl,z1,z2⟩:=hW;have hd:=zn hA i;obtain⟨_,hl2⟩:=Zwt he hd.1 hP;refine⟨A.length-(i+1),by omega,i+1,(e+dgN A i*P)/65536,O++[(((e+dgN A i*P) % 65536:Nat):Int)],rfl,by omega,by rw[List.length_append,hO];rfl,Nat.div_lt_of_lt_mul hl2,fun x hx=> ?_,?_,.inr ⟨by omega,z1⟩,z2⟩
  ·rcases List.mem_append.1 hx with hx | hx
   ·exact hOd x hx
   ·rw[List.mem_singleton.1 hx];exact⟨by omega,by omega⟩
  ·have e1:vb 65536 (A.take (i+1))=vb 65536 (A.take i)+65536^i*dgN A i:=Zaw 65536 A i;rw[e1];exact Zo1 hO hv
 ·have hil:i=A.length:=by omega
  subst hil;rw[List.take_length] at hv;obtain⟨t,h',s⟩:=Y;obtain⟨hY,hh⟩:=hY;simp only at hY hh;subst hh;rcases hY with ⟨h0,g,ht⟩ | ⟨h0,g,ht⟩
  ·subst ht;refine (Zc (Zg Zd Zs) (Zlz _ _ _ _ _ _ _ _ j1 j7 g) (Z2 (Xb (by omega)))).mono fun ex W hW=> ?_;obtain⟨rfl,⟨g',z1⟩,z2⟩:=hW;exact⟨rfl,e,O,hO,he,hOd,hv,.inl ⟨h0,g',z1⟩,z2⟩
  ·subst ht;refine (Zc (Zg Zd Zs) (Zlz _ _ _ _ _ _ _ _ j1 j7 g) (Z2 (Xb (by omega)))).mono fun ex W hW=> ?_;obtain⟨rfl,⟨g',z1⟩,z2⟩:=hW;exact⟨rfl,e,O,hO,he,hOd,hv,.inr ⟨h0,g',z1⟩,z2⟩
end
theorem Zl0 {l:List Value}{o c:Nat}{A:List Int}(hR:Row l o A) (hs:∀ v∈l,still v=true) (hA:∀ x∈A,Dg 65536 x) (h0:0<A.length) {k:Nat}(hk:k/16+A.length+3<1073741824) {V:Nat}(hV:V=vb 65536 A*2^k):
  RunsW (Zp prog Zh Zo hcV) (Zaz (sPr f44) (.seq (.seq (sR5 f44) (.block 0 (.loop (sL1 f44)))) (.seq (sR9 f44) (.seq (.seq (Z08 f44) (.block 2 (.loop (sL2 f44)))) (sEn f44))))) ([sl 0 o A.length c,.int .i64 (k:Nat)]++List.replicate 48 undef,⟨1,[(l,tR)]⟩,[]) fun e z=>(e=none∨e=some none)∧Zau prog f44 z.1 z.2.1=some (sl 3 0 (d16 V).length (d16 V).length)∧∃ r,z.2.1.blk? 3=some (wU (d16 V)++r,tU):=by
 have ek:k16 (k:Int)=((k/16:Nat):Int):=by
  unfold k16;rw[Int.tdiv_eq_ediv_of_nonneg (by omega),ZL (by omega) (by omega)];omega
 have hP:2^(k % 16)≤32768:=by
  have:=Nat.pow_le_pow_right (show 0<2 by omega) (show k % 16≤15 by omega);omega
 have hP0:0<2^(k % 16):=Nat.pow_pos (by omega);have hpk:2^k=65536^(k/16)*2^(k % 16):=by
  rw[ZdH,← Nat.pow_add];congr 1;omega
 refine Z0 (Zg Zd Zs) (Zow o A.length c k (l,tR)) (Zt (by rw[ek];exact Xa (by omega)) (Z2 (beq_eq_false_iff_ne.2 (by omega)))) fun g=> ?_;rw[ek,Xg];refine ZfF (Zc (Zg Zd Zs) (Zs3 _ _ k _ g) (fun x hx=>by cases hx)) (fun e y he=>by cases he.1) (P2:=fun e Y=>match e with | none=>(∃ g,Y.1=[sl 0 o A.length c,.int .i64 (k:Nat),undef,undef,Zn,sl 1 0 (k/16) (k/16),.int .u32 ((2^(k % 16):Nat):Int),.int .i64 ((k % 16:Nat):Int)]++tl 42 g)∧Y.2.1=⟨2,[(zz (k/16),tU),(l,tR)]⟩ | some none=>False | some (some _)=>False) ?_ ?_ ?_
 ·rintro⟨t,h',s⟩ ⟨_,⟨g',ht⟩,hh⟩;simp only at ht hh;subst ht hh;exact RunsW.script (ZiG _ _ k _ g').w
 ·intro e y he
  match e,he with
  | none,he=>exact he
  | some id,he=>exact he
 ·rintro⟨t,h',s⟩ ⟨⟨g',ht⟩,hh⟩;simp only at ht hh;subst ht hh;refine RunsW.seq (P1:=fun e Y=>e=none∧(∃ g,Y.1=[sl 0 o A.length c,.int .i64 (k:Nat),undef,undef,Zn,sl 1 0 (k/16) (k/16),.int .u32 ((2^(k % 16):Nat):Int),.int .i64 ((k % 16:Nat):Int),.int .u32 0]++tl 41 g)∧Y.2.1=⟨2,[(zz (k/16),tU),(l,tR)]⟩) (Zc (Zg Zd Zs) (Zs6 _ _ k _ _ _ g') (fun x hx=>by cases hx)) ?_ (fun e y he=>by cases he.1);rintro⟨t,h',s⟩ ⟨_,⟨g',ht⟩,hh⟩;simp only at ht hh;subst ht hh;refine ZfF (Zc (Zg Zd Zs) (Zox _ _ k _ _ _ g') (fun x hx=>by cases hx)) (fun e y he=>by cases he.1) (P2:=fun e Y=>match e with | none=>Z09 l o c (k/16) (2^(k % 16)) A (.int .i64 (k:Nat)) (.int .i64 ((k % 16:Nat):Int)) Y | some none=>False | some (some _)=>False) ?_ ?_ ?_
  ·rintro⟨t,h',s⟩ ⟨_,⟨g',ht⟩,hh⟩;simp only at ht hh;subst ht hh;exact RunsW.script (ZiI hR hs hA hP0 hP (by omega) ⟨rfl,rfl⟩ ⟨rfl,rfl⟩ g')
  ·intro e y he
   match e,he with
   | none,he=>exact he
   | some id,he=>exact he
  ·rintro⟨t,h',s⟩ ⟨e,O,hO,he,hOd,hv,hY,hh⟩;simp only at hY hh;subst hh;rcases hY with ⟨e0,_⟩ | ⟨_,g',ht⟩
   ·omega
   ·subst ht;have hOd':∀ x∈O++[(e:Int)],Dg 65536 x:=fun x hx=>by
     rcases List.mem_append.1 hx with hx | hx
     ·exact hOd x hx
     ·rw[List.mem_singleton.1 hx];exact⟨by omega,by omega⟩
    have hlen:(O++[(e:Int)]).length=k/16+A.length+1:=by rw[List.length_append,hO];rfl
    have ew:wU O++[.int .u32 (e:Int)]=wU (O++[(e:Int)]):=by rw[ZO];rfl
    have hval:vb 65536 (O++[(e:Int)])=V:=by
     rw[Zcv,hO,Xg,hv,hV,hpk,Nat.mul_comm (vb 65536 A),Nat.mul_assoc]
    have hrow:ZaK tU (wU (O++[(e:Int)])) 0 (k/16+A.length+1) grown=true:=by
     rw[← hlen];exact zY (fun x hx=>⟨(hOd' x hx).1,by have:=(hOd' x hx).2;omega⟩) (by omega) (Zu3 _)
    have hchk:zQ tU (wU O,tU) ([.int .u32 (e:Int)],tU) (k/16+A.length) 0 1=true:=
     ZaE (L:=O) (M:=[(e:Int)]) hO.symm (show 0<1 by omega) (by show O.length+1≤_;omega)
    refine (Zc (Zg Zd Zs) (Zo0 _ (k/16+A.length) _ e _ (l,tR) (wU O) _ _ g') (by rw[ew];exact Zt hrow (Z2 hchk))).mono fun ex W hW=> ?_;rw[ew] at hW;obtain⟨rfl,⟨g2,z1⟩,z2⟩:=hW;have et:Z3 (zu (wU (O++[(e:Int)])) 0 (k/16+A.length+1))=(d16 V).length:=by
     rw[← hlen,ZaD,Zad (by omega) hOd',hval];rfl
    refine⟨.inr rfl,?_,?_⟩
    ·rw[z1,z2,et];rfl
    ·rw[z2];refine⟨wU ((O++[(e:Int)]).drop (Z3 (O++[(e:Int)]))),?_⟩;have e3:wU (d16 V)++wU ((O++[(e:Int)]).drop (Z3 (O++[(e:Int)])))=wU (O++[(e:Int)]):=by
      unfold d16;rw[← hval,← zj (by omega) _ hOd',← ZO,List.take_append_drop]
     rw[e3];rfl
def Zo2:Zcl:=fun vals h s=>
 match vals,s with
 | [.slice p n c,.int .i64 k],.inr (.inr (.inr (.inl d)))::s'=>
  match d with
  | true=>Zei (vO h p n*2^k.toNat) h s' [(zS h p n c && dgB (Zu h p n) && Nat.blt (k.toNat/16+n+3) 1073741824 && decide (0≤k),true),(decide (0<n),true)]
  | false=>some (Zn,h,s',[(zS h p n c,true),(decide (0<n),false)])
 | _,_=>none
theorem ZeT:za 44 Zo2:=by
 intro vals h s v h' s' lg hg hl m B w E hv;unfold Zo2 at hg;split at hg
 ·rename_i p n c k d s2;split at hg
  ·unfold Zei at hg;cases hg;have q1:=hl _ (Xe);have q2:=hl _ (Xd _ Xf);simp only[Xh,Xi] at q1 q2;obtain⟨⟨⟨r1,r2⟩,r3⟩,r4⟩:=q1;have r2:=ZaY r2;have r3:=Zk.1 r3;obtain⟨K,rfl⟩:=Int.eq_ofNat_of_zero_le r4;rw[Xg] at r3 ⊢;rcases Z8 r1 with ⟨rfl,rfl,rfl,e0⟩ | ⟨b,o,x,rfl,hx,t1,t2,e0⟩
   ·omega
   ·rw[e0] at r2;obtain⟨h1,h2,h3,h4,h5,h6,h7⟩:=ZU t1;have ev:vO h (some ⟨b,o,none⟩) n=vb 65536 (zu x.1 o n):=by unfold vO;rw[e0]
    have r:=Zl0 (c:=c) h1 t2 r2 (by rw[h2];exact q2) (k:=K) (by rw[h2];exact r3) rfl;rw[h2] at r;rw[ev];exact zm (T:=Zp prog Zh Zo hcV) func44 Zlx (ZcH h7) (vals:=[sl 0 o n c,.int .i64 (K:Nat)]) (fun v hv=>by
     simp only[List.mem_cons,List.not_mem_nil,or_false] at hv;rcases hv with rfl | rfl<;>rfl) (k:=3) (cs:=wU (d16 (vb 65536 (zu x.1 o n)*2^K))) (ty:=tU) (Zbs _) (by kernel_rfl) r (by rfl) E (s:=fun _=>b) (Zbq hx h5 h6 rfl)
  ·cases hg;have q1:=hl _ (Xe);have q2:=hl _ (Xd _ Xf);simp only[decide_eq_false_iff_not] at q1 q2;have hn:n=0:=by omega
   subst hn;obtain⟨x,p',a,NA,eA,fA⟩:=Zbt 0 q1;have hr:Runs (Zp prog Zh Zo hcV) (Zv f44) ([.slice p' 0 c,.int .i64 k]++List.replicate 48 undef,⟨1,[x]⟩,[]) fun e z=>(e=none∨e=some none)∧Zau prog f44 z.1 z.2.1=some Zn:=by
    refine (Zj (Zg Zd Zs) (Zly p' 0 c _ _) (Z2 rfl)).mono fun e z he=> ?_;obtain⟨rfl,⟨g,e2⟩,e3⟩:=he;refine⟨.inr rfl,?_⟩;rw[e2,e3];rfl
   have b1:∀ {i:Nat}{z:List Value×TypeId},(⟨1,[x]⟩:Hp).blk? i=some z→i=0∧z=x:=fun {i z} hz=>by
    have:i<1:=Hp.blk_lt hz;have hi:i=0:=by omega
    subst hi;exact⟨rfl,(Option.some.inj hz).symm⟩
   have:=ZH (T:=Zp prog Zh Zo hcV) func44 ZiF (h0:=⟨1,[x]⟩) ⟨rfl,fun b z hz=>by obtain⟨_,rfl⟩:=b1 hz;exact⟨NA.ros.1,NA.lt0,NA.ros.2⟩⟩ (vals:=[.slice p' 0 c,.int .i64 k]) (fun v hv=>by
    simp only[List.mem_cons,List.not_mem_nil,or_false] at hv;rcases hv with rfl | rfl
    ·exact NA.lt (by show 0<1;omega)
    ·rfl) (v:=Zn) (by rfl) hr.w E (s:=fun _=>a) (fun i z hz ht=>by obtain⟨_,rfl⟩:=b1 hz;exact fA ht)
   simp only[List.map_cons,List.map_nil] at this;rw[eA _ rfl] at this;exact this
 ·cases hg
def f4 (n:Int):List Int:=[u32.wrap (n.tmod 65536),u32.wrap ((u64.wrap (n.tdiv 65536)).tmod 65536),u32.wrap ((u64.wrap (n.tdiv 4294967296)).tmod 65536),u32.wrap (u64.wrap (n.tdiv 281474976710656))]
theorem Zo3:f45.body=some (Zv f45):=by kernel_rfl
theorem Zwu (n:Int):Zm (evC (Zp prog Zh Zo hcV) 100 false (Zv f45) ([.int .u64 n]++List.replicate 18 undef,⟨0,[]⟩,[cmp true,cmp true,cmp true]) ⟨[],[],[]⟩) 3 16 (some none) [.int .u64 n,undef,sl 0 0 (Z3 (zu (wU (f4 n)) 0 4)) (Z3 (zu (wU (f4 n)) 0 4))] ⟨1,[(wU (f4 n),tU)]⟩ [(ZaK tU (wU (f4 n)) 0 4 4,true),(decide ((65536:Int)=0),false),(decide ((65536:Int)=0),false),(decide ((65536:Int)=0),false)]:=by and_intros<;>kernel_rfl
theorem Zej {n:Int}(h0:0≤n) (h1:n<18446744073709551616):u64.wrap n=n:=by simp [IntKind.wrap,IntKind.bits,IntKind.signed];omega
theorem Zwv {n:Int}(h0:0≤n) (h1:n<18446744073709551616):f4 n=[n % 65536,n/65536 % 65536,n/4294967296 % 65536,n/281474976710656]:=by
 unfold f4;rw[Int.tmod_eq_emod_of_nonneg h0,Int.tdiv_eq_ediv_of_nonneg h0,Int.tdiv_eq_ediv_of_nonneg h0,Int.tdiv_eq_ediv_of_nonneg h0,Zej (n:=n/65536) (by omega) (by omega),Zej (n:=n/4294967296) (by omega) (by omega),Zej (n:=n/281474976710656) (by omega) (by omega),Int.tmod_eq_emod_of_nonneg (by omega),Int.tmod_eq_emod_of_nonneg (by omega),ze (n:=n % 65536) (by omega) (by omega),ze (n:=n/65536 % 65536) (by omega) (by omega),ze (n:=n/4294967296 % 65536) (by omega) (by omega),ze (by omega) (by omega)]
theorem Z0A {n:Int}(h0:0≤n) (h1:n<18446744073709551616):∀ x∈f4 n,Dg 65536 x:=by
 rw[Zwv h0 h1];intro x hx;simp only[List.mem_cons,List.not_mem_nil,or_false] at hx;rcases hx with rfl | rfl | rfl | rfl<;>exact⟨by omega,by omega⟩
theorem Zww {n:Int}(h0:0≤n) (h1:n<18446744073709551616):vb 65536 (f4 n)=n.toNat:=by
 rw[Zwv h0 h1];simp only[vb];omega
def Zwx:Zcl:=fun vals h s=>
 match vals with
 | [.int .u64 n]=>Zei n.toNat h s [(decide (0≤n∧n<18446744073709551616),true)]
 | _=>none
theorem Zgz:za 45 Zwx:=by
 intro vals h s v h' s' lg hg hl m B w E hv;unfold Zwx at hg;split at hg
 ·rename_i n;unfold Zei at hg;cases hg;have q:=Xc (hl _ Xf);have hd:=Z0A q.1 q.2;have hv4:=Zww q.1 q.2;have hl4:(f4 n).length=4:=rfl;have ec:zu (wU (f4 n)) 0 4=f4 n:=by
   have:=ZaD (f4 n);rw[hl4] at this;exact this
  have et:Z3 (f4 n)=(d16 n.toNat).length:=by
   rw[Zad (by omega) hd,hv4];rfl
  have hrow:ZaK tU (wU (f4 n)) 0 4 4=true:=by
   have:=zY (L:=f4 n) (fun x hx=>⟨(hd x hx).1,by have:=(hd x hx).2;omega⟩) (by rw[hl4];omega) (c:=4) (by rw[hl4];rfl);rw[hl4] at this;exact this
  have hr:Runs (Zp prog Zh Zo hcV) (Zv f45) ([.int .u64 n]++List.replicate 18 undef,⟨0,[]⟩,[]) fun e z=>(e=none∨e=some none)∧Zau prog f45 z.1 z.2.1=some (sl 0 0 (d16 n.toNat).length (d16 n.toNat).length)∧∃ r,z.2.1.blk? 0=some (wU (d16 n.toNat)++r,tU):=by
   refine (Zj (Zg Zd Zs) (Zwu n) (Zt hrow (Zt rfl (Zt rfl (Z2 rfl))))).mono fun e z he=> ?_;obtain⟨rfl,⟨g,e1⟩,e2⟩:=he;refine⟨.inr rfl,?_,?_⟩
   ·rw[e1,e2,ec,et];rfl
   ·rw[e2];refine⟨wU ((f4 n).drop (Z3 (f4 n))),?_⟩;have e3:wU (d16 n.toNat)++wU ((f4 n).drop (Z3 (f4 n)))=wU (f4 n):=by
     unfold d16;rw[← hv4,← zj (by omega) _ hd,← ZO,List.take_append_drop]
    rw[e3];rfl
  have:=zm (T:=Zp prog Zh Zo hcV) func45 Zo3 (h0:=⟨0,[]⟩) ⟨rfl,fun b x hx=>by have:b<0:=Hp.blk_lt hx;omega⟩ (vals:=[.int .u64 n]) (fun v hv=>by rw[List.mem_singleton.1 hv];rfl) (k:=0) (cs:=wU (d16 n.toNat)) (ty:=tU) (Zbs _) (by kernel_rfl) hr.w (by rfl) E (s:=fun i=>i) (fun i x hx _=>by have:i<0:=Hp.blk_lt hx;omega);exact this
 ·cases hg
def Zu5 (F:Func):List Code:=[ZB (Zv F),ZB (Z5 (Zv F))]
def wR2 (F:Func):Code:=ZB (ZB (Z5 (Z5 (Zv F))))
def wLp (F:Func):Code:=cIn (cIn (Z5 (ZB (Z5 (Z5 (Zv F))))))
def wEn (F:Func):Code:=Z5 (Z5 (Z5 (Zv F)))
def m4 (n:Nat):Int:=i64.wrap ((if (4:Int)<(n:Int) then 4 else (n:Int))-1)
theorem Zl1:f68.body=some (Zaz (Zu5 f68) (.seq (.seq (wR2 f68) (.block 0 (.loop (wLp f68)))) (wEn f68))):=by kernel_rfl
theorem Zo4 (a:Value) (h:Hp):Zm (evL (Zp prog Zh Zo hcV) 100 (Zu5 f68) ([a]++List.replicate 21 undef,h,[]) ⟨[],[],[]⟩) 4 18 none [a,undef,.int .u64 0,.int .u64 0] h []:=by and_intros<;>kernel_rfl
theorem Zs7 (p:Option Addr) (n c:Nat) (h:Hp) (g:Nat→Value):Zm (evC (Zp prog Zh Zo hcV) 100 false (wR2 f68) ([.slice p n c,undef,.int .u64 0,.int .u64 0]++tl 18 g,h,[]) ⟨[],[],[]⟩) 5 17 none [.slice p n c,undef,.int .u64 0,.int .u64 0,.int .i64 (m4 n)] h []:=by and_intros<;>kernel_rfl
def lw (y x:Int):Int:=u64.wrap (u64.wrap (65536*y)+u64.wrap x)
theorem Zs8 (o n c:Nat) (x y k:Int) (l:List Value) (g:Nat→Value):Zm (evC (Zp prog Zh Zo hcV) 100 false (wLp f68) ([sl 0 o n c,undef,.int .u64 0,.int .u64 y,.int .i64 k]++tl 17 g,⟨1,[(l,tR)]⟩,[cmp true,at_,val (.int .u32 x)]) ⟨[],[],[]⟩) 5 17 none [sl 0 o n c,undef,.int .u64 0,.int .u64 (lw y x),.int .i64 (i64.wrap (k-1))] ⟨1,[(l,tR)]⟩ [(ZC (l[o+k.toNat*1]?) (.int .u32 x),true),(decide (0≤k∧k<n),true),(decide (k≥0),true)]:=by and_intros<;>kernel_rfl
theorem Zo5 (a:Value) (y k:Int) (h:Hp) (g:Nat→Value):Zm (evC (Zp prog Zh Zo hcV) 100 false (wLp f68) ([a,undef,.int .u64 0,.int .u64 y,.int .i64 k]++tl 17 g,h,[cmp false]) ⟨[],[],[]⟩) 5 17 (some (some 0)) [a,undef,.int .u64 0,.int .u64 y,.int .i64 k] h [(decide (k≥0),false)]:=by and_intros<;>kernel_rfl
theorem Zo6 (a:Value) (y k:Int) (h:Hp) (g:Nat→Value):Zm (evC (Zp prog Zh Zo hcV) 100 false (wEn f68) ([a,undef,.int .u64 0,.int .u64 y,.int .i64 k]++tl 17 g,h,[]) ⟨[],[],[]⟩) 3 19 (some none) [a,undef,.int .u64 y] h []:=by and_intros<;>kernel_rfl
def hiV (L:List Int) (k:Nat):Nat:=vb 65536 ((L.take 4).drop k)
theorem Zo7 {L:List Int}{k:Nat}(hk:k<(L.take 4).length):hiV L k=dgN L k+65536*hiV L (k+1):=by
 unfold hiV dgN;rw[List.drop_eq_getElem_cons hk];simp only[vb];congr 2;rw[List.getElem_take];rw[List.length_take] at hk;simp [List.getD,List.getElem?_eq_getElem (show k<L.length by omega)]
theorem Zqn {L:List Int}(hd:∀ x∈L,Dg 65536 x) (k:Nat):hiV L k<65536^(4-k):=by
 have h:=Zcu (b:=65536) (by omega) ((L.take 4).drop k) (fun x hx=>hd x (List.mem_of_mem_take (List.mem_of_mem_drop hx)));have hl:((L.take 4).drop k).length≤4-k:=by simp;omega
 exact Nat.lt_of_lt_of_le h (Nat.pow_le_pow_right (by omega) hl)
theorem Zo8 {L:List Int}(hd:∀ x∈L,Dg 65536 x):hiV L 0=vb 65536 L % 18446744073709551616:=by
 have e:L=L.take 4++L.drop 4:=(List.take_append_drop 4 L).symm;have h4:=Zqn hd 0;unfold hiV at*;rw[List.drop_zero] at*;have ev:vb 65536 L=vb 65536 (L.take 4)+65536^(L.take 4).length*vb 65536 (L.drop 4):=by
  conv=>lhs;rw[e]
  exact Zav _ _ _
 rw[ev];have e4:(65536:Nat)^(4-0)=18446744073709551616:=rfl;by_cases hl:L.length≤4
 ·rw[List.drop_of_length_le hl];simp only[vb,Nat.mul_zero,Nat.add_zero];omega
 ·have:(L.take 4).length=4:=by simp;omega
  have e5:(65536:Nat)^4=18446744073709551616:=rfl;rw[this,e5];omega
theorem Zl2 {l:List Value}{o c:Nat}{L:List Int}(hR:Row l o L) (hd:∀ x∈L,Dg 65536 x) (hn:L.length<1073741824):
  Runs (Zp prog Zh Zo hcV) (Zaz (Zu5 f68) (.seq (.seq (wR2 f68) (.block 0 (.loop (wLp f68)))) (wEn f68))) ([sl 0 o L.length c]++List.replicate 21 undef,⟨1,[(l,tR)]⟩,[]) fun e z=>(e=none∨e=some none)∧Zau prog f68 z.1 z.2.1=some (.int .u64 ((vb 65536 L % 18446744073709551616:Nat):Int)):=by
 have hm:m4 L.length=(((L.take 4).length:Nat):Int)-1:=by
  unfold m4;rw[List.length_take];split
  ·rw[ZL (by omega) (by omega)];omega
  ·rw[ZL (by omega) (by omega)];omega
 have hz:hiV L (L.take 4).length=0:=by unfold hiV;rw[List.drop_of_length_le (Nat.le_refl _)];rfl
 refine zl (Zg Zd Zs) (Zo4 _ _) (fun x hx=>by cases hx) fun g=> ?_;refine Runs.seq (P1:=fun e Y=>match e with | none=>(∃ g,Y.1=[sl 0 o L.length c,undef,.int .u64 0,.int .u64 (hiV L 0:Nat),.int .i64 (-1)]++tl 17 g)∧Y.2.1=⟨1,[(l,tR)]⟩ | some none=>False | some (some _)=>False) (Runs.seq (P1:=fun e Y=>e=none∧(∃ g,Y.1=[sl 0 o L.length c,undef,.int .u64 0,.int .u64 0,.int .i64 (m4 L.length)]++tl 17 g)∧Y.2.1=⟨1,[(l,tR)]⟩) (Zj (Zg Zd Zs) (Zs7 _ L.length c _ g) (fun x hx=>by cases hx)) ?_ (fun e y he=>by cases he.1)) ?_ (fun e Y he=>by match e,he with | none,he=>exact he.elim | some id,he=>exact he.elim)
 ·rintro⟨t,h',s⟩ ⟨_,⟨g',ht⟩,hh⟩;simp only at ht hh;subst ht hh;refine Runs.script (s:=[]) (Runs.forLoop (P:=fun Y=>(∃ g,Y.1=[sl 0 o L.length c,undef,.int .u64 0,.int .u64 (hiV L 0:Nat),.int .i64 (-1)]++tl 17 g)∧Y.2.1=⟨1,[(l,tR)]⟩) (R:=fun _=>False)
   (fun k Y=>k≤(L.take 4).length∧(∃ g,Y.1=[sl 0 o L.length c,undef,.int .u64 0,.int .u64 (hiV L k:Nat),.int .i64 ((k:Int)-1)]++tl 17 g)∧Y.2.1=⟨1,[(l,tR)]⟩) ?_ (n:=(L.take 4).length) ⟨Nat.le_refl _,⟨g',by rw[hz,hm];rfl⟩,rfl⟩)
  rintro k ⟨t,h',s⟩ ⟨hk,⟨g,ht⟩,hh⟩;simp only at ht hh;subst ht hh;have hl4:(L.take 4).length≤L.length:=by simp;omega
  have hl5:(L.take 4).length≤4:=by simp;omega
  cases k with
  | zero=>
   refine (Zj (Zg Zd Zs) (Zo5 _ _ _ _ g) (Z2 (Xb (by omega)))).mono fun e z hz=> ?_;obtain⟨rfl,⟨g',z1⟩,z2⟩:=hz;exact⟨rfl,⟨g',z1⟩,z2⟩
  | succ k=>
   have hd1:=zn hd k;have hlt:=Zqn hd (k+1);have hs:=Zo7 (L:=L) (k:=k) (by omega);have ek:((k+1:Nat):Int)-1=(k:Int):=by omega
   have hp:hiV L (k+1)<281474976710656:=by
    have:65536^(4-(k+1))≤65536^3:=Nat.pow_le_pow_right (by omega) (by omega);have e3:(65536:Nat)^3=281474976710656:=rfl;omega
   rw[ek];refine (Zj (Zg Zd Zs) (Zs8 o L.length c (L.getD k 0) _ k l g) (Zt (by rw[Xg,Nat.mul_one,hR.cell (by omega)];simp [ZC]) (Zt (Xa (by omega)) (Z2 (show decide ((k:Int)≥0)=true from Xa (by omega)))))).mono fun e z hz=> ?_;obtain⟨rfl,⟨g',z1⟩,z2⟩:=hz;have e1:lw (hiV L (k+1):Nat) (L.getD k 0)=((hiV L k:Nat):Int):=by
    unfold lw;rw[← hd1.2,Zej (n:=65536*((hiV L (k+1):Nat):Int)) (by omega) (by omega),Zej (n:=((dgN L k:Nat):Int)) (by omega) (by omega),Zej (by omega) (by omega)];omega
   have e2:i64.wrap ((k:Int)-1)=(k:Int)-1:=ZL (by omega) (by omega);exact⟨k,by omega,by omega,⟨g',by rw[z1,e1,e2]⟩,z2⟩
 ·rintro⟨t,h',s⟩ ⟨⟨g',ht⟩,hh⟩;simp only at ht hh;subst ht hh;refine (Zj (Zg Zd Zs) (Zo6 _ _ _ _ g') (fun x hx=>by cases hx)).mono fun e z hz=> ?_;obtain⟨rfl,⟨g2,z1⟩,z2⟩:=hz;refine⟨.inr rfl,?_⟩;rw[z1,z2,Zo8 hd];rfl
theorem ZiJ:f68.body=some (Zv f68):=by kernel_rfl
theorem Zl3 (p:Option Addr) (c:Nat) (h:Hp):Zm (evC (Zp prog Zh Zo hcV) 100 false (Zv f68) ([.slice p 0 c]++List.replicate 21 undef,h,[cmp false]) ⟨[],[],[]⟩) 3 19 (some none) [.slice p 0 c,undef,.int .u64 0] h [(decide (m4 0≥0),false)]:=by and_intros<;>kernel_rfl
theorem Zs9:decide (m4 0≥0)=false:=by decide
def ZsA (h:Hp) (p:Option Addr) (n c:Nat):Bool:=zS h p n c && dgB (Zu h p n) && Nat.blt n 1073741824
def ZsB:Zcl:=fun vals h s=>
 match vals with
 | [.slice p n c]=>some (.int .u64 ((vO h p n % 18446744073709551616:Nat):Int),h,s,[(ZsA h p n c,true)])
 | _=>none
theorem Zo9:za 68 ZsB:=by
 intro vals h s v h' s' lg hg hl m B w E hv;unfold ZsB at hg;split at hg
 ·rename_i p n c;cases hg;have q:=hl _ Xf;simp only[ZsA,Xh] at q;obtain⟨⟨q1,q2⟩,q3⟩:=q;have q2:=ZaY q2;have q3:=Zk.1 q3;have hlen:=zT q1;by_cases hn:n=0
  ·subst hn;have e0:Zu h p 0=[]:=List.length_eq_zero_iff.1 hlen;have ev:vO h p 0=0:=by unfold vO;rw[e0];rfl
   obtain⟨x,p',a,NA,eA,fA⟩:=Zbt 0 q1;have hr:Runs (Zp prog Zh Zo hcV) (Zv f68) ([.slice p' 0 c]++List.replicate 21 undef,⟨1,[x]⟩,[]) fun e z=>(e=none∨e=some none)∧Zau prog f68 z.1 z.2.1=some (.int .u64 ((vO h p 0 % 18446744073709551616:Nat):Int)):=by
    refine (Zj (Zg Zd Zs) (Zl3 p' c _) (Z2 Zs9)).mono fun e z he=> ?_;obtain⟨rfl,⟨g,e2⟩,e3⟩:=he;refine⟨.inr rfl,?_⟩;rw[e2,e3,ev];rfl
   have b1:∀ {i:Nat}{z:List Value×TypeId},(⟨1,[x]⟩:Hp).blk? i=some z→i=0∧z=x:=fun {i z} hz=>by
    have:i<1:=Hp.blk_lt hz;have hi:i=0:=by omega
    subst hi;exact⟨rfl,(Option.some.inj hz).symm⟩
   have:=ZH (T:=Zp prog Zh Zo hcV) func68 ZiJ (h0:=⟨1,[x]⟩) ⟨rfl,fun b z hz=>by obtain⟨_,rfl⟩:=b1 hz;exact⟨NA.ros.1,NA.lt0,NA.ros.2⟩⟩ (vals:=[.slice p' 0 c]) (fun v hv=>by rw[List.mem_singleton.1 hv];exact NA.lt (by show 0<1;omega)) (by rfl) hr.w E (s:=fun _=>a) (fun i z hz ht=>by obtain⟨_,rfl⟩:=b1 hz;exact fA ht);simp only[List.map_cons,List.map_nil] at this;rw[eA _ rfl] at this;exact this
  rcases Z8 q1 with ⟨rfl,rfl,rfl,e0⟩ | ⟨b,o,x,rfl,hx,r1,_,e0⟩
  ·exact absurd rfl hn
  ·rw[e0] at q2 hlen;obtain⟨h1,h2,h3,h4,h5,h6,h7⟩:=ZU r1;have r:=Zl2 (c:=c) h1 q2 (by rw[h2];exact q3);rw[h2] at r;have ev:vO h (some ⟨b,o,none⟩) n=vb 65536 (zu x.1 o n):=by unfold vO;rw[e0]
   rw[ev];exact ZH (T:=Zp prog Zh Zo hcV) func68 Zl1 (ZcH h7) (vals:=[sl 0 o n c]) (fun v hv=>by rw[List.mem_singleton.1 hv];rfl) (by rfl) r.w E (s:=fun _=>b) (Zbq hx h5 h6 rfl)
 ·cases hg
theorem Zl4:f101.body=some (Zaz (Zu5 f101) (.seq (.seq (wR2 f101) (.block 0 (.loop (wLp f101)))) (wEn f101))):=by kernel_rfl
theorem ZoA (p:Option Addr) (n c:Nat) (k:Int) (h:Hp):Zm (evL (Zp prog Zh Zo hcV) 100 (Zu5 f101) ([.slice p n c,.int .i64 k]++List.replicate 20 undef,h,[]) ⟨[],[],[]⟩) 6 16 none [.slice p n c,.int .i64 k,undef,undef,.int .i64 0,.int .u32 (atN (Zu h p n) (k16 k))] h [(zS h p n c,true)]:=by and_intros<;>kernel_rfl
theorem ZsC (a:Value) (k x:Int) (h:Hp) (g:Nat→Value):Zm (evC (Zp prog Zh Zo hcV) 100 false (wR2 f101) ([a,.int .i64 k,undef,undef,.int .i64 0,.int .u32 x]++tl 16 g,h,[]) ⟨[],[],[]⟩) 7 15 none [a,.int .i64 k,undef,undef,.int .i64 0,.int .u32 x,.int .i64 0] h []:=by and_intros<;>kernel_rfl
theorem ZsD (a:Value) (k x i:Int) (h:Hp) (g:Nat→Value):Zm (evC (Zp prog Zh Zo hcV) 100 false (wLp f101) ([a,.int .i64 k,undef,undef,.int .i64 0,.int .u32 x,.int .i64 i]++tl 15 g,h,[cmp true,cmp true]) ⟨[],[],[]⟩) 7 15 none [a,.int .i64 k,undef,undef,.int .i64 0,.int .u32 (u32.wrap (x.tdiv 2)),.int .i64 (i64.wrap (i+1))] h [(decide (i<k.tmod 16),true),(decide ((16:Int)=0),false)]:=by and_intros<;>kernel_rfl
theorem ZoB (a:Value) (k x i:Int) (h:Hp) (g:Nat→Value):Zm (evC (Zp prog Zh Zo hcV) 100 false (wLp f101) ([a,.int .i64 k,undef,undef,.int .i64 0,.int .u32 x,.int .i64 i]++tl 15 g,h,[cmp true,cmp false]) ⟨[],[],[]⟩) 7 15 (some (some 0)) [a,.int .i64 k,undef,undef,.int .i64 0,.int .u32 x,.int .i64 i] h [(decide (i<k.tmod 16),false),(decide ((16:Int)=0),false)]:=by and_intros<;>kernel_rfl
theorem ZoC (a:Value) (k x i:Int) (h:Hp) (g:Nat→Value):Zm (evC (Zp prog Zh Zo hcV) 100 false (wEn f101) ([a,.int .i64 k,undef,undef,.int .i64 0,.int .u32 x,.int .i64 i]++tl 15 g,h,[cmp true]) ⟨[],[],[]⟩) 5 17 (some none) [a,.int .i64 k,undef,undef,.int .i64 (i64.wrap (x.tmod 2))] h [(decide ((2:Int)=0),false)]:=by and_intros<;>kernel_rfl
theorem Zl5 (a:Value) (k x:Nat) (hx:x<65536) (h:Hp) (g:Nat→Value):
  Runs (Zp prog Zh Zo hcV) (.block 0 (.loop (wLp f101))) ([a,.int .i64 (k:Nat),undef,undef,.int .i64 0,.int .u32 (x:Nat),.int .i64 0]++tl 15 g,h,[]) fun e Y=>match e with | none=>(∃ g i,Y.1=[a,.int .i64 (k:Nat),undef,undef,.int .i64 0,.int .u32 ((x/2^(k % 16):Nat):Int),.int .i64 i]++tl 15 g)∧Y.2.1=h | some none=>False | some (some _)=>False:=by
 have em:(k:Int).tmod 16=((k % 16:Nat):Int):=by rw[Int.tmod_eq_emod_of_nonneg (by omega)];omega
 refine Runs.forLoop (P:=fun Y=>(∃ g i,Y.1=[a,.int .i64 (k:Nat),undef,undef,.int .i64 0,.int .u32 ((x/2^(k % 16):Nat):Int),.int .i64 i]++tl 15 g)∧Y.2.1=h) (R:=fun _=>False)
  (fun m Y=>∃ j:Nat,j≤k % 16∧m=k % 16-j∧(∃ g,Y.1=[a,.int .i64 (k:Nat),undef,undef,.int .i64 0,.int .u32 ((x/2^j:Nat):Int),.int .i64 (j:Nat)]++tl 15 g)∧Y.2.1=h) ?_ (n:=k % 16) ⟨0,by omega,by omega,⟨g,by simp⟩,rfl⟩
 rintro m ⟨t,h',s⟩ ⟨j,hj,hm,⟨g,ht⟩,hh⟩;simp only at ht hh;subst ht hh;have hle:x/2^j≤x:=Nat.div_le_self _ _;by_cases hlt:j<k % 16
 ·refine (Zj (Zg Zd Zs) (ZsD a k _ j h' g) (Zt (by rw[em];exact Xa (by omega)) (Z2 rfl))).mono fun e z hz=> ?_;obtain⟨rfl,⟨g',z1⟩,z2⟩:=hz;have e1:u32.wrap (((x/2^j:Nat):Int).tdiv 2)=((x/2^(j+1):Nat):Int):=by
   rw[Nat.pow_succ,← Nat.div_div_eq_div_mul];generalize x/2^j=y at hle ⊢;rw[Int.tdiv_eq_ediv_of_nonneg (by omega),ze (by omega) (by omega)];rfl
  have e2:i64.wrap ((j:Int)+1)=((j+1:Nat):Int):=by rw[ZL (by omega) (by omega)];omega
  exact⟨k % 16-(j+1),by omega,j+1,by omega,rfl,⟨g',by rw[z1,e1,e2]⟩,z2⟩
 ·have hj':j=k % 16:=by omega
  subst hj';refine (Zj (Zg Zd Zs) (ZoB a k _ _ h' g) (Zt (by rw[em];exact Xb (by omega)) (Z2 rfl))).mono fun e z hz=> ?_;obtain⟨rfl,⟨g',z1⟩,z2⟩:=hz;exact⟨rfl,⟨g',_,z1⟩,z2⟩
def ZsE (h:Hp) (p:Option Addr) (n c:Nat):Bool:=zS h p n c && dgB (Zu h p n) && Nat.blt n 1073741824
def ZsF:Zcl:=fun vals h s=>
 match vals with
 | [.slice p n c,.int .i64 k]=>some (.int .i64 ((vO h p n/2^k.toNat % 2:Nat):Int),h,s,[(ZsE h p n c,true),(decide (0≤k∧k<4611686018427387904),true)])
 | _=>none
theorem Zqo (L:List Int) (i:Nat):dgS L i=dgN L i:=rfl
theorem ZfH {x:List Value×TypeId}{i:Nat}{z:List Value×TypeId}(hz:(⟨1,[x]⟩:Hp).blk? i=some z):i=0∧z=x:=by
 have:i<1:=Hp.blk_lt hz;have hi:i=0:=by omega
 subst hi;exact⟨rfl,(Option.some.inj hz).symm⟩
theorem ZoD:za 101 ZsF:=by
 intro vals h s v h' s' lg hg hl m B w E hv;unfold ZsF at hg;split at hg
 ·rename_i p n c k;cases hg;have q:=hl _ (Xe);have qk:=Xc (hl _ (Xd _ Xf));simp only[ZsE,Xh] at q;obtain⟨⟨q1,q2⟩,q3⟩:=q;have q2:=ZaY q2;obtain⟨K,rfl⟩:=Int.eq_ofNat_of_zero_le qk.1;obtain⟨x,p',a,NA,eA,fA⟩:=Zbt 0 q1;obtain⟨rp,ro'⟩:=NA.row ⟨1,[x]⟩ rfl;have ek:k16 (K:Int)=((K/16:Nat):Int):=by unfold k16;rw[Int.tdiv_eq_ediv_of_nonneg (by omega),ZL (by omega) (by omega)];omega
  have hd:=zn q2 (K/16);have hr:Runs (Zp prog Zh Zo hcV) (Zaz (Zu5 f101) (.seq (.seq (wR2 f101) (.block 0 (.loop (wLp f101)))) (wEn f101))) ([.slice p' n c,.int .i64 (K:Nat)]++List.replicate 20 undef,⟨1,[x]⟩,[]) fun e z=>(e=none∨e=some none)∧Zau prog f101 z.1 z.2.1=some (.int .i64 ((vO h p n/2^K % 2:Nat):Int)):=by
   refine zl (Zg Zd Zs) (ZoA p' n c K _) (Z2 rp) fun g=> ?_;rw[ro',ek,zZ,← hd.2];refine Runs.seq (P1:=fun e Y=>match e with | none=>(∃ g i,Y.1=[.slice p' n c,.int .i64 (K:Nat),undef,undef,.int .i64 0,.int .u32 ((dgN (Zu h p n) (K/16)/2^(K % 16):Nat):Int),.int .i64 i]++tl 15 g)∧Y.2.1=⟨1,[x]⟩ | some none=>False | some (some _)=>False) (Runs.seq (P1:=fun e Y=>e=none∧(∃ g,Y.1=[.slice p' n c,.int .i64 (K:Nat),undef,undef,.int .i64 0,.int .u32 ((dgN (Zu h p n) (K/16):Nat):Int),.int .i64 0]++tl 15 g)∧Y.2.1=⟨1,[x]⟩) (Zj (Zg Zd Zs) (ZsC _ K _ _ g) (fun x hx=>by cases hx)) ?_ (fun e y he=>by cases he.1)) ?_ (fun e Y he=>by match e,he with | none,he=>exact he.elim | some id,he=>exact he.elim)
   ·rintro⟨t,h',s⟩ ⟨_,⟨g',ht⟩,hh⟩;simp only at ht hh;subst ht hh;exact Runs.script (Zl5 _ K _ hd.1 _ g')
   ·rintro⟨t,h',s⟩ ⟨⟨g',i,ht⟩,hh⟩;simp only at ht hh;subst ht hh;refine (Zj (Zg Zd Zs) (ZoC _ _ _ _ _ g') (Z2 rfl)).mono fun e z hz=> ?_;obtain⟨rfl,⟨g2,z1⟩,z2⟩:=hz;refine⟨.inr rfl,?_⟩;have e1:i64.wrap ((((dgN (Zu h p n) (K/16)/2^(K % 16):Nat):Int)).tmod 2)=((vO h p n/2^K % 2:Nat):Int):=by
     unfold vO;rw[Zvw q2 K,Zqo];generalize dgN (Zu h p n) (K/16)/2^(K % 16)=y;rw[Int.tmod_eq_emod_of_nonneg (by omega),ZL (by omega) (by omega)];rfl
    rw[z1,z2,e1];rfl
  have:=ZH (T:=Zp prog Zh Zo hcV) func101 Zl4 (h0:=⟨1,[x]⟩) ⟨rfl,fun b z hz=>by obtain⟨_,rfl⟩:=ZfH hz;exact⟨NA.ros.1,NA.lt0,NA.ros.2⟩⟩ (vals:=[.slice p' n c,.int .i64 (K:Nat)]) (fun v hv=>by
   simp only[List.mem_cons,List.not_mem_nil,or_false] at hv;rcases hv with rfl | rfl
   ·exact NA.lt (by show 0<1;omega)
   ·rfl) (by rfl) hr.w E (s:=fun _=>a) (fun i z hz ht=>by obtain⟨_,rfl⟩:=ZfH hz;exact fA ht)
  simp only[List.map_cons,List.map_nil] at this;rw[eA _ rfl] at this;exact this
 ·cases hg
def rB (F:Func):Code:=Z5 (Z5 (Z5 (Z5 (Zv F))))
def rPr (F:Func):List Code:=[ZB (Zv F),ZB (Z5 (Zv F)),ZB (Z5 (Z5 (Zv F))),ZB (Z5 (Z5 (Z5 (Zv F))))]
def rR5 (F:Func):Code:=ZB (ZB (rB F))
def rL1 (F:Func):Code:=cIn (cIn (Z5 (ZB (rB F))))
def rC (F:Func):Code:=Z5 (rB F)
def rIf (F:Func):Code:=ZB (rC F)
def Z0B (F:Func):Code:=ZB (Z5 (rC F))
def rD (F:Func):Code:=Z5 (Z5 (rC F))
def Z0C (F:Func):Code:=ZB (ZB (rD F))
def rL2 (F:Func):Code:=cIn (cIn (Z5 (ZB (rD F))))
def ZyV (F:Func):Code:=ZB (Z5 (rD F))
def Z0D (F:Func):Code:=ZB (Z5 (Z5 (rD F)))
def rE (F:Func):Code:=Z5 (Z5 (Z5 (rD F)))
def Z0E (F:Func):Code:=ZB (ZB (rE F))
def rL3 (F:Func):Code:=cIn (cIn (Z5 (ZB (rE F))))
def rEn (F:Func):Code:=Z5 (rE F)
theorem Zl6:f100.body=some (Zaz (rPr f100) (.seq (.seq (rR5 f100) (.block 0 (.loop (rL1 f100)))) (.seq (rIf f100) (.seq (Z0B f100) (.seq (.seq (Z0C f100) (.block 2 (.loop (rL2 f100)))) (.seq (ZyV f100) (.seq (Z0D f100) (.seq (.seq (Z0E f100) (.block 4 (.loop (rL3 f100)))) (rEn f100))))))))):=by kernel_rfl
theorem ZiK:f100.body=some (Zv f100):=by kernel_rfl
theorem ZsG (p:Option Addr) (n c:Nat) (k:Int) (h:Hp):Zm (evL (Zp prog Zh Zo hcV) 100 (rPr f100) ([.slice p n c,.int .i64 k]++List.replicate 87 undef,h,[cmp false]) ⟨[],[],[]⟩) 8 81 none [.slice p n c,.int .i64 k,undef,undef,Zn,.bool false,.bool false,.int .i64 (k16 k)] h [(decide (k≤0),false)]:=by and_intros<;>kernel_rfl
theorem Zwy (a:Value) (k b:Int) (h:Hp) (g:Nat→Value):Zm (evC (Zp prog Zh Zo hcV) 100 false (rR5 f100) ([a,.int .i64 k,undef,undef,Zn,.bool false,.bool false,.int .i64 b]++tl 81 g,h,[]) ⟨[],[],[]⟩) 9 80 none [a,.int .i64 k,undef,undef,Zn,.bool false,.bool false,.int .i64 b,.int .i64 0] h []:=by and_intros<;>kernel_rfl
theorem ZsH (p:Option Addr) (n c:Nat) (k b i:Int) (h:Hp) (g:Nat→Value):Zm (evC (Zp prog Zh Zo hcV) 100 false (rL1 f100) ([.slice p n c,.int .i64 k,undef,undef,Zn,.bool false,.bool true,.int .i64 b,.int .i64 i]++tl 80 g,h,[cmp true,cmp true]) ⟨[],[],[]⟩) 9 80 none [.slice p n c,.int .i64 k,undef,undef,Zn,.bool false,.bool true,.int .i64 b,.int .i64 (i64.wrap (i+1))] h [(decide (i<n),true),(decide (i<b),true)]:=by and_intros<;>kernel_rfl
theorem ZsI (o n c:Nat) (k b i x:Int) (l:List Value) (d:Bool) (g:Nat→Value):Zm (evC (Zp prog Zh Zo hcV) 100 false (rL1 f100) ([sl 0 o n c,.int .i64 k,undef,undef,Zn,.bool false,.bool false,.int .i64 b,.int .i64 i]++tl 80 g,⟨1,[(l,tR)]⟩,[cmp true,cmp true,at_,val (.int .u32 x),cmp d]) ⟨[],[],[]⟩) 9 80 none [sl 0 o n c,.int .i64 k,undef,undef,Zn,.bool false,.bool d,.int .i64 b,.int .i64 (i64.wrap (i+1))] ⟨1,[(l,tR)]⟩ [(x !=0,d),(ZC (l[o+i.toNat*1]?) (.int .u32 x),true),(decide (0≤i∧i<n),true),(decide (i<n),true),(decide (i<b),true)]:=by and_intros<;>kernel_rfl
theorem ZsJ (p:Option Addr) (n c:Nat) (k b i:Int) (e:Bool) (h:Hp) (g:Nat→Value):Zm (evC (Zp prog Zh Zo hcV) 100 false (rL1 f100) ([.slice p n c,.int .i64 k,undef,undef,Zn,.bool false,.bool e,.int .i64 b,.int .i64 i]++tl 80 g,h,[cmp false]) ⟨[],[],[]⟩) 9 80 (some (some 0)) [.slice p n c,.int .i64 k,undef,undef,Zn,.bool false,.bool e,.int .i64 b,.int .i64 i] h [(decide (i<b),false)]:=by and_intros<;>kernel_rfl
theorem ZsK (p:Option Addr) (n c:Nat) (k b i:Int) (e:Bool) (h:Hp) (g:Nat→Value):Zm (evC (Zp prog Zh Zo hcV) 100 false (rL1 f100) ([.slice p n c,.int .i64 k,undef,undef,Zn,.bool false,.bool e,.int .i64 b,.int .i64 i]++tl 80 g,h,[cmp true,cmp false]) ⟨[],[],[]⟩) 9 80 (some (some 0)) [.slice p n c,.int .i64 k,undef,undef,Zn,.bool false,.bool e,.int .i64 b,.int .i64 i] h [(decide (i<n),false),(decide (i<b),true)]:=by and_intros<;>kernel_rfl
theorem ZsL (p:Option Addr) (n c:Nat) (k b i:Int) (e:Bool) (h:Hp) (g:Nat→Value):Zm (evC (Zp prog Zh Zo hcV) 100 false (rIf f100) ([.slice p n c,.int .i64 k,undef,undef,Zn,.bool false,.bool e,.int .i64 b,.int .i64 i]++tl 80 g,h,[cmp true]) ⟨[],[],[]⟩) 6 83 (some none) [.slice p n c,.int .i64 k,undef,undef,Zn,.bool e] h [(decide (b≥n),true)]:=by and_intros<;>kernel_rfl
theorem ZsM (p:Option Addr) (n c:Nat) (k b i:Int) (e:Bool) (h:Hp) (g:Nat→Value):Zm (evC (Zp prog Zh Zo hcV) 100 false (rIf f100) ([.slice p n c,.int .i64 k,undef,undef,Zn,.bool false,.bool e,.int .i64 b,.int .i64 i]++tl 80 g,h,[cmp false]) ⟨[],[],[]⟩) 9 80 none [.slice p n c,.int .i64 k,undef,undef,Zn,.bool false,.bool e,.int .i64 b,.int .i64 i] h [(decide (b≥n),false)]:=by and_intros<;>kernel_rfl
theorem ZsN (a:Value) (k b i:Int) (e:Bool) (h:Hp) (g:Nat→Value):Zm (evC (Zp prog Zh Zo hcV) 100 false (Z0B f100) ([a,.int .i64 k,undef,undef,Zn,.bool false,.bool e,.int .i64 b,.int .i64 i]++tl 80 g,h,[]) ⟨[],[],[]⟩) 10 79 none [a,.int .i64 k,undef,undef,Zn,.bool false,.bool e,.int .i64 b,.int .i64 i,.int .u32 1] h []:=by and_intros<;>kernel_rfl
theorem ZsO (a:Value) (k b i:Int) (e:Bool) (h:Hp) (g:Nat→Value):Zm (evC (Zp prog Zh Zo hcV) 100 false (Z0C f100) ([a,.int .i64 k,undef,undef,Zn,.bool false,.bool e,.int .i64 b,.int .i64 i,.int .u32 1]++tl 79 g,h,[]) ⟨[],[],[]⟩) 11 78 none [a,.int .i64 k,undef,undef,Zn,.bool false,.bool e,.int .i64 b,.int .i64 i,.int .u32 1,.int .i64 0] h []:=by and_intros<;>kernel_rfl
theorem Zwz (a:Value) (k b u i q:Int) (e:Bool) (h:Hp) (g:Nat→Value):Zm (evC (Zp prog Zh Zo hcV) 100 false (rL2 f100) ([a,.int .i64 k,undef,undef,Zn,.bool false,.bool e,.int .i64 b,.int .i64 u,.int .u32 q,.int .i64 i]++tl 78 g,h,[cmp true,cmp true]) ⟨[],[],[]⟩) 11 78 none [a,.int .i64 k,undef,undef,Zn,.bool false,.bool e,.int .i64 b,.int .i64 u,.int .u32 (u32.wrap (2*q)),.int .i64 (i64.wrap (i+1))] h [(decide (i<k.tmod 16),true),(decide ((16:Int)=0),false)]:=by and_intros<;>kernel_rfl
theorem Zw0 (a:Value) (k b u i q:Int) (e:Bool) (h:Hp) (g:Nat→Value):Zm (evC (Zp prog Zh Zo hcV) 100 false (rL2 f100) ([a,.int .i64 k,undef,undef,Zn,.bool false,.bool e,.int .i64 b,.int .i64 u,.int .u32 q,.int .i64 i]++tl 78 g,h,[cmp true,cmp false]) ⟨[],[],[]⟩) 11 78 (some (some 2)) [a,.int .i64 k,undef,undef,Zn,.bool false,.bool e,.int .i64 b,.int .i64 u,.int .u32 q,.int .i64 i] h [(decide (i<k.tmod 16),false),(decide ((16:Int)=0),false)]:=by and_intros<;>kernel_rfl
theorem ZsP (a:Value) (k b u i q:Int) (h:Hp) (g:Nat→Value):Zm (evC (Zp prog Zh Zo hcV) 100 false (ZyV f100) ([a,.int .i64 k,undef,undef,Zn,.bool false,.bool true,.int .i64 b,.int .i64 u,.int .u32 q,.int .i64 i]++tl 78 g,h,[]) ⟨[],[],[]⟩) 11 78 none [a,.int .i64 k,undef,undef,Zn,.bool false,.bool true,.int .i64 b,.int .i64 u,.int .u32 q,.int .i64 i] h []:=by and_intros<;>kernel_rfl
theorem ZsQ (o n c:Nat) (k b u i q x:Int) (l:List Value) (d:Bool) (g:Nat→Value):Zm (evC (Zp prog Zh Zo hcV) 100 false (ZyV f100) ([sl 0 o n c,.int .i64 k,undef,undef,Zn,.bool false,.bool false,.int .i64 b,.int .i64 u,.int .u32 q,.int .i64 i]++tl 78 g,⟨1,[(l,tR)]⟩,[at_,val (.int .u32 x),cmp false,cmp d]) ⟨[],[],[]⟩) 11 78 none [sl 0 o n c,.int .i64 k,undef,undef,Zn,.bool false,.bool d,.int .i64 b,.int .i64 u,.int .u32 q,.int .i64 i] ⟨1,[(l,tR)]⟩ [(x.tmod q !=0,d),(decide (q=0),false),(ZC (l[o+b.toNat*1]?) (.int .u32 x),true),(decide (0≤b∧b<n),true)]:=by and_intros<;>kernel_rfl
theorem ZsR (a:Value) (k b u i q:Int) (e:Bool) (h:Hp) (g:Nat→Value):Zm (evC (Zp prog Zh Zo hcV) 100 false (Z0D f100) ([a,.int .i64 k,undef,undef,Zn,.bool false,.bool e,.int .i64 b,.int .i64 u,.int .u32 q,.int .i64 i]++tl 78 g,h,[]) ⟨[],[],[]⟩) 12 77 none [a,.int .i64 k,undef,undef,Zn,.bool false,.bool e,.int .i64 b,.int .i64 u,.int .u32 q,.int .i64 i,Zn] h []:=by and_intros<;>kernel_rfl
theorem ZsS (a:Value) (k b u i q:Int) (e:Bool) (h:Hp) (g:Nat→Value):Zm (evC (Zp prog Zh Zo hcV) 100 false (Z0E f100) ([a,.int .i64 k,undef,undef,Zn,.bool false,.bool e,.int .i64 b,.int .i64 u,.int .u32 q,.int .i64 i,Zn]++tl 77 g,h,[]) ⟨[],[],[]⟩) 13 76 none [a,.int .i64 k,undef,undef,Zn,.bool false,.bool e,.int .i64 b,.int .i64 u,.int .u32 q,.int .i64 i,Zn,.int .i64 b] h []:=by and_intros<;>kernel_rfl
theorem Zqp (p:Option Addr) (n c:Nat) (v:Value) (k b u u2 i q:Int) (e:Bool) (h:Hp) (g:Nat→Value):Zm (evC (Zp prog Zh Zo hcV) 100 false (rL3 f100) ([.slice p n c,.int .i64 k,undef,undef,Zn,.bool false,.bool e,.int .i64 b,.int .i64 u,.int .u32 q,.int .i64 u2,v,.int .i64 i]++tl 76 g,h,[cmp false]) ⟨[],[],[]⟩) 13 76 (some (some 4)) [.slice p n c,.int .i64 k,undef,undef,Zn,.bool false,.bool e,.int .i64 b,.int .i64 u,.int .u32 q,.int .i64 u2,v,.int .i64 i] h [(decide (i<n),false)]:=by and_intros<;>kernel_rfl
def dwn (h:Hp) (o n:Nat) (i q q1 q2:Int):Int:=u32.wrap (q1+u32.wrap ((atN (Zu h (some ⟨0,o,none⟩) n) (i64.wrap (i+1))).tmod q*q2))
def lDw (h:Hp) (l:List Value) (o n c:Nat) (i q x q1 q2:Int):Log:=[(decide (q=0),false),(zS h (some ⟨0,o,none⟩) n c,true),(decide (q=0),false),(decide (u32.wrap (Int.tdiv 65536 q)=q2),true),(decide (q=0),false),(decide (u32.wrap (x.tdiv q)=q1),true),(ZC (l[o+i.toNat*1]?) (.int .u32 x),true),(decide (0≤i∧i<n),true),(decide (i<n),true)]
theorem ZsT (o n c:Nat) (k b u u2 i q x q1 q2:Int) (e:Bool) (l:List Value) (g:Nat→Value):Zm (evC (Zp prog Zh Zo hcV) 100 false (rL3 f100) ([sl 0 o n c,.int .i64 k,undef,undef,Zn,.bool false,.bool e,.int .i64 b,.int .i64 u,.int .u32 q,.int .i64 u2,Zn,.int .i64 i]++tl 76 g,⟨1,[(l,tR)]⟩,[cmp true,at_,val (.int .u32 x),num q1,num q2,cmp false]) ⟨[],[],[]⟩) 13 76 none [sl 0 o n c,.int .i64 k,undef,undef,Zn,.bool false,.bool e,.int .i64 b,.int .i64 u,.int .u32 q,.int .i64 u2,sl 2 0 1 grown,.int .i64 (i64.wrap (i+1))] ⟨3,[([.int .u32 (dwn ⟨1,[(l,tR)]⟩ o n i q q1 q2)],tU),([.int .u32 (dwn ⟨1,[(l,tR)]⟩ o n i q q1 q2)],tU),(l,tR)]⟩ (lDw ⟨1,[(l,tR)]⟩ l o n c i q x q1 q2):=by and_intros<;>kernel_rfl
theorem ZsU (o n c z:Nat) (k b u u2 i q x q1 q2:Int) (e:Bool) (l lo:List Value) (g:Nat→Value):Zm (evC (Zp prog Zh Zo hcV) 100 false (rL3 f100) ([sl 0 o n c,.int .i64 k,undef,undef,Zn,.bool false,.bool e,.int .i64 b,.int .i64 u,.int .u32 q,.int .i64 u2,sl 1 0 z grown,.int .i64 i]++tl 76 g,⟨2,[(lo,tU),(l,tR)]⟩,[cmp true,at_,val (.int .u32 x),num q1,num q2,cmp false,at_]) ⟨[],[],[]⟩) 13 76 none [sl 0 o n c,.int .i64 k,undef,undef,Zn,.bool false,.bool e,.int .i64 b,.int .i64 u,.int .u32 q,.int .i64 u2,sl 3 0 (z+1) grown,.int .i64 (i64.wrap (i+1))] ⟨4,[(lo++[.int .u32 (dwn ⟨2,[(lo,tU),(l,tR)]⟩ o n i q q1 q2)],tU),([.int .u32 (dwn ⟨2,[(lo,tU),(l,tR)]⟩ o n i q q1 q2)],tU),([],2*ZV),(l,tR)]⟩ ((zQ tU (lo,tU) ([.int .u32 (dwn ⟨2,[(lo,tU),(l,tR)]⟩ o n i q q1 q2)],tU) z 0 1,true)::lDw ⟨2,[(lo,tU),(l,tR)]⟩ l o n c i q x q1 q2):=by and_intros<;>kernel_rfl
theorem ZsV (a:Value) (k b u u2 q u3:Int) (e:Bool) (z:Nat) (x:List Value×TypeId) (lo:List Value) (g:Nat→Value):Zm (evC (Zp prog Zh Zo hcV) 100 false (rEn f100) ([a,.int .i64 k,undef,undef,Zn,.bool false,.bool e,.int .i64 b,.int .i64 u,.int .u32 q,.int .i64 u2,sl 1 0 z grown,.int .i64 u3]++tl 76 g,⟨2,[(lo,tU),x]⟩,[]) ⟨[],[],[]⟩) 6 83 (some none) [a,.int .i64 k,undef,undef,sl 1 0 (Z3 (zu lo 0 z)) (Z3 (zu lo 0 z)),.bool e] ⟨2,[(lo,tU),x]⟩ [(ZaK tU lo 0 z grown,true)]:=by and_intros<;>kernel_rfl
theorem Zl7 (p:Option Addr) (c:Nat) (k:Int) (h:Hp):Zm (evC (Zp prog Zh Zo hcV) 100 false (Zv f100) ([.slice p 0 c,.int .i64 k]++List.replicate 87 undef,h,[cmp false,cmp true,cmp false,cmp true]) ⟨[],[],[]⟩) 6 83 (some none) [.slice p 0 c,.int .i64 k,undef,undef,Zn,.bool false] h [(decide (k16 k≥((0:Nat):Int)),true),(decide ((0:Int)<((0:Nat):Int)),false),(decide (0<k16 k),true),(decide (k≤0),false)]:=by and_intros<;>kernel_rfl
theorem ZiL (p:Option Addr) (c:Nat) (k:Int) (h:Hp):Zm (evC (Zp prog Zh Zo hcV) 100 false (Zv f100) ([.slice p 0 c,.int .i64 k]++List.replicate 87 undef,h,[cmp false,cmp false,cmp true]) ⟨[],[],[]⟩) 6 83 (some none) [.slice p 0 c,.int .i64 k,undef,undef,Zn,.bool false] h [(decide (k16 k≥((0:Nat):Int)),true),(decide (0<k16 k),false),(decide (k≤0),false)]:=by and_intros<;>kernel_rfl
section
variable {l : List Value} {o c : Nat} {A : List Int}
theorem Zl8 (A:List Int) (j:Nat):vb 65536 (A.take (j+1))=vb 65536 (A.take j)+65536^j*dgN A j:=Zaw 65536 A j
theorem ZiM (hR:Row l o A) (hA:∀ x∈A,Dg 65536 x) (hn:A.length<1073741824) (k:Int) {z:Nat}(hz:z<4611686018427387904) (g:Nat→Value):
  Runs (Zp prog Zh Zo hcV) (.block 0 (.loop (rL1 f100))) ([sl 0 o A.length c,.int .i64 k,undef,undef,Zn,.bool false,.bool false,.int .i64 (z:Nat),.int .i64 0]++tl 80 g,⟨1,[(l,tR)]⟩,[]) fun e Y=>match e with | none=>(∃ g u,Y.1=[sl 0 o A.length c,.int .i64 k,undef,undef,Zn,.bool false,.bool (decide (vb 65536 (A.take z)≠0)),.int .i64 (z:Nat),.int .i64 u]++tl 80 g)∧Y.2.1=⟨1,[(l,tR)]⟩ | some none=>False | some (some _)=>False:=by
 refine Runs.forLoop (P:=fun Y=>(∃ g u,Y.1=[sl 0 o A.length c,.int .i64 k,undef,undef,Zn,.bool false,.bool (decide (vb 65536 (A.take z)≠0)),.int .i64 (z:Nat),.int .i64 u]++tl 80 g)∧Y.2.1=⟨1,[(l,tR)]⟩) (R:=fun _=>False)
  (fun m Y=>∃ j:Nat,j≤z∧j≤A.length∧m=A.length-j∧(∃ g,Y.1=[sl 0 o A.length c,.int .i64 k,undef,undef,Zn,.bool false,.bool (decide (vb 65536 (A.take j)≠0)),.int .i64 (z:Nat),.int .i64 (j:Nat)]++tl 80 g)∧Y.2.1=⟨1,[(l,tR)]⟩) ?_ (n:=A.length) ⟨0,by omega,by omega,by omega,⟨g,by simp [vb]⟩,rfl⟩
 rintro m ⟨t,h',s⟩ ⟨j,hj,hj',hm,⟨g,ht⟩,hh⟩;simp only at ht hh;subst ht hh;have e2:i64.wrap ((j:Int)+1)=((j+1:Nat):Int):=by rw[ZL (by omega) (by omega)];omega
 have hs:=Zl8 A j;have hp:0<65536^j:=Nat.pow_pos (by omega);by_cases h1:j<z
 ·by_cases h2:j<A.length
  ·have hd:=zn hA j;by_cases h0:vb 65536 (A.take j)=0
   ·have ef:decide (vb 65536 (A.take j)≠0)=false:=Xb (by omega);rw[ef];refine (Zj (Zg Zd Zs) (ZsI o A.length c k z j (A.getD j 0) l (A.getD j 0 !=0) g) (Zt rfl (Zt (by rw[Xg,Nat.mul_one,hR.cell h2];simp [ZC]) (Zt (Xa (by omega)) (Zt (Xa (by omega)) (Z2 (Xa (by omega)))))))).mono fun e w hw=> ?_;obtain⟨rfl,⟨g',z1⟩,z2⟩:=hw;have e3:(A.getD j 0 !=0)=decide (vb 65536 (A.take (j+1))≠0):=by
     rw[hs,h0,Nat.zero_add,← hd.2,Bool.eq_iff_iff];simp only[bne_iff_ne,ne_eq,Xi,Nat.mul_eq_zero];omega
    exact⟨A.length-(j+1),by omega,j+1,by omega,by omega,rfl,⟨g',by rw[z1,e2,e3]⟩,z2⟩
   ·have ef:decide (vb 65536 (A.take j)≠0)=true:=Xa h0;rw[ef];refine (Zj (Zg Zd Zs) (ZsH _ A.length c k z j _ g) (Zt (Xa (by omega)) (Z2 (Xa (by omega))))).mono fun e w hw=> ?_;obtain⟨rfl,⟨g',z1⟩,z2⟩:=hw;have e3:true=decide (vb 65536 (A.take (j+1))≠0):=(Xa (by rw[hs];omega)).symm;exact⟨A.length-(j+1),by omega,j+1,by omega,by omega,rfl,⟨g',by rw[z1,e2,← e3];rfl⟩,z2⟩
  ·have hjl:A.take j=A.take z:=by rw[List.take_of_length_le (by omega),List.take_of_length_le (by omega)]
   rw[hjl];refine (Zj (Zg Zd Zs) (ZsK _ A.length c k z j _ _ g) (Zt (Xb (by omega)) (Z2 (Xa (by omega))))).mono fun e w hw=> ?_;obtain⟨rfl,⟨g',z1⟩,z2⟩:=hw;exact⟨rfl,⟨g',_,z1⟩,z2⟩
 ·have hjz:j=z:=by omega
  subst hjz;refine (Zj (Zg Zd Zs) (ZsJ _ A.length c k j j _ _ g) (Z2 (Xb (by omega)))).mono fun e w hw=> ?_;obtain⟨rfl,⟨g',z1⟩,z2⟩:=hw;exact⟨rfl,⟨g',_,z1⟩,z2⟩
theorem ZiN (a:Value) (k:Nat) (b u:Int) (e:Bool) (h:Hp) (g:Nat→Value):
  Runs (Zp prog Zh Zo hcV) (.block 2 (.loop (rL2 f100))) ([a,.int .i64 (k:Nat),undef,undef,Zn,.bool false,.bool e,.int .i64 b,.int .i64 u,.int .u32 1,.int .i64 0]++tl 78 g,h,[]) fun ex Y=>match ex with | none=>(∃ g u2,Y.1=[a,.int .i64 (k:Nat),undef,undef,Zn,.bool false,.bool e,.int .i64 b,.int .i64 u,.int .u32 ((2^(k % 16):Nat):Int),.int .i64 u2]++tl 78 g)∧Y.2.1=h | some none=>False | some (some _)=>False:=by
 have em:(k:Int).tmod 16=((k % 16:Nat):Int):=by rw[Int.tmod_eq_emod_of_nonneg (by omega)];omega
 refine Runs.forLoop (P:=fun Y=>(∃ g u2,Y.1=[a,.int .i64 (k:Nat),undef,undef,Zn,.bool false,.bool e,.int .i64 b,.int .i64 u,.int .u32 ((2^(k % 16):Nat):Int),.int .i64 u2]++tl 78 g)∧Y.2.1=h) (R:=fun _=>False)
  (fun m Y=>∃ j:Nat,j≤k % 16∧m=k % 16-j∧(∃ g,Y.1=[a,.int .i64 (k:Nat),undef,undef,Zn,.bool false,.bool e,.int .i64 b,.int .i64 u,.int .u32 ((2^j:Nat):Int),.int .i64 (j:Nat)]++tl 78 g)∧Y.2.1=h) ?_ (n:=k % 16) ⟨0,by omega,by omega,⟨g,rfl⟩,rfl⟩
 rintro m ⟨t,h',s⟩ ⟨j,hj,hm,⟨g,ht⟩,hh⟩;simp only at ht hh;subst ht hh;by_cases hlt:j<k % 16
 ·refine (Zj (Zg Zd Zs) (Zwz a k b u j _ e h' g) (Zt (by rw[em];exact Xa (by omega)) (Z2 rfl))).mono fun ex w hw=> ?_;obtain⟨rfl,⟨g',z1⟩,z2⟩:=hw;have hp:2^j≤32768:=by
   have:=Nat.pow_le_pow_right (show 0<2 by omega) (show j≤15 by omega);omega
  have e1:u32.wrap (2*((2^j:Nat):Int))=((2^(j+1):Nat):Int):=by
   rw[Nat.pow_succ];generalize 2^j=Q at hp ⊢;rw[ze (by omega) (by omega)];omega
  have e2:i64.wrap ((j:Int)+1)=((j+1:Nat):Int):=by rw[ZL (by omega) (by omega)];omega
  exact⟨k % 16-(j+1),by omega,j+1,by omega,rfl,⟨g',by rw[z1,e1,e2]⟩,z2⟩
 ·have hj':j=k % 16:=by omega
  subst hj';refine (Zj (Zg Zd Zs) (Zw0 a k b u _ _ e h' g) (Zt (by rw[em];exact Xb (by omega)) (Z2 rfl))).mono fun ex w hw=> ?_;obtain⟨rfl,⟨g',z1⟩,z2⟩:=hw;exact⟨rfl,⟨g',_,z1⟩,z2⟩
def Fst (l:List Value) (o c:Nat) (A:List Int):Prop:=∀ h:Hp,h.blk? 0=some (l,tR)→zS h (some ⟨0,o,none⟩) A.length c=true∧Zu h (some ⟨0,o,none⟩) A.length=A
def dwV (A:List Int) (P R i:Nat):Nat:=dgN A i/P+dgN A (i+1) % P*R
def rSt (l:List Value) (o c:Nat) (A:List Int) (k b u u2:Int) (e:Bool) (P j i:Nat) (O:List Int) (Y:Lf):Prop:=
 (j=0∧(∃ g,Y.1=[sl 0 o A.length c,.int .i64 k,undef,undef,Zn,.bool false,.bool e,.int .i64 b,.int .i64 u,.int .u32 (P:Nat),.int .i64 u2,Zn,.int .i64 (i:Nat)]++tl 76 g)∧Y.2.1=⟨1,[(l,tR)]⟩)∨
 (0<j∧(∃ g,Y.1=[sl 0 o A.length c,.int .i64 k,undef,undef,Zn,.bool false,.bool e,.int .i64 b,.int .i64 u,.int .u32 (P:Nat),.int .i64 u2,sl 1 0 j grown,.int .i64 (i:Nat)]++tl 76 g)∧Y.2.1=⟨2,[(wU O,tU),(l,tR)]⟩)
theorem ZiO (hR:Row l o A) (hF:Fst l o c A) (hs:∀ v∈l,still v=true) (hA:∀ x∈A,Dg 65536 x) (hn:A.length+2<1073741824) {k b u u2:Int}{e:Bool}{P R j i:Nat}{O:List Int}(hP:0<P) (hPR:P*R=65536) (hO:O.length=j) (hj:j≤i) (hi:i<A.length) {Y:Lf}(hY:rSt l o c A k b u u2 e P j i O Y):
  RunsW (Zp prog Zh Zo hcV) (rL3 f100) Y fun ex W=>ex=none∧(∃ g,W.1=[sl 0 o A.length c,.int .i64 k,undef,undef,Zn,.bool false,.bool e,.int .i64 b,.int .i64 u,.int .u32 (P:Nat),.int .i64 u2,sl 1 0 (j+1) grown,.int .i64 ((i+1:Nat):Int)]++tl 76 g)∧W.2.1=⟨2,[(wU (O++[((dwV A P R i:Nat):Int)]),tU),(l,tR)]⟩:=by
 obtain⟨t,h',s⟩:=Y;have hd:=zn hA i;have hd1:=zn hA (i+1);have hPb:P≤65536:=by
  rcases Nat.eq_zero_or_pos R with h0 | h0
  ·rw[h0] at hPR;omega
  ·have:=Nat.mul_le_mul_left P h0;omega
 have hRb:R≤65536:=by
  have:=Nat.mul_le_mul_right R hP;omega
 have e3:i64.wrap ((i:Int)+1)=((i+1:Nat):Int):=by rw[ZL (by omega) (by omega)];omega
 have ne0:decide ((P:Int)=0)=false:=Xb (by omega);have hdiv:dgN A i/P≤dgN A i:=Nat.div_le_self _ _;have eq1:u32.wrap ((A.getD i 0).tdiv (P:Int))=((dgN A i/P:Nat):Int):=by
  rw[← hd.2,Int.tdiv_eq_ediv_of_nonneg (by omega),show ((dgN A i:Nat):Int)/(P:Int)=((dgN A i/P:Nat):Int) from rfl];generalize dgN A i/P=y at hdiv ⊢;exact ze (by omega) (by omega)
 have eq2:u32.wrap (Int.tdiv 65536 (P:Int))=(R:Int):=by
  have:65536/P=R:=by rw[← hPR,Nat.mul_div_cancel_left _ hP]
  rw[Int.tdiv_eq_ediv_of_nonneg (by omega),show (65536:Int)/(P:Int)=((65536/P:Nat):Int) from rfl,this];exact ze (by omega) (by omega)
 have hlt:=Zk2 (x1:=dgN A (i+1)) hP hPR hd.1;have hdw:∀ h:Hp,h.blk? 0=some (l,tR)→dwn h o A.length i P ((dgN A i/P:Nat):Int) R=((dwV A P R i:Nat):Int):=fun h hh=>by
  unfold dwn dwV;rw[(hF h hh).2,e3,zZ,← hd1.2,Int.tmod_eq_emod_of_nonneg (by omega),show ((dgN A (i+1):Nat):Int) % (P:Int)=((dgN A (i+1) % P:Nat):Int) from rfl,show ((dgN A (i+1) % P:Nat):Int)*(R:Int)=((dgN A (i+1) % P*R:Nat):Int) from by simp];generalize dgN A i/P=y1 at hlt ⊢;generalize dgN A (i+1) % P*R=y2 at hlt ⊢;rw[ze (n:=(y2:Int)) (by omega) (by omega),ze (by omega) (by omega)];omega
 have hlog:∀ h:Hp,h.blk? 0=some (l,tR)→Zx (lDw h l o A.length c i P (A.getD i 0) ((dgN A i/P:Nat):Int) R):=fun h hh=>Zt ne0 (Zt (hF h hh).1 (Zt ne0 (Zt (Xa eq2) (Zt ne0 (Zt (Xa eq1) (Zt (by
  show ZC (l[o+(i:Int).toNat*1]?) _=true;rw[Xg,Nat.mul_one,hR.cell hi];simp [ZC]) (Zt (Xa (by omega)) (Z2 (Xa (by omega))))))))))
 have key:∀ {h:Hp}{bb:Nat},1≤bb→h.blk? 0=some (l,tR)→h.blk? bb=some (wU (O++[((dwV A P R i:Nat):Int)]),tU)→RunsW (Zp prog Zh Zo hcV) (rL3 f100) (t,h',s) (fun ex W=>ex=none∧(∃ g,W.1=[sl 0 o A.length c,.int .i64 k,undef,undef,Zn,.bool false,.bool e,.int .i64 b,.int .i64 u,.int .u32 (P:Nat),.int .i64 u2,sl bb 0 (j+1) grown,.int .i64 ((i+1:Nat):Int)]++tl 76 g)∧W.2.1=h)→
   RunsW (Zp prog Zh Zo hcV) (rL3 f100) (t,h',s) fun ex W=>ex=none∧(∃ g,W.1=[sl 0 o A.length c,.int .i64 k,undef,undef,Zn,.bool false,.bool e,.int .i64 b,.int .i64 u,.int .u32 (P:Nat),.int .i64 u2,sl 1 0 (j+1) grown,.int .i64 ((i+1:Nat):Int)]++tl 76 g)∧W.2.1=⟨2,[(wU (O++[((dwV A P R i:Nat):Int)]),tU),(l,tR)]⟩:=fun {h bb} hb h0 hB fin=>
  fin.kept (k:=1) (b:=bb) (base:=[(l,tR)]) (y:=(wU (O++[((dwV A P R i:Nat):Int)]),tU)) (front':=[sl 0 o A.length c,.int .i64 k,undef,undef,Zn,.bool false,.bool e,.int .i64 b,.int .i64 u,.int .u32 (P:Nat),.int .i64 u2,sl 1 0 (j+1) grown,.int .i64 ((i+1:Nat):Int)]) rfl
   (by kernel_rfl) (fun j x hx=>by
    obtain⟨rfl,rfl⟩:=ZfH hx;exact⟨h0,hs⟩) hB hb (ZP _) (fun v hv=>by
    simp only[List.mem_cons,List.not_mem_nil,or_false] at hv;rcases hv with rfl | rfl | rfl | rfl | rfl | rfl | rfl | rfl | rfl | rfl | rfl | rfl | rfl<;>rfl)
 rcases hY with ⟨h0,⟨g,ht⟩,hh⟩ | ⟨h0,⟨g,ht⟩,hh⟩
 ·simp only at ht hh;subst ht hh;have hO0:O=[]:=List.length_eq_zero_iff.1 (by omega);subst hO0;subst h0;have fin:=Zc (Zg Zd Zs) (s0:=s) (ZsT o A.length c k b u u2 i P (A.getD i 0) ((dgN A i/P:Nat):Int) R e l g) (hlog _ rfl);rw[e3,hdw _ rfl] at fin;exact key (bb:=2) (by omega) rfl rfl fin
 ·simp only at ht hh;subst ht hh;have hchk:zQ tU (wU O,tU) ([.int .u32 ((dwV A P R i:Nat):Int)],tU) j 0 1=true:=
   ZaE (L:=O) (M:=[((dwV A P R i:Nat):Int)]) hO.symm (show 0<1 by omega) (by show O.length+1≤_;omega)
  have ew:wU O++[.int .u32 ((dwV A P R i:Nat):Int)]=wU (O++[((dwV A P R i:Nat):Int)]):=by rw[ZO];rfl
  have fin:=Zc (Zg Zd Zs) (s0:=s) (ZsU o A.length c j k b u u2 i P (A.getD i 0) ((dgN A i/P:Nat):Int) R e l (wU O) g) (Zt (by rw[hdw _ rfl];exact hchk) (hlog _ rfl));rw[e3,hdw _ rfl,ew] at fin;exact key (bb:=3) (by omega) rfl rfl fin
def Z0F (l:List Value) (o c:Nat) (A:List Int) (k b u u2:Int) (e:Bool) (P z:Nat) (Y:Lf):Prop:=
 ∃ O:List Int,O.length=A.length-z∧(∀ x∈O,Dg 65536 x)∧vb 65536 O*P+dgN A z % P=vb 65536 (A.drop z)∧rSt l o c A k b u u2 e P (A.length-z) A.length O Y
def Z2O (l:List Value) (o c:Nat) (A:List Int) (k b u u2:Int) (e:Bool) (P z:Nat) (m:Nat) (Y:Lf):Prop:=
 ∃ (i:Nat) (O:List Int),m=A.length-i∧z≤i∧i≤A.length∧O.length=i-z∧(∀ x∈O,Dg 65536 x)∧vb 65536 O*P+dgN A z % P=vb 65536 ((A.drop z).take (i-z))+65536^(i-z)*(dgN A i % P)∧rSt l o c A k b u u2 e P (i-z) i O Y
theorem Zl9 (A:List Int) (z j:Nat):(A.drop z).getD j 0=A.getD (z+j) 0:=by simp [List.getD,List.getElem?_drop]
theorem ZiP (hR:Row l o A) (hF:Fst l o c A) (hs:∀ v∈l,still v=true) (hA:∀ x∈A,Dg 65536 x) (hn:A.length+2<1073741824) {k b u u2:Int}{e:Bool}{P R z:Nat}(hP:0<P) (hPR:P*R=65536) (hz:z≤A.length) (g:Nat→Value):
  RunsW (Zp prog Zh Zo hcV) (.block 4 (.loop (rL3 f100))) ([sl 0 o A.length c,.int .i64 k,undef,undef,Zn,.bool false,.bool e,.int .i64 b,.int .i64 u,.int .u32 (P:Nat),.int .i64 u2,Zn,.int .i64 (z:Nat)]++tl 76 g,⟨1,[(l,tR)]⟩,[]) fun ex Y=>match ex with | none=>Z0F l o c A k b u u2 e P z Y | some none=>False | some (some _)=>False:=by
 refine RunsW.forLoop (P:=Z0F l o c A k b u u2 e P z) (R:=fun _=>False) (Z2O l o c A k b u u2 e P z) ?_ (n:=A.length-z) ⟨z,[],rfl,Nat.le_refl _,hz,by simp,(fun x hx=>by cases hx),by simp [vb],.inl ⟨by omega,⟨g,rfl⟩,rfl⟩⟩;rintro m Y ⟨i,O,hm,hzi,hi,hO,hOd,hv,hY⟩;by_cases hlt:i<A.length
 ·refine (ZiO hR hF hs hA hn hP hPR hO (by omega) hlt hY).mono fun ex W hW=> ?_;obtain⟨rfl,z1,z2⟩:=hW;have hd:=zn hA i;have hl:=Zk2 (x1:=dgN A (i+1)) hP hPR hd.1;have ej:i+1-z=i-z+1:=by omega
  refine⟨A.length-(i+1),by omega,i+1,O++[((dwV A P R i:Nat):Int)],rfl,by omega,by omega,by rw[List.length_append,hO,ej];rfl,fun x hx=> ?_,?_,.inr ⟨by omega,by rw[ej];exact z1,z2⟩⟩
  ·rcases List.mem_append.1 hx with hx | hx
   ·exact hOd x hx
   ·rw[List.mem_singleton.1 hx];unfold dwV;exact⟨Int.natCast_nonneg _,Int.ofNat_lt.2 hl⟩
  ·have h1:=Zk1 (x1:=dgN A (i+1)) hPR hO hv;have h2:vb 65536 ((A.drop z).take (i-z+1))=vb 65536 ((A.drop z).take (i-z))+65536^(i-z)*dgN A i:=by
    rw[Zaw,Zl9,show z+(i-z)=i by omega];rfl
   rw[ej,h2];exact h1
 ·have hil:i=A.length:=by omega
  subst hil;have hz0:dgN A A.length=0:=by unfold dgN;simp [List.getD]
  rw[List.take_of_length_le (by simp),hz0] at hv;simp only[Nat.zero_mod,Nat.mul_zero,Nat.add_zero] at hv;obtain⟨t,h',s⟩:=Y;rcases hY with ⟨h0,⟨g,ht⟩,hh⟩ | ⟨h0,⟨g,ht⟩,hh⟩
  ·simp only at ht hh;subst ht hh;refine (Zc (Zg Zd Zs) (Zqp _ _ _ _ _ _ _ _ _ _ _ _ g) (Z2 (Xb (by omega)))).mono fun ex W hW=> ?_;obtain⟨rfl,⟨g',z1⟩,z2⟩:=hW;exact⟨rfl,O,hO,hOd,hv,.inl ⟨h0,⟨g',z1⟩,z2⟩⟩
  ·simp only at ht hh;subst ht hh;refine (Zc (Zg Zd Zs) (Zqp _ _ _ _ _ _ _ _ _ _ _ _ g) (Z2 (Xb (by omega)))).mono fun ex W hW=> ?_;obtain⟨rfl,⟨g',z1⟩,z2⟩:=hW;exact⟨rfl,O,hO,hOd,hv,.inr ⟨h0,⟨g',z1⟩,z2⟩⟩
end
end Go.Proofs.YtekebccjflilnaaGreat
namespace Go.Proofs.YtekebccjflilnaaGreat
open Go.Proofs.Tryz
open Go.KRun Go.Nt
set_option maxRecDepth 100000
def ZsW (F:Func):Code:=Zaz (rPr F) (.seq (.seq (rR5 F) (.block 0 (.loop (rL1 F)))) (.seq (rIf F) (.seq (Z0B F) (.seq (.seq (Z0C F) (.block 2 (.loop (rL2 F)))) (.seq (ZyV F) (.seq (Z0D F) (.seq (.seq (Z0E F) (.block 4 (.loop (rL3 F)))) (rEn F))))))))
section
variable {l : List Value} {o c : Nat} {A : List Int}
theorem Zek (hR:Row l o A) (hA:∀ x∈A,Dg 65536 x) (hn:A.length+2<1073741824) {k:Nat}(hk0:0<k) (hk:k<4611686018427387904) {P:Ex→Lf→Prop}{rest:Code}
  (h:∀ (g:Nat→Value) (u:Int),RunsW (Zp prog Zh Zo hcV) rest ([sl 0 o A.length c,.int .i64 (k:Nat),undef,undef,Zn,.bool false,.bool (decide (vb 65536 (A.take (k/16))≠0)),.int .i64 ((k/16:Nat):Int),.int .i64 u]++tl 80 g,⟨1,[(l,tR)]⟩,[]) P):
  RunsW (Zp prog Zh Zo hcV) (Zaz (rPr f100) (.seq (.seq (rR5 f100) (.block 0 (.loop (rL1 f100)))) rest)) ([sl 0 o A.length c,.int .i64 (k:Nat)]++List.replicate 87 undef,⟨1,[(l,tR)]⟩,[]) P:=by
 have ek:k16 (k:Int)=((k/16:Nat):Int):=by unfold k16;rw[Int.tdiv_eq_ediv_of_nonneg (by omega),ZL (by omega) (by omega)];omega
 refine Z0 (Zg Zd Zs) (ZsG _ A.length c k _) (Z2 (Xb (by omega))) fun g=> ?_;rw[ek];refine ZfF (Zc (Zg Zd Zs) (Zwy _ k _ _ g) (fun x hx=>by cases hx)) (fun e y he=>by cases he.1) (P2:=fun e Y=>match e with | none=>(∃ g u,Y.1=[sl 0 o A.length c,.int .i64 (k:Nat),undef,undef,Zn,.bool false,.bool (decide (vb 65536 (A.take (k/16))≠0)),.int .i64 ((k/16:Nat):Int),.int .i64 u]++tl 80 g)∧Y.2.1=⟨1,[(l,tR)]⟩ | some none=>False | some (some _)=>False) ?_ (fun e y he=>by match e,he with | none,he=>exact he | some id,he=>exact he) ?_
 ·rintro⟨t,h',s⟩ ⟨_,⟨g',ht⟩,hh⟩;simp only at ht hh;subst ht hh;exact RunsW.script (ZiM hR hA (by omega) _ (by omega) g').w
 ·rintro⟨t,h',s⟩ ⟨⟨g',u,ht⟩,hh⟩;simp only at ht hh;subst ht hh;exact RunsW.script (h g' u)
theorem ZiQ (hR:Row l o A) (hA:∀ x∈A,Dg 65536 x) (hn:A.length+2<1073741824) {k:Nat}(hk0:0<k) (hk:k<4611686018427387904) (hz:A.length≤k/16):
  RunsW (Zp prog Zh Zo hcV) (ZsW f100) ([sl 0 o A.length c,.int .i64 (k:Nat)]++List.replicate 87 undef,⟨1,[(l,tR)]⟩,[]) fun e z=>(e=none∨e=some none)∧Zau prog f100 z.1 z.2.1=some (.tuple #[Zn,.bool (decide (vb 65536 A % 2^k≠0))]):=by
 have el:decide (vb 65536 (A.take (k/16))≠0)=decide (vb 65536 A % 2^k≠0):=by
  congr 1;have h1:=Go.Nt.lost_iff hA k;have h2:dgS A (k/16)=0:=by unfold dgS;simp [List.getD,List.getElem?_eq_none hz]
  rw[h2,Nat.zero_mod] at h1;simp only[ne_eq,not_true_eq_false,or_false] at h1;simp only[ne_eq,eq_iff_iff];exact h1.symm
 refine Zek hR hA hn hk0 hk fun g u=> ?_;refine RunsW.seq (P1:=fun e Y=>e=some none∧(∃ g,Y.1=[sl 0 o A.length c,.int .i64 (k:Nat),undef,undef,Zn,.bool (decide (vb 65536 (A.take (k/16))≠0))]++tl 83 g)∧Y.2.1=⟨1,[(l,tR)]⟩) (Zc (Zg Zd Zs) (ZsL _ A.length c k _ u _ _ g) (Z2 (Xa (by omega)))) (fun y he=>by cases he.1) (fun e y he=> ?_);obtain⟨he,⟨g',z1⟩,z2⟩:=he;refine⟨.inr he,?_⟩;rw[z1,z2,el];rfl
theorem ZlA (hR:Row l o A) (hF:Fst l o c A) (hs:∀ v∈l,still v=true) (hA:∀ x∈A,Dg 65536 x) (hn:A.length+2<1073741824) {k:Nat}(hk0:0<k) (hk:k<4611686018427387904) (hz:k/16<A.length) {V:Nat}(hV:V=vb 65536 A/2^k):
  RunsW (Zp prog Zh Zo hcV) (ZsW f100) ([sl 0 o A.length c,.int .i64 (k:Nat)]++List.replicate 87 undef,⟨1,[(l,tR)]⟩,[]) fun e z=>(e=none∨e=some none)∧Zau prog f100 z.1 z.2.1=some (.tuple #[sl 1 0 (d16 V).length (d16 V).length,.bool (decide (vb 65536 A % 2^k≠0))])∧∃ r,z.2.1.blk? 1=some (wU (d16 V)++r,tU):=by
 have hP0:0<2^(k % 16):=Nat.pow_pos (by omega);have hPR:=Zgo (s:=k % 16) (by omega);have hPb:2^(k % 16)≤32768:=by
  have:=Nat.pow_le_pow_right (show 0<2 by omega) (show k % 16≤15 by omega);omega
 have hd:=zn hA (k/16);have hl:=Go.Nt.lost_iff hA k;refine Zek hR hA hn hk0 hk fun g u=> ?_;refine RunsW.seq (P1:=fun e Y=>e=none∧(∃ g,Y.1=[sl 0 o A.length c,.int .i64 (k:Nat),undef,undef,Zn,.bool false,.bool (decide (vb 65536 (A.take (k/16))≠0)),.int .i64 ((k/16:Nat):Int),.int .i64 u]++tl 80 g)∧Y.2.1=⟨1,[(l,tR)]⟩) (Zc (Zg Zd Zs) (ZsM _ A.length c k _ u _ _ g) (Z2 (Xb (by omega)))) ?_ (fun e y he=>by cases he.1);rintro⟨t,h',s⟩ ⟨_,⟨g,ht⟩,hh⟩;simp only at ht hh;subst ht hh;refine RunsW.seq (P1:=fun e Y=>e=none∧(∃ g,Y.1=[sl 0 o A.length c,.int .i64 (k:Nat),undef,undef,Zn,.bool false,.bool (decide (vb 65536 (A.take (k/16))≠0)),.int .i64 ((k/16:Nat):Int),.int .i64 u,.int .u32 1]++tl 79 g)∧Y.2.1=⟨1,[(l,tR)]⟩) (Zc (Zg Zd Zs) (ZsN _ k _ u _ _ g) (fun x hx=>by cases hx)) ?_ (fun e y he=>by cases he.1);rintro⟨t,h',s⟩ ⟨_,⟨g,ht⟩,hh⟩;simp only at ht hh;subst ht hh;refine ZfF (Zc (Zg Zd Zs) (ZsO _ k _ u _ _ g) (fun x hx=>by cases hx)) (fun e y he=>by cases he.1) (P2:=fun e Y=>match e with | none=>(∃ g u2,Y.1=[sl 0 o A.length c,.int .i64 (k:Nat),undef,undef,Zn,.bool false,.bool (decide (vb 65536 (A.take (k/16))≠0)),.int .i64 ((k/16:Nat):Int),.int .i64 u,.int .u32 ((2^(k % 16):Nat):Int),.int .i64 u2]++tl 78 g)∧Y.2.1=⟨1,[(l,tR)]⟩ | some none=>False | some (some _)=>False) ?_ (fun e y he=>by match e,he with | none,he=>exact he | some id,he=>exact he) ?_
 ·rintro⟨t,h',s⟩ ⟨_,⟨g',ht⟩,hh⟩;simp only at ht hh;subst ht hh;exact RunsW.script (ZiN _ k _ u _ _ g').w
 rintro⟨t,h',s⟩ ⟨⟨g,u2,ht⟩,hh⟩;simp only at ht hh;subst ht hh;refine RunsW.seq (P1:=fun e Y=>e=none∧(∃ g,Y.1=[sl 0 o A.length c,.int .i64 (k:Nat),undef,undef,Zn,.bool false,.bool (decide (vb 65536 A % 2^k≠0)),.int .i64 ((k/16:Nat):Int),.int .i64 u,.int .u32 ((2^(k % 16):Nat):Int),.int .i64 u2]++tl 78 g)∧Y.2.1=⟨1,[(l,tR)]⟩) ?_ ?_ (fun e y he=>by cases he.1)
 ·by_cases h0:vb 65536 (A.take (k/16))=0
  ·rw[Xb (show ¬ (vb 65536 (A.take (k/16))≠0) by omega)];have ev:(((A.getD (k/16) 0)).tmod ((2^(k % 16):Nat):Int) !=0)=decide (vb 65536 A % 2^k≠0):=by
    rw[← hd.2,Int.tmod_eq_emod_of_nonneg (by omega),show ((dgN A (k/16):Nat):Int) % ((2^(k % 16):Nat):Int)=((dgN A (k/16) % 2^(k % 16):Nat):Int) from rfl,Bool.eq_iff_iff];rw[h0] at hl;simp only[ne_eq,not_true_eq_false,false_or] at hl;simp only[bne_iff_ne,ne_eq,Xi,hl,Zqo];omega
   refine (Zc (Zg Zd Zs) (ZsQ o A.length c k ((k/16:Nat):Int) u u2 ((2^(k % 16):Nat):Int) (A.getD (k/16) 0) l (decide (vb 65536 A % 2^k≠0)) g) (Zt ev (Zt (Xb (by omega)) (Zt (by rw[Xg,Nat.mul_one,hR.cell hz];simp [ZC]) (Z2 (Xa (by omega))))))).mono fun e w hw=>hw
  ·rw[Xa h0,Xa (hl.2 (.inl h0))];exact Zc (Zg Zd Zs) (ZsP _ k _ u u2 _ _ g) (fun x hx=>by cases hx)
 rintro⟨t,h',s⟩ ⟨_,⟨g,ht⟩,hh⟩;simp only at ht hh;subst ht hh;refine RunsW.seq (P1:=fun e Y=>e=none∧(∃ g,Y.1=[sl 0 o A.length c,.int .i64 (k:Nat),undef,undef,Zn,.bool false,.bool (decide (vb 65536 A % 2^k≠0)),.int .i64 ((k/16:Nat):Int),.int .i64 u,.int .u32 ((2^(k % 16):Nat):Int),.int .i64 u2,Zn]++tl 77 g)∧Y.2.1=⟨1,[(l,tR)]⟩) (Zc (Zg Zd Zs) (ZsR _ k _ u u2 _ _ _ g) (fun x hx=>by cases hx)) ?_ (fun e y he=>by cases he.1);rintro⟨t,h',s⟩ ⟨_,⟨g,ht⟩,hh⟩;simp only at ht hh;subst ht hh;refine ZfF (Zc (Zg Zd Zs) (ZsS _ k _ u u2 _ _ _ g) (fun x hx=>by cases hx)) (fun e y he=>by cases he.1) (P2:=fun e Y=>match e with | none=>Z0F l o c A k ((k/16:Nat):Int) u u2 (decide (vb 65536 A % 2^k≠0)) (2^(k % 16)) (k/16) Y | some none=>False | some (some _)=>False) ?_ (fun e y he=>by match e,he with | none,he=>exact he | some id,he=>exact he) ?_
 ·rintro⟨t,h',s⟩ ⟨_,⟨g',ht⟩,hh⟩;simp only at ht hh;subst ht hh;exact RunsW.script (ZiP hR hF hs hA hn hP0 hPR (by omega) g')
 rintro⟨t,h',s⟩ ⟨O,hO,hOd,hv,hY⟩;rcases hY with ⟨e0,_⟩ | ⟨_,⟨g',ht⟩,hh⟩
 ·omega
 ·simp only at ht hh;subst ht hh;have hval:vb 65536 O=V:=by rw[hV];exact Zn9 hA hv
  have hrow:ZaK tU (wU O) 0 (A.length-k/16) grown=true:=by
   rw[← hO];exact zY (fun x hx=>⟨(hOd x hx).1,by have:=(hOd x hx).2;omega⟩) (by omega) (Zu3 _)
  refine (Zc (Zg Zd Zs) (ZsV _ k _ u u2 _ _ _ (A.length-k/16) (l,tR) (wU O) g') (Z2 hrow)).mono fun e z he=> ?_;obtain⟨rfl,⟨g2,e1⟩,e2⟩:=he;have et:Z3 (zu (wU O) 0 (A.length-k/16))=(d16 V).length:=by
   rw[← hO,ZaD,Zad (by omega) hOd,hval];rfl
  refine⟨.inr rfl,?_,?_⟩
  ·rw[e1,e2,et];rfl
  ·rw[e2];refine⟨wU (O.drop (Z3 O)),?_⟩;have e3:wU (d16 V)++wU (O.drop (Z3 O))=wU O:=by
    unfold d16;rw[← hval,← zj (by omega) _ hOd,← ZO,List.take_append_drop]
   rw[e3];rfl
end
theorem Zel:f100.body=some (ZsW f100):=Zl6
theorem ZlB {ty:TypeId}{l:List Value}{o n c:Nat}(r:ZaK ty l o n c=true) (hs:∀ v∈l,still v=true):Fst l o c (zu l o n):=by
 intro h hb;have hlen:=(ZU r).2.1;rw[hlen];constructor
 ·simp only[zS,hb,Xh];refine⟨?_,List.all_eq_true.2 hs⟩;unfold ZaK at r ⊢;simp only[Xh,Bool.not_eq_true'] at r ⊢;obtain⟨⟨⟨⟨⟨⟨_,_⟩,p3⟩,p4⟩,p5⟩,p6⟩,p7⟩:=r;exact⟨⟨⟨⟨⟨⟨ZeO,by kernel_rfl⟩,p3⟩,p4⟩,p5⟩,p6⟩,p7⟩
 ·simp [Zu,hb]
def ZdI (h:Hp) (p:Option Addr) (n c:Nat) (k:Int):Bool:=zS h p n c && dgB (Zu h p n) && Nat.blt (n+2) 1073741824 && decide (0<k∧k<4611686018427387904)
def ZsX:Zcl:=fun vals h s=>
 match vals,s with
 | [.slice p n c,.int .i64 k],.inr (.inr (.inr (.inl d))):: .inr (.inr (.inr (.inl e)))::s'=>
  match d with
  | true=>some (.tuple #[sl h.n 0 (d16 (vO h p n/2^k.toNat)).length (d16 (vO h p n/2^k.toNat)).length,.bool e],h.push (wU (d16 (vO h p n/2^k.toNat))) tU,s',[(decide (vO h p n % 2^k.toNat≠0),e),(decide (k.toNat/16<n),true),(ZdI h p n c k,true)])
  | false=>some (.tuple #[Zn,.bool e],h,s',[(decide (vO h p n % 2^k.toNat≠0),e),(decide (k.toNat/16<n),false),(ZdI h p n c k,true)])
 | _,_=>none
theorem ZoE:za 100 ZsX:=by
 intro vals h s v h' s' lg hg hl m B w E hv;unfold ZsX at hg;split at hg
 ·rename_i p n c k d e s2;split at hg
  ·cases hg;have l1:=hl _ (Xe);have l2:=hl _ (Xd _ (Xe));have l3:=hl _ (Xd _ (Xd _ Xf));simp only at l1 l2 l3;simp only[ZdI,Xh,Xi] at l2 l3;obtain⟨⟨⟨q1,q2⟩,q3⟩,q4⟩:=l3;have q2:=ZaY q2;have q3:=Zk.1 q3;obtain⟨K,rfl⟩:=Int.eq_ofNat_of_zero_le (show 0≤k by omega);rw[Xg] at l1 l2 ⊢;rcases Z8 q1 with ⟨rfl,rfl,rfl,e0⟩ | ⟨b,o,x,rfl,hx,r1,rs,e0⟩
   ·omega
   ·rw[e0] at q2;obtain⟨h1,h2,h3,h4,h5,h6,h7⟩:=ZU r1;have ev:vO h (some ⟨b,o,none⟩) n=vb 65536 (zu x.1 o n):=by unfold vO;rw[e0]
    have r:=ZlA h1 (ZlB r1 rs) rs q2 (by rw[h2];exact q3) (k:=K) (by omega) (by omega) (by rw[h2];exact l2) rfl;rw[h2,← ev,l1] at r;have e2:∀ L:Nat,rn (fun _=>h.n) (.tuple #[sl 1 0 L L,.bool e])= .tuple #[sl h.n 0 L L,.bool e]:=fun L=>by simp [rn,rn2,rn1,sl]
    have fin:=zm (T:=Zp prog Zh Zo hcV) func100 Zel (ZcH h7) (vals:=[sl 0 o n c,.int .i64 (K:Nat)]) (fun v hv=>by
     simp only[List.mem_cons,List.not_mem_nil,or_false] at hv;rcases hv with rfl | rfl<;>rfl) (k:=1) (cs:=wU (d16 (vO h (some ⟨b,o,none⟩) n/2^K))) (ty:=tU) (Zbs _) (by kernel_rfl) r (by rfl) E (s:=fun _=>b) (Zbq hx h5 h6 rfl)
    rw[e2] at fin;exact fin
  ·cases hg;have l1:=hl _ (Xe);have l2:=hl _ (Xd _ (Xe));have l3:=hl _ (Xd _ (Xd _ Xf));simp only at l1 l2 l3;simp only[ZdI,Xh,Xi,decide_eq_false_iff_not] at l2 l3;obtain⟨⟨⟨q1,q2⟩,q3⟩,q4⟩:=l3;have q2:=ZaY q2;have q3:=Zk.1 q3;obtain⟨K,rfl⟩:=Int.eq_ofNat_of_zero_le (show 0≤k by omega);rw[Xg] at l1 l2;by_cases hn:n=0
   ·subst hn;have hlen:=zT q1;have e0:Zu h p 0=[]:=List.length_eq_zero_iff.1 hlen;have ev:vO h p 0=0:=by unfold vO;rw[e0];rfl
    have ee:e=false:=by rw[← l1,ev];simp
    subst ee;obtain⟨x,p',a,NA,eA,fA⟩:=Zbt 0 q1;have ek:k16 (K:Int)=((K/16:Nat):Int):=by unfold k16;rw[Int.tdiv_eq_ediv_of_nonneg (by omega),ZL (by omega) (by omega)];omega
    have hr:Runs (Zp prog Zh Zo hcV) (Zv f100) ([.slice p' 0 c,.int .i64 (K:Nat)]++List.replicate 87 undef,⟨1,[x]⟩,[]) fun e z=>(e=none∨e=some none)∧Zau prog f100 z.1 z.2.1=some (.tuple #[Zn,.bool false]):=by
     by_cases hk:0<K/16
     ·refine (Zj (Zg Zd Zs) (Zl7 p' c K _) (Zt (show decide (k16 (K:Int)≥((0:Nat):Int))=true by rw[ek];exact Xa (by omega)) (Zt rfl (Zt (show decide (0<k16 (K:Int))=true by rw[ek];exact Xa (by omega)) (Z2 (Xb (by omega))))))).mono fun e z he=> ?_;obtain⟨rfl,⟨g,e2⟩,e3⟩:=he;refine⟨.inr rfl,?_⟩;rw[e2,e3];rfl
     ·refine (Zj (Zg Zd Zs) (ZiL p' c K _) (Zt (show decide (k16 (K:Int)≥((0:Nat):Int))=true by rw[ek];exact Xa (by omega)) (Zt (show decide (0<k16 (K:Int))=false by rw[ek];exact Xb (by omega)) (Z2 (Xb (by omega)))))).mono fun e z he=> ?_;obtain⟨rfl,⟨g,e2⟩,e3⟩:=he;refine⟨.inr rfl,?_⟩;rw[e2,e3];rfl
    have:=ZH (T:=Zp prog Zh Zo hcV) func100 ZiK (h0:=⟨1,[x]⟩) ⟨rfl,fun b z hz=>by obtain⟨_,rfl⟩:=ZfH hz;exact⟨NA.ros.1,NA.lt0,NA.ros.2⟩⟩ (vals:=[.slice p' 0 c,.int .i64 (K:Nat)]) (fun v hv=>by
     simp only[List.mem_cons,List.not_mem_nil,or_false] at hv;rcases hv with rfl | rfl
     ·exact NA.lt (by show 0<1;omega)
     ·rfl) (by rfl) hr.w E (s:=fun _=>a) (fun i z hz ht=>by obtain⟨_,rfl⟩:=ZfH hz;exact fA ht)
    simp only[List.map_cons,List.map_nil] at this;rw[eA _ rfl] at this;exact this
   ·rcases Z8 q1 with ⟨rfl,rfl,rfl,e0⟩ | ⟨b,o,x,rfl,hx,r1,rs,e0⟩
    ·exact absurd rfl hn
    ·rw[e0] at q2;obtain⟨h1,h2,h3,h4,h5,h6,h7⟩:=ZU r1;have ev:vO h (some ⟨b,o,none⟩) n=vb 65536 (zu x.1 o n):=by unfold vO;rw[e0]
     have r:=ZiQ (c:=c) h1 q2 (by rw[h2];exact q3) (k:=K) (by omega) (by omega) (by rw[h2];omega);rw[h2,← ev,l1] at r;exact ZH (T:=Zp prog Zh Zo hcV) func100 Zel (ZcH h7) (vals:=[sl 0 o n c,.int .i64 (K:Nat)]) (fun v hv=>by
      simp only[List.mem_cons,List.not_mem_nil,or_false] at hv;rcases hv with rfl | rfl<;>rfl) (by rfl) r E (s:=fun _=>b) (Zbq hx h5 h6 rfl)
 ·cases hg
def hcW:Hc:=Zb4 45 Zwx (Zb4 68 ZsB (Zb4 101 ZsF (Zb4 100 ZsX (Zb4 44 Zo2 (Zb4 46 Zoj (Zb4 78 Zoo (Zb4 75 Zls (Zb4 65 Zov hcV))))))))
theorem Z4:HcOk hcW:=ZA func45 rfl Zgz (ZA func68 rfl Zo9 (ZA func101 rfl ZoD (ZA func100 rfl ZoE (ZA func44 rfl ZeT (ZA func46 rfl ZeR (ZA func78 rfl Zh4 (ZA func75 rfl ZeS (ZA func65 rfl Zh6 Zs))))))))
end Go.Proofs.YtekebccjflilnaaGreat
namespace Go.Proofs.YtekebccjflilnaaGreat
open Go.KRun Go.Nt
def bOf (m:Bool) (e:Int) (v:Value):List Value×TypeId:=([.bool m,.int .i64 e,v],64)
def sOf (b V:Nat):Value:=sl b 0 (d16 V).length (d16 V).length
def vRN (m:Bool) (e:Int) (v:Value):Value:= .agg #[.bool m,.int .i64 e,v]
end Go.Proofs.YtekebccjflilnaaGreat
namespace Go.Proofs.YtekebccjflilnaaGreat
open Go.KRun Go.Nt Go.Wd
set_option maxRecDepth 100000
def Z2P:List Value×TypeId:=([.bool false,.int .i64 0,Zn],64)
def nxt (h:Hp) (V:Nat):Hp:=h.push (wU (d16 V)) tU
def Zcd:Bool×Bool:=(decide (0≤(1:Int)∧(1:Int)<18446744073709551616),true)
end Go.Proofs.YtekebccjflilnaaGreat
