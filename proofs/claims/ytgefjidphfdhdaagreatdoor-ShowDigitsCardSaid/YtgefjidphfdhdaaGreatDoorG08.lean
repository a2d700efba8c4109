/-
  ConVA, NumPa, ConVL, ConVM, SlH, NumQ, ConNC, ConNB, UuX, ConND, NumTm, ConNM
-/
import Derived.Test.YtgefjidphfdhdaaGreatDoorG07
import Derived.Laws.MathBits
namespace Go.Proofs.YtgefjidphfdhdaaGreatDoor
open Go.Proofs.Tryz
open Go.IntKind
open Go.KRun Go.Nt
set_option maxRecDepth 100000
theorem Zju (a v:Value) (k:Nat) (h:Hp) (g:Nat→Value):
  Runs (Zm prog Zg Zn hcV) (.block 0 (.loop (sL1 f36))) ([a,.int .i64 (k:Nat),undef,undef,Zs,v,.int .u32 1,.int .i64 0]++tl 42 g,h,[]) fun e Y=>match e with | none=>(∃ g,Y.1=[a,.int .i64 (k:Nat),undef,undef,Zs,v,.int .u32 ((2^(k % 16):Nat):Int),.int .i64 ((k % 16:Nat):Int)]++tl 42 g)∧Y.2.1=h | some none=>False | some (some _)=>False:=by
 have em:(k:Int).tmod 16=((k % 16:Nat):Int):=by rw[Int.tmod_eq_emod_of_nonneg (by omega)];omega
 refine Runs.forLoop (P:=fun Y=>(∃ g,Y.1=[a,.int .i64 (k:Nat),undef,undef,Zs,v,.int .u32 ((2^(k % 16):Nat):Int),.int .i64 ((k % 16:Nat):Int)]++tl 42 g)∧Y.2.1=h) (R:=fun _=>False)
  (fun m Y=>∃ j:Nat,j≤k % 16∧m=k % 16-j∧(∃ g,Y.1=[a,.int .i64 (k:Nat),undef,undef,Zs,v,.int .u32 ((2^j:Nat):Int),.int .i64 (j:Nat)]++tl 42 g)∧Y.2.1=h) ?_ (n:=k % 16) ⟨0,by omega,by omega,⟨g,rfl⟩,rfl⟩
 rintro m ⟨t,h',s⟩ ⟨j,hj,hm,⟨g,ht⟩,hh⟩;simp only at ht hh;subst ht hh;by_cases hlt:j<k % 16
 ·refine (Zb (Zp Ze Z2) (ZtN a v k _ j h' g) (Zi (by rw[em];exact Xa (by omega)) (Zv rfl))).mono fun e z hz=> ?_;obtain⟨rfl,⟨g',z1⟩,z2⟩:=hz;have hp:2^j≤32768:=by
   have:=Nat.pow_le_pow_right (show 0<2 by omega) (show j≤15 by omega);omega
  have e1:u32.wrap (2*((2^j:Nat):Int))=((2^(j+1):Nat):Int):=by
   rw[Nat.pow_succ];generalize 2^j=Q at hp ⊢;rw[zT (by omega) (by omega)];omega
  have e2:i64.wrap ((j:Int)+1)=((j+1:Nat):Int):=by rw[Zw (by omega) (by omega)];omega
  exact⟨k % 16-(j+1),by omega,j+1,by omega,rfl,⟨g',by rw[z1,e1,e2]⟩,z2⟩
 ·have hj':j=k % 16:=by omega
  subst hj';refine (Zb (Zp Ze Z2) (ZtO a v k _ _ h' g) (Zi (by rw[em];exact Xb (by omega)) (Zv rfl))).mono fun e z hz=> ?_;obtain⟨rfl,⟨g',z1⟩,z2⟩:=hz;exact⟨rfl,⟨g',z1⟩,z2⟩
theorem ZfW {L M:List Int}{k c:Nat}(hk:k=L.length) (hc:k=c) (hM:0<M.length) (hb:L.length+M.length≤1073741824):ZcH (wU L,tU) (wU M,tU) k c 0 M.length=true:=by
 subst hc;subst hk;unfold ZcH;simp only[Xh,Bool.not_eq_true',zZ];refine⟨⟨⟨⟨⟨⟨⟨⟨Nat.beq_refl _,Nat.ble_eq_true_of_le hb⟩,by kernel_rfl⟩,Zk.2 (by unfold ZT;omega)⟩,?_⟩,by kernel_rfl⟩,Nat.ble_eq_true_of_le (by omega)⟩,Zk.2 hM⟩,?_⟩
 ·cases h:Nat.ble (L.length+M.length) L.length
  ·rfl
  ·have:=Nat.le_of_ble_eq_true h;omega
 ·rw[List.drop_zero,← zZ,List.take_length];exact ZfR M
theorem Zyv {e x P:Nat}(he:e<P) (hx:x<65536) (hP:P≤32768):cy e x P=((e+x*P:Nat):Int)∧e+x*P<65536*P:=by
 have h1:x*P≤65535*P:=Nat.mul_le_mul_right P (by omega);have e1:(x:Int)*(P:Int)=((x*P:Nat):Int):=by simp
 unfold cy;rw[e1,zT (n:=((x*P:Nat):Int)) (by omega) (by omega),zT (by omega) (by omega)];omega
theorem ZpO {O:List Int}{z i e x P W:Nat}(hO:O.length=z+i) (h:vb 65536 O+65536^(z+i)*e=65536^z*(P*W)):
  vb 65536 (O++[(((e+x*P) % 65536:Nat):Int)])+65536^(z+(i+1))*((e+x*P)/65536)=65536^z*(P*(W+65536^i*x)):=by
 rw[Zd7,Xg,hO,← Nat.add_assoc,Nat.pow_succ,Nat.mul_assoc];have e0:=Nat.mod_add_div (e+x*P) 65536;have e1:65536^(z+i)*((e+x*P) % 65536)+65536^(z+i)*(65536*((e+x*P)/65536))=65536^(z+i)*e+65536^(z+i)*(x*P):=by rw[← Nat.mul_add,e0,Nat.mul_add]
 have e2:65536^z*(P*(W+65536^i*x))=65536^z*(P*W)+65536^(z+i)*(x*P):=by
  rw[Nat.mul_add P,Nat.mul_add (65536^z),Nat.pow_add];congr 1;rw[Nat.mul_assoc (65536^z),Nat.mul_comm x P,Nat.mul_left_comm P]
 omega
section
variable {l : List Value} {o c : Nat} {A : List Int}
def hSt (l:List Value) (o c n z i P e:Nat) (j1 j7:Value) (O:List Int) (Y:Lf):Prop:=
 (i=0∧(∃ g,Y.1=[sl 0 o n c,j1,undef,undef,Zs,sl 1 0 z z,.int .u32 (P:Nat),j7,.int .u32 (e:Nat),.int .i64 (i:Nat)]++tl 40 g)∨(0<i∧∃ g,Y.1=[sl 0 o n c,j1,undef,undef,Zs,sl 1 0 (z+i) grown,.int .u32 (P:Nat),j7,.int .u32 (e:Nat),.int .i64 (i:Nat)]++tl 40 g))∧Y.2.1=⟨2,[(wU O,tU),(l,tR)]⟩
theorem Zjv (hR:Row l o A) (hs:∀ v∈l,still v=true) (hA:∀ x∈A,Dg 65536 x) {z i P e:Nat}{O:List Int}(hO:O.length=z+i) (he:e<P) (hP:P≤32768) (hi:i<A.length) (hz:z+A.length+2<1073741824) {j1 j7:Value}(w1:lt 2 j1=true∧rn (zA 1 3) j1=j1) (w7:lt 2 j7=true∧rn (zA 1 3) j7=j7) {Y:Lf}(hY:hSt l o c A.length z i P e j1 j7 O Y):
  RunsW (Zm prog Zg Zn hcV) (sL2 f36) Y fun ex W=>ex=none∧(∃ g,W.1=[sl 0 o A.length c,j1,undef,undef,Zs,sl 1 0 (z+(i+1)) grown,.int .u32 (P:Nat),j7,.int .u32 (((e+dgN A i*P)/65536:Nat):Int),.int .i64 ((i+1:Nat):Int)]++tl 40 g)∧W.2.1=⟨2,[(wU (O++[(((e+dgN A i*P) % 65536:Nat):Int)]),tU),(l,tR)]⟩:=by
 obtain⟨t,h',s⟩:=Y;have hd:=Zaq hA i;obtain⟨ec,hlt⟩:=Zyv he hd.1 hP;have e1:(cy e (A.getD i 0) P).tmod 65536=(((e+dgN A i*P) % 65536:Nat):Int):=by rw[← hd.2,ec,ZeG]
 have e2:u32.wrap ((cy e (A.getD i 0) P).tdiv 65536)=(((e+dgN A i*P)/65536:Nat):Int):=by rw[← hd.2,ec,ZeH (by omega)]
 have e3:i64.wrap ((i:Int)+1)=((i+1:Nat):Int):=by rw[Zw (by omega) (by omega)];omega
 have hlog:Zu (lAx l o A.length i (A.getD i 0)):=Zi rfl (Zi (by
  show Z3 (l[o+(i:Int).toNat*1]?) _=true;rw[Xg,Nat.mul_one,hR.cell hi];simp [Z3]) (Zi (Xa (by omega)) (Zv (Xa (by omega)))))
 have ew:wU O++[.int .u32 (((e+dgN A i*P) % 65536:Nat):Int)]=wU (O++[(((e+dgN A i*P) % 65536:Nat):Int)]):=by rw[zk];rfl
 have key:∀ {X:List Value×TypeId},RunsW (Zm prog Zg Zn hcV) (sL2 f36) (t,h',s) (fun ex W=>ex=none∧(∃ g,W.1=[sl 0 o A.length c,j1,undef,undef,Zs,sl 3 0 (z+i+1) grown,.int .u32 (P:Nat),j7,.int .u32 (((e+dgN A i*P)/65536:Nat):Int),.int .i64 ((i+1:Nat):Int)]++tl 40 g)∧W.2.1=⟨4,[(wU (O++[(((e+dgN A i*P) % 65536:Nat):Int)]),tU),([.int .u32 (((e+dgN A i*P) % 65536:Nat):Int)],tU),X,(l,tR)]⟩)→
   RunsW (Zm prog Zg Zn hcV) (sL2 f36) (t,h',s) fun ex W=>ex=none∧(∃ g,W.1=[sl 0 o A.length c,j1,undef,undef,Zs,sl 1 0 (z+(i+1)) grown,.int .u32 (P:Nat),j7,.int .u32 (((e+dgN A i*P)/65536:Nat):Int),.int .i64 ((i+1:Nat):Int)]++tl 40 g)∧W.2.1=⟨2,[(wU (O++[(((e+dgN A i*P) % 65536:Nat):Int)]),tU),(l,tR)]⟩:=fun {X} fin=>
  fin.kept (k:=1) (b:=3) (base:=[(l,tR)]) (y:=(wU (O++[(((e+dgN A i*P) % 65536:Nat):Int)]),tU)) (front':=[sl 0 o A.length c,j1,undef,undef,Zs,sl 1 0 (z+(i+1)) grown,.int .u32 (P:Nat),j7,.int .u32 (((e+dgN A i*P)/65536:Nat):Int),.int .i64 ((i+1:Nat):Int)]) rfl
   (by simp only[List.map_cons,List.map_nil,w1.2,w7.2];kernel_rfl) (fun j x hx=>by
    have hj:j<1:=Hp.blk_lt hx;have hj0:j=0:=by omega
    subst hj0;have hx':x=(l,tR):=(Option.some.inj hx).symm;subst hx';exact⟨rfl,hs⟩) rfl (by omega) (ZG _) (fun v hv=>by
    simp only[List.mem_cons,List.not_mem_nil,or_false] at hv;rcases hv with rfl | rfl | rfl | rfl | rfl | rfl | rfl | rfl | rfl | rfl
    ·rfl
    ·exact w1.1
    ·rfl
    ·rfl
    ·rfl
    ·rfl
    ·rfl
    ·exact w7.1
    ·rfl
    ·rfl)
 obtain⟨hY,hh⟩:=hY;simp only at hY hh;subst hh;rcases hY with ⟨h0,g,ht⟩ | ⟨h0,g,ht⟩
 ·subst ht;have hchk:ZcH (wU O,tU) ([.int .u32 ((cy e (A.getD i 0) P).tmod 65536)],tU) z z 0 1=true:=
   ZfW (L:=O) (M:=[(cy e (A.getD i 0) P).tmod 65536]) (by omega) rfl (show 0<1 by omega) (by show O.length+1≤_;omega)
  have fin:=Zd (Zp Ze Z2) (s0:=s) (ZpL o A.length c z z P e i (A.getD i 0) l (wU O) j1 j7 g) (Zi hchk hlog);rw[e1,e2,e3,ew] at fin;refine key (X:=(wU O,tU)) (fin.mono fun ex W hW=> ?_);subst h0;exact hW
 ·subst ht;have hchk:zS tU (wU O,tU) ([.int .u32 ((cy e (A.getD i 0) P).tmod 65536)],tU) (z+i) 0 1=true:=
   Zby (L:=O) (M:=[(cy e (A.getD i 0) P).tmod 65536]) hO.symm (show 0<1 by omega) (by show O.length+1≤_;omega)
  have fin:=Zd (Zp Ze Z2) (s0:=s) (ZpM o A.length c (z+i) P e i (A.getD i 0) l (wU O) j1 j7 g) (Zi hchk hlog);rw[e1,e2,e3,ew] at fin;exact key (X:=([],2*ZT)) fin
def Z6o (l:List Value) (o c z P:Nat) (A:List Int) (j1 j7:Value) (m:Nat) (Y:Lf):Prop:=
 ∃ (i e:Nat) (O:List Int),m=A.length-i∧i≤A.length∧O.length=z+i∧e<P∧(∀ x∈O,Dg 65536 x)∧vb 65536 O+65536^(z+i)*e=65536^z*(P*vb 65536 (A.take i))∧hSt l o c A.length z i P e j1 j7 O Y
def Z3b (l:List Value) (o c z P:Nat) (A:List Int) (j1 j7:Value) (Y:Lf):Prop:=
 ∃ (e:Nat) (O:List Int),O.length=z+A.length∧e<P∧(∀ x∈O,Dg 65536 x)∧vb 65536 O+65536^(z+A.length)*e=65536^z*(P*vb 65536 A)∧hSt l o c A.length z A.length P e j1 j7 O Y
theorem Zjw (hR:Row l o A) (hs:∀ v∈l,still v=true) (hA:∀ x∈A,Dg 65536 x) {z P:Nat}(h0:0<P) (hP:P≤32768) (hz:z+A.length+2<1073741824) {j1 j7:Value}(w1:lt 2 j1=true∧rn (zA 1 3) j1=j1) (w7:lt 2 j7=true∧rn (zA 1 3) j7=j7) (g:Nat→Value):
  RunsW (Zm prog Zg Zn hcV) (.block 2 (.loop (sL2 f36))) ([sl 0 o A.length c,j1,undef,undef,Zs,sl 1 0 z z,.int .u32 (P:Nat),j7,.int .u32 0,.int .i64 0]++tl 40 g,⟨2,[(zz z,tU),(l,tR)]⟩,[]) fun e Y=>match e with | none=>Z3b l o c z P A j1 j7 Y | some none=>False | some (some _)=>False:=by
 have ez:zz z=wU (List.replicate z 0):=by unfold zz wU;rw[List.map_replicate]
 have vz:∀ k,vb 65536 (List.replicate k 0)=0:=fun k=>by
  induction k with
  | zero=>rfl
  | succ k ih=>rw[List.replicate_succ];simp [vb,ih]
 refine RunsW.forLoop (P:=Z3b l o c z P A j1 j7) (R:=fun _=>False) (Z6o l o c z P A j1 j7) ?_ (n:=A.length) ⟨0,0,List.replicate z 0,by omega,by omega,by simp,h0,(fun x hx=>by rw[List.eq_of_mem_replicate hx];exact⟨by omega,by omega⟩),by rw[vz];simp [vb],.inl ⟨rfl,g,rfl⟩,by rw[ez]⟩;rintro m Y ⟨i,e,O,hm,hi,hO,he,hOd,hv,hY⟩;by_cases hlt:i<A.length
 ·have r:=Zjv hR hs hA hO he hP hlt hz w1 w7 hY;refine r.mono fun ex W hW=> ?_;obtain⟨rfl,z1,z2⟩:=hW;have hd:=Zaq hA i;obtain⟨_,hl2⟩:=Zyv he hd.1 hP;refine⟨A.length-(i+1),by omega,i+1,(e+dgN A i*P)/65536,O++[(((e+dgN A i*P) % 65536:Nat):Int)],rfl,by omega,by rw[List.length_append,hO];rfl,Nat.div_lt_of_lt_mul hl2,fun x hx=> ?_,?_,.inr ⟨by omega,z1⟩,z2⟩
  ·rcases List.mem_append.1 hx with hx | hx
   ·exact hOd x hx
   ·rw[List.mem_singleton.1 hx];exact⟨by omega,by omega⟩
  ·have e1:vb 65536 (A.take (i+1))=vb 65536 (A.take i)+65536^i*dgN A i:=ZaD 65536 A i;rw[e1];exact ZpO hO hv
 ·have hil:i=A.length:=by omega
  subst hil;rw[List.take_length] at hv;obtain⟨t,h',s⟩:=Y;obtain⟨hY,hh⟩:=hY;simp only at hY hh;subst hh;rcases hY with ⟨h0,g,ht⟩ | ⟨h0,g,ht⟩
  ·subst ht;refine (Zd (Zp Ze Z2) (Zlx _ _ _ _ _ _ _ _ j1 j7 g) (Zv (Xb (by omega)))).mono fun ex W hW=> ?_;obtain⟨rfl,⟨g',z1⟩,z2⟩:=hW;exact⟨rfl,e,O,hO,he,hOd,hv,.inl ⟨h0,g',z1⟩,z2⟩
  ·subst ht;refine (Zd (Zp Ze Z2) (Zlx _ _ _ _ _ _ _ _ j1 j7 g) (Zv (Xb (by omega)))).mono fun ex W hW=> ?_;obtain⟨rfl,⟨g',z1⟩,z2⟩:=hW;exact⟨rfl,e,O,hO,he,hOd,hv,.inr ⟨h0,g',z1⟩,z2⟩
end
theorem Zly {l:List Value}{o c:Nat}{A:List Int}(hR:Row l o A) (hs:∀ v∈l,still v=true) (hA:∀ x∈A,Dg 65536 x) (h0:0<A.length) {k:Nat}(hk:k/16+A.length+3<1073741824) {V:Nat}(hV:V=vb 65536 A*2^k):
  RunsW (Zm prog Zg Zn hcV) (zo (sPr f36) (.seq (.seq (sR5 f36) (.block 0 (.loop (sL1 f36)))) (.seq (sR9 f36) (.seq (.seq (Z3a f36) (.block 2 (.loop (sL2 f36)))) (sEn f36))))) ([sl 0 o A.length c,.int .i64 (k:Nat)]++List.replicate 48 undef,⟨1,[(l,tR)]⟩,[]) fun e z=>(e=none∨e=some none)∧zd prog f36 z.1 z.2.1=some (sl 3 0 (d16 V).length (d16 V).length)∧∃ r,z.2.1.blk? 3=some (wU (d16 V)++r,tU):=by
 have ek:k16 (k:Int)=((k/16:Nat):Int):=by
  unfold k16;rw[Int.tdiv_eq_ediv_of_nonneg (by omega),Zw (by omega) (by omega)];omega
 have hP:2^(k % 16)≤32768:=by
  have:=Nat.pow_le_pow_right (show 0<2 by omega) (show k % 16≤15 by omega);omega
 have hP0:0<2^(k % 16):=Nat.pow_pos (by omega);have hpk:2^k=65536^(k/16)*2^(k % 16):=by
  rw[Zt9,← Nat.pow_add];congr 1;omega
 refine ZA (Zp Ze Z2) (ZpJ o A.length c k (l,tR)) (Zi (by rw[ek];exact Xa (by omega)) (Zv (beq_eq_false_iff_ne.2 (by omega)))) fun g=> ?_;rw[ek,Xg];refine ZkN (Zd (Zp Ze Z2) (ZtM _ _ k _ g) (fun x hx=>by cases hx)) (fun e y he=>by cases he.1) (P2:=fun e Y=>match e with | none=>(∃ g,Y.1=[sl 0 o A.length c,.int .i64 (k:Nat),undef,undef,Zs,sl 1 0 (k/16) (k/16),.int .u32 ((2^(k % 16):Nat):Int),.int .i64 ((k % 16:Nat):Int)]++tl 42 g)∧Y.2.1=⟨2,[(zz (k/16),tU),(l,tR)]⟩ | some none=>False | some (some _)=>False) ?_ ?_ ?_
 ·rintro⟨t,h',s⟩ ⟨_,⟨g',ht⟩,hh⟩;simp only at ht hh;subst ht hh;exact RunsW.script (Zju _ _ k _ g').w
 ·intro e y he
  match e,he with
  | none,he=>exact he
  | some id,he=>exact he
 ·rintro⟨t,h',s⟩ ⟨⟨g',ht⟩,hh⟩;simp only at ht hh;subst ht hh;refine RunsW.seq (P1:=fun e Y=>e=none∧(∃ g,Y.1=[sl 0 o A.length c,.int .i64 (k:Nat),undef,undef,Zs,sl 1 0 (k/16) (k/16),.int .u32 ((2^(k % 16):Nat):Int),.int .i64 ((k % 16:Nat):Int),.int .u32 0]++tl 41 g)∧Y.2.1=⟨2,[(zz (k/16),tU),(l,tR)]⟩) (Zd (Zp Ze Z2) (ZtP _ _ k _ _ _ g') (fun x hx=>by cases hx)) ?_ (fun e y he=>by cases he.1);rintro⟨t,h',s⟩ ⟨_,⟨g',ht⟩,hh⟩;simp only at ht hh;subst ht hh;refine ZkN (Zd (Zp Ze Z2) (ZpK _ _ k _ _ _ g') (fun x hx=>by cases hx)) (fun e y he=>by cases he.1) (P2:=fun e Y=>match e with | none=>Z3b l o c (k/16) (2^(k % 16)) A (.int .i64 (k:Nat)) (.int .i64 ((k % 16:Nat):Int)) Y | some none=>False | some (some _)=>False) ?_ ?_ ?_
  ·rintro⟨t,h',s⟩ ⟨_,⟨g',ht⟩,hh⟩;simp only at ht hh;subst ht hh;exact RunsW.script (Zjw hR hs hA hP0 hP (by omega) ⟨rfl,rfl⟩ ⟨rfl,rfl⟩ g')
  ·intro e y he
   match e,he with
   | none,he=>exact he
   | some id,he=>exact he
  ·rintro⟨t,h',s⟩ ⟨e,O,hO,he,hOd,hv,hY,hh⟩;simp only at hY hh;subst hh;rcases hY with ⟨e0,_⟩ | ⟨_,g',ht⟩
   ·omega
   ·subst ht;have hOd':∀ x∈O++[(e:Int)],Dg 65536 x:=fun x hx=>by
     rcases List.mem_append.1 hx with hx | hx
     ·exact hOd x hx
     ·rw[List.mem_singleton.1 hx];exact⟨by omega,by omega⟩
    have hlen:(O++[(e:Int)]).length=k/16+A.length+1:=by rw[List.length_append,hO];rfl
    have ew:wU O++[.int .u32 (e:Int)]=wU (O++[(e:Int)]):=by rw[zk];rfl
    have hval:vb 65536 (O++[(e:Int)])=V:=by
     rw[Zd7,hO,Xg,hv,hV,hpk,Nat.mul_comm (vb 65536 A),Nat.mul_assoc]
    have hrow:ZaB tU (wU (O++[(e:Int)])) 0 (k/16+A.length+1) grown=true:=by
     rw[← hlen];exact Zah (fun x hx=>⟨(hOd' x hx).1,by have:=(hOd' x hx).2;omega⟩) (by omega) (Zyi _)
    have hchk:zS tU (wU O,tU) ([.int .u32 (e:Int)],tU) (k/16+A.length) 0 1=true:=
     Zby (L:=O) (M:=[(e:Int)]) hO.symm (show 0<1 by omega) (by show O.length+1≤_;omega)
    refine (Zd (Zp Ze Z2) (ZpN _ (k/16+A.length) _ e _ (l,tR) (wU O) _ _ g') (by rw[ew];exact Zi hrow (Zv hchk))).mono fun ex W hW=> ?_;rw[ew] at hW;obtain⟨rfl,⟨g2,z1⟩,z2⟩:=hW;have et:Zc (Zx (wU (O++[(e:Int)])) 0 (k/16+A.length+1))=(d16 V).length:=by
     rw[← hlen,ZaO,Zam (by omega) hOd',hval];rfl
    refine⟨.inr rfl,?_,?_⟩
    ·rw[z1,z2,et];rfl
    ·rw[z2];refine⟨wU ((O++[(e:Int)]).drop (Zc (O++[(e:Int)]))),?_⟩;have e3:wU (d16 V)++wU ((O++[(e:Int)]).drop (Zc (O++[(e:Int)])))=wU (O++[(e:Int)]):=by
      unfold d16;rw[← hval,← za (by omega) _ hOd',← zk,List.take_append_drop]
     rw[e3];rfl
def ZtQ:Zag:=fun vals h s=>
 match vals,s with
 | [.slice p n c,.int .i64 k],.inr (.inr (.inr (.inl d)))::s'=>
  match d with
  | true=>ZcV (vO h p n*2^k.toNat) h s' [(Zaa h p n c && dgB (Zj h p n) && Nat.blt (k.toNat/16+n+3) 1073741824 && decide (0≤k),true),(decide (0<n),true)]
  | false=>some (Zs,h,s',[(Zaa h p n c,true),(decide (0<n),false)])
 | _,_=>none
theorem ZhV:Z8 36 ZtQ:=by
 intro vals h s v h' s' lg hg hl m B w E hv;unfold ZtQ at hg;split at hg
 ·rename_i p n c k d s2;split at hg
  ·unfold ZcV at hg;cases hg;have q1:=hl _ (Xe);have q2:=hl _ (Xd _ Xf);simp only[Xh,Xi] at q1 q2;obtain⟨⟨⟨r1,r2⟩,r3⟩,r4⟩:=q1;have r2:=ZcN r2;have r3:=Zk.1 r3;obtain⟨K,rfl⟩:=Int.eq_ofNat_of_zero_le r4;rw[Xg] at r3 ⊢;rcases ZQ r1 with ⟨rfl,rfl,rfl,e0⟩ | ⟨b,o,x,rfl,hx,t1,t2,e0⟩
   ·omega
   ·rw[e0] at r2;obtain⟨h1,h2,h3,h4,h5,h6,h7⟩:=zP t1;have ev:vO h (some ⟨b,o,none⟩) n=vb 65536 (Zx x.1 o n):=by unfold vO;rw[e0]
    have r:=Zly (c:=c) h1 t2 r2 (by rw[h2];exact q2) (k:=K) (by rw[h2];exact r3) rfl;rw[h2] at r;rw[ev];exact ZL (T:=Zm prog Zg Zn hcV) func36 Zlv (ZaU h7) (vals:=[sl 0 o n c,.int .i64 (K:Nat)]) (fun v hv=>by
     simp only[List.mem_cons,List.not_mem_nil,or_false] at hv;rcases hv with rfl | rfl<;>rfl) (k:=3) (cs:=wU (d16 (vb 65536 (Zx x.1 o n)*2^K))) (ty:=tU) (ZbR _) (by kernel_rfl) r (by rfl) E (s:=fun _=>b) (zX hx h5 h6 rfl)
  ·cases hg;have q1:=hl _ (Xe);have q2:=hl _ (Xd _ Xf);simp only[decide_eq_false_iff_not] at q1 q2;have hn:n=0:=by omega
   subst hn;obtain⟨x,p',a,NA,eA,fA⟩:=ZbS 0 q1;have hr:Runs (Zm prog Zg Zn hcV) (Zq f36) ([.slice p' 0 c,.int .i64 k]++List.replicate 48 undef,⟨1,[x]⟩,[]) fun e z=>(e=none∨e=some none)∧zd prog f36 z.1 z.2.1=some Zs:=by
    refine (Zb (Zp Ze Z2) (Zlw p' 0 c _ _) (Zv rfl)).mono fun e z he=> ?_;obtain⟨rfl,⟨g,e2⟩,e3⟩:=he;refine⟨.inr rfl,?_⟩;rw[e2,e3];rfl
   have b1:∀ {i:Nat}{z:List Value×TypeId},(⟨1,[x]⟩:Hp).blk? i=some z→i=0∧z=x:=fun {i z} hz=>by
    have:i<1:=Hp.blk_lt hz;have hi:i=0:=by omega
    subst hi;exact⟨rfl,(Option.some.inj hz).symm⟩
   have:=ZI (T:=Zm prog Zg Zn hcV) func36 Zjt (h0:=⟨1,[x]⟩) ⟨rfl,fun b z hz=>by obtain⟨_,rfl⟩:=b1 hz;exact⟨NA.ros.1,NA.lt0,NA.ros.2⟩⟩ (vals:=[.slice p' 0 c,.int .i64 k]) (fun v hv=>by
    simp only[List.mem_cons,List.not_mem_nil,or_false] at hv;rcases hv with rfl | rfl
    ·exact NA.lt (by show 0<1;omega)
    ·rfl) (v:=Zs) (by rfl) hr.w E (s:=fun _=>a) (fun i z hz ht=>by obtain⟨_,rfl⟩:=b1 hz;exact fA ht)
   simp only[List.map_cons,List.map_nil] at this;rw[eA _ rfl] at this;exact this
 ·cases hg
end Go.Proofs.YtgefjidphfdhdaaGreatDoor
namespace Go.Nt
set_option maxRecDepth 100000
theorem ZgT:∀ (i V:Nat),((db 65536 V).getD i 0).toNat=V/65536^i % 65536
 | i,V=>by
  by_cases hV:V=0
  ·rw[hV,zj];simp
  ·rw[Zbd (by omega) hV];cases i with
   | zero=>simp;omega
   | succ i=>
    have:=ZgT i (V/65536);rw[List.getD_cons_succ,this,Nat.div_div_eq_div_mul,Nat.pow_succ,Nat.mul_comm (65536^i)]
theorem Z3c {c:Nat}(h:c<4294967296):c/65536 % 65536*65536+c % 65536=c:=by omega
theorem ZtR {v:Nat}(h:v<281474976710656):v/4294967296 % 65536*4294967296+v/65536 % 65536*65536+v % 65536=v:=by
 have h1:v/4294967296<65536:=by omega
 have h2:v/4294967296=v/65536/65536:=by rw[Nat.div_div_eq_div_mul]
 rw[Nat.mod_eq_of_lt h1,h2];omega
theorem Z3d {v:Nat}(h:v<4294967296):v/65536 % 65536*4294967296+v % 65536*65536+0=v*65536:=by omega
def ZpP (V n:Nat):Nat:=(V/65536^n % 65536)*4294967296+(V/65536^(n-1) % 65536)*65536+(if 2≤n then V/65536^(n-2) % 65536 else 0)
def Zot (B n:Nat):Nat:=(B/65536^(n-1) % 65536)*65536+(if 2≤n then B/65536^(n-2) % 65536 else 0)
theorem Zyw {V B n:Nat}(hn:1≤n) (h0:65536^(n-1)≤B) (h1:B<65536^n) (hV:V<65536*B):0<Zot B n∧Zot B n<4294967296∧ZpP V n<281474976710656∧V/B≤ZpP V n/Zot B n∧V/B<65536:=by
 have hp:0<65536^(n-1):=Nat.pow_pos (by omega);have hB:0<B:=by omega
 have hd:V/B<65536:=by rw[Nat.div_lt_iff_lt_mul hB];exact hV
 have b1:Zot B n<4294967296:=by
  have:=Nat.mod_lt (B/65536^(n-1)) (show 0<65536 by omega);have:=Nat.mod_lt (B/65536^(n-2)) (show 0<65536 by omega);unfold Zot;split<;>omega
 have b2:ZpP V n<281474976710656:=by
  have:=Nat.mod_lt (V/65536^n) (show 0<65536 by omega);have:=Nat.mod_lt (V/65536^(n-1)) (show 0<65536 by omega);have:=Nat.mod_lt (V/65536^(n-2)) (show 0<65536 by omega);unfold ZpP;split<;>omega
 by_cases h2:2≤n
 ·obtain⟨k,rfl⟩:∃ k,n=k+2:=⟨n-2,by omega⟩;have e1:k+2-1=k+1:=by omega
  have e2:k+2-2=k:=by omega
  rw[e1] at h0;unfold ZpP Zot at*;rw[e1,e2,if_pos h2] at*;rw[if_pos h2] at*;have hw:0<65536^k:=Nat.pow_pos (by omega);have dv:∀ x j:Nat,x/65536^(k+j)=x/65536^k/65536^j:=fun x j=>by rw[Nat.pow_add,Nat.div_div_eq_div_mul]
  rw[dv V 2,dv V 1,dv B 1] at*;have p1:(65536:Nat)^1=65536:=rfl;have p2:(65536:Nat)^2=4294967296:=rfl;rw[p1,p2] at*;have hBw:B/65536^k<4294967296:=by
   rw[Nat.div_lt_iff_lt_mul hw];have:65536^(k+2)=4294967296*65536^k:=by rw[Nat.pow_add,p2,Nat.mul_comm]
   omega
  have hBl:65536≤B/65536^k:=by
   rw[Nat.le_div_iff_mul_le hw];have:65536^(k+1)=65536*65536^k:=by rw[Nat.pow_add,p1,Nat.mul_comm]
   omega
  have hVw:V/65536^k<281474976710656:=by
   rw[Nat.div_lt_iff_lt_mul hw];have:65536^(k+2)=4294967296*65536^k:=by rw[Nat.pow_add,p2,Nat.mul_comm]
   omega
  have hm:V/B*(B/65536^k)≤V/65536^k:=by
   rw[Nat.le_div_iff_mul_le hw,Nat.mul_assoc];have h3:B/65536^k*65536^k≤B:=Nat.div_mul_le_self _ _;have h4:=Nat.mul_le_mul_left (V/B) h3;have h5:=Nat.div_mul_le_self V B;omega
  generalize V/65536^k=v at*;generalize B/65536^k=c at*;have ec:=Z3c hBw;have ev:=ZtR hVw;rw[ec,ev];have hc:0<c:=Nat.lt_of_lt_of_le (by decide) hBl;refine⟨hc,hBw,hVw,?_,hd⟩;rw[Nat.le_div_iff_mul_le hc];exact hm
 ·have e:n=1:=by omega
  subst e;unfold ZpP Zot at*;rw[if_neg h2] at*;rw[if_neg h2] at*;have p1:(65536:Nat)^1=65536:=rfl;have p0:(65536:Nat)^(1-1)=1:=rfl;rw[p1] at*;rw[p0] at*;rw[Nat.div_one] at*;rw[Nat.div_one] at*;have hB1:B<65536:=h1;have hV1:V<4294967296:=Nat.lt_of_lt_of_le hV (Nat.mul_le_mul_left 65536 (Nat.le_of_lt hB1));have eB:B % 65536*65536+0=B*65536:=by rw[Nat.mod_eq_of_lt hB1,Nat.add_zero]
  have eV:=Z3d hV1;rw[eB,eV];rw[eB] at b1;rw[eV] at b2;refine⟨Nat.mul_pos hB (by decide),b1,b2,?_,hd⟩;rw[Nat.mul_div_mul_right _ _ (by decide)];exact Nat.le_refl _
theorem Zyx {L:List Int}(hC:ZfO 65536 L) (h:1≤L.length):65536^(L.length-1)≤vb 65536 L:=by
 rcases Nat.lt_or_ge (vb 65536 L) (65536^(L.length-1)) with h1 | h1
 ·have:=Zci (b:=65536) (by omega) _ _ h1;rw[ZhN (by omega) hC] at this;omega
 ·exact h1
theorem ZeM {L:List Int}{i:Nat}(h:i<L.length):vb 65536 (L.drop i)=(L.getD i 0).toNat+65536*vb 65536 (L.drop (i+1)):=by
 rw[List.drop_eq_getElem_cons h];simp only[vb];simp [List.getD,List.getElem?_eq_getElem h]
end Go.Nt
namespace Go.Proofs.YtgefjidphfdhdaaGreatDoor
open Go.Proofs.Tryz
open Go.IntKind
open Go.KRun Go.Nt
set_option maxRecDepth 100000
set_option linter.unusedVariables false
def paP (F:Func):List Code:=[Z1 (Zq F),Z1 (Zz (Zq F)),Z1 (Zz (Zz (Zq F))),Z1 (Zz (Zz (Zz (Zq F))))]
def paS (F:Func):Code:=Zz (Zz (Zz (Zz (Zq F))))
def paB (F:Func):Code:=Z1 (paS F)
def paL (F:Func):Code:=cIn (cIn (Zz (paB F)))
def paE (F:Func):Code:=Zz (paS F)
def paH (F:Func):Code:=Z1 (paL F)
def paX (F:Func):Code:=cIn (Z1 (Zz (paL F)))
def paI (F:Func):Code:=Zz (Zz (paL F))
def x7 (F:Func):Code:=Z1 (paX F)
def x8 (F:Func):Code:=Z1 (Zz (paX F))
def x9 (F:Func):Code:=Z1 (Zz (Zz (paX F)))
def x10 (F:Func):Code:=Z1 (Zz (Zz (Zz (paX F))))
def x11 (F:Func):Code:=Z1 (Zz (Zz (Zz (Zz (paX F)))))
def xT (F:Func):Code:=Zz (Zz (Zz (Zz (Zz (paX F)))))
def yL (F:Func):Code:=cIn (cIn (Z1 (xT F)))
def yH (F:Func):Code:=Z1 (yL F)
def yB (F:Func):Code:=cIn (Zz (yL F))
def xE (F:Func):Code:=Zz (xT F)
def hcP:Hc:=zx 70 Z2n (zx 35 Zp2 (zx 71 Zt3 (zx 69 gAt (zx 68 ZfQ hcN))))
def pFr (o n c o' n' c' z:Nat) (r:Value) (i:Int) (v10 v11:Value):List Value:=[sl 0 o n c,sl 1 o' n' c',undef,undef,Zs,Zs,r,sl 2 0 z z,.int .i64 n',.int .i64 i,v10,v11]
def hB3 (wq lb la:List Value):Hp:=⟨3,[(wq,tU),(lb,tR),(la,tR)]⟩
def hB4 (wr wq lb la:List Value):Hp:=⟨4,[(wr,tU),(wq,tU),(lb,tR),(la,tR)]⟩
def hB5 (wp wr wq lb la:List Value):Hp:=⟨5,[(wp,tU),(wr,tU),(wq,tU),(lb,tR),(la,tR)]⟩
theorem Zyy:HcOk hcP:=Zt func70 rfl ZgS (Zt func35 rfl ZhR (Zt func71 rfl Zpy (Zt func69 rfl Zsf (Zt func68 rfl Zd6 zw))))
theorem ZtS:f31.body=some (zo (paP f31) (.seq (.seq (Z1 (paB f31)) (.block 0 (.loop (paL f31)))) (paE f31))):=by kernel_rfl
theorem Zlz:paL f31= .seq (paH f31) (.seq (.block 1 (paX f31)) (paI f31)):=by kernel_rfl
theorem Z6p:paX f31= .seq (x7 f31) (.seq (x8 f31) (.seq (x9 f31) (.seq (x10 f31) (.seq (x11 f31) (.seq (.block 2 (.loop (yL f31))) (xE f31)))))):=by kernel_rfl
theorem Z6q:yL f31= .seq (yH f31) (.block 3 (yB f31)):=by kernel_rfl
def aP (b o:Nat):Option Addr:=some ⟨b,o,none⟩
def inP (i:Int) (n:Nat):Bool×Bool:=(decide (0≤i∧i<(n:Int)),true)
def ceP (l:List Value) (o:Nat) (i x:Int):Bool×Bool:=(Z3 (l[o+i.toNat*1]?) (.int .u32 x),true)
def tR3 (R:List Int) (n':Nat):Int:=u64.wrap (u64.wrap (u64.wrap (u64.wrap (atN R n')*2^min (Int.toNat 32) 64)+u64.wrap (u64.wrap (atN R (i64.wrap ((n':Int)-1)))*2^min (Int.toNat 16) 64))+u64.wrap (atN R (i64.wrap ((n':Int)-2))))
def tB2 (x:Int) (L:List Int) (n':Nat):Int:=u64.wrap (u64.wrap (u64.wrap x*2^min (Int.toNat 16) 64)+u64.wrap (atN L (i64.wrap ((n':Int)-2))))
def Z3e (q:Int):Int:=if 65535<q then 65535 else q
theorem Zyz (o n c o' n' c':Nat) (la lb:List Value):Zh (evL (Zm prog Zg Zn hcP) 200 (paP f31) ([sl 0 o n c,sl 1 o' n' c']++List.replicate 93 undef,⟨2,[(lb,tR),(la,tR)]⟩,[at_]) ⟨[],[],[]⟩) 12 83 none [sl 0 o n c,sl 1 o' n' c',undef,undef,Zs,Zs,Zs,sl 2 0 (n:Int).toNat (n:Int).toNat,.int .i64 n',undef,undef,undef] (hB3 (List.replicate (n:Int).toNat (.int .u32 0)) lb la) [(ZJ 4 (n:Int) (n:Int),true)]:=by and_intros<;>kernel_rfl
theorem Z3f (o n c o' n' c' z:Nat) (r v9 v10 v11:Value) (h:Hp) (g:Nat→Value):Zh (evC (Zm prog Zg Zn hcP) 200 false (Z1 (paB f31)) ([sl 0 o n c,sl 1 o' n' c',undef,undef,Zs,Zs,r,sl 2 0 z z,.int .i64 n',v9,v10,v11]++tl 83 g,h,[]) ⟨[],[],[]⟩) 12 83 none (pFr o n c o' n' c' z r (i64.wrap ((n:Int)-1)) v10 v11) h []:=by and_intros<;>kernel_rfl
theorem Z3g (o n c o' n' c' z:Nat) (r v10 v11:Value) (i:Int) (h:Hp) (g:Nat→Value):Zh (evC (Zm prog Zg Zn hcP) 200 false (paH f31) (pFr o n c o' n' c' z r i v10 v11++tl 83 g,h,[cmp true]) ⟨[],[],[]⟩) 12 83 none (pFr o n c o' n' c' z r i v10 v11) h [(decide (i≥0),true)]:=by and_intros<;>kernel_rfl
theorem Z3h (o n c o' n' c' z:Nat) (r v10 v11:Value) (i:Int) (h:Hp) (g:Nat→Value):Zh (evC (Zm prog Zg Zn hcP) 200 false (paH f31) (pFr o n c o' n' c' z r i v10 v11++tl 83 g,h,[cmp false]) ⟨[],[],[]⟩) 12 83 (some (some 0)) (pFr o n c o' n' c' z r i v10 v11) h [(decide (i≥0),false)]:=by and_intros<;>kernel_rfl
theorem Z3i (o n c o' n' c' z:Nat) (v10 v11:Value) (i d:Int) (wq lb la:List Value) (g:Nat→Value):Zh (evC (Zm prog Zg Zn hcP) 200 false (x7 f31) (pFr o n c o' n' c' z Zs i v10 v11++tl 83 g,hB3 wq lb la,[at_,val (.int .u32 d)]) ⟨[],[],[]⟩) 12 83 none (pFr o n c o' n' c' z (sl 3 0 (Zc (Zx [.int .u32 d] 0 1)) (Zc (Zx [.int .u32 d] 0 1))) i v10 v11) (hB4 [.int .u32 d] wq lb la) [(ZaB tU [.int .u32 d] 0 1 1,true),ceP la o i d,inP i n]:=by and_intros<;>kernel_rfl
theorem Z3j (o n c o' n' c' z:Nat) (v10 v11:Value) (i d:Int) (wr wq lb la:List Value) (g:Nat→Value):Zh (evC (Zm prog Zg Zn hcP) 200 false (x7 f31) (pFr o n c o' n' c' z (sl 3 0 0 0) i v10 v11++tl 83 g,hB4 wr wq lb la,[at_,val (.int .u32 d)]) ⟨[],[],[]⟩) 12 83 none (pFr o n c o' n' c' z (sl 4 0 (Zc (Zx [.int .u32 d] 0 1)) (Zc (Zx [.int .u32 d] 0 1))) i v10 v11) (hB5 [.int .u32 d] wr wq lb la) [(ZaB tU [.int .u32 d] 0 1 1,true),ceP la o i d,inP i n]:=by and_intros<;>kernel_rfl
theorem Z3k (o n c o' n' c' z k:Nat) (v10 v11:Value) (i d:Int) (wr wq lb la:List Value) (g:Nat→Value):Zh (evC (Zm prog Zg Zn hcP) 200 false (x7 f31) (pFr o n c o' n' c' z (sl 3 0 k k) i v10 v11++tl 83 g,hB4 wr wq lb la,[at_,val (.int .u32 d),num 0]) ⟨[],[],[]⟩) 12 83 none (pFr o n c o' n' c' z (sl 5 0 (Zc (Zx ([.int .u32 d]++List.take k (List.drop 0 wr)) 0 (1+k))) (Zc (Zx ([.int .u32 d]++List.take k (List.drop 0 wr)) 0 (1+k)))) i v10 v11) ⟨6,[(([.int .u32 d]++List.take k (List.drop 0 wr)),tU),([.int .u32 d],tU),(wr,tU),(wq,tU),(lb,tR),(la,tR)]⟩ [(ZaB tU ([.int .u32 d]++List.take k (List.drop 0 wr)) 0 (1+k) grown,true),(ZcH ([.int .u32 d],tU) (wr,tU) 1 1 0 k,true),ceP la o i d,inP i n]:=by and_intros<;>kernel_rfl
theorem Z3l (o n c o' n' c' z k:Nat) (v10 v11:Value) (i:Int) (wr wq lb la:List Value) (g:Nat→Value):Zh (evC (Zm prog Zg Zn hcP) 200 false (x8 f31) (pFr o n c o' n' c' z (sl 3 0 k k) i v10 v11++tl 83 g,hB4 wr wq lb la,[cmp true]) ⟨[],[],[]⟩) 12 83 (some (some 1)) (pFr o n c o' n' c' z (sl 3 0 k k) i v10 v11) (hB4 wr wq lb la) [(decide (Zac (vO (hB4 wr wq lb la) (aP 3 0) k) (vO (hB4 wr wq lb la) (aP 1 o') n')<0),true),(zB (hB4 wr wq lb la) (aP 3 0) (aP 1 o') k k n' c',true)]:=by and_intros<;>kernel_rfl
theorem Z3m (o n c o' n' c' z k:Nat) (v10 v11:Value) (i:Int) (wr wq lb la:List Value) (g:Nat→Value):Zh (evC (Zm prog Zg Zn hcP) 200 false (x8 f31) (pFr o n c o' n' c' z (sl 3 0 k k) i v10 v11++tl 83 g,hB4 wr wq lb la,[cmp false]) ⟨[],[],[]⟩) 12 83 none (pFr o n c o' n' c' z (sl 3 0 k k) i v10 v11) (hB4 wr wq lb la) [(decide (Zac (vO (hB4 wr wq lb la) (aP 3 0) k) (vO (hB4 wr wq lb la) (aP 1 o') n')<0),false),(zB (hB4 wr wq lb la) (aP 3 0) (aP 1 o') k k n' c',true)]:=by and_intros<;>kernel_rfl
theorem Z6r (o n c o' n' c' z:Nat) (r v10 v11:Value) (i:Int) (h:Hp) (g:Nat→Value):Zh (evC (Zm prog Zg Zn hcP) 200 false (paI f31) (pFr o n c o' n' c' z r i v10 v11++tl 83 g,h,[]) ⟨[],[],[]⟩) 12 83 none (pFr o n c o' n' c' z r (i64.wrap (i-1)) v10 v11) h []:=by and_intros<;>kernel_rfl
theorem Z6s (o n c o' n' c' z k:Nat) (v10 v11:Value) (i:Int) (wr wq lb la:List Value) (g:Nat→Value):Zh (evC (Zm prog Zg Zn hcP) 200 false (x9 f31) (pFr o n c o' n' c' z (sl 3 0 k k) i v10 v11++tl 83 g,hB4 wr wq lb la,[]) ⟨[],[],[]⟩) 12 83 none (pFr o n c o' n' c' z (sl 3 0 k k) i (.int .u64 (tR3 (Zj (hB4 wr wq lb la) (aP 3 0) k) n')) v11) (hB4 wr wq lb la) [(Zaa (hB4 wr wq lb la) (aP 3 0) k k,true),(decide ((16:Int)<0),false),(Zaa (hB4 wr wq lb la) (aP 3 0) k k,true),(decide ((32:Int)<0),false),(Zaa (hB4 wr wq lb la) (aP 3 0) k k,true)]:=by and_intros<;>kernel_rfl
theorem Z3n (o n c o' n' c' z k:Nat) (v11:Value) (i t x q:Int) (wr wq lb la:List Value) (g:Nat→Value):Zh (evC (Zm prog Zg Zn hcP) 200 false (x10 f31) (pFr o n c o' n' c' z (sl 3 0 k k) i (.int .u64 t) v11++tl 83 g,hB4 wr wq lb la,[at_,val (.int .u32 x),num q]) ⟨[],[],[]⟩) 12 83 none (pFr o n c o' n' c' z (sl 3 0 k k) i (.int .u64 t) (.int .u64 (Z3e q))) (hB4 wr wq lb la) [(decide ((tB2 x (Zj (hB4 wr wq lb la) (aP 1 o') n') n')=0),false),(decide (u64.wrap (t.tdiv (tB2 x (Zj (hB4 wr wq lb la) (aP 1 o') n') n'))=q),true),(Zaa (hB4 wr wq lb la) (aP 1 o') n' c',true),(decide ((16:Int)<0),false),ceP lb o' (i64.wrap ((n':Int)-1)) x,inP (i64.wrap ((n':Int)-1)) n']:=by and_intros<;>kernel_rfl
def pV (h:Hp) (o' n':Nat) (e:Int):Nat:=vO h (aP 1 o') n'*(u32.wrap e).toNat+Int.toNat 0
theorem Z3o (o n c o' n' c' z k:Nat) (v10:Value) (i e:Int) (wr wq lb la:List Value) (g:Nat→Value):Zh (evC (Zm prog Zg Zn hcP) 200 false (x11 f31) (pFr o n c o' n' c' z (sl 3 0 k k) i v10 (.int .u64 e)++tl 83 g,hB4 wr wq lb la,[cmp true]) ⟨[],[],[]⟩) 13 82 none (pFr o n c o' n' c' z (sl 3 0 k k) i v10 (.int .u64 e)++[sl 4 0 (d16 (pV (hB4 wr wq lb la) o' n' e)).length (d16 (pV (hB4 wr wq lb la) o' n' e)).length]) (hB5 (wU (d16 (pV (hB4 wr wq lb la) o' n' e))) wr wq lb la) [(ZbV (hB4 wr wq lb la) (aP 1 o') n' c' (u32.wrap e) 0,true),(decide (0<n'∨(0:Int)<0),true)]:=by and_intros<;>kernel_rfl
theorem Z3p (o n c o' n' c' z k j:Nat) (v10:Value) (i e:Int) (wp wr wq lb la:List Value) (g:Nat→Value):Zh (evC (Zm prog Zg Zn hcP) 200 false (yH f31) (pFr o n c o' n' c' z (sl 3 0 k k) i v10 (.int .u64 e)++[sl 4 0 j j]++tl 82 g,hB5 wp wr wq lb la,[cmp true]) ⟨[],[],[]⟩) 13 82 none (pFr o n c o' n' c' z (sl 3 0 k k) i v10 (.int .u64 e)++[sl 4 0 j j]) (hB5 wp wr wq lb la) [(decide (Zac (vO (hB5 wp wr wq lb la) (aP 4 0) j) (vO (hB5 wp wr wq lb la) (aP 3 0) k)>0),true),(zB (hB5 wp wr wq lb la) (aP 4 0) (aP 3 0) j j k k,true)]:=by and_intros<;>kernel_rfl
theorem Z3q (o n c o' n' c' z k j:Nat) (v10:Value) (i e:Int) (wp wr wq lb la:List Value) (g:Nat→Value):Zh (evC (Zm prog Zg Zn hcP) 200 false (yH f31) (pFr o n c o' n' c' z (sl 3 0 k k) i v10 (.int .u64 e)++[sl 4 0 j j]++tl 82 g,hB5 wp wr wq lb la,[cmp false]) ⟨[],[],[]⟩) 13 82 (some (some 2)) (pFr o n c o' n' c' z (sl 3 0 k k) i v10 (.int .u64 e)++[sl 4 0 j j]) (hB5 wp wr wq lb la) [(decide (Zac (vO (hB5 wp wr wq lb la) (aP 4 0) j) (vO (hB5 wp wr wq lb la) (aP 3 0) k)>0),false),(zB (hB5 wp wr wq lb la) (aP 4 0) (aP 3 0) j j k k,true)]:=by and_intros<;>kernel_rfl
theorem Z3r (o n c o' n' c' z k j:Nat) (v10:Value) (i e:Int) (wp wr wq lb la:List Value) (g:Nat→Value):Zh (evC (Zm prog Zg Zn hcP) 200 false (yB f31) (pFr o n c o' n' c' z (sl 3 0 k k) i v10 (.int .u64 e)++[sl 4 0 j j]++tl 82 g,hB5 wp wr wq lb la,[cmp true]) ⟨[],[],[]⟩) 13 82 none (pFr o n c o' n' c' z (sl 3 0 k k) i v10 (.int .u64 (u64.wrap (e-1)))++[sl 5 0 (d16 (vO (hB5 wp wr wq lb la) (aP 4 0) j-vO (hB5 wp wr wq lb la) (aP 1 o') n')).length (d16 (vO (hB5 wp wr wq lb la) (aP 4 0) j-vO (hB5 wp wr wq lb la) (aP 1 o') n')).length]) ⟨6,[(wU (d16 (vO (hB5 wp wr wq lb la) (aP 4 0) j-vO (hB5 wp wr wq lb la) (aP 1 o') n')),tU),(wp,tU),(wr,tU),(wq,tU),(lb,tR),(la,tR)]⟩ [(zB (hB5 wp wr wq lb la) (aP 4 0) (aP 1 o') j j n' c' && Nat.ble (vO (hB5 wp wr wq lb la) (aP 1 o') n') (vO (hB5 wp wr wq lb la) (aP 4 0) j),true),(decide (0<j),true)]:=by and_intros<;>kernel_rfl
theorem Z6t (o n c o' n' c' z k j:Nat) (v10:Value) (i e:Int) (wp wr wq lb la:List Value) (g:Nat→Value):Zh (evC (Zm prog Zg Zn hcP) 200 false (xE f31) (pFr o n c o' n' c' z (sl 3 0 k k) i v10 (.int .u64 e)++[sl 4 0 j j]++tl 82 g,hB5 wp wr wq lb la,[cmp true,at_,at_]) ⟨[],[],[]⟩) 12 83 none (pFr o n c o' n' c' z (sl 5 0 (d16 (vO (hB5 wp wr wq lb la) (aP 3 0) k-vO (hB5 wp wr wq lb la) (aP 4 0) j)).length (d16 (vO (hB5 wp wr wq lb la) (aP 3 0) k-vO (hB5 wp wr wq lb la) (aP 4 0) j)).length) i v10 (.int .u64 e)) ⟨6,[(wU (d16 (vO (hB5 wp wr wq lb la) (aP 3 0) k-vO (hB5 wp wr wq lb la) (aP 4 0) j)),tU),(wp,tU),(wr,tU),(wq.set (0+i.toNat*1) (.int .u32 (u32.wrap e)),tU),(lb,tR),(la,tR)]⟩ [(decide (0+i.toNat*1<wq.length),true),inP i z,(zB (hB5 wp wr wq lb la) (aP 3 0) (aP 4 0) k k j j && Nat.ble (vO (hB5 wp wr wq lb la) (aP 4 0) j) (vO (hB5 wp wr wq lb la) (aP 3 0) k),true),(decide (0<k),true)]:=by and_intros<;>kernel_rfl
theorem Zy0 (o n c o' n' c' z k:Nat) (v9 v10 v11:Value) (wr wq lb la:List Value) (g:Nat→Value):Zh (evC (Zm prog Zg Zn hcP) 200 false (paE f31) ([sl 0 o n c,sl 1 o' n' c',undef,undef,Zs,Zs,sl 3 0 k k,sl 2 0 z z,.int .i64 n',v9,v10,v11]++tl 83 g,hB4 wr wq lb la,[]) ⟨[],[],[]⟩) 6 89 (some none) [sl 0 o n c,sl 1 o' n' c',undef,undef,sl 2 0 (Zc (Zx wq 0 z)) (Zc (Zx wq 0 z)),sl 3 0 k k] (hB4 wr wq lb la) [(ZaB tU wq 0 z z,true)]:=by and_intros<;>kernel_rfl
theorem RunsW.next {T:Tab}{c1 c2:Code}{x:Lf}{front:List Value}{n:Nat}{h:Hp}{P:Ex→Lf→Prop}(h1:RunsW T c1 x fun e y=>e=none∧(∃ g,y.1=front++tl n g)∧y.2.1=h) (h2:∀ g s,RunsW T c2 (front++tl n g,h,s) P):RunsW T (.seq c1 c2) x P:=by
 refine RunsW.seq h1 (fun y hy=> ?_) (fun e y hy=>by cases hy.1);obtain⟨_,⟨g,e1⟩,e2⟩:=hy;obtain⟨t,hh,s⟩:=y;simp only at e1 e2;subst e1 e2;exact h2 g s
theorem Zb1 {h:Hp}{b A:Nat}{ty:TypeId}(hb:h.blk? b=some (wU (d16 A),ty)):Zj h (aP b 0) (d16 A).length=d16 A:=by
 unfold Zj aP;simp only[hb];exact ZaO _
theorem ZpQ {h:Hp}{b A:Nat}{ty:TypeId}(hb:h.blk? b=some (wU (d16 A),ty)):vO h (aP b 0) (d16 A).length=A:=by
 unfold vO;rw[Zb1 hb];exact ZbH (by omega) A
theorem Zl0 (A:Nat):∀ x∈d16 A,0≤x∧x<4294967296:=fun x hx=>⟨(ZaP A x hx).1,by have:=(ZaP A x hx).2;omega⟩
theorem Z2o {n:Nat}(h:n<1000000000):Zc4 0 n n=true:=by
 unfold Zc4;have:ZE n=true:=by unfold ZE;exact Zk.2 (by have:ZT=4611686018427387904:=rfl;omega)
 rw[this,Nat.ble_eq_true_of_le (Nat.le_refl n)];rfl
theorem ZfX {h:Hp}{b A:Nat}(hb:h.blk? b=some (wU (d16 A),tU)) (hl:(d16 A).length<1000000000):Zaa h (aP b 0) (d16 A).length (d16 A).length=true:=by
 unfold Zaa aP;simp only[hb];rw[Zah (Zl0 A) (by omega) (Z2o hl),List.all_eq_true.2 (ZG _)];rfl
theorem Zdf {h:Hp}{p q:Option Addr}{n c n' c':Nat}(h1:Zaa h p n c=true) (h2:Zaa h q n' c'=true) (h3:∀ x∈Zj h p n,Dg 65536 x) (h4:∀ x∈Zj h q n',Dg 65536 x) (h5:max n n'+2<1073741824):zB h p q n c n' c'=true:=by
 unfold zB;rw[h1,h2,Zes h3,Zes h4,Zk.2 h5];rfl
theorem Zcn {A k:Nat}(h:A<65536^k):(d16 A).length≤k:=Zci (by omega) k A h
theorem ZhW (V:Nat) (i:Int):atN (d16 V) i=if 0≤i then ((V/65536^i.toNat % 65536:Nat):Int) else 0:=by
 unfold atN;split
 ·have h1:=ZgT i.toNat V;have h2:=Zd9 (ZaP V) i.toNat;have h3:((d16 V).getD i.toNat 0).toNat=V/65536^i.toNat % 65536:=h1;have:=h2.1;omega
 ·rfl
theorem w64 {n:Int}(h0:0≤n) (h1:n<18446744073709551616):u64.wrap n=n:=by simp [IntKind.wrap,IntKind.bits,IntKind.signed];omega
theorem Zy1 (V n:Nat) (hn:1≤n) (hn2:n<1000000):tR3 (d16 V) n=(ZpP V n:Int):=by
 have e1:i64.wrap ((n:Int)-1)=((n-1:Nat):Int):=by rw[Zw (by omega) (by omega)];omega
 have e2:i64.wrap ((n:Int)-2)=(n:Int)-2:=Zw (by omega) (by omega);have p32:(2:Int)^min (Int.toNat 32) 64=4294967296:=rfl;have p16:(2:Int)^min (Int.toNat 16) 64=65536:=rfl;have m1:=Nat.mod_lt (V/65536^n) (show 0<65536 by omega);have m2:=Nat.mod_lt (V/65536^(n-1)) (show 0<65536 by omega);have m3:=Nat.mod_lt (V/65536^(n-2)) (show 0<65536 by omega);unfold tR3 ZpP;rw[e1,e2,p32,p16,ZhW,ZhW,ZhW,if_pos (by omega),if_pos (by omega),Xg,Xg];by_cases h2:2≤n
 ·have e3:((n:Int)-2).toNat=n-2:=by omega
  rw[if_pos (by omega),if_pos h2,e3];generalize V/65536^n % 65536=a at*;generalize V/65536^(n-1) % 65536=b at*;generalize V/65536^(n-2) % 65536=d at*;rw[w64 (n:=(a:Int)) (by omega) (by omega),w64 (n:=(a:Int)*4294967296) (by omega) (by omega),w64 (n:=(b:Int)) (by omega) (by omega),w64 (n:=(b:Int)*65536) (by omega) (by omega),w64 (n:=(d:Int)) (by omega) (by omega),w64 (n:=(a:Int)*4294967296+(b:Int)*65536) (by omega) (by omega),w64 (by omega) (by omega)];omega
 ·rw[if_neg (by omega),if_neg h2];generalize V/65536^n % 65536=a at*;generalize V/65536^(n-1) % 65536=b at*;rw[w64 (n:=(a:Int)) (by omega) (by omega),w64 (n:=(a:Int)*4294967296) (by omega) (by omega),w64 (n:=(b:Int)) (by omega) (by omega),w64 (n:=(b:Int)*65536) (by omega) (by omega),w64 (n:=(0:Int)) (by omega) (by omega),w64 (n:=(a:Int)*4294967296+(b:Int)*65536) (by omega) (by omega),w64 (by omega) (by omega)];omega
theorem Zy2 {L:List Int}(hC:ZfO 65536 L) (hn:1≤L.length) (hn2:L.length<1000000):tB2 (L.getD (L.length-1) 0) L L.length=(Zot (vb 65536 L) L.length:Int):=by
 have e2:i64.wrap ((L.length:Int)-2)=(L.length:Int)-2:=Zw (by omega) (by omega);have p16:(2:Int)^min (Int.toNat 16) 64=65536:=rfl;obtain⟨B,hB⟩:∃ B,B=vb 65536 L:=⟨_,rfl⟩;have eL:L=d16 B:=by rw[hB];exact (ZhN (by omega) hC).symm
 have ex:L.getD (L.length-1) 0=((B/65536^(L.length-1) % 65536:Nat):Int):=by
  have h1:=ZgT (L.length-1) B;have h2:=(Zd9 hC.1 (L.length-1)).1;have h3:(L.getD (L.length-1) 0).toNat=B/65536^(L.length-1) % 65536:=by
   rw[← h1];show (L.getD _ 0).toNat=((d16 B).getD _ 0).toNat;rw[← eL]
  omega
 have ea:atN L ((L.length:Int)-2)=if 0≤(L.length:Int)-2 then ((B/65536^((L.length:Int)-2).toNat % 65536:Nat):Int) else 0:=by
  have:=ZhW B ((L.length:Int)-2);rw[← eL] at this;exact this
 have m2:=Nat.mod_lt (B/65536^(L.length-1)) (show 0<65536 by omega);have m3:=Nat.mod_lt (B/65536^(L.length-2)) (show 0<65536 by omega);unfold tB2 Zot;rw[← hB,e2,p16,ea,ex];by_cases h2:2≤L.length
 ·have e3:((L.length:Int)-2).toNat=L.length-2:=by omega
  rw[if_pos (by omega),if_pos h2,e3];generalize B/65536^(L.length-1) % 65536=b at*;generalize B/65536^(L.length-2) % 65536=d at*;rw[w64 (n:=(b:Int)) (by omega) (by omega),w64 (n:=(b:Int)*65536) (by omega) (by omega),w64 (n:=(d:Int)) (by omega) (by omega),w64 (by omega) (by omega)];omega
 ·rw[if_neg (by omega),if_neg h2];generalize B/65536^(L.length-1) % 65536=b at*;rw[w64 (n:=(b:Int)) (by omega) (by omega),w64 (n:=(b:Int)*65536) (by omega) (by omega),w64 (n:=(0:Int)) (by omega) (by omega),w64 (by omega) (by omega)];omega
structure Two (la lb:List Value) (o o' c':Nat) (A L:List Int):Prop where
 ra:Row la o A
 rb:Row lb o' L
 dA:∀ x∈A,Dg 65536 x
 cL:ZfO 65536 L
 n1:1≤L.length
 n2:L.length<1000000
 a1:1≤A.length
 a2:A.length<1000000
 cb:ZaB tR lb o' L.length c'=true
 sb:∀ v∈lb,still v=true
 sa:∀ v∈la,still v=true
 eb:Zx lb o' L.length=L
section
variable {la lb : List Value} {o c o' c' : Nat} {A L : List Int}
theorem Two.row (H:Two la lb o o' c' A L) {h:Hp}(hb:h.blk? 1=some (lb,tR)):Zaa h (aP 1 o') L.length c'=true∧Zj h (aP 1 o') L.length=L∧vO h (aP 1 o') L.length=vb 65536 L:=by
 have e:Zj h (aP 1 o') L.length=L:=by
  unfold Zj aP;simp only[hb];exact H.eb
 refine⟨?_,e,by unfold vO;rw[e]⟩;unfold Zaa aP;simp only[hb];rw[H.cb,List.all_eq_true.2 H.sb];rfl
theorem Two.bnd (H:Two la lb o o' c' A L):65536^(L.length-1)≤vb 65536 L∧vb 65536 L<65536^L.length∧0<vb 65536 L:=by
 have h1:=Zyx H.cL H.n1;have h2:=ZcU (b:=65536) (by omega) L H.cL.1;have:0<65536^(L.length-1):=Nat.pow_pos (by omega);exact⟨h1,h2,by omega⟩
theorem Zbi:TabOk (Zm prog Zg Zn hcP):=Zp Ze Zyy
theorem ZpR (V:Nat) {d:Int}(hd:Dg 65536 d):Zc (d::d16 V)=(d16 (d.toNat+65536*V)).length∧wU (d::d16 V)=wU (d16 (d.toNat+65536*V))++wU ((d::d16 V).drop (Zc (d::d16 V))):=by
 have hD:∀ x∈d::d16 V,Dg 65536 x:=fun x hx=>by
  rcases List.mem_cons.1 hx with rfl | hx
  ·exact hd
  ·exact ZaP V x hx
 have ev:vb 65536 (d::d16 V)=d.toNat+65536*V:=by
  simp only[vb];rw[show vb 65536 (d16 V)=V from ZbH (by omega) V]
 have h1:=Zam (b:=65536) (by omega) hD;have h2:=za (b:=65536) (by omega) _ hD;rw[ev] at h1 h2;refine⟨h1,?_⟩;rw[← zk];congr 1;show _=db 65536 _++_;rw[← h2,List.take_append_drop]
theorem Zy3 {d:Int}(hd:Dg 65536 d):∀ x∈d::([]:List Int),0≤x∧x<4294967296:=fun x hx=>by
 rw[List.mem_singleton.1 hx];exact⟨hd.1,by have:=hd.2;omega⟩
theorem ZpS {wq:List Value}(hq:∀ v∈wq,still v=true) (hb:∀ v∈lb,still v=true) (ha:∀ v∈la,still v=true) {h:Hp}(h0:h.blk? 0=some (la,tR)) (h1:h.blk? 1=some (lb,tR)) (h2:h.blk? 2=some (wq,tU)):∀ i x,(⟨3,[(wq,tU),(lb,tR),(la,tR)]⟩:Hp).blk? i=some x→h.blk? i=some x∧∀ v∈x.1,still v=true:=by
 intro i x hx;have hi:i<3:=Hp.blk_lt hx;have h3:i=0∨i=1∨i=2:=by omega
 rcases h3 with rfl | rfl | rfl
 ·have:(la,tR)=x:=Option.some.inj hx;subst this;exact⟨h0,ha⟩
 ·have:(lb,tR)=x:=Option.some.inj hx;subst this;exact⟨h1,hb⟩
 ·have:(wq,tU)=x:=Option.some.inj hx;subst this;exact⟨h2,hq⟩
theorem Zsl {n n' z t:Nat}{i:Int}{v10 v11:Value}(k1:KRun.lt 4 v10=true) (k2:KRun.lt 4 v11=true):∀ v∈pFr o n c o' n' c' z (sl 3 0 t t) i v10 v11,KRun.lt 4 v=true:=by
 intro v hv;simp only[pFr,List.mem_cons,List.not_mem_nil,or_false] at hv;rcases hv with rfl | rfl | rfl | rfl | rfl | rfl | rfl | rfl | rfl | rfl | rfl | rfl
 ·rfl
 ·rfl
 ·rfl
 ·rfl
 ·rfl
 ·rfl
 ·rfl
 ·rfl
 ·rfl
 ·rfl
 ·exact k1
 ·exact k2
end
end Go.Proofs.YtgefjidphfdhdaaGreatDoor
namespace Go.Proofs.YtgefjidphfdhdaaGreatDoor.Na
open Go.KRun Go.Nt
set_option maxRecDepth 100000
set_option linter.unusedVariables false
def Z6u (H:Hp) (p:Option Addr) (n c V:Nat):Prop:=Zaa H p n c=true∧Zj H p n=d32 V
theorem ZgU (V:Nat):wds (d32 V):=ZiX (by omega) V
theorem ZpT {L:List Int}(n:Nat):Zx (wU L) 0 n=L.take n:=by
 unfold Zx Zbp wU;rw[List.drop_zero,← List.map_take,List.map_map];exact (List.map_congr_left fun z _=>rfl).trans (List.map_id' _)
theorem Z3s {H:Hp}{b V m:Nat}(hb:H.blk? b=some (wU (dg m (V:Int)),tU)) (hV:V<4294967296^m) (hm:m≤1000):Z6u H (some ⟨b,0,none⟩) (Zc (dg m (V:Int))) m V:=by
 have hw:=ZaA m (V:Int);have hl:=ZP m (V:Int);have ht:=zm (dg m (V:Int));refine⟨?_,?_⟩
 ·unfold Zaa;simp only[hb];unfold ZaB;have e1:zE tU=false:=by kernel_rfl
  have e2:Nat.beq (rt tU) tU=true:=by kernel_rfl
  have e3:Nat.ble (0+Zc (dg m (V:Int))) (wU (dg m (V:Int))).length=true:=Nat.ble_eq_true_of_le (by rw[zZ];omega);have e4:Nat.blt (Zc (dg m (V:Int))) 4611686018427387904=true:=Zk.2 (by omega);have e5:((Zbp (wU (dg m (V:Int))) 0 (Zc (dg m (V:Int)))).all isU)=true:=by
   unfold Zbp;rw[List.drop_zero];refine List.all_eq_true.2 fun v hv=> ?_;have hv:=List.mem_of_mem_take hv;unfold wU at hv;obtain⟨x,hx,rfl⟩:=List.mem_map.1 hv;exact Xa (hw x hx)
  have e6:Zc4 0 (Zc (dg m (V:Int))) m=true:=by
   unfold Zc4;rw[show ZE m=true from Zk.2 (by have:ZT=4611686018427387904:=rfl;omega),Nat.ble_eq_true_of_le (by omega)];rfl
  rw[e1,e2,e3,e4,e5,e6,List.all_eq_true.2 (ZG _)];rfl
 ·unfold Zj;simp only[hb];rw[ZpT];refine Zlp ?_;have:((4294967296^m:Nat):Int)=4294967296^m:=by rw[Int.natCast_pow];rfl
  rw[← this];omega
end Go.Proofs.YtgefjidphfdhdaaGreatDoor.Na
namespace Go.Nt
theorem ZcP:∀ (m:Nat) (V c:Int),dg m (V+4294967296^m*c)=dg m V
 | 0,_,_=>rfl
 | m+1,V,c=>by
  simp only[dg];rw[pw,Int.mul_assoc];generalize hZ:(4294967296:Int)^m*c=Z;have e1:(V+4294967296*Z) % 4294967296=V % 4294967296:=by omega
  have e2:(V+4294967296*Z)/4294967296=V/4294967296+Z:=by omega
  rw[e1,e2,← hZ,ZcP m]
theorem ZdC {k:Nat}(h:k≤32):(2:Int)^k*2^(32-k)=4294967296:=by
 rw[← Int.pow_add,show k+(32-k)=32 from by omega];rfl
theorem Zsm {k:Nat}{z y:Int}(z0:0≤z) (y0:0≤y) (y1:y<2^k) (hs:2^k*z+y<4294967296):(((BitVec.ofInt 32 (2^k*z) ||| BitVec.ofInt 32 y).toNat:Nat):Int)=2^k*z+y:=by
 obtain⟨Z,rfl⟩:=Int.eq_ofNat_of_zero_le z0;obtain⟨Y,rfl⟩:=Int.eq_ofNat_of_zero_le y0;have ex:(2:Int)^k*(Z:Nat)=((2^k*Z:Nat):Int):=by simp
 have hY:Y<2^k:=by
  have:((Y:Nat):Int)<((2^k:Nat):Int):=by simpa using y1
  exact Int.ofNat_lt.1 this
 rw[ex] at hs ⊢;have hX:2^k*Z+Y<4294967296:=by omega
 have e1:∀ m:Nat,m<4294967296→(BitVec.ofInt 32 (m:Int)).toNat=m:=fun m hm=>by
  simp;omega
 rw[BitVec.toNat_or,e1 _ (by omega),e1 _ (by omega),← Nat.two_pow_add_eq_or_of_lt hY];omega
theorem ZtT {x l q r:Int}(hq:1≤q) (hr:1≤r) (hqr:q*r=4294967296) (hx:0≤x∧x<4294967296) (hl:0≤l∧l<q):
  x*q=4294967296*(x/r)+q*(x % r)∧0≤q*(x % r)∧q*(x % r)+l<4294967296∧0≤x/r∧x/r<q:=by
 have h1:=Int.mul_ediv_add_emod x r;have h2:=Int.emod_nonneg x (show r≠0 by omega);have h3:=Int.emod_lt_of_pos x (show 0<r by omega);have h4:0≤x/r:=Int.ediv_nonneg hx.1 (by omega);generalize x/r=hi at*;generalize x % r=lo at*;have e1:x*q=4294967296*hi+q*lo:=by
  rw[← h1,← hqr,Int.add_mul,Int.mul_assoc q r hi,Int.mul_comm (r*hi) q,Int.mul_comm lo q]
 have e2:q*lo+q≤4294967296:=by
  have:=Int.mul_le_mul_of_nonneg_left (show lo+1≤r by omega) (show 0≤q by omega);rw[Int.mul_add,Int.mul_one,hqr] at this;exact this
 refine⟨e1,Int.mul_nonneg (by omega) h2,by omega,h4,?_⟩;rcases Int.lt_or_le hi q with h | h
 ·exact h
 ·exfalso
  have:=Int.mul_le_mul_of_nonneg_left h (show 0≤r by omega);rw[Int.mul_comm r q,hqr] at this;omega
theorem Zl1 {P a b q x l d e A:Int}(he:x*q+l=d+4294967296*e) (h:a+P*((x+4294967296*A)*q+l)=b):a+P*d+4294967296*P*(A*q+e)=b:=by
 rw[← h];have e1:(x+4294967296*A)*q+l=d+4294967296*(A*q+e):=by
  rw[Int.add_mul,Int.mul_assoc];omega
 rw[e1];generalize A*q+e=Z;rw[Int.mul_add P d,← Int.mul_assoc P 4294967296 Z,Int.mul_comm P 4294967296];omega
end Go.Nt
namespace Go.Proofs.YtgefjidphfdhdaaGreatDoor.Na
open Go.Proofs.Tryz
open Go.IntKind
open Go.KRun Go.Nt
set_option maxRecDepth 100000
def upU (x k:Int):Int:=u32.wrap (x*2^min k.toNat 32)
def ZpU (x k l:Int):Int:=brr (upU x k) l
def ZpV (x k:Int):Int:=x.fdiv (2^min (i64.wrap (32-k)).toNat 32)
theorem Z6a {x l:Int}{k:Nat}(hx:0≤x∧x<4294967296) (hl:0≤l∧l<2^k) (hk:k<32):
  (0≤ZpU x k l∧ZpU x k l<4294967296)∧(0≤ZpV x k∧ZpV x k<2^k)∧x*2^k+l=ZpU x k l+4294967296*ZpV x k:=by
 have q1:(1:Int)≤2^k:=by have:(0:Int)<2^k:=Int.pow_pos (by omega);omega
 have r1:(1:Int)≤2^(32-k):=by have:(0:Int)<2^(32-k):=Int.pow_pos (by omega);omega
 obtain⟨u1,u2,u3,u4,u5⟩:=ZtT q1 r1 (ZdC (by omega)) hx hl;have eL:ZpV x k=x/2^(32-k):=by
  unfold ZpV;rw[Zw (by omega) (by omega),show min ((32:Int)-(k:Nat)).toNat 32=32-k from by omega,Int.fdiv_eq_ediv_of_nonneg _ (by omega)]
 have eU:upU x k=2^k*(x % 2^(32-k)):=by
  unfold upU;rw[Xg,show min k 32=k from by omega,Zg7,u1];omega
 have lo0:=Int.emod_nonneg x (show (2:Int)^(32-k)≠0 by omega);have eN:ZpU x k l=2^k*(x % 2^(32-k))+l:=by
  unfold ZpU brr;rw[eU,Zsm lo0 hl.1 hl.2 u3,Zg7];omega
 rw[eL,eN];omega
def mR0 (F:Func):List Code:=[Z1 (Zq F),Z1 (Zz (Zq F))]
def mL (F:Func):Code:=cIn (cIn (Zz (Zz (Zq F))))
theorem ZhX:f130.body=some (zo (mR0 f130) (.block 0 (.loop (mL f130)))):=by kernel_rfl
def mF (w k l i x s n j:Value):List Value:=[w,k,undef,undef,l,i,x,s,n,j]
def hU (S la:List Value):Hp:=⟨2,[(S,tU),(la,tR)]⟩
theorem Zl2 (b o n c:Nat) (k:Value) (h:Hp):Zh (evL (Zo prog Zg Zn true) 100 (mR0 f130) ([sl b o n c,k]++List.replicate 25 undef,h,[]) ⟨[],[],[]⟩) 10 17 none (mF (sl b o n c) k (uu 0) undef undef (sl b o n c) (i6' n) (i6' 0)) h []:=by and_intros<;>kernel_rfl
theorem Zl3 (w k l i x s:Value) (n:Nat) (j:Int) (h:Hp) (g:Nat→Value):Zh (evC (Zo prog Zg Zn true) 100 false (mL f130) (mF w k l i x s (i6' n) (i6' j)++tl 17 g,h,[cmp false]) ⟨[],[],[]⟩) 10 17 (some (some 0)) (mF w k l i x s (i6' n) (i6' j)) h [(decide (j<n),false)]:=by and_intros<;>kernel_rfl
theorem Zy4 (o n c:Nat) (k l j x:Int) (i0 x0:Value) (la S:List Value) (g:Nat→Value):Zh (evC (Zo prog Zg Zn true) 100 false (mL f130) (mF (sl 1 o n c) (i6' k) (uu l) i0 x0 (sl 1 o n c) (i6' n) (i6' j)++tl 17 g,hU S la,[cmp true,at_,val (uu x),at_,at_]) ⟨[],[],[]⟩) 10 17 none
  (mF (sl 1 o n c) (i6' k) (uu (ZpV x k)) (i6' j) (uu x) (sl 1 o n c) (i6' n) (i6' (i64.wrap (j+1)))) (hU (S.set (o+j.toNat*1) (uu (ZpU x k l))) la) [(decide (i64.wrap (32-k)<0),false),(decide (o+j.toNat*1<S.length),true),inR j n,(decide (k<0),false),ZbG S o j x,inR j n,(decide (j<n),true)]:=by and_intros<;>kernel_rfl
theorem Zl4 (w k l i x s n j:Value) (h:Hp) (g:Nat→Value):zd prog f130 (mF w k l i x s n j++tl 17 g) h=some (.tuple #[]):=by kernel_rfl
def Za2:List UInt8:=(List.range 256).map fun i=>UInt8.ofNat (bitLen i)
def ZdD (z:Int):Int:=((Za2.getD (u8.wrap z).toNat 0).toNat:Int)
def lt8 (z:Int):Bool×Bool:=(decide (0≤u8.wrap z∧(u8.wrap z).toNat<Za2.length),true)
def shd (z:Int) (k:Nat):Int:=z.fdiv (2^k)
def geq (z k:Int) (d:Bool):Bool×Bool:=(decide (z≥k),d)
def ZeN (m z:Int):Value:= .int .i64 (i64.wrap (m+i64.wrap (ZdD z)))
def nz:Bool×Bool:=(false,false)
theorem Zy5 (u:Int):ZH (Zr (Zo prog Zg Zn true) 3000 169 [uu u] [tst false,tst false]) (ZeN 0 u) [lt8 u,geq u 256 false,geq u 65536 false]:=by and_intros<;>kernel_rfl
theorem Zy6 (u:Int):ZH (Zr (Zo prog Zg Zn true) 3000 169 [uu u] [tst false,tst true]) (ZeN 8 (shd u 8)) [lt8 (shd u 8),nz,geq u 256 true,geq u 65536 false]:=by and_intros<;>kernel_rfl
theorem Zy7 (u:Int):ZH (Zr (Zo prog Zg Zn true) 3000 169 [uu u] [tst true,tst false]) (ZeN 16 (shd u 16)) [lt8 (shd u 16),geq (shd u 16) 256 false,nz,geq u 65536 true]:=by and_intros<;>kernel_rfl
theorem Zy8 (u:Int):ZH (Zr (Zo prog Zg Zn true) 3000 169 [uu u] [tst true,tst true]) (ZeN 24 (shd (shd u 16) 8)) [lt8 (shd (shd u 16) 8),nz,geq (shd u 16) 256 true,nz,geq u 65536 true]:=by and_intros<;>kernel_rfl
theorem Zc7:Za2.length=256:=by unfold Za2;rw[List.length_map,List.length_range]
theorem Zc8 (b:Nat) (h:b<256):(Za2.getD b 0).toNat=bitLen b:=by
 have h1:Za2.getD b 0=UInt8.ofNat (bitLen b):=by
  unfold Za2;rw[List.getD,List.getElem?_map,List.getElem?_range h];rfl
 have h2:=bitLen_le8 b h;rw[h1,UInt8.toNat_ofNat'];omega
theorem ZgV {z:Int}(h0:0≤z) (h1:z<256):u8.wrap z=z:=by
 simp [IntKind.wrap,IntKind.bits,IntKind.signed];omega
theorem zQ {m:Int}{Z:Nat}(hm:0≤m) (hm':m≤56) (h1:Z<256):ZeN m (Z:Int)= .int .i64 (m+bitLen Z)∧(lt8 (Z:Int)).1=(lt8 (Z:Int)).2:=by
 have hb:=bitLen_le8 Z h1;have e:=ZgV (z:=(Z:Int)) (by omega) (by omega);refine⟨?_,?_⟩
 ·unfold ZeN ZdD;rw[e,Xg,Zc8 Z h1,Zw (n:=((bitLen Z:Nat):Int)) (by omega) (by omega),Zw (by omega) (by omega)]
 ·unfold lt8;rw[e,Xg];rw[Zc7];exact Xa (And.intro (by omega) h1)
theorem ZdE (Z k:Nat):shd (Z:Int) k=((Z/2^k:Nat):Int):=by
 unfold shd;rw[Int.fdiv_eq_ediv_of_nonneg _ (Int.le_of_lt (Int.pow_pos (by omega)))];simp
theorem Zl5 {z k:Int}(h:k≤z):(geq z k true).1=(geq z k true).2:=Xa h
theorem ZeO {z k:Int}(h:z<k):(geq z k false).1=(geq z k false).2:=Xb (by omega)
theorem ZaQ:nz.1=nz.2:=rfl
theorem Za3 (x b:Nat) (h:2^b≤x):bitLen x=b+bitLen (x/2^b):=bitLen_shift x b (by
 have:0<x/2^b:=Nat.div_pos h (Nat.two_pow_pos b);omega)
def Zl6 (u:Int):Value:= .int .i64 (bitLen u.toNat:Nat)
theorem ZgW (u:Int) (h0:0≤u) (h1:u<4294967296) (w:World):Calls prog 169 #[uu u] w fun e w'=>e= .returned (Zl6 u)∧zH w w':=by
 obtain⟨U,rfl⟩:=Int.eq_ofNat_of_zero_le h0;unfold Zl6;rw[Xg];have p8:(2:Nat)^8=256:=rfl;have p16:(2:Nat)^16=65536:=rfl;have step:∀ {v:Value}{s:List Dec}{cs:Log},ZH (Zr (Zo prog Zg Zn true) 3000 169 [uu (U:Int)] s) v cs→Zu cs→v= .int .i64 (bitLen U:Nat)→Calls prog 169 #[uu (U:Int)] w fun e w'=>e= .returned (.int .i64 (bitLen U:Nat))∧zH w w':=
  fun {v s cs} hf hc hv=>by subst hv;exact Zf (Zl Ze) hf hc (by rfl) (by rfl) w
 by_cases b:U<65536
 ·by_cases c:U<256
  ·obtain⟨e1,e2⟩:=zQ (m:=0) (by omega) (by omega) c;exact step (Zy5 U) (Zi e2 (Zi (ZeO (by omega)) (Zv (ZeO (by omega))))) (by rw[e1];congr 1;omega)
  ·have l:=Za3 U 8 (by omega);obtain⟨e1,e2⟩:=zQ (m:=8) (Z:=U/2^8) (by omega) (by omega) (by omega);rw[← ZdE] at e1 e2;exact step (Zy6 U) (Zi e2 (Zi ZaQ (Zi (Zl5 (by omega)) (Zv (ZeO (by omega)))))) (by rw[e1];congr 1;omega)
 ·have l:=Za3 U 16 (by omega);by_cases c:U/2^16<256
  ·obtain⟨e1,e2⟩:=zQ (m:=16) (Z:=U/2^16) (by omega) (by omega) c;rw[← ZdE] at e1 e2;exact step (Zy7 U) (Zi e2 (Zi (ZeO (by rw[ZdE];omega)) (Zi ZaQ (Zv (Zl5 (by omega)))))) (by rw[e1];congr 1;omega)
  ·have l2:=Za3 (U/2^16) 8 (by omega);obtain⟨e1,e2⟩:=zQ (m:=24) (Z:=U/2^16/2^8) (by omega) (by omega) (by omega);rw[← ZdE,← ZdE] at e1 e2;exact step (Zy8 U) (Zi e2 (Zi ZaQ (Zi (Zl5 (by rw[ZdE];omega)) (Zi ZaQ (Zv (Zl5 (by omega))))))) (by rw[e1];congr 1;omega)
def Zl7:Ans:=fun vals s=>
 match vals with
 | [.int .u32 x]=>some (Zl6 x,s,[(decide (0≤x∧x<4294967296),true)])
 | _=>none
theorem Zl8:z8 169 Zl7:=by
 intro vals s v s' lg h hl w;unfold Zl7 at h;split at h
 ·rename_i x;cases h;have hr:=hl _ Xf;simp only[Xi] at hr;exact ZgW x hr.1 hr.2 w
 ·cases h
def Zg8:Con:=alt 169 Zl7 Zn
theorem Zc9:ConOk Zg8:=ZF func169 rfl Zl8 Ze
theorem Zl9:f129.body=some (Zq f129):=by kernel_rfl
theorem Zy9 (p:Option Addr) (n c:Nat) (h:Hp):Zh (evC (Zm prog Zg Zg8 hcK) 100 false (Zq f129) ([.slice p n c]++List.replicate 22 undef,h,[cmp true]) ⟨[],[],[]⟩) 3 20 (some none) [.slice p n c,undef,i6' 0] h [((n:Int)==0,true)]:=by and_intros<;>kernel_rfl
theorem ZpW (o n c:Nat) (l:List Value):Zh (evC (Zm prog Zg Zg8 hcK) 100 false (Zq f129) ([sl 0 o n c]++List.replicate 22 undef,⟨1,[(l,tR)]⟩,[cmp false,cmp true]) ⟨[],[],[]⟩) 3 20 (some none) [sl 0 o n c,undef,i6' 0] ⟨1,[(l,tR)]⟩ [ZgM l o n c,(ZN (Zx l o n),true),((n:Int)==0,false)]:=by and_intros<;>kernel_rfl
theorem ZlA (o n c:Nat) (x:Int) (l:List Value):Zh (evC (Zm prog Zg Zg8 hcK) 100 false (Zq f129) ([sl 0 o n c]++List.replicate 22 undef,⟨1,[(l,tR)]⟩,[cmp false,cmp false,at_,val (uu x)]) ⟨[],[],[]⟩) 3 20 (some none) [sl 0 o n c,undef,i6' (i64.wrap (i64.wrap (n1 n*32)+(bitLen x.toNat:Nat)))] ⟨1,[(l,tR)]⟩ [(decide (0≤x∧x<4294967296),true),(Z3 (l[o+(n1 n).toNat*1]?) (.int .u32 x),true),(decide (0≤n1 n∧n1 n<n),true),ZgM l o n c,(ZN (Zx l o n),false),((n:Int)==0,false)]:=by and_intros<;>kernel_rfl
def ZdS (L:List Int):Int:=match (L.length==0 || ZN L) with | true=>0 | false=>32*((L.length-1:Nat):Int)+(bitLen (L.getD (L.length-1) 0).toNat:Nat)
theorem ZdF {x:Int}(h0:0≤x) (h1:x<4294967296):bitLen x.toNat≤32:=by
 by_cases h:65536≤x.toNat
 ·have p8:(2:Nat)^8=256:=rfl;have p16:(2:Nat)^16=65536:=rfl;have l:=Za3 x.toNat 16 (by omega);by_cases h2:256≤x.toNat/2^16
  ·have l2:=Za3 (x.toNat/2^16) 8 (by omega);have:=bitLen_le8 (x.toNat/2^16/2^8) (by omega);omega
  ·have:=bitLen_le8 (x.toNat/2^16) (by omega);omega
 ·have p8:(2:Nat)^8=256:=rfl;by_cases h2:256≤x.toNat
  ·have l2:=Za3 x.toNat 8 (by omega);have:=bitLen_le8 (x.toNat/2^8) (by omega);omega
  ·have:=bitLen_le8 x.toNat (by omega);omega
theorem ZlB {l:List Value}{o n c:Nat}(ha:Z0 tR l o n c=true):
  Runs (Zm prog Zg Zg8 hcK) (Zq f129) ([sl 0 o n c]++List.replicate 22 undef,⟨1,[(l,tR)]⟩,[]) fun e y=>(e=none∨e=some none)∧zd prog f129 y.1 y.2.1=some (i6' (ZdS (Zx l o n))):=by
 obtain⟨a1,a2,a3,a4,a5,a6,a7⟩:=ZC ha;unfold ZdS;by_cases h0:n=0
 ·have e0:((Zx l o n).length==0)=true:=by rw[a2,h0];rfl
  rw[e0,Bool.true_or];refine (Zb (Zp Zc9 Zeo) (Zy9 (some ⟨0,o,none⟩) n c _) (Zv (by rw[h0];rfl))).mono fun e y he=> ?_;obtain⟨rfl,⟨g,e2⟩,e3⟩:=he;refine⟨.inr rfl,?_⟩;rw[e2,e3];rfl
 ·have e0:((Zx l o n).length==0)=false:=by rw[a2];simpa using h0
  have e1:((n:Int)==0)=false:=by simpa using h0
  rw[e0,Bool.false_or];cases hb:ZN (Zx l o n) with
  | true=>
   refine (Zb (Zp Zc9 Zeo) (ZpW o n c l) (Zi ha (Zi hb (Zv e1)))).mono fun e y he=> ?_;obtain⟨rfl,⟨g,e2⟩,e3⟩:=he;refine⟨.inr rfl,?_⟩;rw[e2,e3];rfl
  | false=>
   have h8:n≤8192:=by
    unfold ZN at hb;simp only[Bool.or_eq_false_iff,decide_eq_false_iff_not,a2] at hb;omega
   have ek:n1 n=((n-1:Nat):Int):=by
    unfold n1;rw[Zw (by omega) (by omega)];omega
   rw[a2];have hx:=a1.rng ((Zx l o n).getD (n-1) 0) (by
    have hk':n-1<(Zx l o n).length:=by omega
    simp [List.getD,List.getElem?_eq_getElem hk'])
   have hc:=a1.cell (k:=n-1) (by omega);have b32:=ZdF hx.1 hx.2;refine (Zb (Zp Zc9 Zeo) (ZlA o n c ((Zx l o n).getD (n-1) 0) l) (Zi (Xa hx) (Zi (by
    rw[ek,Xg,Nat.mul_one,hc];simp [Z3]) (Zi (by rw[ek];exact Xa (by omega)) (Zi ha (Zi hb (Zv e1))))))).mono fun e y he=> ?_
   obtain⟨rfl,⟨g,e2⟩,e3⟩:=he;refine⟨.inr rfl,?_⟩;have e4:i64.wrap (i64.wrap (n1 n*32)+(bitLen ((Zx l o n).getD (n-1) 0).toNat:Nat))=32*((n-1:Nat):Int)+(bitLen ((Zx l o n).getD (n-1) 0).toNat:Nat):=by
    rw[ek,Zw (n:=((n-1:Nat):Int)*32) (by omega) (by omega),Zw (by omega) (by omega)];omega
   rw[e2,e3,e4];rfl
theorem ZpX:ZH (Zr (Zo prog Zg Zn true) 100 129 [Zs] []) (i6' 0) []:=by and_intros<;>kernel_rfl
def Z3t:Zag:=fun vals h s=>
 match vals with
 | [.slice none 0 0]=>some (i6' 0,h,s,[])
 | [.slice (some ⟨b,o,none⟩) n c]=>
  match h.blk? b with
  | some x=>some (i6' (ZdS (Zx x.1 o n)),h,s,[(Z0 x.2 x.1 o n c,true)])
  | _=>none
 | _=>none
theorem ZtU:Z8 129 Z3t:=by
 intro vals h s v h' s' lg hg hl m B w E hv;unfold Z3t at hg;split at hg
 ·cases hg;refine (Zf (Zl Ze) ZpX (fun x hx=>by cases hx) (by rfl) (by rfl) w).mono fun e w' he=> ?_;obtain⟨E',hb⟩:=ZS E he.2;exact⟨m,he.1,⟨Agree.refl _ _,E',hb,Nat.le_refl _,rfl⟩⟩
 ·rename_i b o n c;split at hg
  ·rename_i x hx;cases hg;have ra:=hl _ Xf;obtain⟨h1,h2,h3,h4,h5,h6,h7⟩:=ZC ra;have hlt:=Hp.blk_lt hx;have r:=ZlB (zi ra);have:=zh (T:=Zm prog Zg Zg8 hcK) func129 Zl9 (ZaU h7) (vals:=[sl 0 o n c]) (fun v hv=>by rw[List.mem_singleton.1 hv];rfl) (by rfl) r E (s:=fun _=>b) (fun i _=>hlt) (zX hx h5 h6 rfl);exact this.mono fun e w' he=>⟨m,he.1,he.2⟩
  ·cases hg
 ·cases hg
end Go.Proofs.YtgefjidphfdhdaaGreatDoor.Na
namespace Go.Proofs.YtgefjidphfdhdaaGreatDoor
open Go.KRun Go.Nt
set_option maxRecDepth 100000
theorem Za4 (L:List Int):(wU L).all still=true:=by
 unfold wU;rw[List.all_eq_true];intro v hv;obtain⟨x,_,rfl⟩:=List.mem_map.1 hv;rfl
end Go.Proofs.YtgefjidphfdhdaaGreatDoor
namespace Go.Proofs.YtgefjidphfdhdaaGreatDoor.Na
open Go.Proofs.Tryz
open Go.IntKind
open Go.KRun Go.Nt
set_option maxRecDepth 100000
theorem Zsn {F:List Value}{o:Nat}(hF:F.length=o) (dx:List Int) (x:Int) (px:List Int):(F++wU (dx++x::px))[o+dx.length]? =some (uu x):=by
 rw[List.getElem?_append_right (by omega),hF,Nat.add_sub_cancel_left];exact ZkC dx x px
theorem Zso {F:List Value}{o:Nat}(hF:F.length=o) (dx:List Int) (x d:Int) (px:List Int):(F++wU (dx++x::px)).set (o+dx.length) (uu d)=F++wU ((dx++[d])++px):=by
 rw[List.set_append_right _ _ (by omega),hF,Nat.add_sub_cancel_left,ZfJ]
theorem ZpY {F la:List Value}{o c k:Nat}{L:List Int}(hF:F.length=o) (hL:wds L) (hk:k<32) (hN:L.length<4611686018427387904):
  Runs (Zo prog Zg Zn true) (zo (mR0 f130) (.block 0 (.loop (mL f130)))) ([sl 1 o L.length c,i6' k]++List.replicate 25 undef,hU (F++wU L) la,[]) fun e y=>(e=none∨e=some none)∧zd prog f130 y.1 y.2.1=some (.tuple #[])∧y.2.1.cut 2=hU (F++wU (dg L.length (vN L*2^k))) la:=by
 refine Z4 (Zl Ze) (Zl2 1 o L.length c (i6' k) _) (fun x hx=>by cases hx) fun g=> ?_;refine (Runs.forLoop (R:=fun _=>False) (P:=fun y=>∃ (l i x j:Value) (g:Nat→Value),y.1=mF (sl 1 o L.length c) (i6' k) l i x (sl 1 o L.length c) (i6' L.length) j++tl 17 g∧y.2.1=hU (F++wU (dg L.length (vN L*2^k))) la)
  (fun r y=>∃ (dx px:List Int) (l:Int) (i0 x0:Value) (g:Nat→Value),px.length=r∧dx.length+px.length=L.length∧wds dx∧wds px∧(0≤l∧l<2^k)∧y.1=mF (sl 1 o L.length c) (i6' k) (uu l) i0 x0 (sl 1 o L.length c) (i6' L.length) (i6' dx.length)++tl 17 g∧y.2.1=hU (F++wU (dx++px)) la∧vN dx+4294967296^dx.length*(vN px*2^k+l)=vN L*2^k)
  ?_ (n:=L.length) ⟨[],L,0,undef,undef,g,rfl,by simp,(fun x hx=>by cases hx),hL,⟨by omega,Int.pow_pos (by omega)⟩,rfl,rfl,by simp [vN]⟩).mono fun e' y he=> ?_
 ·rintro r ⟨t,h',s'⟩ ⟨dx,px,l,i0,x0,g,hr,hl,wd1,wd2,hlo,ht,hh,hv⟩;simp only at ht hh;subst ht hh
  match px,hr,hl,wd2,hv with
  | [],hr,hl,wd2,hv=>
   have hl':dx.length=L.length:=by simpa using hl
   refine (Zb (Zl Ze) (Zl3 _ _ _ _ _ _ L.length dx.length _ g) (Zv (Xb (by omega)))).mono fun e' y he=> ?_;obtain⟨rfl,⟨g1,e2⟩,e3⟩:=he;refine⟨rfl,_,_,_,_,g1,e2,?_⟩;simp only[vN] at hv;rw[Int.zero_mul,Int.zero_add] at hv;have e5:=ZcP dx.length (vN dx) l;rw[hv,ZfI dx wd1,hl'] at e5;rw[e3,e5,List.append_nil]
  | x::px,hr,hl,wd2,hv=>
   obtain⟨wx,wd2⟩:=Zal wd2;obtain⟨k1,k2,k3⟩:=Z6a wx hlo hk;have cS:=Zsn hF dx x px;have lS:(F++wU (dx++x::px)).length=o+L.length:=by
    unfold wU;simp at hl ⊢;omega
   have hl':dx.length<L.length:=by simp at hl;omega
   have l1:decide (o+((dx.length:Int)).toNat*1<(F++wU (dx++x::px)).length)=true:=by
    rw[lS,Xg];exact Xa (by omega)
   have l2:(inR dx.length L.length).1=(inR dx.length L.length).2:=Xa (by omega);have l4:(ZbG (F++wU (dx++x::px)) o dx.length x).1=(ZbG (F++wU (dx++x::px)) o dx.length x).2:=Zae cS;have e32:i64.wrap (32-(k:Int))=32-(k:Int):=Zw (by omega) (by omega);have l5:decide (i64.wrap (32-(k:Int))<0)=false:=by
    rw[e32];exact Xb (by omega)
   have l6:decide ((k:Int)<0)=false:=Xb (by omega);have l7:decide ((dx.length:Int)<(L.length:Nat))=true:=Xa (by omega);refine (Zb (Zl Ze) (Zy4 o L.length c k l dx.length x i0 x0 la (F++wU (dx++x::px)) g) (Zi l5 (Zi l1 (Zi l2 (Zi l6 (Zi l4 (Zi l2 (Zv l7)))))))).mono fun e' y he=> ?_;obtain⟨rfl,⟨g1,e2⟩,e3⟩:=he;refine⟨px.length,by simp at hr;omega,dx++[ZpU x k l],px,ZpV x k,i6' dx.length,uu x,g1,rfl,by simp at hl ⊢;omega,zY wd1 (fun z hz=>by rw[List.mem_singleton.1 hz];exact k1),wd2,k2,?_,?_,?_⟩
   ·rw[e2,Zw (by omega) (by omega)];simp
   ·rw[e3,Xg,Nat.mul_one,Zso hF]
   ·simp only[vN] at hv;rw[zp,List.length_append,List.length_singleton,pw];exact Zl1 k3 hv
 ·match e',he with
  | none,he=>
   obtain⟨l,i,x,j,g,e1,e2⟩:=he;refine⟨.inl rfl,?_,?_⟩
   ·rw[e1];exact Zl4 _ _ _ _ _ _ _ _ _ _
   ·rw[e2];rfl
  | some none,he=>exact he.elim
  | some (some _),he=>exact he.elim
def upS (S:List Value) (o n:Nat) (k:Int):List Value:=S.take o++wU (dg n (vN (Zx S o n)*2^k.toNat))
def Z3u:Zag:=fun vals h s=>
 match vals,h with
 | [.slice (some ⟨1,o,none⟩) n c,.int .i64 k],⟨2,[(S,t),(la,t')]⟩=>some (.tuple #[],⟨2,[(upS S o n k,tU),(la,tR)]⟩,s,[(Nat.beq t tU,true),(Nat.beq t' tR,true),(Z0 t S o n c,true),(Nat.beq (o+n) S.length,true),(la.all still,true),(decide (0≤k∧k<32),true)])
 | _,_=>none
theorem ZbB (L:List Int) (n:Nat):(wU L).all (lt1 n)=true:=by
 unfold wU;rw[List.all_eq_true];intro v hv;obtain⟨x,_,rfl⟩:=List.mem_map.1 hv;rfl
theorem ZU {l:List Value}{n:Nat}(hn:0<n) (h:l.all still=true):l.all (lt1 n)=true:=by
 rw[List.all_eq_true] at*;exact fun v hv=>zv hn (h v hv)
theorem ZtV:Z8 130 Z3u:=by
 intro vals h s v h' s' lg hg hl m B w E hv;unfold Z3u at hg;split at hg
 ·rename_i o n c k S t la t';cases hg;have q1:=Xj (hl _ (Xe));have q2:=Xj (hl _ (Xd _ Xe));have ra:=hl _ (Xd _ (Xd _ Xe));have q4:=Xj (hl _ (Xd _ (Xd _ (Xd _ Xe))));have q5:=hl _ (Xd _ (Xd _ (Xd _ (Xd _ Xe))));have q6:=Xc (hl _ (Xd _ (Xd _ (Xd _ (Xd _ (Xd _ Xf))))));simp only at q1 q2 q4 q5;subst q1 q2;obtain⟨a1,a2,a3,a4,a5,a6,a7⟩:=ZC ra;obtain⟨K,rfl⟩:=Int.eq_ofNat_of_zero_le q6.1;have hc:c<4611686018427387904:=Zk.1 a4;have eS:S=S.take o++wU (Zx S o n):=by
   have h1:=a1.cut;rw[a2] at h1;rw[← h1];unfold Zbp;rw[show n=(S.drop o).length from by simp;omega,List.take_length,List.take_append_drop]
  have hF:(S.take o).length=o:=by simp;omega
  have r:=ZpY (la:=la) (c:=c) (k:=K) hF a1.rng (by omega) (by omega);rw[a2,← eS] at r;have ht:(Hp.tight ⟨2,[(upS S o n K,tU),(la,tR)]⟩)=true:=by
   unfold Hp.tight upS;simp only[List.all_cons,List.all_nil,List.all_append,Bool.and_true,Xh];refine⟨⟨?_,ZbB _ _⟩,ZU (by omega) q5⟩;rw[List.all_eq_true];exact fun v hv=>zv (by omega) (a7 v (List.mem_of_mem_take hv))
  exact ZM (T:=Zo prog Zg Zn true) func130 ZhX (vals:=[sl 1 o n c,i6' K]) (v:= .tuple #[]) (h:=hU S la) (by rfl) ht r m B w E hv
 ·cases hg
end Go.Proofs.YtgefjidphfdhdaaGreatDoor.Na
namespace Go.Nt
theorem ZlC:∀ (m:Nat) (V:Int),vN (dg m V)+4294967296^m*(V/4294967296^m)=V
 | 0,V=>by simp [dg,vN]
 | m+1,V=>by
  have h:=ZlC m (V/4294967296);simp only[dg,vN];rw[pw,← Int.ediv_ediv_of_nonneg (show (0:Int)≤4294967296 by omega),Int.mul_assoc];omega
theorem ZtW {P a b x y z k d e A B:Int}(he:k+(x*y+z)=d+4294967296*e) (h:a+P*((z+4294967296*A)+x*(y+4294967296*B)+k)=b):a+P*d+4294967296*P*(A+x*B+e)=b:=by
 rw[← h];have e1:(z+4294967296*A)+x*(y+4294967296*B)+k=d+4294967296*(A+x*B+e):=by
  rw[Int.mul_add x y,← Int.mul_assoc x 4294967296 B,Int.mul_comm x 4294967296,Int.mul_assoc 4294967296 x B];omega
 rw[e1];generalize A+x*B+e=Z;rw[Int.mul_add P d,← Int.mul_assoc P 4294967296 Z,Int.mul_comm P 4294967296];omega
theorem ZyA {x y:Int}(hx:0≤x∧x<4294967296) (hy:0≤y∧y<4294967296):0≤x*y∧x*y≤18446744065119617025:=by
 constructor
 ·exact Int.mul_nonneg hx.1 hy.1
 ·have h1:x*y≤4294967295*y:=Int.mul_le_mul_of_nonneg_right (by omega) hy.1;omega
theorem Z3v {M B x Q:Int}(hM:0≤M∧M<Q) (hB:0≤B∧B<Q) (hx:0≤x∧x<4294967296):0≤M+x*B∧M+x*B<Q*4294967296:=by
 have h0:=Int.mul_nonneg hx.1 hB.1;have h1:x*B≤4294967295*B:=Int.mul_le_mul_of_nonneg_right (by omega) hB.1;omega
theorem ZpZ {T Q:Int}(hQ:0<Q) (h:0≤T∧T<Q*4294967296):0≤T/Q∧T/Q<4294967296:=
 ⟨Int.ediv_nonneg h.1 (by omega),Int.ediv_lt_of_lt_mul hQ (by rw[Int.mul_comm];exact h.2)⟩
theorem Zqa {M:List Int}{T:Int}(hT:0≤T∧T<4294967296^M.length*4294967296):∃ y m,dg M.length T++[T/4294967296^M.length]=y::m∧m.length=M.length∧wds [y]∧wds m∧y+4294967296*vN m=T:=by
 have hc:=ZpZ (Za0 M.length) hT;have hw:wds (dg M.length T++[T/4294967296^M.length]):=zY (ZaA _ _) (fun x hx=>by rw[List.mem_singleton.1 hx];exact hc);have hl:(dg M.length T++[T/4294967296^M.length]).length=M.length+1:=by rw[List.length_append,ZP];rfl
 have hv:vN (dg M.length T++[T/4294967296^M.length])=T:=by rw[zp,ZP];exact ZlC _ _
 cases h:dg M.length T++[T/4294967296^M.length] with
 | nil=>rw[h] at hl;simp at hl
 | cons y m=>
  rw[h] at hw hl hv;obtain⟨w1,w2⟩:=Zal hw;refine⟨y,m,rfl,by simpa using hl,fun x hx=>by rw[List.mem_singleton.1 hx];exact w1,w2,hv⟩
theorem ZtX {P d m A B x y m':Int}(hT:y+4294967296*m'=m+x*B) (h:d+P*m=A*B):d+P*y+4294967296*P*m'=(A+P*x)*B:=by
 have e1:P*y+4294967296*P*m'=P*(m+x*B):=by
  rw[← hT,Int.mul_add,← Int.mul_assoc P 4294967296 m',Int.mul_comm P 4294967296]
 rw[Int.add_mul,← h,Int.mul_assoc P x B];rw[Int.mul_add] at e1;omega
theorem Zsp:∀ n:Nat,vN (List.replicate n 0)=0
 | 0=>rfl
 | n+1=>by
  rw[List.replicate_succ];simp only[vN];rw[Zsp n];rfl
end Go.Nt
namespace Go.Proofs.YtgefjidphfdhdaaGreatDoor.Na
open Go.Proofs.Tryz
open Go.IntKind
open Go.KRun Go.Nt
set_option maxRecDepth 100000
set_option linter.unusedVariables false
def tK (k x y z:Int):Int:=u64.wrap (k+u64.wrap (u64.wrap (u64.wrap x*u64.wrap y)+u64.wrap z))
def tC (k x y z:Int):Int:=(tK k x y z).fdiv (2^min (Int.toNat 32) 64)
def tD (k x y z:Int):Int:=u32.wrap (tK k x y z)
theorem ZtY {k x y z:Int}(hk:0≤k∧k<4294967296) (hx:0≤x∧x<4294967296) (hy:0≤y∧y<4294967296) (hz:0≤z∧z<4294967296):
  (0≤tD k x y z∧tD k x y z<4294967296)∧(0≤tC k x y z∧tC k x y z<4294967296)∧k+(x*y+z)=tD k x y z+4294967296*tC k x y z:=by
 have hxy:=ZyA hx hy;have e:tK k x y z=k+(x*y+z):=by
  unfold tK;simp only[ZcT];rw[Int.emod_eq_of_lt hx.1 (by omega),Int.emod_eq_of_lt hy.1 (by omega),Int.emod_eq_of_lt hz.1 (by omega),Int.emod_eq_of_lt hxy.1 (by omega),Int.emod_eq_of_lt (by omega) (by omega),Int.emod_eq_of_lt (by omega) (by omega)]
 unfold tD tC;rw[e,Zg7,show ((2:Int)^min (Int.toNat 32) 64)=4294967296 from by decide,Int.fdiv_eq_ediv_of_nonneg _ (by omega)];generalize x*y=W at*;omega
def tmP (F:Func):List Code:=[Z1 (Zq F),Z1 (Zz (Zq F)),Z1 (Zz (Zz (Zq F)))]
def tmB (F:Func):Code:=Z1 (Zz (Zz (Zz (Zq F))))
def tmL (F:Func):Code:=cIn (cIn (Zz (tmB F)))
def tmE (F:Func):Code:=Zz (Zz (Zz (Zz (Zq F))))
def tmF (o n c o' c':Nat) (x k:Int) (v8 v9 u1 u2 u3 u4:Value) (j:Int):List Value:=[sl 2 o n c,sl 1 o' n c',uu x,undef,undef,undef,uu 0,.int .u64 k,v8,v9,u1,u2,u3,u4,sl 1 o' n c',i6' n,i6' j]
theorem ZtZ:f170.body=some (zo (tmP f170) (.seq (.seq (Z1 (tmB f170)) (.block 0 (.loop (tmL f170)))) (tmE f170))):=by kernel_rfl
def tmA (o n c o' c':Nat) (x:Int):List Value:=[sl 2 o n c,sl 1 o' n c',uu x,undef,undef,undef,uu 0,.int .u64 0,undef,undef,sl 2 o n c,sl 1 o' n c',i6' n,sl 2 o n c]
theorem ZyB (o n c o' c':Nat) (x:Int) (S la lb:List Value):Zh (evL (Zo prog Zg Zn true) 100 (tmP f170) ([sl 2 o n c,sl 1 o' n c',uu x]++List.replicate 41 undef,h3 la lb S,[num 0]) ⟨[],[],[]⟩) 14 30 none (tmA o n c o' c' x) (h3 la lb S) [(ZE c,true),(ZZ 0 n c c,true),(decide ((c:Int)=0∧(0:Int)≠0),false)]:=by and_intros<;>kernel_rfl
theorem Z3w (o n c o' c':Nat) (x:Int) (S la lb:List Value) (g:Nat→Value):Zh (evC (Zo prog Zg Zn true) 100 false (Z1 (tmB f170)) (tmA o n c o' c' x++tl 30 g,h3 la lb S,[]) ⟨[],[],[]⟩) 17 27 none (tmF o n c o' c' x 0 undef undef (sl 2 o n c) (sl 1 o' n c') (i6' n) (sl 2 o n c) 0) (h3 la lb S) []:=by and_intros<;>kernel_rfl
theorem ZyC (o n c o' c':Nat) (x k j:Int) (v8 v9 u1 u2 u3 u4:Value) (S la lb:List Value) (g:Nat→Value):Zh (evC (Zo prog Zg Zn true) 100 false (tmL f170) (tmF o n c o' c' x k v8 v9 u1 u2 u3 u4 j++tl 27 g,h3 la lb S,[cmp false]) ⟨[],[],[]⟩) 17 27 (some (some 0)) (tmF o n c o' c' x k v8 v9 u1 u2 u3 u4 j) (h3 la lb S) [(decide (j<n),false)]:=by and_intros<;>kernel_rfl
theorem Z3x (o n c o' c':Nat) (x k j y z:Int) (v8 v9 u1 u2 u3 u4:Value) (S la lb:List Value) (g:Nat→Value):Zh (evC (Zo prog Zg Zn true) 100 false (tmL f170) (tmF o n c o' c' x k v8 v9 u1 u2 u3 u4 j++tl 27 g,h3 la lb S,[cmp true,at_,val (uu y),at_,val (uu z),at_,at_]) ⟨[],[],[]⟩) 17 27 none (tmF o n c o' c' x (tC k x y z) (i6' j) (uu y) u1 u2 u3 u4 (i64.wrap (j+1))) (h3 la lb (S.set (o+j.toNat*1) (uu (tD k x y z)))) [(decide ((32:Int)<0),false),(decide (o+j.toNat*1<S.length),true),inR j n,ZbG S o j z,inR j n,ZbG lb o' j y,inR j n,(decide (j<n),true)]:=by and_intros<;>kernel_rfl
theorem ZyD (o n c o' c':Nat) (x k j:Int) (v8 v9 u1 u2 u3 u4:Value) (h:Hp) (g:Nat→Value):Zh (evC (Zo prog Zg Zn true) 100 false (tmE f170) (tmF o n c o' c' x k v8 v9 u1 u2 u3 u4 j++tl 27 g,h,[]) ⟨[],[],[]⟩) 7 37 (some none) [sl 2 o n c,sl 1 o' n c',uu x,undef,undef,undef,uu (u32.wrap k)] h []:=by and_intros<;>kernel_rfl
end Go.Proofs.YtgefjidphfdhdaaGreatDoor.Na
