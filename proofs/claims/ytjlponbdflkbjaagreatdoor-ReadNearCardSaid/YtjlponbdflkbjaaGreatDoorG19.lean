/-
  ConVE, ConVF, RfA, RfN, RfB, RfC, RfD, RfE
-/
import Derived.Test.YtjlponbdflkbjaaGreatDoorG18
namespace Go.Proofs.YtjlponbdflkbjaaGreatDoor
open Go.Proofs.Tryz
open Go.IntKind
open Go.KRun Go.Nt
set_option maxRecDepth 100000
section
variable {l : List Value} {o c : Nat} {A : List Int}
theorem Zom (A:List Int) (j:Nat):vb 65536 (A.take (j+1))=vb 65536 (A.take j)+65536^j*dgN A j:=Zag 65536 A j
theorem Zkm (hR:Row l o A) (hA:∀ x∈A,Dg 65536 x) (hn:A.length<1073741824) (k:Int) {z:Nat}(hz:z<4611686018427387904) (g:Nat→Value):
  Runs (Zr prog Zf Zn hcV) (.block 0 (.loop (rL1 f89))) ([sl 0 o A.length c,.int .i64 k,undef,undef,Zp,.bool false,.bool false,.int .i64 (z:Nat),.int .i64 0]++tl 80 g,⟨1,[(l,tR)]⟩,[]) fun e Y=>match e with | none=>(∃ g u,Y.1=[sl 0 o A.length c,.int .i64 k,undef,undef,Zp,.bool false,.bool (decide (vb 65536 (A.take z)≠0)),.int .i64 (z:Nat),.int .i64 u]++tl 80 g)∧Y.2.1=⟨1,[(l,tR)]⟩ | some none=>False | some (some _)=>False:=by
 refine Runs.forLoop (P:=fun Y=>(∃ g u,Y.1=[sl 0 o A.length c,.int .i64 k,undef,undef,Zp,.bool false,.bool (decide (vb 65536 (A.take z)≠0)),.int .i64 (z:Nat),.int .i64 u]++tl 80 g)∧Y.2.1=⟨1,[(l,tR)]⟩) (R:=fun _=>False)
  (fun m Y=>∃ j:Nat,j≤z∧j≤A.length∧m=A.length-j∧(∃ g,Y.1=[sl 0 o A.length c,.int .i64 k,undef,undef,Zp,.bool false,.bool (decide (vb 65536 (A.take j)≠0)),.int .i64 (z:Nat),.int .i64 (j:Nat)]++tl 80 g)∧Y.2.1=⟨1,[(l,tR)]⟩) ?_ (n:=A.length) ⟨0,by omega,by omega,by omega,⟨g,by simp [vb]⟩,rfl⟩
 rintro m ⟨t,h',s⟩ ⟨j,hj,hj',hm,⟨g,ht⟩,hh⟩;simp only at ht hh;subst ht hh;have e2:i64.wrap ((j:Int)+1)=((j+1:Nat):Int):=by rw[Zw (by omega) (by omega)];omega
 have hs:=Zom A j;have hp:0<65536^j:=Nat.pow_pos (by omega);by_cases h1:j<z
 ·by_cases h2:j<A.length
  ·have hd:=zy hA j;by_cases h0:vb 65536 (A.take j)=0
   ·have ef:decide (vb 65536 (A.take j)≠0)=false:=Xb (by omega);rw[ef];refine (Zb (Zh Zd Zu) (ZxX o A.length c k z j (A.getD j 0) l (A.getD j 0 !=0) g) (Zi rfl (Zi (by rw[Xg,Nat.mul_one,hR.cell h2];simp [Z5]) (Zi (Xa (by omega)) (Zi (Xa (by omega)) (Zt (Xa (by omega)))))))).mono fun e w hw=> ?_;obtain⟨rfl,⟨g',z1⟩,z2⟩:=hw;have e3:(A.getD j 0 !=0)=decide (vb 65536 (A.take (j+1))≠0):=by
     rw[hs,h0,Nat.zero_add,← hd.2,Bool.eq_iff_iff];simp only[bne_iff_ne,ne_eq,Xi,Nat.mul_eq_zero];omega
    exact⟨A.length-(j+1),by omega,j+1,by omega,by omega,rfl,⟨g',by rw[z1,e2,e3]⟩,z2⟩
   ·have ef:decide (vb 65536 (A.take j)≠0)=true:=Xa h0;rw[ef];refine (Zb (Zh Zd Zu) (ZxW _ A.length c k z j _ g) (Zi (Xa (by omega)) (Zt (Xa (by omega))))).mono fun e w hw=> ?_;obtain⟨rfl,⟨g',z1⟩,z2⟩:=hw;have e3:true=decide (vb 65536 (A.take (j+1))≠0):=(Xa (by rw[hs];omega)).symm;exact⟨A.length-(j+1),by omega,j+1,by omega,by omega,rfl,⟨g',by rw[z1,e2,← e3];rfl⟩,z2⟩
  ·have hjl:A.take j=A.take z:=by rw[List.take_of_length_le (by omega),List.take_of_length_le (by omega)]
   rw[hjl];refine (Zb (Zh Zd Zu) (ZxZ _ A.length c k z j _ _ g) (Zi (Xb (by omega)) (Zt (Xa (by omega))))).mono fun e w hw=> ?_;obtain⟨rfl,⟨g',z1⟩,z2⟩:=hw;exact⟨rfl,⟨g',_,z1⟩,z2⟩
 ·have hjz:j=z:=by omega
  subst hjz;refine (Zb (Zh Zd Zu) (ZxY _ A.length c k j j _ _ g) (Zt (Xb (by omega)))).mono fun e w hw=> ?_;obtain⟨rfl,⟨g',z1⟩,z2⟩:=hw;exact⟨rfl,⟨g',_,z1⟩,z2⟩
theorem Zkn (a:Value) (k:Nat) (b u:Int) (e:Bool) (h:Hp) (g:Nat→Value):
  Runs (Zr prog Zf Zn hcV) (.block 2 (.loop (rL2 f89))) ([a,.int .i64 (k:Nat),undef,undef,Zp,.bool false,.bool e,.int .i64 b,.int .i64 u,.int .u32 1,.int .i64 0]++tl 78 g,h,[]) fun ex Y=>match ex with | none=>(∃ g u2,Y.1=[a,.int .i64 (k:Nat),undef,undef,Zp,.bool false,.bool e,.int .i64 b,.int .i64 u,.int .u32 ((2^(k % 16):Nat):Int),.int .i64 u2]++tl 78 g)∧Y.2.1=h | some none=>False | some (some _)=>False:=by
 have em:(k:Int).tmod 16=((k % 16:Nat):Int):=by rw[Int.tmod_eq_emod_of_nonneg (by omega)];omega
 refine Runs.forLoop (P:=fun Y=>(∃ g u2,Y.1=[a,.int .i64 (k:Nat),undef,undef,Zp,.bool false,.bool e,.int .i64 b,.int .i64 u,.int .u32 ((2^(k % 16):Nat):Int),.int .i64 u2]++tl 78 g)∧Y.2.1=h) (R:=fun _=>False)
  (fun m Y=>∃ j:Nat,j≤k % 16∧m=k % 16-j∧(∃ g,Y.1=[a,.int .i64 (k:Nat),undef,undef,Zp,.bool false,.bool e,.int .i64 b,.int .i64 u,.int .u32 ((2^j:Nat):Int),.int .i64 (j:Nat)]++tl 78 g)∧Y.2.1=h) ?_ (n:=k % 16) ⟨0,by omega,by omega,⟨g,rfl⟩,rfl⟩
 rintro m ⟨t,h',s⟩ ⟨j,hj,hm,⟨g,ht⟩,hh⟩;simp only at ht hh;subst ht hh;by_cases hlt:j<k % 16
 ·refine (Zb (Zh Zd Zu) (Z2V a k b u j _ e h' g) (Zi (by rw[em];exact Xa (by omega)) (Zt rfl))).mono fun ex w hw=> ?_;obtain⟨rfl,⟨g',z1⟩,z2⟩:=hw;have hp:2^j≤32768:=by
   have:=Nat.pow_le_pow_right (show 0<2 by omega) (show j≤15 by omega);omega
  have e1:u32.wrap (2*((2^j:Nat):Int))=((2^(j+1):Nat):Int):=by
   rw[Nat.pow_succ];generalize 2^j=Q at hp ⊢;rw[zk (by omega) (by omega)];omega
  have e2:i64.wrap ((j:Int)+1)=((j+1:Nat):Int):=by rw[Zw (by omega) (by omega)];omega
  exact⟨k % 16-(j+1),by omega,j+1,by omega,rfl,⟨g',by rw[z1,e1,e2]⟩,z2⟩
 ·have hj':j=k % 16:=by omega
  subst hj';refine (Zb (Zh Zd Zu) (Z2W a k b u _ _ e h' g) (Zi (by rw[em];exact Xb (by omega)) (Zt rfl))).mono fun ex w hw=> ?_;obtain⟨rfl,⟨g',z1⟩,z2⟩:=hw;exact⟨rfl,⟨g',_,z1⟩,z2⟩
def Fst (l:List Value) (o c:Nat) (A:List Int):Prop:=∀ h:Hp,h.blk? 0=some (l,tR)→zJ h (some ⟨0,o,none⟩) A.length c=true∧Zq h (some ⟨0,o,none⟩) A.length=A
def dwV (A:List Int) (P R i:Nat):Nat:=dgN A i/P+dgN A (i+1) % P*R
def rSt (l:List Value) (o c:Nat) (A:List Int) (k b u u2:Int) (e:Bool) (P j i:Nat) (O:List Int) (Y:Lf):Prop:=
 (j=0∧(∃ g,Y.1=[sl 0 o A.length c,.int .i64 k,undef,undef,Zp,.bool false,.bool e,.int .i64 b,.int .i64 u,.int .u32 (P:Nat),.int .i64 u2,Zp,.int .i64 (i:Nat)]++tl 76 g)∧Y.2.1=⟨1,[(l,tR)]⟩)∨
 (0<j∧(∃ g,Y.1=[sl 0 o A.length c,.int .i64 k,undef,undef,Zp,.bool false,.bool e,.int .i64 b,.int .i64 u,.int .u32 (P:Nat),.int .i64 u2,sl 1 0 j grown,.int .i64 (i:Nat)]++tl 76 g)∧Y.2.1=⟨2,[(wU O,tU),(l,tR)]⟩)
theorem Zko (hR:Row l o A) (hF:Fst l o c A) (hs:∀ v∈l,still v=true) (hA:∀ x∈A,Dg 65536 x) (hn:A.length+2<1073741824) {k b u u2:Int}{e:Bool}{P R j i:Nat}{O:List Int}(hP:0<P) (hPR:P*R=65536) (hO:O.length=j) (hj:j≤i) (hi:i<A.length) {Y:Lf}(hY:rSt l o c A k b u u2 e P j i O Y):
  RunsW (Zr prog Zf Zn hcV) (rL3 f89) Y fun ex W=>ex=none∧(∃ g,W.1=[sl 0 o A.length c,.int .i64 k,undef,undef,Zp,.bool false,.bool e,.int .i64 b,.int .i64 u,.int .u32 (P:Nat),.int .i64 u2,sl 1 0 (j+1) grown,.int .i64 ((i+1:Nat):Int)]++tl 76 g)∧W.2.1=⟨2,[(wU (O++[((dwV A P R i:Nat):Int)]),tU),(l,tR)]⟩:=by
 obtain⟨t,h',s⟩:=Y;have hd:=zy hA i;have hd1:=zy hA (i+1);have hPb:P≤65536:=by
  rcases Nat.eq_zero_or_pos R with h0 | h0
  ·rw[h0] at hPR;omega
  ·have:=Nat.mul_le_mul_left P h0;omega
 have hRb:R≤65536:=by
  have:=Nat.mul_le_mul_right R hP;omega
 have e3:i64.wrap ((i:Int)+1)=((i+1:Nat):Int):=by rw[Zw (by omega) (by omega)];omega
 have ne0:decide ((P:Int)=0)=false:=Xb (by omega);have hdiv:dgN A i/P≤dgN A i:=Nat.div_le_self _ _;have eq1:u32.wrap ((A.getD i 0).tdiv (P:Int))=((dgN A i/P:Nat):Int):=by
  rw[← hd.2,Int.tdiv_eq_ediv_of_nonneg (by omega),show ((dgN A i:Nat):Int)/(P:Int)=((dgN A i/P:Nat):Int) from rfl];generalize dgN A i/P=y at hdiv ⊢;exact zk (by omega) (by omega)
 have eq2:u32.wrap (Int.tdiv 65536 (P:Int))=(R:Int):=by
  have:65536/P=R:=by rw[← hPR,Nat.mul_div_cancel_left _ hP]
  rw[Int.tdiv_eq_ediv_of_nonneg (by omega),show (65536:Int)/(P:Int)=((65536/P:Nat):Int) from rfl,this];exact zk (by omega) (by omega)
 have hlt:=Zm3 (x1:=dgN A (i+1)) hP hPR hd.1;have hdw:∀ h:Hp,h.blk? 0=some (l,tR)→dwn h o A.length i P ((dgN A i/P:Nat):Int) R=((dwV A P R i:Nat):Int):=fun h hh=>by
  unfold dwn dwV;rw[(hF h hh).2,e3,Zaq,← hd1.2,Int.tmod_eq_emod_of_nonneg (by omega),show ((dgN A (i+1):Nat):Int) % (P:Int)=((dgN A (i+1) % P:Nat):Int) from rfl,show ((dgN A (i+1) % P:Nat):Int)*(R:Int)=((dgN A (i+1) % P*R:Nat):Int) from by simp];generalize dgN A i/P=y1 at hlt ⊢;generalize dgN A (i+1) % P*R=y2 at hlt ⊢;rw[zk (n:=(y2:Int)) (by omega) (by omega),zk (by omega) (by omega)];omega
 have hlog:∀ h:Hp,h.blk? 0=some (l,tR)→Z3 (lDw h l o A.length c i P (A.getD i 0) ((dgN A i/P:Nat):Int) R):=fun h hh=>Zi ne0 (Zi (hF h hh).1 (Zi ne0 (Zi (Xa eq2) (Zi ne0 (Zi (Xa eq1) (Zi (by
  show Z5 (l[o+(i:Int).toNat*1]?) _=true;rw[Xg,Nat.mul_one,hR.cell hi];simp [Z5]) (Zi (Xa (by omega)) (Zt (Xa (by omega))))))))))
 have key:∀ {h:Hp}{bb:Nat},1≤bb→h.blk? 0=some (l,tR)→h.blk? bb=some (wU (O++[((dwV A P R i:Nat):Int)]),tU)→RunsW (Zr prog Zf Zn hcV) (rL3 f89) (t,h',s) (fun ex W=>ex=none∧(∃ g,W.1=[sl 0 o A.length c,.int .i64 k,undef,undef,Zp,.bool false,.bool e,.int .i64 b,.int .i64 u,.int .u32 (P:Nat),.int .i64 u2,sl bb 0 (j+1) grown,.int .i64 ((i+1:Nat):Int)]++tl 76 g)∧W.2.1=h)→
   RunsW (Zr prog Zf Zn hcV) (rL3 f89) (t,h',s) fun ex W=>ex=none∧(∃ g,W.1=[sl 0 o A.length c,.int .i64 k,undef,undef,Zp,.bool false,.bool e,.int .i64 b,.int .i64 u,.int .u32 (P:Nat),.int .i64 u2,sl 1 0 (j+1) grown,.int .i64 ((i+1:Nat):Int)]++tl 76 g)∧W.2.1=⟨2,[(wU (O++[((dwV A P R i:Nat):Int)]),tU),(l,tR)]⟩:=fun {h bb} hb h0 hB fin=>
  fin.kept (k:=1) (b:=bb) (base:=[(l,tR)]) (y:=(wU (O++[((dwV A P R i:Nat):Int)]),tU)) (front':=[sl 0 o A.length c,.int .i64 k,undef,undef,Zp,.bool false,.bool e,.int .i64 b,.int .i64 u,.int .u32 (P:Nat),.int .i64 u2,sl 1 0 (j+1) grown,.int .i64 ((i+1:Nat):Int)]) rfl
   (by kernel_rfl) (fun j x hx=>by
    obtain⟨rfl,rfl⟩:=ZgN hx;exact⟨h0,hs⟩) hB hb (ZD _) (fun v hv=>by
    simp only[List.mem_cons,List.not_mem_nil,or_false] at hv;rcases hv with rfl | rfl | rfl | rfl | rfl | rfl | rfl | rfl | rfl | rfl | rfl | rfl | rfl<;>rfl)
 rcases hY with ⟨h0,⟨g,ht⟩,hh⟩ | ⟨h0,⟨g,ht⟩,hh⟩
 ·simp only at ht hh;subst ht hh;have hO0:O=[]:=List.length_eq_zero_iff.1 (by omega);subst hO0;subst h0;have fin:=Ze (Zh Zd Zu) (s0:=s) (Zyi o A.length c k b u u2 i P (A.getD i 0) ((dgN A i/P:Nat):Int) R e l g) (hlog _ rfl);rw[e3,hdw _ rfl] at fin;exact key (bb:=2) (by omega) rfl rfl fin
 ·simp only at ht hh;subst ht hh;have hchk:Zab tU (wU O,tU) ([.int .u32 ((dwV A P R i:Nat):Int)],tU) j 0 1=true:=
   Zba (L:=O) (M:=[((dwV A P R i:Nat):Int)]) hO.symm (show 0<1 by omega) (by show O.length+1≤_;omega)
  have ew:wU O++[.int .u32 ((dwV A P R i:Nat):Int)]=wU (O++[((dwV A P R i:Nat):Int)]):=by rw[ZX];rfl
  have fin:=Ze (Zh Zd Zu) (s0:=s) (Zyj o A.length c j k b u u2 i P (A.getD i 0) ((dgN A i/P:Nat):Int) R e l (wU O) g) (Zi (by rw[hdw _ rfl];exact hchk) (hlog _ rfl));rw[e3,hdw _ rfl,ew] at fin;exact key (bb:=3) (by omega) rfl rfl fin
def Z8c (l:List Value) (o c:Nat) (A:List Int) (k b u u2:Int) (e:Bool) (P z:Nat) (Y:Lf):Prop:=
 ∃ O:List Int,O.length=A.length-z∧(∀ x∈O,Dg 65536 x)∧vb 65536 O*P+dgN A z % P=vb 65536 (A.drop z)∧rSt l o c A k b u u2 e P (A.length-z) A.length O Y
def ZAc (l:List Value) (o c:Nat) (A:List Int) (k b u u2:Int) (e:Bool) (P z:Nat) (m:Nat) (Y:Lf):Prop:=
 ∃ (i:Nat) (O:List Int),m=A.length-i∧z≤i∧i≤A.length∧O.length=i-z∧(∀ x∈O,Dg 65536 x)∧vb 65536 O*P+dgN A z % P=vb 65536 ((A.drop z).take (i-z))+65536^(i-z)*(dgN A i % P)∧rSt l o c A k b u u2 e P (i-z) i O Y
theorem Zon (A:List Int) (z j:Nat):(A.drop z).getD j 0=A.getD (z+j) 0:=by simp [List.getD,List.getElem?_drop]
theorem Zkp (hR:Row l o A) (hF:Fst l o c A) (hs:∀ v∈l,still v=true) (hA:∀ x∈A,Dg 65536 x) (hn:A.length+2<1073741824) {k b u u2:Int}{e:Bool}{P R z:Nat}(hP:0<P) (hPR:P*R=65536) (hz:z≤A.length) (g:Nat→Value):
  RunsW (Zr prog Zf Zn hcV) (.block 4 (.loop (rL3 f89))) ([sl 0 o A.length c,.int .i64 k,undef,undef,Zp,.bool false,.bool e,.int .i64 b,.int .i64 u,.int .u32 (P:Nat),.int .i64 u2,Zp,.int .i64 (z:Nat)]++tl 76 g,⟨1,[(l,tR)]⟩,[]) fun ex Y=>match ex with | none=>Z8c l o c A k b u u2 e P z Y | some none=>False | some (some _)=>False:=by
 refine RunsW.forLoop (P:=Z8c l o c A k b u u2 e P z) (R:=fun _=>False) (ZAc l o c A k b u u2 e P z) ?_ (n:=A.length-z) ⟨z,[],rfl,Nat.le_refl _,hz,by simp,(fun x hx=>by cases hx),by simp [vb],.inl ⟨by omega,⟨g,rfl⟩,rfl⟩⟩;rintro m Y ⟨i,O,hm,hzi,hi,hO,hOd,hv,hY⟩;by_cases hlt:i<A.length
 ·refine (Zko hR hF hs hA hn hP hPR hO (by omega) hlt hY).mono fun ex W hW=> ?_;obtain⟨rfl,z1,z2⟩:=hW;have hd:=zy hA i;have hl:=Zm3 (x1:=dgN A (i+1)) hP hPR hd.1;have ej:i+1-z=i-z+1:=by omega
  refine⟨A.length-(i+1),by omega,i+1,O++[((dwV A P R i:Nat):Int)],rfl,by omega,by omega,by rw[List.length_append,hO,ej];rfl,fun x hx=> ?_,?_,.inr ⟨by omega,by rw[ej];exact z1,z2⟩⟩
  ·rcases List.mem_append.1 hx with hx | hx
   ·exact hOd x hx
   ·rw[List.mem_singleton.1 hx];unfold dwV;exact⟨Int.natCast_nonneg _,Int.ofNat_lt.2 hl⟩
  ·have h1:=Zm2 (x1:=dgN A (i+1)) hPR hO hv;have h2:vb 65536 ((A.drop z).take (i-z+1))=vb 65536 ((A.drop z).take (i-z))+65536^(i-z)*dgN A i:=by
    rw[Zag,Zon,show z+(i-z)=i by omega];rfl
   rw[ej,h2];exact h1
 ·have hil:i=A.length:=by omega
  subst hil;have hz0:dgN A A.length=0:=by unfold dgN;simp [List.getD]
  rw[List.take_of_length_le (by simp),hz0] at hv;simp only[Nat.zero_mod,Nat.mul_zero,Nat.add_zero] at hv;obtain⟨t,h',s⟩:=Y;rcases hY with ⟨h0,⟨g,ht⟩,hh⟩ | ⟨h0,⟨g,ht⟩,hh⟩
  ·simp only at ht hh;subst ht hh;refine (Ze (Zh Zd Zu) (ZtC _ _ _ _ _ _ _ _ _ _ _ _ g) (Zt (Xb (by omega)))).mono fun ex W hW=> ?_;obtain⟨rfl,⟨g',z1⟩,z2⟩:=hW;exact⟨rfl,O,hO,hOd,hv,.inl ⟨h0,⟨g',z1⟩,z2⟩⟩
  ·simp only at ht hh;subst ht hh;refine (Ze (Zh Zd Zu) (ZtC _ _ _ _ _ _ _ _ _ _ _ _ g) (Zt (Xb (by omega)))).mono fun ex W hW=> ?_;obtain⟨rfl,⟨g',z1⟩,z2⟩:=hW;exact⟨rfl,O,hO,hOd,hv,.inr ⟨h0,⟨g',z1⟩,z2⟩⟩
end
end Go.Proofs.YtjlponbdflkbjaaGreatDoor
namespace Go.Proofs.YtjlponbdflkbjaaGreatDoor
open Go.Proofs.Tryz
open Go.KRun Go.Nt
set_option maxRecDepth 100000
def Zyl (F:Func):Code:=ZW (rPr F) (.seq (.seq (rR5 F) (.block 0 (.loop (rL1 F)))) (.seq (rIf F) (.seq (Z7Y F) (.seq (.seq (Z7Z F) (.block 2 (.loop (rL2 F)))) (.seq (Z44 F) (.seq (Z8a F) (.seq (.seq (Z8b F) (.block 4 (.loop (rL3 F)))) (rEn F))))))))
section
variable {l : List Value} {o c : Nat} {A : List Int}
theorem Zfh (hR:Row l o A) (hA:∀ x∈A,Dg 65536 x) (hn:A.length+2<1073741824) {k:Nat}(hk0:0<k) (hk:k<4611686018427387904) {P:Ex→Lf→Prop}{rest:Code}
  (h:∀ (g:Nat→Value) (u:Int),RunsW (Zr prog Zf Zn hcV) rest ([sl 0 o A.length c,.int .i64 (k:Nat),undef,undef,Zp,.bool false,.bool (decide (vb 65536 (A.take (k/16))≠0)),.int .i64 ((k/16:Nat):Int),.int .i64 u]++tl 80 g,⟨1,[(l,tR)]⟩,[]) P):
  RunsW (Zr prog Zf Zn hcV) (ZW (rPr f89) (.seq (.seq (rR5 f89) (.block 0 (.loop (rL1 f89)))) rest)) ([sl 0 o A.length c,.int .i64 (k:Nat)]++List.replicate 87 undef,⟨1,[(l,tR)]⟩,[]) P:=by
 have ek:k16 (k:Int)=((k/16:Nat):Int):=by unfold k16;rw[Int.tdiv_eq_ediv_of_nonneg (by omega),Zw (by omega) (by omega)];omega
 refine Z0 (Zh Zd Zu) (ZxV _ A.length c k _) (Zt (Xb (by omega))) fun g=> ?_;rw[ek];refine Zgs (Ze (Zh Zd Zu) (Z2U _ k _ _ g) (fun x hx=>by cases hx)) (fun e y he=>by cases he.1) (P2:=fun e Y=>match e with | none=>(∃ g u,Y.1=[sl 0 o A.length c,.int .i64 (k:Nat),undef,undef,Zp,.bool false,.bool (decide (vb 65536 (A.take (k/16))≠0)),.int .i64 ((k/16:Nat):Int),.int .i64 u]++tl 80 g)∧Y.2.1=⟨1,[(l,tR)]⟩ | some none=>False | some (some _)=>False) ?_ (fun e y he=>by match e,he with | none,he=>exact he | some id,he=>exact he) ?_
 ·rintro⟨t,h',s⟩ ⟨_,⟨g',ht⟩,hh⟩;simp only at ht hh;subst ht hh;exact RunsW.script (Zkm hR hA (by omega) _ (by omega) g').w
 ·rintro⟨t,h',s⟩ ⟨⟨g',u,ht⟩,hh⟩;simp only at ht hh;subst ht hh;exact RunsW.script (h g' u)
theorem Zkq (hR:Row l o A) (hA:∀ x∈A,Dg 65536 x) (hn:A.length+2<1073741824) {k:Nat}(hk0:0<k) (hk:k<4611686018427387904) (hz:A.length≤k/16):
  RunsW (Zr prog Zf Zn hcV) (Zyl f89) ([sl 0 o A.length c,.int .i64 (k:Nat)]++List.replicate 87 undef,⟨1,[(l,tR)]⟩,[]) fun e z=>(e=none∨e=some none)∧ZV prog f89 z.1 z.2.1=some (.tuple #[Zp,.bool (decide (vb 65536 A % 2^k≠0))]):=by
 have el:decide (vb 65536 (A.take (k/16))≠0)=decide (vb 65536 A % 2^k≠0):=by
  congr 1;have h1:=Go.Nt.lost_iff hA k;have h2:dgS A (k/16)=0:=by unfold dgS;simp [List.getD,List.getElem?_eq_none hz]
  rw[h2,Nat.zero_mod] at h1;simp only[ne_eq,not_true_eq_false,or_false] at h1;simp only[ne_eq,eq_iff_iff];exact h1.symm
 refine Zfh hR hA hn hk0 hk fun g u=> ?_;refine RunsW.seq (P1:=fun e Y=>e=some none∧(∃ g,Y.1=[sl 0 o A.length c,.int .i64 (k:Nat),undef,undef,Zp,.bool (decide (vb 65536 (A.take (k/16))≠0))]++tl 83 g)∧Y.2.1=⟨1,[(l,tR)]⟩) (Ze (Zh Zd Zu) (Zya _ A.length c k _ u _ _ g) (Zt (Xa (by omega)))) (fun y he=>by cases he.1) (fun e y he=> ?_);obtain⟨he,⟨g',z1⟩,z2⟩:=he;refine⟨.inr he,?_⟩;rw[z1,z2,el];rfl
theorem Zoo (hR:Row l o A) (hF:Fst l o c A) (hs:∀ v∈l,still v=true) (hA:∀ x∈A,Dg 65536 x) (hn:A.length+2<1073741824) {k:Nat}(hk0:0<k) (hk:k<4611686018427387904) (hz:k/16<A.length) {V:Nat}(hV:V=vb 65536 A/2^k):
  RunsW (Zr prog Zf Zn hcV) (Zyl f89) ([sl 0 o A.length c,.int .i64 (k:Nat)]++List.replicate 87 undef,⟨1,[(l,tR)]⟩,[]) fun e z=>(e=none∨e=some none)∧ZV prog f89 z.1 z.2.1=some (.tuple #[sl 1 0 (d16 V).length (d16 V).length,.bool (decide (vb 65536 A % 2^k≠0))])∧∃ r,z.2.1.blk? 1=some (wU (d16 V)++r,tU):=by
 have hP0:0<2^(k % 16):=Nat.pow_pos (by omega);have hPR:=Zhw (s:=k % 16) (by omega);have hPb:2^(k % 16)≤32768:=by
  have:=Nat.pow_le_pow_right (show 0<2 by omega) (show k % 16≤15 by omega);omega
 have hd:=zy hA (k/16);have hl:=Go.Nt.lost_iff hA k;refine Zfh hR hA hn hk0 hk fun g u=> ?_;refine RunsW.seq (P1:=fun e Y=>e=none∧(∃ g,Y.1=[sl 0 o A.length c,.int .i64 (k:Nat),undef,undef,Zp,.bool false,.bool (decide (vb 65536 (A.take (k/16))≠0)),.int .i64 ((k/16:Nat):Int),.int .i64 u]++tl 80 g)∧Y.2.1=⟨1,[(l,tR)]⟩) (Ze (Zh Zd Zu) (Zyb _ A.length c k _ u _ _ g) (Zt (Xb (by omega)))) ?_ (fun e y he=>by cases he.1);rintro⟨t,h',s⟩ ⟨_,⟨g,ht⟩,hh⟩;simp only at ht hh;subst ht hh;refine RunsW.seq (P1:=fun e Y=>e=none∧(∃ g,Y.1=[sl 0 o A.length c,.int .i64 (k:Nat),undef,undef,Zp,.bool false,.bool (decide (vb 65536 (A.take (k/16))≠0)),.int .i64 ((k/16:Nat):Int),.int .i64 u,.int .u32 1]++tl 79 g)∧Y.2.1=⟨1,[(l,tR)]⟩) (Ze (Zh Zd Zu) (Zyc _ k _ u _ _ g) (fun x hx=>by cases hx)) ?_ (fun e y he=>by cases he.1);rintro⟨t,h',s⟩ ⟨_,⟨g,ht⟩,hh⟩;simp only at ht hh;subst ht hh;refine Zgs (Ze (Zh Zd Zu) (Zyd _ k _ u _ _ g) (fun x hx=>by cases hx)) (fun e y he=>by cases he.1) (P2:=fun e Y=>match e with | none=>(∃ g u2,Y.1=[sl 0 o A.length c,.int .i64 (k:Nat),undef,undef,Zp,.bool false,.bool (decide (vb 65536 (A.take (k/16))≠0)),.int .i64 ((k/16:Nat):Int),.int .i64 u,.int .u32 ((2^(k % 16):Nat):Int),.int .i64 u2]++tl 78 g)∧Y.2.1=⟨1,[(l,tR)]⟩ | some none=>False | some (some _)=>False) ?_ (fun e y he=>by match e,he with | none,he=>exact he | some id,he=>exact he) ?_
 ·rintro⟨t,h',s⟩ ⟨_,⟨g',ht⟩,hh⟩;simp only at ht hh;subst ht hh;exact RunsW.script (Zkn _ k _ u _ _ g').w
 rintro⟨t,h',s⟩ ⟨⟨g,u2,ht⟩,hh⟩;simp only at ht hh;subst ht hh;refine RunsW.seq (P1:=fun e Y=>e=none∧(∃ g,Y.1=[sl 0 o A.length c,.int .i64 (k:Nat),undef,undef,Zp,.bool false,.bool (decide (vb 65536 A % 2^k≠0)),.int .i64 ((k/16:Nat):Int),.int .i64 u,.int .u32 ((2^(k % 16):Nat):Int),.int .i64 u2]++tl 78 g)∧Y.2.1=⟨1,[(l,tR)]⟩) ?_ ?_ (fun e y he=>by cases he.1)
 ·by_cases h0:vb 65536 (A.take (k/16))=0
  ·rw[Xb (show ¬ (vb 65536 (A.take (k/16))≠0) by omega)];have ev:(((A.getD (k/16) 0)).tmod ((2^(k % 16):Nat):Int) !=0)=decide (vb 65536 A % 2^k≠0):=by
    rw[← hd.2,Int.tmod_eq_emod_of_nonneg (by omega),show ((dgN A (k/16):Nat):Int) % ((2^(k % 16):Nat):Int)=((dgN A (k/16) % 2^(k % 16):Nat):Int) from rfl,Bool.eq_iff_iff];rw[h0] at hl;simp only[ne_eq,not_true_eq_false,false_or] at hl;simp only[bne_iff_ne,ne_eq,Xi,hl,ZtB];omega
   refine (Ze (Zh Zd Zu) (Zyf o A.length c k ((k/16:Nat):Int) u u2 ((2^(k % 16):Nat):Int) (A.getD (k/16) 0) l (decide (vb 65536 A % 2^k≠0)) g) (Zi ev (Zi (Xb (by omega)) (Zi (by rw[Xg,Nat.mul_one,hR.cell hz];simp [Z5]) (Zt (Xa (by omega))))))).mono fun e w hw=>hw
  ·rw[Xa h0,Xa (hl.2 (.inl h0))];exact Ze (Zh Zd Zu) (Zye _ k _ u u2 _ _ g) (fun x hx=>by cases hx)
 rintro⟨t,h',s⟩ ⟨_,⟨g,ht⟩,hh⟩;simp only at ht hh;subst ht hh;refine RunsW.seq (P1:=fun e Y=>e=none∧(∃ g,Y.1=[sl 0 o A.length c,.int .i64 (k:Nat),undef,undef,Zp,.bool false,.bool (decide (vb 65536 A % 2^k≠0)),.int .i64 ((k/16:Nat):Int),.int .i64 u,.int .u32 ((2^(k % 16):Nat):Int),.int .i64 u2,Zp]++tl 77 g)∧Y.2.1=⟨1,[(l,tR)]⟩) (Ze (Zh Zd Zu) (Zyg _ k _ u u2 _ _ _ g) (fun x hx=>by cases hx)) ?_ (fun e y he=>by cases he.1);rintro⟨t,h',s⟩ ⟨_,⟨g,ht⟩,hh⟩;simp only at ht hh;subst ht hh;refine Zgs (Ze (Zh Zd Zu) (Zyh _ k _ u u2 _ _ _ g) (fun x hx=>by cases hx)) (fun e y he=>by cases he.1) (P2:=fun e Y=>match e with | none=>Z8c l o c A k ((k/16:Nat):Int) u u2 (decide (vb 65536 A % 2^k≠0)) (2^(k % 16)) (k/16) Y | some none=>False | some (some _)=>False) ?_ (fun e y he=>by match e,he with | none,he=>exact he | some id,he=>exact he) ?_
 ·rintro⟨t,h',s⟩ ⟨_,⟨g',ht⟩,hh⟩;simp only at ht hh;subst ht hh;exact RunsW.script (Zkp hR hF hs hA hn hP0 hPR (by omega) g')
 rintro⟨t,h',s⟩ ⟨O,hO,hOd,hv,hY⟩;rcases hY with ⟨e0,_⟩ | ⟨_,⟨g',ht⟩,hh⟩
 ·omega
 ·simp only at ht hh;subst ht hh;have hval:vb 65536 O=V:=by rw[hV];exact Zqz hA hv
  have hrow:Zbm tU (wU O) 0 (A.length-k/16) grown=true:=by
   rw[← hO];exact Zap (fun x hx=>⟨(hOd x hx).1,by have:=(hOd x hx).2;omega⟩) (by omega) (ZyQ _)
  refine (Ze (Zh Zd Zu) (Zyk _ k _ u u2 _ _ _ (A.length-k/16) (l,tR) (wU O) g') (Zt hrow)).mono fun e z he=> ?_;obtain⟨rfl,⟨g2,e1⟩,e2⟩:=he;have et:Zl (Zx (wU O) 0 (A.length-k/16))=(d16 V).length:=by
   rw[← hO,ZaO,Zat (by omega) hOd,hval];rfl
  refine⟨.inr rfl,?_,?_⟩
  ·rw[e1,e2,et];rfl
  ·rw[e2];refine⟨wU (O.drop (Zl O)),?_⟩;have e3:wU (d16 V)++wU (O.drop (Zl O))=wU O:=by
    unfold d16;rw[← hval,← zj (by omega) _ hOd,← ZX,List.take_append_drop]
   rw[e3];rfl
end
theorem Zfi:f89.body=some (Zyl f89):=Zok
theorem Zji {ty:TypeId}{l:List Value}{o n c:Nat}(r:Zbm ty l o n c=true) (hs:∀ v∈l,still v=true):Fst l o c (Zx l o n):=by
 intro h hb;have hlen:=(zt r).2.1;rw[hlen];constructor
 ·simp only[zJ,hb,Xh];refine⟨?_,List.all_eq_true.2 hs⟩;unfold Zbm at r ⊢;simp only[Xh,Bool.not_eq_true'] at r ⊢;obtain⟨⟨⟨⟨⟨⟨_,_⟩,p3⟩,p4⟩,p5⟩,p6⟩,p7⟩:=r;exact⟨⟨⟨⟨⟨⟨ZbB,by kernel_rfl⟩,p3⟩,p4⟩,p5⟩,p6⟩,p7⟩
 ·simp [Zq,hb]
def Ze8 (h:Hp) (p:Option Addr) (n c:Nat) (k:Int):Bool:=zJ h p n c && dgB (Zq h p n) && Nat.blt (n+2) 1073741824 && decide (0<k∧k<4611686018427387904)
def Zym:Zad:=fun vals h s=>
 match vals,s with
 | [.slice p n c,.int .i64 k],.inr (.inr (.inr (.inl d))):: .inr (.inr (.inr (.inl e)))::s'=>
  match d with
  | true=>some (.tuple #[sl h.n 0 (d16 (vO h p n/2^k.toNat)).length (d16 (vO h p n/2^k.toNat)).length,.bool e],h.push (wU (d16 (vO h p n/2^k.toNat))) tU,s',[(decide (vO h p n % 2^k.toNat≠0),e),(decide (k.toNat/16<n),true),(Ze8 h p n c k,true)])
  | false=>some (.tuple #[Zp,.bool e],h,s',[(decide (vO h p n % 2^k.toNat≠0),e),(decide (k.toNat/16<n),false),(Ze8 h p n c k,true)])
 | _,_=>none
theorem Zsg:Z8 89 Zym:=by
 intro vals h s v h' s' lg hg hl m B w E hv;unfold Zym at hg;split at hg
 ·rename_i p n c k d e s2;split at hg
  ·cases hg;have l1:=hl _ (Xe);have l2:=hl _ (Xd _ (Xe));have l3:=hl _ (Xd _ (Xd _ Xf));simp only at l1 l2 l3;simp only[Ze8,Xh,Xi] at l2 l3;obtain⟨⟨⟨q1,q2⟩,q3⟩,q4⟩:=l3;have q2:=Zbw q2;have q3:=Zo.1 q3;obtain⟨K,rfl⟩:=Int.eq_ofNat_of_zero_le (show 0≤k by omega);rw[Xg] at l1 l2 ⊢;rcases ZF q1 with ⟨rfl,rfl,rfl,e0⟩ | ⟨b,o,x,rfl,hx,r1,rs,e0⟩
   ·omega
   ·rw[e0] at q2;obtain⟨h1,h2,h3,h4,h5,h6,h7⟩:=zt r1;have ev:vO h (some ⟨b,o,none⟩) n=vb 65536 (Zx x.1 o n):=by unfold vO;rw[e0]
    have r:=Zoo h1 (Zji r1 rs) rs q2 (by rw[h2];exact q3) (k:=K) (by omega) (by omega) (by rw[h2];exact l2) rfl;rw[h2,← ev,l1] at r;have e2:∀ L:Nat,rn (fun _=>h.n) (.tuple #[sl 1 0 L L,.bool e])= .tuple #[sl h.n 0 L L,.bool e]:=fun L=>by simp [rn,rn2,rn1,sl]
    have fin:=ZE (T:=Zr prog Zf Zn hcV) func89 Zfi (ZaK h7) (vals:=[sl 0 o n c,.int .i64 (K:Nat)]) (fun v hv=>by
     simp only[List.mem_cons,List.not_mem_nil,or_false] at hv;rcases hv with rfl | rfl<;>rfl) (k:=1) (cs:=wU (d16 (vO h (some ⟨b,o,none⟩) n/2^K))) (ty:=tU) (Zbb _) (by kernel_rfl) r (by rfl) E (s:=fun _=>b) (zH hx h5 h6 rfl)
    rw[e2] at fin;exact fin
  ·cases hg;have l1:=hl _ (Xe);have l2:=hl _ (Xd _ (Xe));have l3:=hl _ (Xd _ (Xd _ Xf));simp only at l1 l2 l3;simp only[Ze8,Xh,Xi,decide_eq_false_iff_not] at l2 l3;obtain⟨⟨⟨q1,q2⟩,q3⟩,q4⟩:=l3;have q2:=Zbw q2;have q3:=Zo.1 q3;obtain⟨K,rfl⟩:=Int.eq_ofNat_of_zero_le (show 0≤k by omega);rw[Xg] at l1 l2;by_cases hn:n=0
   ·subst hn;have hlen:=zK q1;have e0:Zq h p 0=[]:=List.length_eq_zero_iff.1 hlen;have ev:vO h p 0=0:=by unfold vO;rw[e0];rfl
    have ee:e=false:=by rw[← l1,ev];simp
    subst ee;obtain⟨x,p',a,NA,eA,fA⟩:=ZbF 0 q1;have ek:k16 (K:Int)=((K/16:Nat):Int):=by unfold k16;rw[Int.tdiv_eq_ediv_of_nonneg (by omega),Zw (by omega) (by omega)];omega
    have hr:Runs (Zr prog Zf Zn hcV) (Zs f89) ([.slice p' 0 c,.int .i64 (K:Nat)]++List.replicate 87 undef,⟨1,[x]⟩,[]) fun e z=>(e=none∨e=some none)∧ZV prog f89 z.1 z.2.1=some (.tuple #[Zp,.bool false]):=by
     by_cases hk:0<K/16
     ·refine (Zb (Zh Zd Zu) (Zol p' c K _) (Zi (show decide (k16 (K:Int)≥((0:Nat):Int))=true by rw[ek];exact Xa (by omega)) (Zi rfl (Zi (show decide (0<k16 (K:Int))=true by rw[ek];exact Xa (by omega)) (Zt (Xb (by omega))))))).mono fun e z he=> ?_;obtain⟨rfl,⟨g,e2⟩,e3⟩:=he;refine⟨.inr rfl,?_⟩;rw[e2,e3];rfl
     ·refine (Zb (Zh Zd Zu) (Zkl p' c K _) (Zi (show decide (k16 (K:Int)≥((0:Nat):Int))=true by rw[ek];exact Xa (by omega)) (Zi (show decide (0<k16 (K:Int))=false by rw[ek];exact Xb (by omega)) (Zt (Xb (by omega)))))).mono fun e z he=> ?_;obtain⟨rfl,⟨g,e2⟩,e3⟩:=he;refine⟨.inr rfl,?_⟩;rw[e2,e3];rfl
    have:=ZB (T:=Zr prog Zf Zn hcV) func89 Zkk (h0:=⟨1,[x]⟩) ⟨rfl,fun b z hz=>by obtain⟨_,rfl⟩:=ZgN hz;exact⟨NA.ros.1,NA.lt0,NA.ros.2⟩⟩ (vals:=[.slice p' 0 c,.int .i64 (K:Nat)]) (fun v hv=>by
     simp only[List.mem_cons,List.not_mem_nil,or_false] at hv;rcases hv with rfl | rfl
     ·exact NA.lt (by show 0<1;omega)
     ·rfl) (by rfl) hr.w E (s:=fun _=>a) (fun i z hz ht=>by obtain⟨_,rfl⟩:=ZgN hz;exact fA ht)
    simp only[List.map_cons,List.map_nil] at this;rw[eA _ rfl] at this;exact this
   ·rcases ZF q1 with ⟨rfl,rfl,rfl,e0⟩ | ⟨b,o,x,rfl,hx,r1,rs,e0⟩
    ·exact absurd rfl hn
    ·rw[e0] at q2;obtain⟨h1,h2,h3,h4,h5,h6,h7⟩:=zt r1;have ev:vO h (some ⟨b,o,none⟩) n=vb 65536 (Zx x.1 o n):=by unfold vO;rw[e0]
     have r:=Zkq (c:=c) h1 q2 (by rw[h2];exact q3) (k:=K) (by omega) (by omega) (by rw[h2];omega);rw[h2,← ev,l1] at r;exact ZB (T:=Zr prog Zf Zn hcV) func89 Zfi (ZaK h7) (vals:=[sl 0 o n c,.int .i64 (K:Nat)]) (fun v hv=>by
      simp only[List.mem_cons,List.not_mem_nil,or_false] at hv;rcases hv with rfl | rfl<;>rfl) (by rfl) r E (s:=fun _=>b) (zH hx h5 h6 rfl)
 ·cases hg
def hcW:Hc:=zS 48 Z43 (zS 50 ZxQ (zS 90 ZxU (zS 89 Zym (zS 55 Zqt (zS 56 ZpJ (zS 91 ZpO (zS 92 ZlT (zS 46 ZpW hcV))))))))
theorem ZK:HcOk hcW:=Z1 func48 rfl Zoe (Z1 func50 rfl Zsb (Z1 func90 rfl Zsf (Z1 func89 rfl Zsg (Z1 func55 rfl Zf9 (Z1 func56 rfl Zf2 (Z1 func91 rfl Zio (Z1 func92 rfl Zf3 (Z1 func46 rfl Ziq Zu))))))))
end Go.Proofs.YtjlponbdflkbjaaGreatDoor
namespace Go.Proofs.YtjlponbdflkbjaaGreatDoor
open Go.KRun Go.Nt
def bOf (m:Bool) (e:Int) (v:Value):List Value×TypeId:=([.bool m,.int .i64 e,v],65)
def sOf (b V:Nat):Value:=sl b 0 (d16 V).length (d16 V).length
def vRN (m:Bool) (e:Int) (v:Value):Value:= .agg #[.bool m,.int .i64 e,v]
end Go.Proofs.YtjlponbdflkbjaaGreatDoor
namespace Go.Proofs.YtjlponbdflkbjaaGreatDoor
open Go.KRun Go.Nt Go.Wd
set_option maxRecDepth 100000
def nxt (h:Hp) (V:Nat):Hp:=h.push (wU (d16 V)) tU
def ZcL:Bool×Bool:=(decide (0≤(1:Int)∧(1:Int)<18446744073709551616),true)
theorem zF:(d16 1).length=1:=by
 unfold d16;rw[Zcy (by omega) (by omega),show 1/65536=0 from rfl,zp];rfl
theorem Zjj {A:Nat}(h:¬ 0<(d16 A).length):A=0:=by
 have:d16 A=[]:=List.length_eq_zero_iff.1 (by omega);exact (Zcz (by omega)).1 this
end Go.Proofs.YtjlponbdflkbjaaGreatDoor
namespace Go.Proofs.YtjlponbdflkbjaaGreatDoor
open Go.Proofs.Tryz
open Go.IntKind
open Go.KRun Go.Nt Go.Wd
set_option maxRecDepth 100000
set_option linter.unusedVariables false
def tC (F:Func):Nat→Code
 | 0=>Zs F
 | n+1=>Zz (tC F n)
def tS1 (F:Func):List Code:=[Z2 (tC F 0),Z2 (tC F 1),Z2 (tC F 2),Z2 (tC F 3),Z2 (tC F 4),Z2 (tC F 5)]
def tS2 (F:Func):List Code:=[Z2 (tC F 6),Z2 (tC F 7),Z2 (tC F 8)]
def tS3 (F:Func):Code:=Z2 (tC F 9)
def tS4 (F:Func):Code:=Z2 (tC F 10)
def tS5 (F:Func):Code:=tC F 11
theorem Zek:f49.body=some (Zs f49):=by kernel_rfl
theorem Zsh:f49.body=some (ZW (tS1 f49) (ZW (tS2 f49) (.seq (tS3 f49) (.seq (tS4 f49) (tS5 f49))))):=by kernel_rfl
abbrev pX9 (neg:Bool) (E N M:Int) (o n c:Nat) (r:List Value):List Value:=vRN neg E (sl 0 o n c):: .int .i64 N:: .int .i64 M:: .pointer (some ⟨1,0,none⟩)::undef::undef::r
def bX (neg:Bool) (E:Int) (o n c:Nat):List Value×TypeId:=bOf neg E (sl 0 o n c)
def hX (neg:Bool) (E:Int) (o n c:Nat) (l:List Value):Hp:=⟨2,[bX neg E o n c,(l,tR)]⟩
def hQ (neg:Bool) (E:Int) (o n c:Nat) (l:List Value) (q:Nat):Hp:=⟨3,[(wU (d16 q),tU),bX neg E o n c,(l,tR)]⟩
def aX (o:Nat):Option Addr:=some ⟨0,o,none⟩
def dif (x y:Int):Int:=i64.wrap (x-y)
def ZcM (h:Hp) (p:Option Addr) (n c:Nat) (k:Int):Bool:=zJ h p n c && dgB (Zq h p n) && Nat.blt (k.toNat/16+n+3) 1073741824 && decide (0≤k)
def zZ (h:Hp) (p:Option Addr) (n c:Nat):Bool:=zJ h p n c && Zf5 (Zq h p n) && Nat.blt n 1073741824
theorem Z2X (neg:Bool) (E N M:Int) (o n c:Nat) (l:List Value):Zg (evC (Zr prog Zf Zn hcW) 200 false (Zs f49) ([vRN neg E (sl 0 o n c),.int .i64 N,.int .i64 M]++List.replicate 103 undef,⟨1,[(l,tR)]⟩,[cmp true,cmp true]) ⟨[],[],[]⟩) 8 98 (some none) (pX9 neg E N M o n c [sOf 2 ((vO (hX neg E o n c l) (aX o) n)*2^(dif E N).toNat),.bool false]) (nxt (hX neg E o n c l) ((vO (hX neg E o n c l) (aX o) n)*2^(dif E N).toNat)) [(ZcM (hX neg E o n c l) (aX o) n c (dif E N),true),(decide (0<n),true),(decide (E≥N),true)]:=by and_intros<;>kernel_rfl
theorem Z2Y (neg:Bool) (E N M:Int) (o n c:Nat) (l:List Value):Zg (evC (Zr prog Zf Zn hcW) 200 false (Zs f49) ([vRN neg E (sl 0 o n c),.int .i64 N,.int .i64 M]++List.replicate 103 undef,⟨1,[(l,tR)]⟩,[cmp true,cmp false]) ⟨[],[],[]⟩) 8 98 (some none) (pX9 neg E N M o n c [Zp,.bool false]) (hX neg E o n c l) [(zJ (hX neg E o n c l) (aX o) n c,true),(decide (0<n),false),(decide (E≥N),true)]:=by and_intros<;>kernel_rfl
theorem Z2Z (neg:Bool) (E N M:Int) (o n c:Nat) (l:List Value):Zg (evC (Zr prog Zf Zn hcW) 200 false (Zs f49) ([vRN neg E (sl 0 o n c),.int .i64 N,.int .i64 M]++List.replicate 103 undef,⟨1,[(l,tR)]⟩,[cmp false,cmp true,cmp false]) ⟨[],[],[]⟩) 8 98 (some none) (pX9 neg E N M o n c [sOf 2 ((vO (hX neg E o n c l) (aX o) n)/2^(dif N E).toNat),.bool false]) (nxt (hX neg E o n c l) ((vO (hX neg E o n c l) (aX o) n)/2^(dif N E).toNat)) [(decide ((vO (hX neg E o n c l) (aX o) n) % 2^(dif N E).toNat≠0),false),(decide ((dif N E).toNat/16<n),true),(Ze8 (hX neg E o n c l) (aX o) n c (dif N E),true),(decide (E≥N),false)]:=by and_intros<;>kernel_rfl
theorem Z3a (neg:Bool) (E N M:Int) (o n c:Nat) (l:List Value):Zg (evC (Zr prog Zf Zn hcW) 200 false (Zs f49) ([vRN neg E (sl 0 o n c),.int .i64 N,.int .i64 M]++List.replicate 103 undef,⟨1,[(l,tR)]⟩,[cmp false,cmp false,cmp false]) ⟨[],[],[]⟩) 8 98 (some none) (pX9 neg E N M o n c [Zp,.bool false]) (hX neg E o n c l) [(decide ((vO (hX neg E o n c l) (aX o) n) % 2^(dif N E).toNat≠0),false),(decide ((dif N E).toNat/16<n),false),(Ze8 (hX neg E o n c l) (aX o) n c (dif N E),true),(decide (E≥N),false)]:=by and_intros<;>kernel_rfl
theorem Z3b (neg d:Bool) (E N M:Int) (o n c:Nat) (l:List Value):Zg (evL (Zr prog Zf Zn hcW) 200 (tS1 f49) ([vRN neg E (sl 0 o n c),.int .i64 N,.int .i64 M]++List.replicate 103 undef,⟨1,[(l,tR)]⟩,[cmp false,cmp true,cmp true,cmp d]) ⟨[],[],[]⟩) 12 94 none (pX9 neg E N M o n c [Zp,.bool false,.int .i64 (dif N E),sOf 2 ((vO (hX neg E o n c l) (aX o) n)/2^(dif N E).toNat),.bool true,.bool d]) (nxt (hX neg E o n c l) ((vO (hX neg E o n c l) (aX o) n)/2^(dif N E).toNat)) [(((vO (nxt (hX neg E o n c l) ((vO (hX neg E o n c l) (aX o) n)/2^(dif N E).toNat)) (aX o) n/2^(dif (dif N E) 1).toNat % 2:Nat):Int)==1,d),(ZxT (nxt (hX neg E o n c l) ((vO (hX neg E o n c l) (aX o) n)/2^(dif N E).toNat)) (aX o) n c,true),(decide (0≤dif (dif N E) 1∧dif (dif N E) 1<4611686018427387904),true),(decide ((vO (hX neg E o n c l) (aX o) n) % 2^(dif N E).toNat≠0),true),(decide ((dif N E).toNat/16<n),true),(Ze8 (hX neg E o n c l) (aX o) n c (dif N E),true),(decide (E≥N),false)]:=by and_intros<;>kernel_rfl
theorem Z3c (neg d:Bool) (E N M:Int) (o n c:Nat) (l:List Value):Zg (evL (Zr prog Zf Zn hcW) 200 (tS1 f49) ([vRN neg E (sl 0 o n c),.int .i64 N,.int .i64 M]++List.replicate 103 undef,⟨1,[(l,tR)]⟩,[cmp false,cmp false,cmp true,cmp d]) ⟨[],[],[]⟩) 12 94 none (pX9 neg E N M o n c [Zp,.bool false,.int .i64 (dif N E),Zp,.bool true,.bool d]) (hX neg E o n c l) [(((vO (hX neg E o n c l) (aX o) n/2^(dif (dif N E) 1).toNat % 2:Nat):Int)==1,d),(ZxT (hX neg E o n c l) (aX o) n c,true),(decide (0≤dif (dif N E) 1∧dif (dif N E) 1<4611686018427387904),true),(decide ((vO (hX neg E o n c l) (aX o) n) % 2^(dif N E).toNat≠0),true),(decide ((dif N E).toNat/16<n),false),(Ze8 (hX neg E o n c l) (aX o) n c (dif N E),true),(decide (E≥N),false)]:=by and_intros<;>kernel_rfl
theorem Zyn (neg j:Bool) (E N M b:Int) (o n c q:Nat) (l:List Value) (g:Nat→Value):Zg (evL (Zr prog Zf Zn hcW) 200 (tS2 f49) ((pX9 neg E N M o n c [Zp,.bool false,.int .i64 b,sOf 2 q,.bool true,.bool false])++tl 94 g,(hQ neg E o n c l q),[cmp false]) ⟨[],[],[]⟩) 14 92 none (pX9 neg E N M o n c [Zp,.bool false,.int .i64 b,sOf 2 q,.bool true,.bool false,sl 0 o n c,.bool false]) (hQ neg E o n c l q) [(decide (b≤((bl (vO (hQ neg E o n c l q) (aX o) n):Nat):Int)),false),(zZ (hQ neg E o n c l q) (aX o) n c,true)]:=by and_intros<;>kernel_rfl
theorem Zyo (neg j:Bool) (E N M b:Int) (o n c q:Nat) (l:List Value) (g:Nat→Value):Zg (evL (Zr prog Zf Zn hcW) 200 (tS2 f49) ((pX9 neg E N M o n c [Zp,.bool false,.int .i64 b,sOf 2 q,.bool true,.bool true])++tl 94 g,(hQ neg E o n c l q),[cmp false,cmp true,cmp j]) ⟨[],[],[]⟩) 14 92 none (pX9 neg E N M o n c [Zp,.bool false,.int .i64 b,sOf 2 q,.bool true,.bool true,sl 0 o n c,.bool j]) (nxt (nxt (hQ neg E o n c l q) 1) (vO (nxt (hQ neg E o n c l q) 1) (some ⟨3,0,none⟩) (d16 1).length*2^(dif b 1).toNat)) [(ZcR (vO (nxt (nxt (hQ neg E o n c l q) 1) (vO (nxt (hQ neg E o n c l q) 1) (some ⟨3,0,none⟩) (d16 1).length*2^(dif b 1).toNat)) (aX o) n) (vO (nxt (nxt (hQ neg E o n c l q) 1) (vO (nxt (hQ neg E o n c l q) 1) (some ⟨3,0,none⟩) (d16 1).length*2^(dif b 1).toNat)) (some ⟨4,0,none⟩) (d16 (vO (nxt (hQ neg E o n c l q) 1) (some ⟨3,0,none⟩) (d16 1).length*2^(dif b 1).toNat)).length)==0,j),(ZT (nxt (nxt (hQ neg E o n c l q) 1) (vO (nxt (hQ neg E o n c l q) 1) (some ⟨3,0,none⟩) (d16 1).length*2^(dif b 1).toNat)) (aX o) (some ⟨4,0,none⟩) n c (d16 (vO (nxt (hQ neg E o n c l q) 1) (some ⟨3,0,none⟩) (d16 1).length*2^(dif b 1).toNat)).length (d16 (vO (nxt (hQ neg E o n c l q) 1) (some ⟨3,0,none⟩) (d16 1).length*2^(dif b 1).toNat)).length,true),(ZcM (nxt (hQ neg E o n c l q) 1) (some ⟨3,0,none⟩) (d16 1).length (d16 1).length (dif b 1),true),(decide (0<(d16 1).length),true),ZcL,(decide (b≤((bl (vO (hQ neg E o n c l q) (aX o) n):Nat):Int)),false),(zZ (hQ neg E o n c l q) (aX o) n c,true)]:=by and_intros<;>kernel_rfl
theorem Zyp (neg j:Bool) (E N M b:Int) (o n c q:Nat) (l:List Value) (g:Nat→Value):Zg (evL (Zr prog Zf Zn hcW) 200 (tS2 f49) ((pX9 neg E N M o n c [Zp,.bool false,.int .i64 b,sOf 2 q,.bool true,.bool false])++tl 94 g,(hQ neg E o n c l q),[cmp true,cmp true,cmp true]) ⟨[],[],[]⟩) 14 92 none (pX9 neg E N M o n c [Zp,.bool false,.int .i64 b,sOf 2 q,.bool true,.bool false,sOf 4 (vO (nxt (hQ neg E o n c l q) (vO (hQ neg E o n c l q) (some ⟨2,0,none⟩) (d16 q).length*2^b.toNat)) (aX o) n-vO (nxt (hQ neg E o n c l q) (vO (hQ neg E o n c l q) (some ⟨2,0,none⟩) (d16 q).length*2^b.toNat)) (some ⟨3,0,none⟩) (d16 (vO (hQ neg E o n c l q) (some ⟨2,0,none⟩) (d16 q).length*2^b.toNat)).length),.bool false]) (nxt (nxt (hQ neg E o n c l q) (vO (hQ neg E o n c l q) (some ⟨2,0,none⟩) (d16 q).length*2^b.toNat)) (vO (nxt (hQ neg E o n c l q) (vO (hQ neg E o n c l q) (some ⟨2,0,none⟩) (d16 q).length*2^b.toNat)) (aX o) n-vO (nxt (hQ neg E o n c l q) (vO (hQ neg E o n c l q) (some ⟨2,0,none⟩) (d16 q).length*2^b.toNat)) (some ⟨3,0,none⟩) (d16 (vO (hQ neg E o n c l q) (some ⟨2,0,none⟩) (d16 q).length*2^b.toNat)).length)) [(ZT (nxt (hQ neg E o n c l q) (vO (hQ neg E o n c l q) (some ⟨2,0,none⟩) (d16 q).length*2^b.toNat)) (aX o) (some ⟨3,0,none⟩) n c (d16 (vO (hQ neg E o n c l q) (some ⟨2,0,none⟩) (d16 q).length*2^b.toNat)).length (d16 (vO (hQ neg E o n c l q) (some ⟨2,0,none⟩) (d16 q).length*2^b.toNat)).length && Nat.ble (vO (nxt (hQ neg E o n c l q) (vO (hQ neg E o n c l q) (some ⟨2,0,none⟩) (d16 q).length*2^b.toNat)) (some ⟨3,0,none⟩) (d16 (vO (hQ neg E o n c l q) (some ⟨2,0,none⟩) (d16 q).length*2^b.toNat)).length) (vO (nxt (hQ neg E o n c l q) (vO (hQ neg E o n c l q) (some ⟨2,0,none⟩) (d16 q).length*2^b.toNat)) (aX o) n),true),(decide (0<n),true),(ZcM (hQ neg E o n c l q) (some ⟨2,0,none⟩) (d16 q).length (d16 q).length b,true),(decide (0<(d16 q).length),true),(decide (b≤((bl (vO (hQ neg E o n c l q) (aX o) n):Nat):Int)),true),(zZ (hQ neg E o n c l q) (aX o) n c,true)]:=by and_intros<;>kernel_rfl
theorem Zyq (neg j:Bool) (E N M b:Int) (o n c q:Nat) (l:List Value) (g:Nat→Value):Zg (evL (Zr prog Zf Zn hcW) 200 (tS2 f49) ((pX9 neg E N M o n c [Zp,.bool false,.int .i64 b,sOf 2 q,.bool true,.bool true])++tl 94 g,(hQ neg E o n c l q),[cmp true,cmp true,cmp true,cmp true,cmp j]) ⟨[],[],[]⟩) 14 92 none (pX9 neg E N M o n c [Zp,.bool false,.int .i64 b,sOf 2 q,.bool true,.bool true,sOf 4 (vO (nxt (hQ neg E o n c l q) (vO (hQ neg E o n c l q) (some ⟨2,0,none⟩) (d16 q).length*2^b.toNat)) (aX o) n-vO (nxt (hQ neg E o n c l q) (vO (hQ neg E o n c l q) (some ⟨2,0,none⟩) (d16 q).length*2^b.toNat)) (some ⟨3,0,none⟩) (d16 (vO (hQ neg E o n c l q) (some ⟨2,0,none⟩) (d16 q).length*2^b.toNat)).length),.bool j]) (nxt (nxt (nxt (nxt (hQ neg E o n c l q) (vO (hQ neg E o n c l q) (some ⟨2,0,none⟩) (d16 q).length*2^b.toNat)) (vO (nxt (hQ neg E o n c l q) (vO (hQ neg E o n c l q) (some ⟨2,0,none⟩) (d16 q).length*2^b.toNat)) (aX o) n-vO (nxt (hQ neg E o n c l q) (vO (hQ neg E o n c l q) (some ⟨2,0,none⟩) (d16 q).length*2^b.toNat)) (some ⟨3,0,none⟩) (d16 (vO (hQ neg E o n c l q) (some ⟨2,0,none⟩) (d16 q).length*2^b.toNat)).length)) 1) (vO (nxt (nxt (nxt (hQ neg E o n c l q) (vO (hQ neg E o n c l q) (some ⟨2,0,none⟩) (d16 q).length*2^b.toNat)) (vO (nxt (hQ neg E o n c l q) (vO (hQ neg E o n c l q) (some ⟨2,0,none⟩) (d16 q).length*2^b.toNat)) (aX o) n-vO (nxt (hQ neg E o n c l q) (vO (hQ neg E o n c l q) (some ⟨2,0,none⟩) (d16 q).length*2^b.toNat)) (some ⟨3,0,none⟩) (d16 (vO (hQ neg E o n c l q) (some ⟨2,0,none⟩) (d16 q).length*2^b.toNat)).length)) 1) (some ⟨5,0,none⟩) (d16 1).length*2^(dif b 1).toNat)) [(ZcR (vO (nxt (nxt (nxt (nxt (hQ neg E o n c l q) (vO (hQ neg E o n c l q) (some ⟨2,0,none⟩) (d16 q).length*2^b.toNat)) (vO (nxt (hQ neg E o n c l q) (vO (hQ neg E o n c l q) (some ⟨2,0,none⟩) (d16 q).length*2^b.toNat)) (aX o) n-vO (nxt (hQ neg E o n c l q) (vO (hQ neg E o n c l q) (some ⟨2,0,none⟩) (d16 q).length*2^b.toNat)) (some ⟨3,0,none⟩) (d16 (vO (hQ neg E o n c l q) (some ⟨2,0,none⟩) (d16 q).length*2^b.toNat)).length)) 1) (vO (nxt (nxt (nxt (hQ neg E o n c l q) (vO (hQ neg E o n c l q) (some ⟨2,0,none⟩) (d16 q).length*2^b.toNat)) (vO (nxt (hQ neg E o n c l q) (vO (hQ neg E o n c l q) (some ⟨2,0,none⟩) (d16 q).length*2^b.toNat)) (aX o) n-vO (nxt (hQ neg E o n c l q) (vO (hQ neg E o n c l q) (some ⟨2,0,none⟩) (d16 q).length*2^b.toNat)) (some ⟨3,0,none⟩) (d16 (vO (hQ neg E o n c l q) (some ⟨2,0,none⟩) (d16 q).length*2^b.toNat)).length)) 1) (some ⟨5,0,none⟩) (d16 1).length*2^(dif b 1).toNat)) (some ⟨4,0,none⟩) (d16 (vO (nxt (hQ neg E o n c l q) (vO (hQ neg E o n c l q) (some ⟨2,0,none⟩) (d16 q).length*2^b.toNat)) (aX o) n-vO (nxt (hQ neg E o n c l q) (vO (hQ neg E o n c l q) (some ⟨2,0,none⟩) (d16 q).length*2^b.toNat)) (some ⟨3,0,none⟩) (d16 (vO (hQ neg E o n c l q) (some ⟨2,0,none⟩) (d16 q).length*2^b.toNat)).length)).length) (vO (nxt (nxt (nxt (nxt (hQ neg E o n c l q) (vO (hQ neg E o n c l q) (some ⟨2,0,none⟩) (d16 q).length*2^b.toNat)) (vO (nxt (hQ neg E o n c l q) (vO (hQ neg E o n c l q) (some ⟨2,0,none⟩) (d16 q).length*2^b.toNat)) (aX o) n-vO (nxt (hQ neg E o n c l q) (vO (hQ neg E o n c l q) (some ⟨2,0,none⟩) (d16 q).length*2^b.toNat)) (some ⟨3,0,none⟩) (d16 (vO (hQ neg E o n c l q) (some ⟨2,0,none⟩) (d16 q).length*2^b.toNat)).length)) 1) (vO (nxt (nxt (nxt (hQ neg E o n c l q) (vO (hQ neg E o n c l q) (some ⟨2,0,none⟩) (d16 q).length*2^b.toNat)) (vO (nxt (hQ neg E o n c l q) (vO (hQ neg E o n c l q) (some ⟨2,0,none⟩) (d16 q).length*2^b.toNat)) (aX o) n-vO (nxt (hQ neg E o n c l q) (vO (hQ neg E o n c l q) (some ⟨2,0,none⟩) (d16 q).length*2^b.toNat)) (some ⟨3,0,none⟩) (d16 (vO (hQ neg E o n c l q) (some ⟨2,0,none⟩) (d16 q).length*2^b.toNat)).length)) 1) (some ⟨5,0,none⟩) (d16 1).length*2^(dif b 1).toNat)) (some ⟨6,0,none⟩) (d16 (vO (nxt (nxt (nxt (hQ neg E o n c l q) (vO (hQ neg E o n c l q) (some ⟨2,0,none⟩) (d16 q).length*2^b.toNat)) (vO (nxt (hQ neg E o n c l q) (vO (hQ neg E o n c l q) (some ⟨2,0,none⟩) (d16 q).length*2^b.toNat)) (aX o) n-vO (nxt (hQ neg E o n c l q) (vO (hQ neg E o n c l q) (some ⟨2,0,none⟩) (d16 q).length*2^b.toNat)) (some ⟨3,0,none⟩) (d16 (vO (hQ neg E o n c l q) (some ⟨2,0,none⟩) (d16 q).length*2^b.toNat)).length)) 1) (some ⟨5,0,none⟩) (d16 1).length*2^(dif b 1).toNat)).length)==0,j),(ZT (nxt (nxt (nxt (nxt (hQ neg E o n c l q) (vO (hQ neg E o n c l q) (some ⟨2,0,none⟩) (d16 q).length*2^b.toNat)) (vO (nxt (hQ neg E o n c l q) (vO (hQ neg E o n c l q) (some ⟨2,0,none⟩) (d16 q).length*2^b.toNat)) (aX o) n-vO (nxt (hQ neg E o n c l q) (vO (hQ neg E o n c l q) (some ⟨2,0,none⟩) (d16 q).length*2^b.toNat)) (some ⟨3,0,none⟩) (d16 (vO (hQ neg E o n c l q) (some ⟨2,0,none⟩) (d16 q).length*2^b.toNat)).length)) 1) (vO (nxt (nxt (nxt (hQ neg E o n c l q) (vO (hQ neg E o n c l q) (some ⟨2,0,none⟩) (d16 q).length*2^b.toNat)) (vO (nxt (hQ neg E o n c l q) (vO (hQ neg E o n c l q) (some ⟨2,0,none⟩) (d16 q).length*2^b.toNat)) (aX o) n-vO (nxt (hQ neg E o n c l q) (vO (hQ neg E o n c l q) (some ⟨2,0,none⟩) (d16 q).length*2^b.toNat)) (some ⟨3,0,none⟩) (d16 (vO (hQ neg E o n c l q) (some ⟨2,0,none⟩) (d16 q).length*2^b.toNat)).length)) 1) (some ⟨5,0,none⟩) (d16 1).length*2^(dif b 1).toNat)) (some ⟨4,0,none⟩) (some ⟨6,0,none⟩) (d16 (vO (nxt (hQ neg E o n c l q) (vO (hQ neg E o n c l q) (some ⟨2,0,none⟩) (d16 q).length*2^b.toNat)) (aX o) n-vO (nxt (hQ neg E o n c l q) (vO (hQ neg E o n c l q) (some ⟨2,0,none⟩) (d16 q).length*2^b.toNat)) (some ⟨3,0,none⟩) (d16 (vO (hQ neg E o n c l q) (some ⟨2,0,none⟩) (d16 q).length*2^b.toNat)).length)).length (d16 (vO (nxt (hQ neg E o n c l q) (vO (hQ neg E o n c l q) (some ⟨2,0,none⟩) (d16 q).length*2^b.toNat)) (aX o) n-vO (nxt (hQ neg E o n c l q) (vO (hQ neg E o n c l q) (some ⟨2,0,none⟩) (d16 q).length*2^b.toNat)) (some ⟨3,0,none⟩) (d16 (vO (hQ neg E o n c l q) (some ⟨2,0,none⟩) (d16 q).length*2^b.toNat)).length)).length (d16 (vO (nxt (nxt (nxt (hQ neg E o n c l q) (vO (hQ neg E o n c l q) (some ⟨2,0,none⟩) (d16 q).length*2^b.toNat)) (vO (nxt (hQ neg E o n c l q) (vO (hQ neg E o n c l q) (some ⟨2,0,none⟩) (d16 q).length*2^b.toNat)) (aX o) n-vO (nxt (hQ neg E o n c l q) (vO (hQ neg E o n c l q) (some ⟨2,0,none⟩) (d16 q).length*2^b.toNat)) (some ⟨3,0,none⟩) (d16 (vO (hQ neg E o n c l q) (some ⟨2,0,none⟩) (d16 q).length*2^b.toNat)).length)) 1) (some ⟨5,0,none⟩) (d16 1).length*2^(dif b 1).toNat)).length (d16 (vO (nxt (nxt (nxt (hQ neg E o n c l q) (vO (hQ neg E o n c l q) (some ⟨2,0,none⟩) (d16 q).length*2^b.toNat)) (vO (nxt (hQ neg E o n c l q) (vO (hQ neg E o n c l q) (some ⟨2,0,none⟩) (d16 q).length*2^b.toNat)) (aX o) n-vO (nxt (hQ neg E o n c l q) (vO (hQ neg E o n c l q) (some ⟨2,0,none⟩) (d16 q).length*2^b.toNat)) (some ⟨3,0,none⟩) (d16 (vO (hQ neg E o n c l q) (some ⟨2,0,none⟩) (d16 q).length*2^b.toNat)).length)) 1) (some ⟨5,0,none⟩) (d16 1).length*2^(dif b 1).toNat)).length,true),(ZcM (nxt (nxt (nxt (hQ neg E o n c l q) (vO (hQ neg E o n c l q) (some ⟨2,0,none⟩) (d16 q).length*2^b.toNat)) (vO (nxt (hQ neg E o n c l q) (vO (hQ neg E o n c l q) (some ⟨2,0,none⟩) (d16 q).length*2^b.toNat)) (aX o) n-vO (nxt (hQ neg E o n c l q) (vO (hQ neg E o n c l q) (some ⟨2,0,none⟩) (d16 q).length*2^b.toNat)) (some ⟨3,0,none⟩) (d16 (vO (hQ neg E o n c l q) (some ⟨2,0,none⟩) (d16 q).length*2^b.toNat)).length)) 1) (some ⟨5,0,none⟩) (d16 1).length (d16 1).length (dif b 1),true),(decide (0<(d16 1).length),true),ZcL,(ZT (nxt (hQ neg E o n c l q) (vO (hQ neg E o n c l q) (some ⟨2,0,none⟩) (d16 q).length*2^b.toNat)) (aX o) (some ⟨3,0,none⟩) n c (d16 (vO (hQ neg E o n c l q) (some ⟨2,0,none⟩) (d16 q).length*2^b.toNat)).length (d16 (vO (hQ neg E o n c l q) (some ⟨2,0,none⟩) (d16 q).length*2^b.toNat)).length && Nat.ble (vO (nxt (hQ neg E o n c l q) (vO (hQ neg E o n c l q) (some ⟨2,0,none⟩) (d16 q).length*2^b.toNat)) (some ⟨3,0,none⟩) (d16 (vO (hQ neg E o n c l q) (some ⟨2,0,none⟩) (d16 q).length*2^b.toNat)).length) (vO (nxt (hQ neg E o n c l q) (vO (hQ neg E o n c l q) (some ⟨2,0,none⟩) (d16 q).length*2^b.toNat)) (aX o) n),true),(decide (0<n),true),(ZcM (hQ neg E o n c l q) (some ⟨2,0,none⟩) (d16 q).length (d16 q).length b,true),(decide (0<(d16 q).length),true),(decide (b≤((bl (vO (hQ neg E o n c l q) (aX o) n):Nat):Int)),true),(zZ (hQ neg E o n c l q) (aX o) n c,true)]:=by and_intros<;>kernel_rfl
theorem Zyr (neg j:Bool) (E N M b:Int) (o n c q:Nat) (l:List Value) (g:Nat→Value):Zg (evL (Zr prog Zf Zn hcW) 200 (tS2 f49) ((pX9 neg E N M o n c [Zp,.bool false,.int .i64 b,sOf 2 q,.bool true,.bool false])++tl 94 g,(hQ neg E o n c l q),[cmp true,cmp false,cmp true]) ⟨[],[],[]⟩) 14 92 none (pX9 neg E N M o n c [Zp,.bool false,.int .i64 b,sOf 2 q,.bool true,.bool false,sOf 3 (vO (hQ neg E o n c l q) (aX o) n-vO (hQ neg E o n c l q) none 0),.bool false]) (nxt (hQ neg E o n c l q) (vO (hQ neg E o n c l q) (aX o) n-vO (hQ neg E o n c l q) none 0)) [(ZT (hQ neg E o n c l q) (aX o) none n c 0 0 && Nat.ble (vO (hQ neg E o n c l q) none 0) (vO (hQ neg E o n c l q) (aX o) n),true),(decide (0<n),true),(zJ (hQ neg E o n c l q) (some ⟨2,0,none⟩) (d16 q).length (d16 q).length,true),(decide (0<(d16 q).length),false),(decide (b≤((bl (vO (hQ neg E o n c l q) (aX o) n):Nat):Int)),true),(zZ (hQ neg E o n c l q) (aX o) n c,true)]:=by and_intros<;>kernel_rfl
theorem Zys (neg j:Bool) (E N M b:Int) (o n c q:Nat) (l:List Value) (g:Nat→Value):Zg (evL (Zr prog Zf Zn hcW) 200 (tS2 f49) ((pX9 neg E N M o n c [Zp,.bool false,.int .i64 b,sOf 2 q,.bool true,.bool true])++tl 94 g,(hQ neg E o n c l q),[cmp true,cmp false,cmp true,cmp true,cmp j]) ⟨[],[],[]⟩) 14 92 none (pX9 neg E N M o n c [Zp,.bool false,.int .i64 b,sOf 2 q,.bool true,.bool true,sOf 3 (vO (hQ neg E o n c l q) (aX o) n-vO (hQ neg E o n c l q) none 0),.bool j]) (nxt (nxt (nxt (hQ neg E o n c l q) (vO (hQ neg E o n c l q) (aX o) n-vO (hQ neg E o n c l q) none 0)) 1) (vO (nxt (nxt (hQ neg E o n c l q) (vO (hQ neg E o n c l q) (aX o) n-vO (hQ neg E o n c l q) none 0)) 1) (some ⟨4,0,none⟩) (d16 1).length*2^(dif b 1).toNat)) [(ZcR (vO (nxt (nxt (nxt (hQ neg E o n c l q) (vO (hQ neg E o n c l q) (aX o) n-vO (hQ neg E o n c l q) none 0)) 1) (vO (nxt (nxt (hQ neg E o n c l q) (vO (hQ neg E o n c l q) (aX o) n-vO (hQ neg E o n c l q) none 0)) 1) (some ⟨4,0,none⟩) (d16 1).length*2^(dif b 1).toNat)) (some ⟨3,0,none⟩) (d16 (vO (hQ neg E o n c l q) (aX o) n-vO (hQ neg E o n c l q) none 0)).length) (vO (nxt (nxt (nxt (hQ neg E o n c l q) (vO (hQ neg E o n c l q) (aX o) n-vO (hQ neg E o n c l q) none 0)) 1) (vO (nxt (nxt (hQ neg E o n c l q) (vO (hQ neg E o n c l q) (aX o) n-vO (hQ neg E o n c l q) none 0)) 1) (some ⟨4,0,none⟩) (d16 1).length*2^(dif b 1).toNat)) (some ⟨5,0,none⟩) (d16 (vO (nxt (nxt (hQ neg E o n c l q) (vO (hQ neg E o n c l q) (aX o) n-vO (hQ neg E o n c l q) none 0)) 1) (some ⟨4,0,none⟩) (d16 1).length*2^(dif b 1).toNat)).length)==0,j),(ZT (nxt (nxt (nxt (hQ neg E o n c l q) (vO (hQ neg E o n c l q) (aX o) n-vO (hQ neg E o n c l q) none 0)) 1) (vO (nxt (nxt (hQ neg E o n c l q) (vO (hQ neg E o n c l q) (aX o) n-vO (hQ neg E o n c l q) none 0)) 1) (some ⟨4,0,none⟩) (d16 1).length*2^(dif b 1).toNat)) (some ⟨3,0,none⟩) (some ⟨5,0,none⟩) (d16 (vO (hQ neg E o n c l q) (aX o) n-vO (hQ neg E o n c l q) none 0)).length (d16 (vO (hQ neg E o n c l q) (aX o) n-vO (hQ neg E o n c l q) none 0)).length (d16 (vO (nxt (nxt (hQ neg E o n c l q) (vO (hQ neg E o n c l q) (aX o) n-vO (hQ neg E o n c l q) none 0)) 1) (some ⟨4,0,none⟩) (d16 1).length*2^(dif b 1).toNat)).length (d16 (vO (nxt (nxt (hQ neg E o n c l q) (vO (hQ neg E o n c l q) (aX o) n-vO (hQ neg E o n c l q) none 0)) 1) (some ⟨4,0,none⟩) (d16 1).length*2^(dif b 1).toNat)).length,true),(ZcM (nxt (nxt (hQ neg E o n c l q) (vO (hQ neg E o n c l q) (aX o) n-vO (hQ neg E o n c l q) none 0)) 1) (some ⟨4,0,none⟩) (d16 1).length (d16 1).length (dif b 1),true),(decide (0<(d16 1).length),true),ZcL,(ZT (hQ neg E o n c l q) (aX o) none n c 0 0 && Nat.ble (vO (hQ neg E o n c l q) none 0) (vO (hQ neg E o n c l q) (aX o) n),true),(decide (0<n),true),(zJ (hQ neg E o n c l q) (some ⟨2,0,none⟩) (d16 q).length (d16 q).length,true),(decide (0<(d16 q).length),false),(decide (b≤((bl (vO (hQ neg E o n c l q) (aX o) n):Nat):Int)),true),(zZ (hQ neg E o n c l q) (aX o) n c,true)]:=by and_intros<;>kernel_rfl
theorem Zyt (neg j:Bool) (E N M b:Int) (o n c q:Nat) (l:List Value) (g:Nat→Value):Zg (evL (Zr prog Zf Zn hcW) 200 (tS2 f49) ((pX9 neg E N M o n c [Zp,.bool false,.int .i64 b,Zp,.bool true,.bool false])++tl 94 g,(hX neg E o n c l),[cmp false]) ⟨[],[],[]⟩) 14 92 none (pX9 neg E N M o n c [Zp,.bool false,.int .i64 b,Zp,.bool true,.bool false,sl 0 o n c,.bool false]) (hX neg E o n c l) [(decide (b≤((bl (vO (hX neg E o n c l) (aX o) n):Nat):Int)),false),(zZ (hX neg E o n c l) (aX o) n c,true)]:=by and_intros<;>kernel_rfl
theorem Zyu (neg j:Bool) (E N M b:Int) (o n c q:Nat) (l:List Value) (g:Nat→Value):Zg (evL (Zr prog Zf Zn hcW) 200 (tS2 f49) ((pX9 neg E N M o n c [Zp,.bool false,.int .i64 b,Zp,.bool true,.bool true])++tl 94 g,(hX neg E o n c l),[cmp false,cmp true,cmp j]) ⟨[],[],[]⟩) 14 92 none (pX9 neg E N M o n c [Zp,.bool false,.int .i64 b,Zp,.bool true,.bool true,sl 0 o n c,.bool j]) (nxt (nxt (hX neg E o n c l) 1) (vO (nxt (hX neg E o n c l) 1) (some ⟨2,0,none⟩) (d16 1).length*2^(dif b 1).toNat)) [(ZcR (vO (nxt (nxt (hX neg E o n c l) 1) (vO (nxt (hX neg E o n c l) 1) (some ⟨2,0,none⟩) (d16 1).length*2^(dif b 1).toNat)) (aX o) n) (vO (nxt (nxt (hX neg E o n c l) 1) (vO (nxt (hX neg E o n c l) 1) (some ⟨2,0,none⟩) (d16 1).length*2^(dif b 1).toNat)) (some ⟨3,0,none⟩) (d16 (vO (nxt (hX neg E o n c l) 1) (some ⟨2,0,none⟩) (d16 1).length*2^(dif b 1).toNat)).length)==0,j),(ZT (nxt (nxt (hX neg E o n c l) 1) (vO (nxt (hX neg E o n c l) 1) (some ⟨2,0,none⟩) (d16 1).length*2^(dif b 1).toNat)) (aX o) (some ⟨3,0,none⟩) n c (d16 (vO (nxt (hX neg E o n c l) 1) (some ⟨2,0,none⟩) (d16 1).length*2^(dif b 1).toNat)).length (d16 (vO (nxt (hX neg E o n c l) 1) (some ⟨2,0,none⟩) (d16 1).length*2^(dif b 1).toNat)).length,true),(ZcM (nxt (hX neg E o n c l) 1) (some ⟨2,0,none⟩) (d16 1).length (d16 1).length (dif b 1),true),(decide (0<(d16 1).length),true),ZcL,(decide (b≤((bl (vO (hX neg E o n c l) (aX o) n):Nat):Int)),false),(zZ (hX neg E o n c l) (aX o) n c,true)]:=by and_intros<;>kernel_rfl
theorem Zyv (neg j:Bool) (E N M b:Int) (o n c q:Nat) (l:List Value) (g:Nat→Value):Zg (evL (Zr prog Zf Zn hcW) 200 (tS2 f49) ((pX9 neg E N M o n c [Zp,.bool false,.int .i64 b,Zp,.bool true,.bool false])++tl 94 g,(hX neg E o n c l),[cmp true,cmp false,cmp true]) ⟨[],[],[]⟩) 14 92 none (pX9 neg E N M o n c [Zp,.bool false,.int .i64 b,Zp,.bool true,.bool false,sOf 2 (vO (hX neg E o n c l) (aX o) n-vO (hX neg E o n c l) none 0),.bool false]) (nxt (hX neg E o n c l) (vO (hX neg E o n c l) (aX o) n-vO (hX neg E o n c l) none 0)) [(ZT (hX neg E o n c l) (aX o) none n c 0 0 && Nat.ble (vO (hX neg E o n c l) none 0) (vO (hX neg E o n c l) (aX o) n),true),(decide (0<n),true),(zJ (hX neg E o n c l) none 0 0,true),(decide (0<0),false),(decide (b≤((bl (vO (hX neg E o n c l) (aX o) n):Nat):Int)),true),(zZ (hX neg E o n c l) (aX o) n c,true)]:=by and_intros<;>kernel_rfl
theorem Zyw (neg j:Bool) (E N M b:Int) (o n c q:Nat) (l:List Value) (g:Nat→Value):Zg (evL (Zr prog Zf Zn hcW) 200 (tS2 f49) ((pX9 neg E N M o n c [Zp,.bool false,.int .i64 b,Zp,.bool true,.bool true])++tl 94 g,(hX neg E o n c l),[cmp true,cmp false,cmp true,cmp true,cmp j]) ⟨[],[],[]⟩) 14 92 none (pX9 neg E N M o n c [Zp,.bool false,.int .i64 b,Zp,.bool true,.bool true,sOf 2 (vO (hX neg E o n c l) (aX o) n-vO (hX neg E o n c l) none 0),.bool j]) (nxt (nxt (nxt (hX neg E o n c l) (vO (hX neg E o n c l) (aX o) n-vO (hX neg E o n c l) none 0)) 1) (vO (nxt (nxt (hX neg E o n c l) (vO (hX neg E o n c l) (aX o) n-vO (hX neg E o n c l) none 0)) 1) (some ⟨3,0,none⟩) (d16 1).length*2^(dif b 1).toNat)) [(ZcR (vO (nxt (nxt (nxt (hX neg E o n c l) (vO (hX neg E o n c l) (aX o) n-vO (hX neg E o n c l) none 0)) 1) (vO (nxt (nxt (hX neg E o n c l) (vO (hX neg E o n c l) (aX o) n-vO (hX neg E o n c l) none 0)) 1) (some ⟨3,0,none⟩) (d16 1).length*2^(dif b 1).toNat)) (some ⟨2,0,none⟩) (d16 (vO (hX neg E o n c l) (aX o) n-vO (hX neg E o n c l) none 0)).length) (vO (nxt (nxt (nxt (hX neg E o n c l) (vO (hX neg E o n c l) (aX o) n-vO (hX neg E o n c l) none 0)) 1) (vO (nxt (nxt (hX neg E o n c l) (vO (hX neg E o n c l) (aX o) n-vO (hX neg E o n c l) none 0)) 1) (some ⟨3,0,none⟩) (d16 1).length*2^(dif b 1).toNat)) (some ⟨4,0,none⟩) (d16 (vO (nxt (nxt (hX neg E o n c l) (vO (hX neg E o n c l) (aX o) n-vO (hX neg E o n c l) none 0)) 1) (some ⟨3,0,none⟩) (d16 1).length*2^(dif b 1).toNat)).length)==0,j),(ZT (nxt (nxt (nxt (hX neg E o n c l) (vO (hX neg E o n c l) (aX o) n-vO (hX neg E o n c l) none 0)) 1) (vO (nxt (nxt (hX neg E o n c l) (vO (hX neg E o n c l) (aX o) n-vO (hX neg E o n c l) none 0)) 1) (some ⟨3,0,none⟩) (d16 1).length*2^(dif b 1).toNat)) (some ⟨2,0,none⟩) (some ⟨4,0,none⟩) (d16 (vO (hX neg E o n c l) (aX o) n-vO (hX neg E o n c l) none 0)).length (d16 (vO (hX neg E o n c l) (aX o) n-vO (hX neg E o n c l) none 0)).length (d16 (vO (nxt (nxt (hX neg E o n c l) (vO (hX neg E o n c l) (aX o) n-vO (hX neg E o n c l) none 0)) 1) (some ⟨3,0,none⟩) (d16 1).length*2^(dif b 1).toNat)).length (d16 (vO (nxt (nxt (hX neg E o n c l) (vO (hX neg E o n c l) (aX o) n-vO (hX neg E o n c l) none 0)) 1) (some ⟨3,0,none⟩) (d16 1).length*2^(dif b 1).toNat)).length,true),(ZcM (nxt (nxt (hX neg E o n c l) (vO (hX neg E o n c l) (aX o) n-vO (hX neg E o n c l) none 0)) 1) (some ⟨3,0,none⟩) (d16 1).length (d16 1).length (dif b 1),true),(decide (0<(d16 1).length),true),ZcL,(ZT (hX neg E o n c l) (aX o) none n c 0 0 && Nat.ble (vO (hX neg E o n c l) none 0) (vO (hX neg E o n c l) (aX o) n),true),(decide (0<n),true),(zJ (hX neg E o n c l) none 0 0,true),(decide (0<0),false),(decide (b≤((bl (vO (hX neg E o n c l) (aX o) n):Nat):Int)),true),(zZ (hX neg E o n c l) (aX o) n c,true)]:=by and_intros<;>kernel_rfl
theorem Z3d (neg d:Bool) (E N M b x:Int) (o n c q:Nat) (l:List Value) (J:Value) (g:Nat→Value):Zg (evC (Zr prog Zf Zn hcW) 200 false (tS3 f49) ((pX9 neg E N M o n c [Zp,.bool false,.int .i64 b,sOf 2 q,.bool true,.bool false,J,.bool false])++tl 92 g,(hQ neg E o n c l q),[]) ⟨[],[],[]⟩) 15 91 none (pX9 neg E N M o n c [Zp,.bool false,.int .i64 b,sOf 2 q,.bool true,.bool false,J,.bool false,.bool false]) (hQ neg E o n c l q) []:=by and_intros<;>kernel_rfl
theorem Zyx (neg d:Bool) (E N M b x:Int) (o n c q:Nat) (l:List Value) (J:Value) (g:Nat→Value):Zg (evC (Zr prog Zf Zn hcW) 200 false (tS3 f49) ((pX9 neg E N M o n c [Zp,.bool false,.int .i64 b,sOf 2 q,.bool true,.bool true,J,.bool false])++tl 92 g,(hQ neg E o n c l q),[]) ⟨[],[],[]⟩) 15 91 none (pX9 neg E N M o n c [Zp,.bool false,.int .i64 b,sOf 2 q,.bool true,.bool true,J,.bool false,.bool true]) (hQ neg E o n c l q) []:=by and_intros<;>kernel_rfl
theorem Z3e (neg d:Bool) (E N M b x:Int) (o n c q:Nat) (l:List Value) (J:Value) (g:Nat→Value):Zg (evC (Zr prog Zf Zn hcW) 200 false (tS3 f49) ((pX9 neg E N M o n c [Zp,.bool false,.int .i64 b,Zp,.bool true,.bool false,J,.bool false])++tl 92 g,(hX neg E o n c l),[]) ⟨[],[],[]⟩) 15 91 none (pX9 neg E N M o n c [Zp,.bool false,.int .i64 b,Zp,.bool true,.bool false,J,.bool false,.bool false]) (hX neg E o n c l) []:=by and_intros<;>kernel_rfl
theorem Zyy (neg d:Bool) (E N M b x:Int) (o n c q:Nat) (l:List Value) (J:Value) (g:Nat→Value):Zg (evC (Zr prog Zf Zn hcW) 200 false (tS3 f49) ((pX9 neg E N M o n c [Zp,.bool false,.int .i64 b,Zp,.bool true,.bool true,J,.bool false])++tl 92 g,(hX neg E o n c l),[]) ⟨[],[],[]⟩) 15 91 none (pX9 neg E N M o n c [Zp,.bool false,.int .i64 b,Zp,.bool true,.bool true,J,.bool false,.bool true]) (hX neg E o n c l) []:=by and_intros<;>kernel_rfl
theorem Zyz (neg d:Bool) (E N M b x:Int) (o n c q:Nat) (l:List Value) (J:Value) (g:Nat→Value):Zg (evC (Zr prog Zf Zn hcW) 200 false (tS3 f49) ((pX9 neg E N M o n c [Zp,.bool false,.int .i64 b,sOf 2 q,.bool true,.bool true,J,.bool true])++tl 92 g,(hQ neg E o n c l q),[cmp true,at_,val (.int .u32 x),cmp true,cmp d]) ⟨[],[],[]⟩) 15 91 none (pX9 neg E N M o n c [Zp,.bool false,.int .i64 b,sOf 2 q,.bool true,.bool true,J,.bool true,.bool d]) (hQ neg E o n c l q) [(x.tmod 2==1,d),(decide ((2:Int)=0),false),(Z5 ((wU (d16 q))[0]?) (.int .u32 x),true),(decide ((0:Int)≤0∧(0:Int)<((d16 q).length:Nat)),true),(decide (((d16 q).length:Int)>0),true)]:=by and_intros<;>kernel_rfl
theorem Zsi (neg d:Bool) (E N M b x:Int) (o n c q:Nat) (l:List Value) (J:Value) (g:Nat→Value):Zg (evC (Zr prog Zf Zn hcW) 200 false (tS3 f49) ((pX9 neg E N M o n c [Zp,.bool false,.int .i64 b,sOf 2 q,.bool true,.bool true,J,.bool true])++tl 92 g,(hQ neg E o n c l q),[cmp false]) ⟨[],[],[]⟩) 15 91 none (pX9 neg E N M o n c [Zp,.bool false,.int .i64 b,sOf 2 q,.bool true,.bool true,J,.bool true,.bool false]) (hQ neg E o n c l q) [(decide (((d16 q).length:Int)>0),false)]:=by and_intros<;>kernel_rfl
theorem Zsj (neg d:Bool) (E N M b x:Int) (o n c q:Nat) (l:List Value) (J:Value) (g:Nat→Value):Zg (evC (Zr prog Zf Zn hcW) 200 false (tS3 f49) ((pX9 neg E N M o n c [Zp,.bool false,.int .i64 b,Zp,.bool true,.bool true,J,.bool true])++tl 92 g,(hX neg E o n c l),[cmp false]) ⟨[],[],[]⟩) 15 91 none (pX9 neg E N M o n c [Zp,.bool false,.int .i64 b,Zp,.bool true,.bool true,J,.bool true,.bool false]) (hX neg E o n c l) [(decide (((0:Nat):Int)>0),false)]:=by and_intros<;>kernel_rfl
theorem Z3f (neg half just up:Bool) (E N M b:Int) (o n c q:Nat) (l:List Value) (J:Value) (g:Nat→Value):Zg (evC (Zr prog Zf Zn hcW) 200 false (tS4 f49) ((pX9 neg E N M o n c [Zp,.bool false,.int .i64 b,sOf 2 q,.bool true,.bool half,J,.bool just,.bool up])++tl 91 g,(hQ neg E o n c l q),[cmp true]) ⟨[],[],[]⟩) 15 91 none (pX9 neg E N M o n c [Zp,.bool false,.int .i64 b,sOf 2 q,.bool true,.bool half,J,.bool just,.bool half]) (hQ neg E o n c l q) [(M==1,true)]:=by and_intros<;>kernel_rfl
theorem Z3g (neg half just up:Bool) (E N M b:Int) (o n c q:Nat) (l:List Value) (J:Value) (g:Nat→Value):Zg (evC (Zr prog Zf Zn hcW) 200 false (tS4 f49) ((pX9 neg E N M o n c [Zp,.bool false,.int .i64 b,sOf 2 q,.bool true,.bool half,J,.bool just,.bool up])++tl 91 g,(hQ neg E o n c l q),[cmp false,cmp true]) ⟨[],[],[]⟩) 15 91 none (pX9 neg E N M o n c [Zp,.bool false,.int .i64 b,sOf 2 q,.bool true,.bool half,J,.bool just,.bool false]) (hQ neg E o n c l q) [(M==2,true),(M==1,false)]:=by and_intros<;>kernel_rfl
theorem Z3h (neg half just up:Bool) (E N M b:Int) (o n c q:Nat) (l:List Value) (J:Value) (g:Nat→Value):Zg (evC (Zr prog Zf Zn hcW) 200 false (tS4 f49) ((pX9 neg E N M o n c [Zp,.bool false,.int .i64 b,sOf 2 q,.bool true,.bool half,J,.bool just,.bool up])++tl 91 g,(hQ neg E o n c l q),[cmp false,cmp false,cmp true]) ⟨[],[],[]⟩) 15 91 none (pX9 neg E N M o n c [Zp,.bool false,.int .i64 b,sOf 2 q,.bool true,.bool half,J,.bool just,.bool (!neg)]) (hQ neg E o n c l q) [(M==3,true),(M==2,false),(M==1,false)]:=by and_intros<;>kernel_rfl
theorem Z3i (neg half just up:Bool) (E N M b:Int) (o n c q:Nat) (l:List Value) (J:Value) (g:Nat→Value):Zg (evC (Zr prog Zf Zn hcW) 200 false (tS4 f49) ((pX9 neg E N M o n c [Zp,.bool false,.int .i64 b,sOf 2 q,.bool true,.bool half,J,.bool just,.bool up])++tl 91 g,(hQ neg E o n c l q),[cmp false,cmp false,cmp false,cmp true]) ⟨[],[],[]⟩) 15 91 none (pX9 neg E N M o n c [Zp,.bool false,.int .i64 b,sOf 2 q,.bool true,.bool half,J,.bool just,.bool neg]) (hQ neg E o n c l q) [(M==4,true),(M==3,false),(M==2,false),(M==1,false)]:=by and_intros<;>kernel_rfl
theorem Z3j (neg half just up:Bool) (E N M b:Int) (o n c q:Nat) (l:List Value) (J:Value) (g:Nat→Value):Zg (evC (Zr prog Zf Zn hcW) 200 false (tS4 f49) ((pX9 neg E N M o n c [Zp,.bool false,.int .i64 b,sOf 2 q,.bool true,.bool half,J,.bool just,.bool up])++tl 91 g,(hQ neg E o n c l q),[cmp false,cmp false,cmp false,cmp false]) ⟨[],[],[]⟩) 15 91 none (pX9 neg E N M o n c [Zp,.bool false,.int .i64 b,sOf 2 q,.bool true,.bool half,J,.bool just,.bool up]) (hQ neg E o n c l q) [(M==4,false),(M==3,false),(M==2,false),(M==1,false)]:=by and_intros<;>kernel_rfl
theorem Z3k (neg half just up:Bool) (E N M b:Int) (o n c q:Nat) (l:List Value) (J:Value) (g:Nat→Value):Zg (evC (Zr prog Zf Zn hcW) 200 false (tS4 f49) ((pX9 neg E N M o n c [Zp,.bool false,.int .i64 b,Zp,.bool true,.bool half,J,.bool just,.bool up])++tl 91 g,(hX neg E o n c l),[cmp true]) ⟨[],[],[]⟩) 15 91 none (pX9 neg E N M o n c [Zp,.bool false,.int .i64 b,Zp,.bool true,.bool half,J,.bool just,.bool half]) (hX neg E o n c l) [(M==1,true)]:=by and_intros<;>kernel_rfl
theorem Z3l (neg half just up:Bool) (E N M b:Int) (o n c q:Nat) (l:List Value) (J:Value) (g:Nat→Value):Zg (evC (Zr prog Zf Zn hcW) 200 false (tS4 f49) ((pX9 neg E N M o n c [Zp,.bool false,.int .i64 b,Zp,.bool true,.bool half,J,.bool just,.bool up])++tl 91 g,(hX neg E o n c l),[cmp false,cmp true]) ⟨[],[],[]⟩) 15 91 none (pX9 neg E N M o n c [Zp,.bool false,.int .i64 b,Zp,.bool true,.bool half,J,.bool just,.bool false]) (hX neg E o n c l) [(M==2,true),(M==1,false)]:=by and_intros<;>kernel_rfl
theorem Z3m (neg half just up:Bool) (E N M b:Int) (o n c q:Nat) (l:List Value) (J:Value) (g:Nat→Value):Zg (evC (Zr prog Zf Zn hcW) 200 false (tS4 f49) ((pX9 neg E N M o n c [Zp,.bool false,.int .i64 b,Zp,.bool true,.bool half,J,.bool just,.bool up])++tl 91 g,(hX neg E o n c l),[cmp false,cmp false,cmp true]) ⟨[],[],[]⟩) 15 91 none (pX9 neg E N M o n c [Zp,.bool false,.int .i64 b,Zp,.bool true,.bool half,J,.bool just,.bool (!neg)]) (hX neg E o n c l) [(M==3,true),(M==2,false),(M==1,false)]:=by and_intros<;>kernel_rfl
theorem Z3n (neg half just up:Bool) (E N M b:Int) (o n c q:Nat) (l:List Value) (J:Value) (g:Nat→Value):Zg (evC (Zr prog Zf Zn hcW) 200 false (tS4 f49) ((pX9 neg E N M o n c [Zp,.bool false,.int .i64 b,Zp,.bool true,.bool half,J,.bool just,.bool up])++tl 91 g,(hX neg E o n c l),[cmp false,cmp false,cmp false,cmp true]) ⟨[],[],[]⟩) 15 91 none (pX9 neg E N M o n c [Zp,.bool false,.int .i64 b,Zp,.bool true,.bool half,J,.bool just,.bool neg]) (hX neg E o n c l) [(M==4,true),(M==3,false),(M==2,false),(M==1,false)]:=by and_intros<;>kernel_rfl
theorem Z3o (neg half just up:Bool) (E N M b:Int) (o n c q:Nat) (l:List Value) (J:Value) (g:Nat→Value):Zg (evC (Zr prog Zf Zn hcW) 200 false (tS4 f49) ((pX9 neg E N M o n c [Zp,.bool false,.int .i64 b,Zp,.bool true,.bool half,J,.bool just,.bool up])++tl 91 g,(hX neg E o n c l),[cmp false,cmp false,cmp false,cmp false]) ⟨[],[],[]⟩) 15 91 none (pX9 neg E N M o n c [Zp,.bool false,.int .i64 b,Zp,.bool true,.bool half,J,.bool just,.bool up]) (hX neg E o n c l) [(M==4,false),(M==3,false),(M==2,false),(M==1,false)]:=by and_intros<;>kernel_rfl
theorem Z3p (neg half just:Bool) (E N M b:Int) (o n c q:Nat) (l:List Value) (J:Value) (g:Nat→Value):Zg (evC (Zr prog Zf Zn hcW) 200 false (tS5 f49) ((pX9 neg E N M o n c [Zp,.bool false,.int .i64 b,sOf 2 q,.bool true,.bool half,J,.bool just,.bool true])++tl 91 g,(hQ neg E o n c l q),[cmp true]) ⟨[],[],[]⟩) 8 98 (some none) (pX9 neg E N M o n c [sOf 4 (vO (nxt (hQ neg E o n c l q) 1) (some ⟨2,0,none⟩) (d16 q).length+vO (nxt (hQ neg E o n c l q) 1) (some ⟨3,0,none⟩) (d16 1).length),.bool true]) (nxt (nxt (hQ neg E o n c l q) 1) (vO (nxt (hQ neg E o n c l q) 1) (some ⟨2,0,none⟩) (d16 q).length+vO (nxt (hQ neg E o n c l q) 1) (some ⟨3,0,none⟩) (d16 1).length)) [(ZT (nxt (hQ neg E o n c l q) 1) (some ⟨2,0,none⟩) (some ⟨3,0,none⟩) (d16 q).length (d16 q).length (d16 1).length (d16 1).length,true),(decide (0<(d16 q).length∨0<(d16 1).length),true),ZcL]:=by and_intros<;>kernel_rfl
theorem Z3q (neg half just:Bool) (E N M b:Int) (o n c q:Nat) (l:List Value) (J:Value) (g:Nat→Value):Zg (evC (Zr prog Zf Zn hcW) 200 false (tS5 f49) ((pX9 neg E N M o n c [Zp,.bool false,.int .i64 b,sOf 2 q,.bool true,.bool half,J,.bool just,.bool false])++tl 91 g,(hQ neg E o n c l q),[]) ⟨[],[],[]⟩) 8 98 (some none) (pX9 neg E N M o n c [sOf 2 q,.bool true]) (hQ neg E o n c l q) []:=by and_intros<;>kernel_rfl
theorem Z3r (neg half just:Bool) (E N M b:Int) (o n c q:Nat) (l:List Value) (J:Value) (g:Nat→Value):Zg (evC (Zr prog Zf Zn hcW) 200 false (tS5 f49) ((pX9 neg E N M o n c [Zp,.bool false,.int .i64 b,Zp,.bool true,.bool half,J,.bool just,.bool true])++tl 91 g,(hX neg E o n c l),[cmp true]) ⟨[],[],[]⟩) 8 98 (some none) (pX9 neg E N M o n c [sOf 3 (vO (nxt (hX neg E o n c l) 1) none 0+vO (nxt (hX neg E o n c l) 1) (some ⟨2,0,none⟩) (d16 1).length),.bool true]) (nxt (nxt (hX neg E o n c l) 1) (vO (nxt (hX neg E o n c l) 1) none 0+vO (nxt (hX neg E o n c l) 1) (some ⟨2,0,none⟩) (d16 1).length)) [(ZT (nxt (hX neg E o n c l) 1) none (some ⟨2,0,none⟩) 0 0 (d16 1).length (d16 1).length,true),(decide (0<0∨0<(d16 1).length),true),ZcL]:=by and_intros<;>kernel_rfl
theorem Z3s (neg half just:Bool) (E N M b:Int) (o n c q:Nat) (l:List Value) (J:Value) (g:Nat→Value):Zg (evC (Zr prog Zf Zn hcW) 200 false (tS5 f49) ((pX9 neg E N M o n c [Zp,.bool false,.int .i64 b,Zp,.bool true,.bool half,J,.bool just,.bool false])++tl 91 g,(hX neg E o n c l),[]) ⟨[],[],[]⟩) 8 98 (some none) (pX9 neg E N M o n c [Zp,.bool true]) (hX neg E o n c l) []:=by and_intros<;>kernel_rfl
end Go.Proofs.YtjlponbdflkbjaaGreatDoor
namespace Go.Proofs.YtjlponbdflkbjaaGreatDoor
open Go.Proofs.Tryz
open Go.KRun Go.Nt Go.Wd Go.Rn
set_option maxRecDepth 100000
set_option linter.unusedVariables false
section
variable {l : List Value} {o c : Nat} {A : List Int}
theorem Zby (hF:Fst l o c A) {h:Hp}(hh:h.blk? 0=some (l,tR)):vO h (aX o) A.length=vb 65536 A:=by
 unfold vO aX;rw[(hF h hh).2]
theorem ZaJ (hF:Fst l o c A) (hC:Zbk 65536 A) (hn:A.length<1073741824) {h:Hp}(hh:h.blk? 0=some (l,tR)):zZ h (aX o) A.length c=true:=by
 unfold zZ aX;rw[(hF h hh).1,(hF h hh).2,Zdg hC,Zo.2 hn];rfl
theorem Zbg {h:Hp}{b A:Nat}{k:Int}(hb:h.blk? b=some (wU (d16 A),tU)) (hk:0≤k) (hl:k.toNat/16+(d16 A).length+3<1073741824):ZcM h (some ⟨b,0,none⟩) (d16 A).length (d16 A).length k=true:=by
 unfold ZcM;rw[ZN hb (by omega),zW hb,Zo.2 hl,Xa hk];rfl
theorem ZhJ (hF:Fst l o c A) (hC:Zbk 65536 A) (hn:A.length<1073741800) {h:Hp}(hh:h.blk? 0=some (l,tR)) {b V:Nat}(hb:h.blk? b=some (wU (d16 V),tU)) (hl:(d16 V).length<1073741800):ZT h (aX o) (some ⟨b,0,none⟩) A.length c (d16 V).length (d16 V).length=true:=by
 unfold ZT aX;rw[(hF h hh).1,(hF h hh).2,ZbG hC.1,ZN hb (by omega),zW hb,Zo.2 (by omega)];rfl
theorem Zjk (hF:Fst l o c A) (hC:Zbk 65536 A) (hn:A.length<1073741800) {h:Hp}(hh:h.blk? 0=some (l,tR)):ZT h (aX o) none A.length c 0 0=true:=by
 unfold ZT aX;rw[(hF h hh).1,(hF h hh).2,ZbG hC.1,Zo.2 (by omega)];rfl
def fT (neg:Bool) (E N M:Int) (o n c:Nat) (b:Int) (Q:Value):List Value:=[vRN neg E (sl 0 o n c),.int .i64 N,.int .i64 M,.pointer (some ⟨1,0,none⟩),undef,undef,Zp,.bool false,.int .i64 b,Q]
def hS (s:Bool) (neg:Bool) (E:Int) (o n c:Nat) (l:List Value) (q:Nat):Hp:=match s with | true=>hQ neg E o n c l q | false=>hX neg E o n c l
def qS (s:Bool) (q:Nat):Value:=match s with | true=>sOf 2 q | false=>Zp
theorem Zy0 (s:Bool) {neg:Bool}{E N M:Int}{q:Nat}{half just u:Bool}{b:Int}{J:Value}(hq:(d16 q).length<1073741800) (hq0:s=false→q=0) (g:Nat→Value):
  RunsW (Zr prog Zf Zn hcW) (tS5 f49) (fT neg E N M o A.length c b (qS s q)++[.bool true,.bool half,J,.bool just,.bool u]++tl 91 g,hS s neg E o A.length c l q,[]) fun ex z=>(ex=none∨ex=some none)∧
   ((s=true∨u=true)→∃ k,ZV prog f49 z.1 z.2.1=some (.tuple #[sOf k (q+(if u=true then 1 else 0)),.bool true])∧∃ r,z.2.1.blk? k=some (wU (d16 (q+(if u=true then 1 else 0)))++r,tU))∧
   ((s=false∧u=false)→ZV prog f49 z.1 z.2.1=some (.tuple #[Zp,.bool true])):=by
 cases s with
 | true=>
  cases u with
  | true=>
   have e1:vO (nxt (hQ neg E o A.length c l q) 1) (some ⟨2,0,none⟩) (d16 q).length+vO (nxt (hQ neg E o A.length c l q) 1) (some ⟨3,0,none⟩) (d16 1).length=q+1:=by
    rw[z4 (A:=q) (ty:=tU) rfl,z4 (A:=1) (ty:=tU) rfl]
   refine (Ze (Zh Zd ZK) (Z3p neg half just E N M b o A.length c q l J g) (Zi (ZfD (A:=q) (A':=1) rfl rfl hq (by rw[zF];omega)) (Zi (Xa (.inr (by rw[zF];omega))) (Zt (by decide))))).mono fun ex z hz=> ?_;rw[e1] at hz;obtain⟨rfl,⟨g',z1⟩,z2⟩:=hz;refine⟨.inr rfl,fun _=>⟨4,?_,[],?_⟩,fun h=>by cases h.1⟩
   ·rw[z1,z2];rfl
   ·rw[z2,List.append_nil];rfl
  | false=>
   refine (Ze (Zh Zd ZK) (Z3q neg half just E N M b o A.length c q l J g) (fun x hx=>by cases hx)).mono fun ex z hz=> ?_;obtain⟨rfl,⟨g',z1⟩,z2⟩:=hz;refine⟨.inr rfl,fun _=>⟨2,?_,[],?_⟩,fun h=>by cases h.1⟩
   ·rw[z1,z2];rfl
   ·rw[z2,List.append_nil];rfl
 | false=>
  have hq1:=hq0 rfl;subst hq1;cases u with
  | true=>
   have e1:vO (nxt (hX neg E o A.length c l) 1) none 0+vO (nxt (hX neg E o A.length c l) 1) (some ⟨2,0,none⟩) (d16 1).length=0+1:=by
    rw[Zg3,z4 (A:=1) (ty:=tU) rfl]
   refine (Ze (Zh Zd ZK) (Z3r neg half just E N M b o A.length c 0 l J g) (Zi (ZvN (A:=1) rfl (by rw[zF];omega)) (Zi (Xa (.inr (by rw[zF];omega))) (Zt (by decide))))).mono fun ex z hz=> ?_;rw[e1] at hz;obtain⟨rfl,⟨g',z1⟩,z2⟩:=hz;refine⟨.inr rfl,fun _=>⟨3,?_,[],?_⟩,fun h=>by cases h.2⟩
   ·rw[z1,z2];rfl
   ·rw[z2,List.append_nil];rfl
  | false=>
   refine (Ze (Zh Zd ZK) (Z3s neg half just E N M b o A.length c 0 l J g) (fun x hx=>by cases hx)).mono fun ex z hz=> ?_;obtain⟨rfl,⟨g',z1⟩,z2⟩:=hz;refine⟨.inr rfl,(fun h=>by rcases h with h | h<;>cases h),fun _=> ?_⟩;rw[z1,z2];rfl
def upM (M:Int) (neg half ev:Bool):Bool:=if M=2 then false else if M=3 then !neg else if M=4 then neg else if M=1 then half else ev
theorem Zy1 (s:Bool) {neg:Bool}{E N M:Int}{n q:Nat}{half just u:Bool}{b:Int}{J:Value}(g:Nat→Value):
  RunsW (Zr prog Zf Zn hcW) (tS4 f49) (fT neg E N M o n c b (qS s q)++[.bool true,.bool half,J,.bool just,.bool u]++tl 91 g,hS s neg E o n c l q,[]) fun ex z=>ex=none∧(∃ g,z.1=fT neg E N M o n c b (qS s q)++[.bool true,.bool half,J,.bool just,.bool (upM M neg half u)]++tl 91 g)∧z.2.1=hS s neg E o n c l q:=by
 unfold upM;by_cases h1:M=1
 ·have n2:¬ M=2:=by omega
  have n3:¬ M=3:=by omega
  have n4:¬ M=4:=by omega
  rw[if_neg n2,if_neg n3,if_neg n4,if_pos h1];cases s with
  | true=>exact Ze (Zh Zd ZK) (Z3f neg half just u E N M b o n c q l J g) (Zt (by rw[h1];rfl))
  | false=>exact Ze (Zh Zd ZK) (Z3k neg half just u E N M b o n c q l J g) (Zt (by rw[h1];rfl))
 ·have b1:(M==1)=false:=by simp [h1]
  by_cases h2:M=2
  ·rw[if_pos h2];cases s with
   | true=>exact Ze (Zh Zd ZK) (Z3g neg half just u E N M b o n c q l J g) (Zi (by rw[h2];rfl) (Zt b1))
   | false=>exact Ze (Zh Zd ZK) (Z3l neg half just u E N M b o n c q l J g) (Zi (by rw[h2];rfl) (Zt b1))
  ·have b2:(M==2)=false:=by simp [h2]
   rw[if_neg h2];by_cases h3:M=3
   ·rw[if_pos h3];cases s with
    | true=>exact Ze (Zh Zd ZK) (Z3h neg half just u E N M b o n c q l J g) (Zi (by rw[h3];rfl) (Zi b2 (Zt b1)))
    | false=>exact Ze (Zh Zd ZK) (Z3m neg half just u E N M b o n c q l J g) (Zi (by rw[h3];rfl) (Zi b2 (Zt b1)))
   ·have b3:(M==3)=false:=by simp [h3]
    rw[if_neg h3];by_cases h4:M=4
    ·rw[if_pos h4];cases s with
     | true=>exact Ze (Zh Zd ZK) (Z3i neg half just u E N M b o n c q l J g) (Zi (by rw[h4];rfl) (Zi b3 (Zi b2 (Zt b1))))
     | false=>exact Ze (Zh Zd ZK) (Z3n neg half just u E N M b o n c q l J g) (Zi (by rw[h4];rfl) (Zi b3 (Zi b2 (Zt b1))))
    ·have b4:(M==4)=false:=by simp [h4]
     rw[if_neg h4,if_neg h1];cases s with
     | true=>exact Ze (Zh Zd ZK) (Z3j neg half just u E N M b o n c q l J g) (Zi b4 (Zi b3 (Zi b2 (Zt b1))))
     | false=>exact Ze (Zh Zd ZK) (Z3o neg half just u E N M b o n c q l J g) (Zi b4 (Zi b3 (Zi b2 (Zt b1))))
theorem Zy2 (s:Bool) {neg:Bool}{E N M:Int}{n q:Nat}{half just:Bool}{b:Int}{J:Value}(hq0:s=false→q=0) (hj:half=false→just=false) (g:Nat→Value):
  RunsW (Zr prog Zf Zn hcW) (tS3 f49) (fT neg E N M o n c b (qS s q)++[.bool true,.bool half,J,.bool just]++tl 92 g,hS s neg E o n c l q,[]) fun ex z=>ex=none∧(∃ g,z.1=fT neg E N M o n c b (qS s q)++[.bool true,.bool half,J,.bool just,.bool (half && (!just || odd q))]++tl 91 g)∧z.2.1=hS s neg E o n c l q:=by
 cases half with
 | false=>
  have:=hj rfl;subst this;cases s with
  | true=>exact Ze (Zh Zd ZK) (Z3d neg false E N M b 0 o n c q l J g) (fun x hx=>by cases hx)
  | false=>exact Ze (Zh Zd ZK) (Z3e neg false E N M b 0 o n c q l J g) (fun x hx=>by cases hx)
 | true=>
  cases just with
  | false=>
   cases s with
   | true=>exact Ze (Zh Zd ZK) (Zyx neg false E N M b 0 o n c q l J g) (fun x hx=>by cases hx)
   | false=>exact Ze (Zh Zd ZK) (Zyy neg false E N M b 0 o n c q l J g) (fun x hx=>by cases hx)
  | true=>
   simp only[Bool.true_and,Bool.not_true,Bool.false_or];cases s with
   | true=>
    by_cases hl:0<(d16 q).length
    ·have hne:=ZmO hl;have hd:d16 q=((q % 65536:Nat):Int)::db 65536 (q/65536):=Zcy (by omega) hne;have ho:(((q % 65536:Nat):Int).tmod 2==1)=odd q:=by
      unfold odd;rw[Int.tmod_eq_emod_of_nonneg (by omega),Bool.eq_iff_iff];simp only[beq_iff_eq,Xi];omega
     have hcell:Z5 ((wU (d16 q))[0]?) (.int .u32 ((q % 65536:Nat):Int))=true:=by
      rw[hd];simp [wU,Z5]
     exact Ze (Zh Zd ZK) (Zyz neg (odd q) E N M b ((q % 65536:Nat):Int) o n c q l J g) (Zi ho (Zi rfl (Zi hcell (Zi (Xa ⟨by omega,by omega⟩) (Zt (Xa (by omega)))))))
    ·have h0:=Zjj hl;have ho:odd q=false:=by rw[h0];rfl
     rw[ho];exact Ze (Zh Zd ZK) (Zsi neg false E N M b 0 o n c q l J g) (Zt (Xb (by omega)))
   | false=>
    have ho:odd q=false:=by rw[hq0 rfl];rfl
    rw[ho];exact Ze (Zh Zd ZK) (Zsj neg false E N M b 0 o n c q l J g) (Zt rfl)
end
end Go.Proofs.YtjlponbdflkbjaaGreatDoor
