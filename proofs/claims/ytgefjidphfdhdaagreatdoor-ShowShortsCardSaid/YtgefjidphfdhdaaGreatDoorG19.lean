/-
  ConVF, RfA, RfN, RfB, RfC, RfD, RfE, RfF
-/
import Derived.Test.YtgefjidphfdhdaaGreatDoorG18
namespace Go.Proofs.YtgefjidphfdhdaaGreatDoor
open Go.Proofs.Tryz
open Go.KRun Go.Nt
set_option maxRecDepth 100000
def ZzJ (F:Func):Code:=ZZ (rPr F) (.seq (.seq (rR5 F) (.block 0 (.loop (rL1 F)))) (.seq (rIf F) (.seq (ZAD F) (.seq (.seq (ZAE F) (.block 2 (.loop (rL2 F)))) (.seq (Z7w F) (.seq (ZAF F) (.seq (.seq (ZAG F) (.block 4 (.loop (rL3 F)))) (rEn F))))))))
section
variable {l : List Value} {o c : Nat} {A : List Int}
theorem Zf2 (hR:Row l o A) (hA:∀ x∈A,Dg 65536 x) (hn:A.length+2<1073741824) {k:Nat}(hk0:0<k) (hk:k<4611686018427387904) {P:Ex→Lf→Prop}{rest:Code}
  (h:∀ (g:Nat→Value) (u:Int),RunsW (Zk prog Zf Zn hcV) rest ([sl 0 o A.length c,.int .i64 (k:Nat),undef,undef,Zo,.bool false,.bool (decide (vb 65536 (A.take (k/16))≠0)),.int .i64 ((k/16:Nat):Int),.int .i64 u]++tl 80 g,⟨1,[(l,tR)]⟩,[]) P):
  RunsW (Zk prog Zf Zn hcV) (ZZ (rPr f159) (.seq (.seq (rR5 f159) (.block 0 (.loop (rL1 f159)))) rest)) ([sl 0 o A.length c,.int .i64 (k:Nat)]++List.replicate 87 undef,⟨1,[(l,tR)]⟩,[]) P:=by
 have ek:k16 (k:Int)=((k/16:Nat):Int):=by unfold k16;rw[Int.tdiv_eq_ediv_of_nonneg (by omega),Zw (by omega) (by omega)];omega
 refine Zu (Zh Zd Zy) (Zz3 _ A.length c k _) (Zv (Xb (by omega))) fun g=> ?_;rw[ek];refine Zhb (Zb (Zh Zd Zy) (Z5p _ k _ _ g) (fun x hx=>by cases hx)) (fun e y he=>by cases he.1) (P2:=fun e Y=>match e with | none=>(∃ g u,Y.1=[sl 0 o A.length c,.int .i64 (k:Nat),undef,undef,Zo,.bool false,.bool (decide (vb 65536 (A.take (k/16))≠0)),.int .i64 ((k/16:Nat):Int),.int .i64 u]++tl 80 g)∧Y.2.1=⟨1,[(l,tR)]⟩ | some none=>False | some (some _)=>False) ?_ (fun e y he=>by match e,he with | none,he=>exact he | some id,he=>exact he) ?_
 ·rintro⟨t,h',s⟩ ⟨_,⟨g',ht⟩,hh⟩;simp only at ht hh;subst ht hh;exact RunsW.script (Zly hR hA (by omega) _ (by omega) g').w
 ·rintro⟨t,h',s⟩ ⟨⟨g',u,ht⟩,hh⟩;simp only at ht hh;subst ht hh;exact RunsW.script (h g' u)
theorem Zl2 (hR:Row l o A) (hA:∀ x∈A,Dg 65536 x) (hn:A.length+2<1073741824) {k:Nat}(hk0:0<k) (hk:k<4611686018427387904) (hz:A.length≤k/16):
  RunsW (Zk prog Zf Zn hcV) (ZzJ f159) ([sl 0 o A.length c,.int .i64 (k:Nat)]++List.replicate 87 undef,⟨1,[(l,tR)]⟩,[]) fun e z=>(e=none∨e=some none)∧ZY prog f159 z.1 z.2.1=some (.tuple #[Zo,.bool (decide (vb 65536 A % 2^k≠0))]):=by
 have el:decide (vb 65536 (A.take (k/16))≠0)=decide (vb 65536 A % 2^k≠0):=by
  congr 1;have h1:=Go.Nt.lost_iff hA k;have h2:dgS A (k/16)=0:=by unfold dgS;simp [List.getD,List.getElem?_eq_none hz]
  rw[h2,Nat.zero_mod] at h1;simp only[ne_eq,not_true_eq_false,or_false] at h1;simp only[ne_eq,eq_iff_iff];exact h1.symm
 refine Zf2 hR hA hn hk0 hk fun g u=> ?_;refine RunsW.seq (P1:=fun e Y=>e=some none∧(∃ g,Y.1=[sl 0 o A.length c,.int .i64 (k:Nat),undef,undef,Zo,.bool (decide (vb 65536 (A.take (k/16))≠0))]++tl 83 g)∧Y.2.1=⟨1,[(l,tR)]⟩) (Zb (Zh Zd Zy) (Zz8 _ A.length c k _ u _ _ g) (Zv (Xa (by omega)))) (fun y he=>by cases he.1) (fun e y he=> ?_);obtain⟨he,⟨g',z1⟩,z2⟩:=he;refine⟨.inr he,?_⟩;rw[z1,z2,el];rfl
theorem ZpR (hR:Row l o A) (hF:Fst l o c A) (hs:∀ v∈l,still v=true) (hA:∀ x∈A,Dg 65536 x) (hn:A.length+2<1073741824) {k:Nat}(hk0:0<k) (hk:k<4611686018427387904) (hz:k/16<A.length) {V:Nat}(hV:V=vb 65536 A/2^k):
  RunsW (Zk prog Zf Zn hcV) (ZzJ f159) ([sl 0 o A.length c,.int .i64 (k:Nat)]++List.replicate 87 undef,⟨1,[(l,tR)]⟩,[]) fun e z=>(e=none∨e=some none)∧ZY prog f159 z.1 z.2.1=some (.tuple #[sl 1 0 (d16 V).length (d16 V).length,.bool (decide (vb 65536 A % 2^k≠0))])∧∃ r,z.2.1.blk? 1=some (wU (d16 V)++r,tU):=by
 have hP0:0<2^(k % 16):=Nat.pow_pos (by omega);have hPR:=Zio (s:=k % 16) (by omega);have hPb:2^(k % 16)≤32768:=by
  have:=Nat.pow_le_pow_right (show 0<2 by omega) (show k % 16≤15 by omega);omega
 have hd:=zK hA (k/16);have hl:=Go.Nt.lost_iff hA k;refine Zf2 hR hA hn hk0 hk fun g u=> ?_;refine RunsW.seq (P1:=fun e Y=>e=none∧(∃ g,Y.1=[sl 0 o A.length c,.int .i64 (k:Nat),undef,undef,Zo,.bool false,.bool (decide (vb 65536 (A.take (k/16))≠0)),.int .i64 ((k/16:Nat):Int),.int .i64 u]++tl 80 g)∧Y.2.1=⟨1,[(l,tR)]⟩) (Zb (Zh Zd Zy) (Zz9 _ A.length c k _ u _ _ g) (Zv (Xb (by omega)))) ?_ (fun e y he=>by cases he.1);rintro⟨t,h',s⟩ ⟨_,⟨g,ht⟩,hh⟩;simp only at ht hh;subst ht hh;refine RunsW.seq (P1:=fun e Y=>e=none∧(∃ g,Y.1=[sl 0 o A.length c,.int .i64 (k:Nat),undef,undef,Zo,.bool false,.bool (decide (vb 65536 (A.take (k/16))≠0)),.int .i64 ((k/16:Nat):Int),.int .i64 u,.int .u32 1]++tl 79 g)∧Y.2.1=⟨1,[(l,tR)]⟩) (Zb (Zh Zd Zy) (ZzA _ k _ u _ _ g) (fun x hx=>by cases hx)) ?_ (fun e y he=>by cases he.1);rintro⟨t,h',s⟩ ⟨_,⟨g,ht⟩,hh⟩;simp only at ht hh;subst ht hh;refine Zhb (Zb (Zh Zd Zy) (ZzB _ k _ u _ _ g) (fun x hx=>by cases hx)) (fun e y he=>by cases he.1) (P2:=fun e Y=>match e with | none=>(∃ g u2,Y.1=[sl 0 o A.length c,.int .i64 (k:Nat),undef,undef,Zo,.bool false,.bool (decide (vb 65536 (A.take (k/16))≠0)),.int .i64 ((k/16:Nat):Int),.int .i64 u,.int .u32 ((2^(k % 16):Nat):Int),.int .i64 u2]++tl 78 g)∧Y.2.1=⟨1,[(l,tR)]⟩ | some none=>False | some (some _)=>False) ?_ (fun e y he=>by match e,he with | none,he=>exact he | some id,he=>exact he) ?_
 ·rintro⟨t,h',s⟩ ⟨_,⟨g',ht⟩,hh⟩;simp only at ht hh;subst ht hh;exact RunsW.script (Zlz _ k _ u _ _ g').w
 rintro⟨t,h',s⟩ ⟨⟨g,u2,ht⟩,hh⟩;simp only at ht hh;subst ht hh;refine RunsW.seq (P1:=fun e Y=>e=none∧(∃ g,Y.1=[sl 0 o A.length c,.int .i64 (k:Nat),undef,undef,Zo,.bool false,.bool (decide (vb 65536 A % 2^k≠0)),.int .i64 ((k/16:Nat):Int),.int .i64 u,.int .u32 ((2^(k % 16):Nat):Int),.int .i64 u2]++tl 78 g)∧Y.2.1=⟨1,[(l,tR)]⟩) ?_ ?_ (fun e y he=>by cases he.1)
 ·by_cases h0:vb 65536 (A.take (k/16))=0
  ·rw[Xb (show ¬ (vb 65536 (A.take (k/16))≠0) by omega)];have ev:(((A.getD (k/16) 0)).tmod ((2^(k % 16):Nat):Int) !=0)=decide (vb 65536 A % 2^k≠0):=by
    rw[← hd.2,Int.tmod_eq_emod_of_nonneg (by omega),show ((dgN A (k/16):Nat):Int) % ((2^(k % 16):Nat):Int)=((dgN A (k/16) % 2^(k % 16):Nat):Int) from rfl,Bool.eq_iff_iff];rw[h0] at hl;simp only[ne_eq,not_true_eq_false,false_or] at hl;simp only[bne_iff_ne,ne_eq,Xi,hl,Zv7];omega
   refine (Zb (Zh Zd Zy) (ZzD o A.length c k ((k/16:Nat):Int) u u2 ((2^(k % 16):Nat):Int) (A.getD (k/16) 0) l (decide (vb 65536 A % 2^k≠0)) g) (Zj ev (Zj (Xb (by omega)) (Zj (by rw[Xg,Nat.mul_one,hR.cell hz];simp [Z5]) (Zv (Xa (by omega))))))).mono fun e w hw=>hw
  ·rw[Xa h0,Xa (hl.2 (.inl h0))];exact Zb (Zh Zd Zy) (ZzC _ k _ u u2 _ _ g) (fun x hx=>by cases hx)
 rintro⟨t,h',s⟩ ⟨_,⟨g,ht⟩,hh⟩;simp only at ht hh;subst ht hh;refine RunsW.seq (P1:=fun e Y=>e=none∧(∃ g,Y.1=[sl 0 o A.length c,.int .i64 (k:Nat),undef,undef,Zo,.bool false,.bool (decide (vb 65536 A % 2^k≠0)),.int .i64 ((k/16:Nat):Int),.int .i64 u,.int .u32 ((2^(k % 16):Nat):Int),.int .i64 u2,Zo]++tl 77 g)∧Y.2.1=⟨1,[(l,tR)]⟩) (Zb (Zh Zd Zy) (ZzE _ k _ u u2 _ _ _ g) (fun x hx=>by cases hx)) ?_ (fun e y he=>by cases he.1);rintro⟨t,h',s⟩ ⟨_,⟨g,ht⟩,hh⟩;simp only at ht hh;subst ht hh;refine Zhb (Zb (Zh Zd Zy) (ZzF _ k _ u u2 _ _ _ g) (fun x hx=>by cases hx)) (fun e y he=>by cases he.1) (P2:=fun e Y=>match e with | none=>ZAH l o c A k ((k/16:Nat):Int) u u2 (decide (vb 65536 A % 2^k≠0)) (2^(k % 16)) (k/16) Y | some none=>False | some (some _)=>False) ?_ (fun e y he=>by match e,he with | none,he=>exact he | some id,he=>exact he) ?_
 ·rintro⟨t,h',s⟩ ⟨_,⟨g',ht⟩,hh⟩;simp only at ht hh;subst ht hh;exact RunsW.script (Zl1 hR hF hs hA hn hP0 hPR (by omega) g')
 rintro⟨t,h',s⟩ ⟨O,hO,hOd,hv,hY⟩;rcases hY with ⟨e0,_⟩ | ⟨_,⟨g',ht⟩,hh⟩
 ·omega
 ·simp only at ht hh;subst ht hh;have hval:vb 65536 O=V:=by rw[hV];exact ZrZ hA hv
  have hrow:ZaW tU (wU O) 0 (A.length-k/16) grown=true:=by
   rw[← hO];exact Zap (fun x hx=>⟨(hOd x hx).1,by have:=(hOd x hx).2;omega⟩) (by omega) (Z0W _)
  refine (Zb (Zh Zd Zy) (ZzI _ k _ u u2 _ _ _ (A.length-k/16) (l,tR) (wU O) g') (Zv hrow)).mono fun e z he=> ?_;obtain⟨rfl,⟨g2,e1⟩,e2⟩:=he;have et:Zi (Zz (wU O) 0 (A.length-k/16))=(d16 V).length:=by
   rw[← hO,Zbc,Zan (by omega) hOd,hval];rfl
  refine⟨.inr rfl,?_,?_⟩
  ·rw[e1,e2,et];rfl
  ·rw[e2];refine⟨wU (O.drop (Zi O)),?_⟩;have e3:wU (d16 V)++wU (O.drop (Zi O))=wU O:=by
    unfold d16;rw[← hval,← zf (by omega) _ hOd,← zg,List.take_append_drop]
   rw[e3];rfl
end
theorem Zf3:f159.body=some (ZzJ f159):=ZpN
theorem ZhD {ty:TypeId}{l:List Value}{o n c:Nat}(r:ZaW ty l o n c=true) (hs:∀ v∈l,still v=true):Fst l o c (Zz l o n):=by
 intro h hb;have hlen:=(zm r).2.1;rw[hlen];constructor
 ·simp only[zC,hb,Xh];refine⟨?_,List.all_eq_true.2 hs⟩;unfold ZaW at r ⊢;simp only[Xh,Bool.not_eq_true'] at r ⊢;obtain⟨⟨⟨⟨⟨⟨_,_⟩,p3⟩,p4⟩,p5⟩,p6⟩,p7⟩:=r;exact⟨⟨⟨⟨⟨⟨Zbw,by kernel_rfl⟩,p3⟩,p4⟩,p5⟩,p6⟩,p7⟩
 ·simp [Zm,hb]
def ZeS (h:Hp) (p:Option Addr) (n c:Nat) (k:Int):Bool:=zC h p n c && dgB (Zm h p n) && Nat.blt (n+2) 1073741824 && decide (0<k∧k<4611686018427387904)
def ZzK:Zaf:=fun vals h s=>
 match vals,s with
 | [.slice p n c,.int .i64 k],.inr (.inr (.inr (.inl d))):: .inr (.inr (.inr (.inl e)))::s'=>
  match d with
  | true=>some (.tuple #[sl h.n 0 (d16 (vO h p n/2^k.toNat)).length (d16 (vO h p n/2^k.toNat)).length,.bool e],h.push (wU (d16 (vO h p n/2^k.toNat))) tU,s',[(decide (vO h p n % 2^k.toNat≠0),e),(decide (k.toNat/16<n),true),(ZeS h p n c k,true)])
  | false=>some (.tuple #[Zo,.bool e],h,s',[(decide (vO h p n % 2^k.toNat≠0),e),(decide (k.toNat/16<n),false),(ZeS h p n c k,true)])
 | _,_=>none
theorem ZtF:Z8 159 ZzK:=by
 intro vals h s v h' s' lg hg hl m B w E hv;unfold ZzK at hg;split at hg
 ·rename_i p n c k d e s2;split at hg
  ·cases hg;have l1:=hl _ (Xe);have l2:=hl _ (Xd _ (Xe));have l3:=hl _ (Xd _ (Xd _ Xf));simp only at l1 l2 l3;simp only[ZeS,Xh,Xi] at l2 l3;obtain⟨⟨⟨q1,q2⟩,q3⟩,q4⟩:=l3;have q2:=Zb7 q2;have q3:=Zl.1 q3;obtain⟨K,rfl⟩:=Int.eq_ofNat_of_zero_le (show 0≤k by omega);rw[Xg] at l1 l2 ⊢;rcases ZF q1 with ⟨rfl,rfl,rfl,e0⟩ | ⟨b,o,x,rfl,hx,r1,rs,e0⟩
   ·omega
   ·rw[e0] at q2;obtain⟨h1,h2,h3,h4,h5,h6,h7⟩:=zm r1;have ev:vO h (some ⟨b,o,none⟩) n=vb 65536 (Zz x.1 o n):=by unfold vO;rw[e0]
    have r:=ZpR h1 (ZhD r1 rs) rs q2 (by rw[h2];exact q3) (k:=K) (by omega) (by omega) (by rw[h2];exact l2) rfl;rw[h2,← ev,l1] at r;have e2:∀ L:Nat,rn (fun _=>h.n) (.tuple #[sl 1 0 L L,.bool e])= .tuple #[sl h.n 0 L L,.bool e]:=fun L=>by simp [rn,rn2,rn1,sl]
    have fin:=ZM (T:=Zk prog Zf Zn hcV) func159 Zf3 (Za5 h7) (vals:=[sl 0 o n c,.int .i64 (K:Nat)]) (fun v hv=>by
     simp only[List.mem_cons,List.not_mem_nil,or_false] at hv;rcases hv with rfl | rfl<;>rfl) (k:=1) (cs:=wU (d16 (vO h (some ⟨b,o,none⟩) n/2^K))) (ty:=tU) (Zbf _) (by kernel_rfl) r (by rfl) E (s:=fun _=>b) (zD hx h5 h6 rfl)
    rw[e2] at fin;exact fin
  ·cases hg;have l1:=hl _ (Xe);have l2:=hl _ (Xd _ (Xe));have l3:=hl _ (Xd _ (Xd _ Xf));simp only at l1 l2 l3;simp only[ZeS,Xh,Xi,decide_eq_false_iff_not] at l2 l3;obtain⟨⟨⟨q1,q2⟩,q3⟩,q4⟩:=l3;have q2:=Zb7 q2;have q3:=Zl.1 q3;obtain⟨K,rfl⟩:=Int.eq_ofNat_of_zero_le (show 0≤k by omega);rw[Xg] at l1 l2;by_cases hn:n=0
   ·subst hn;have hlen:=zE q1;have e0:Zm h p 0=[]:=List.length_eq_zero_iff.1 hlen;have ev:vO h p 0=0:=by unfold vO;rw[e0];rfl
    have ee:e=false:=by rw[← l1,ev];simp
    subst ee;obtain⟨x,p',a,NA,eA,fA⟩:=ZbE 0 q1;have ek:k16 (K:Int)=((K/16:Nat):Int):=by unfold k16;rw[Int.tdiv_eq_ediv_of_nonneg (by omega),Zw (by omega) (by omega)];omega
    have hr:Runs (Zk prog Zf Zn hcV) (Zs f159) ([.slice p' 0 c,.int .i64 (K:Nat)]++List.replicate 87 undef,⟨1,[x]⟩,[]) fun e z=>(e=none∨e=some none)∧ZY prog f159 z.1 z.2.1=some (.tuple #[Zo,.bool false]):=by
     by_cases hk:0<K/16
     ·refine (Zc (Zh Zd Zy) (ZpO p' c K _) (Zj (show decide (k16 (K:Int)≥((0:Nat):Int))=true by rw[ek];exact Xa (by omega)) (Zj rfl (Zj (show decide (0<k16 (K:Int))=true by rw[ek];exact Xa (by omega)) (Zv (Xb (by omega))))))).mono fun e z he=> ?_;obtain⟨rfl,⟨g,e2⟩,e3⟩:=he;refine⟨.inr rfl,?_⟩;rw[e2,e3];rfl
     ·refine (Zc (Zh Zd Zy) (Zlx p' c K _) (Zj (show decide (k16 (K:Int)≥((0:Nat):Int))=true by rw[ek];exact Xa (by omega)) (Zj (show decide (0<k16 (K:Int))=false by rw[ek];exact Xb (by omega)) (Zv (Xb (by omega)))))).mono fun e z he=> ?_;obtain⟨rfl,⟨g,e2⟩,e3⟩:=he;refine⟨.inr rfl,?_⟩;rw[e2,e3];rfl
    have:=Z9 (T:=Zk prog Zf Zn hcV) func159 Zlw (h0:=⟨1,[x]⟩) ⟨rfl,fun b z hz=>by obtain⟨_,rfl⟩:=ZhC hz;exact⟨NA.ros.1,NA.lt0,NA.ros.2⟩⟩ (vals:=[.slice p' 0 c,.int .i64 (K:Nat)]) (fun v hv=>by
     simp only[List.mem_cons,List.not_mem_nil,or_false] at hv;rcases hv with rfl | rfl
     ·exact NA.lt (by show 0<1;omega)
     ·rfl) (by rfl) hr.w E (s:=fun _=>a) (fun i z hz ht=>by obtain⟨_,rfl⟩:=ZhC hz;exact fA ht)
    simp only[List.map_cons,List.map_nil] at this;rw[eA _ rfl] at this;exact this
   ·rcases ZF q1 with ⟨rfl,rfl,rfl,e0⟩ | ⟨b,o,x,rfl,hx,r1,rs,e0⟩
    ·exact absurd rfl hn
    ·rw[e0] at q2;obtain⟨h1,h2,h3,h4,h5,h6,h7⟩:=zm r1;have ev:vO h (some ⟨b,o,none⟩) n=vb 65536 (Zz x.1 o n):=by unfold vO;rw[e0]
     have r:=Zl2 (c:=c) h1 q2 (by rw[h2];exact q3) (k:=K) (by omega) (by omega) (by rw[h2];omega);rw[h2,← ev,l1] at r;exact Z9 (T:=Zk prog Zf Zn hcV) func159 Zf3 (Za5 h7) (vals:=[sl 0 o n c,.int .i64 (K:Nat)]) (fun v hv=>by
      simp only[List.mem_cons,List.not_mem_nil,or_false] at hv;rcases hv with rfl | rfl<;>rfl) (by rfl) r E (s:=fun _=>b) (zD hx h5 h6 rfl)
 ·cases hg
def hcW:Hc:=zd 34 Zzp (zd 110 Zzu (zd 160 Zz2 (zd 159 ZzK (zd 36 ZrH (zd 33 Zrt (zd 71 Zry (zd 35 ZmO (zd 65 ZmU hcV))))))))
theorem ZR:HcOk hcW:=Zt func34 rfl ZeF (Zt func110 rfl Zt7 (Zt func160 rfl ZtE (Zt func159 rfl ZtF (Zt func36 rfl ZfO (Zt func33 rfl ZfK (Zt func71 rfl Zjm (Zt func35 rfl ZfL (Zt func65 rfl ZfN Zy))))))))
end Go.Proofs.YtgefjidphfdhdaaGreatDoor
namespace Go.Proofs.YtgefjidphfdhdaaGreatDoor
open Go.KRun Go.Nt
def bOf (m:Bool) (e:Int) (v:Value):List Value×TypeId:=([.bool m,.int .i64 e,v],56)
def sOf (b V:Nat):Value:=sl b 0 (d16 V).length (d16 V).length
def vRN (m:Bool) (e:Int) (v:Value):Value:= .agg #[.bool m,.int .i64 e,v]
end Go.Proofs.YtgefjidphfdhdaaGreatDoor
namespace Go.Proofs.YtgefjidphfdhdaaGreatDoor
open Go.KRun Go.Nt Go.Wd
set_option maxRecDepth 100000
def nxt (h:Hp) (V:Nat):Hp:=h.push (wU (d16 V)) tU
def ZcY:Bool×Bool:=(decide (0≤(1:Int)∧(1:Int)<18446744073709551616),true)
theorem Zaa:(d16 1).length=1:=by
 unfold d16;rw[Zbb (by omega) (by omega),show 1/65536=0 from rfl,ze];rfl
theorem Zkk {A:Nat}(h:¬ 0<(d16 A).length):A=0:=by
 have:d16 A=[]:=List.length_eq_zero_iff.1 (by omega);exact (Zcu (by omega)).1 this
end Go.Proofs.YtgefjidphfdhdaaGreatDoor
namespace Go.Proofs.YtgefjidphfdhdaaGreatDoor
open Go.Proofs.Tryz
open Go.IntKind
open Go.KRun Go.Nt Go.Wd
set_option maxRecDepth 100000
set_option linter.unusedVariables false
def tC (F:Func):Nat→Code
 | 0=>Zs F
 | n+1=>Z0 (tC F n)
def tS1 (F:Func):List Code:=[Z1 (tC F 0),Z1 (tC F 1),Z1 (tC F 2),Z1 (tC F 3),Z1 (tC F 4),Z1 (tC F 5)]
def tS2 (F:Func):List Code:=[Z1 (tC F 6),Z1 (tC F 7),Z1 (tC F 8)]
def tS3 (F:Func):Code:=Z1 (tC F 9)
def tS4 (F:Func):Code:=Z1 (tC F 10)
def tS5 (F:Func):Code:=tC F 11
theorem Ze3:f109.body=some (Zs f109):=by kernel_rfl
theorem ZtG:f109.body=some (ZZ (tS1 f109) (ZZ (tS2 f109) (.seq (tS3 f109) (.seq (tS4 f109) (tS5 f109))))):=by kernel_rfl
abbrev pX9 (neg:Bool) (E N M:Int) (o n c:Nat) (r:List Value):List Value:=vRN neg E (sl 0 o n c):: .int .i64 N:: .int .i64 M:: .pointer (some ⟨1,0,none⟩)::undef::undef::r
def bX (neg:Bool) (E:Int) (o n c:Nat):List Value×TypeId:=bOf neg E (sl 0 o n c)
def hX (neg:Bool) (E:Int) (o n c:Nat) (l:List Value):Hp:=⟨2,[bX neg E o n c,(l,tR)]⟩
def hQ (neg:Bool) (E:Int) (o n c:Nat) (l:List Value) (q:Nat):Hp:=⟨3,[(wU (d16 q),tU),bX neg E o n c,(l,tR)]⟩
def aX (o:Nat):Option Addr:=some ⟨0,o,none⟩
def dif (x y:Int):Int:=i64.wrap (x-y)
def ZcZ (h:Hp) (p:Option Addr) (n c:Nat) (k:Int):Bool:=zC h p n c && dgB (Zm h p n) && Nat.blt (k.toNat/16+n+3) 1073741824 && decide (0≤k)
def Zaj (h:Hp) (p:Option Addr) (n c:Nat):Bool:=zC h p n c && Zdf (Zm h p n) && Nat.blt n 1073741824
theorem Z5s (neg:Bool) (E N M:Int) (o n c:Nat) (l:List Value):Zg (evC (Zk prog Zf Zn hcW) 200 false (Zs f109) ([vRN neg E (sl 0 o n c),.int .i64 N,.int .i64 M]++List.replicate 103 undef,⟨1,[(l,tR)]⟩,[cmp true,cmp true]) ⟨[],[],[]⟩) 8 98 (some none) (pX9 neg E N M o n c [sOf 2 ((vO (hX neg E o n c l) (aX o) n)*2^(dif E N).toNat),.bool false]) (nxt (hX neg E o n c l) ((vO (hX neg E o n c l) (aX o) n)*2^(dif E N).toNat)) [(ZcZ (hX neg E o n c l) (aX o) n c (dif E N),true),(decide (0<n),true),(decide (E≥N),true)]:=by and_intros<;>kernel_rfl
theorem Z5t (neg:Bool) (E N M:Int) (o n c:Nat) (l:List Value):Zg (evC (Zk prog Zf Zn hcW) 200 false (Zs f109) ([vRN neg E (sl 0 o n c),.int .i64 N,.int .i64 M]++List.replicate 103 undef,⟨1,[(l,tR)]⟩,[cmp true,cmp false]) ⟨[],[],[]⟩) 8 98 (some none) (pX9 neg E N M o n c [Zo,.bool false]) (hX neg E o n c l) [(zC (hX neg E o n c l) (aX o) n c,true),(decide (0<n),false),(decide (E≥N),true)]:=by and_intros<;>kernel_rfl
theorem Z5u (neg:Bool) (E N M:Int) (o n c:Nat) (l:List Value):Zg (evC (Zk prog Zf Zn hcW) 200 false (Zs f109) ([vRN neg E (sl 0 o n c),.int .i64 N,.int .i64 M]++List.replicate 103 undef,⟨1,[(l,tR)]⟩,[cmp false,cmp true,cmp false]) ⟨[],[],[]⟩) 8 98 (some none) (pX9 neg E N M o n c [sOf 2 ((vO (hX neg E o n c l) (aX o) n)/2^(dif N E).toNat),.bool false]) (nxt (hX neg E o n c l) ((vO (hX neg E o n c l) (aX o) n)/2^(dif N E).toNat)) [(decide ((vO (hX neg E o n c l) (aX o) n) % 2^(dif N E).toNat≠0),false),(decide ((dif N E).toNat/16<n),true),(ZeS (hX neg E o n c l) (aX o) n c (dif N E),true),(decide (E≥N),false)]:=by and_intros<;>kernel_rfl
theorem Z5v (neg:Bool) (E N M:Int) (o n c:Nat) (l:List Value):Zg (evC (Zk prog Zf Zn hcW) 200 false (Zs f109) ([vRN neg E (sl 0 o n c),.int .i64 N,.int .i64 M]++List.replicate 103 undef,⟨1,[(l,tR)]⟩,[cmp false,cmp false,cmp false]) ⟨[],[],[]⟩) 8 98 (some none) (pX9 neg E N M o n c [Zo,.bool false]) (hX neg E o n c l) [(decide ((vO (hX neg E o n c l) (aX o) n) % 2^(dif N E).toNat≠0),false),(decide ((dif N E).toNat/16<n),false),(ZeS (hX neg E o n c l) (aX o) n c (dif N E),true),(decide (E≥N),false)]:=by and_intros<;>kernel_rfl
theorem Z5w (neg d:Bool) (E N M:Int) (o n c:Nat) (l:List Value):Zg (evL (Zk prog Zf Zn hcW) 200 (tS1 f109) ([vRN neg E (sl 0 o n c),.int .i64 N,.int .i64 M]++List.replicate 103 undef,⟨1,[(l,tR)]⟩,[cmp false,cmp true,cmp true,cmp d]) ⟨[],[],[]⟩) 12 94 none (pX9 neg E N M o n c [Zo,.bool false,.int .i64 (dif N E),sOf 2 ((vO (hX neg E o n c l) (aX o) n)/2^(dif N E).toNat),.bool true,.bool d]) (nxt (hX neg E o n c l) ((vO (hX neg E o n c l) (aX o) n)/2^(dif N E).toNat)) [(((vO (nxt (hX neg E o n c l) ((vO (hX neg E o n c l) (aX o) n)/2^(dif N E).toNat)) (aX o) n/2^(dif (dif N E) 1).toNat % 2:Nat):Int)==1,d),(Zz1 (nxt (hX neg E o n c l) ((vO (hX neg E o n c l) (aX o) n)/2^(dif N E).toNat)) (aX o) n c,true),(decide (0≤dif (dif N E) 1∧dif (dif N E) 1<4611686018427387904),true),(decide ((vO (hX neg E o n c l) (aX o) n) % 2^(dif N E).toNat≠0),true),(decide ((dif N E).toNat/16<n),true),(ZeS (hX neg E o n c l) (aX o) n c (dif N E),true),(decide (E≥N),false)]:=by and_intros<;>kernel_rfl
theorem Z5x (neg d:Bool) (E N M:Int) (o n c:Nat) (l:List Value):Zg (evL (Zk prog Zf Zn hcW) 200 (tS1 f109) ([vRN neg E (sl 0 o n c),.int .i64 N,.int .i64 M]++List.replicate 103 undef,⟨1,[(l,tR)]⟩,[cmp false,cmp false,cmp true,cmp d]) ⟨[],[],[]⟩) 12 94 none (pX9 neg E N M o n c [Zo,.bool false,.int .i64 (dif N E),Zo,.bool true,.bool d]) (hX neg E o n c l) [(((vO (hX neg E o n c l) (aX o) n/2^(dif (dif N E) 1).toNat % 2:Nat):Int)==1,d),(Zz1 (hX neg E o n c l) (aX o) n c,true),(decide (0≤dif (dif N E) 1∧dif (dif N E) 1<4611686018427387904),true),(decide ((vO (hX neg E o n c l) (aX o) n) % 2^(dif N E).toNat≠0),true),(decide ((dif N E).toNat/16<n),false),(ZeS (hX neg E o n c l) (aX o) n c (dif N E),true),(decide (E≥N),false)]:=by and_intros<;>kernel_rfl
theorem ZzL (neg j:Bool) (E N M b:Int) (o n c q:Nat) (l:List Value) (g:Nat→Value):Zg (evL (Zk prog Zf Zn hcW) 200 (tS2 f109) ((pX9 neg E N M o n c [Zo,.bool false,.int .i64 b,sOf 2 q,.bool true,.bool false])++tl 94 g,(hQ neg E o n c l q),[cmp false]) ⟨[],[],[]⟩) 14 92 none (pX9 neg E N M o n c [Zo,.bool false,.int .i64 b,sOf 2 q,.bool true,.bool false,sl 0 o n c,.bool false]) (hQ neg E o n c l q) [(decide (b≤((bl (vO (hQ neg E o n c l q) (aX o) n):Nat):Int)),false),(Zaj (hQ neg E o n c l q) (aX o) n c,true)]:=by and_intros<;>kernel_rfl
theorem ZzM (neg j:Bool) (E N M b:Int) (o n c q:Nat) (l:List Value) (g:Nat→Value):Zg (evL (Zk prog Zf Zn hcW) 200 (tS2 f109) ((pX9 neg E N M o n c [Zo,.bool false,.int .i64 b,sOf 2 q,.bool true,.bool true])++tl 94 g,(hQ neg E o n c l q),[cmp false,cmp true,cmp j]) ⟨[],[],[]⟩) 14 92 none (pX9 neg E N M o n c [Zo,.bool false,.int .i64 b,sOf 2 q,.bool true,.bool true,sl 0 o n c,.bool j]) (nxt (nxt (hQ neg E o n c l q) 1) (vO (nxt (hQ neg E o n c l q) 1) (some ⟨3,0,none⟩) (d16 1).length*2^(dif b 1).toNat)) [(Zag (vO (nxt (nxt (hQ neg E o n c l q) 1) (vO (nxt (hQ neg E o n c l q) 1) (some ⟨3,0,none⟩) (d16 1).length*2^(dif b 1).toNat)) (aX o) n) (vO (nxt (nxt (hQ neg E o n c l q) 1) (vO (nxt (hQ neg E o n c l q) 1) (some ⟨3,0,none⟩) (d16 1).length*2^(dif b 1).toNat)) (some ⟨4,0,none⟩) (d16 (vO (nxt (hQ neg E o n c l q) 1) (some ⟨3,0,none⟩) (d16 1).length*2^(dif b 1).toNat)).length)==0,j),(ZN (nxt (nxt (hQ neg E o n c l q) 1) (vO (nxt (hQ neg E o n c l q) 1) (some ⟨3,0,none⟩) (d16 1).length*2^(dif b 1).toNat)) (aX o) (some ⟨4,0,none⟩) n c (d16 (vO (nxt (hQ neg E o n c l q) 1) (some ⟨3,0,none⟩) (d16 1).length*2^(dif b 1).toNat)).length (d16 (vO (nxt (hQ neg E o n c l q) 1) (some ⟨3,0,none⟩) (d16 1).length*2^(dif b 1).toNat)).length,true),(ZcZ (nxt (hQ neg E o n c l q) 1) (some ⟨3,0,none⟩) (d16 1).length (d16 1).length (dif b 1),true),(decide (0<(d16 1).length),true),ZcY,(decide (b≤((bl (vO (hQ neg E o n c l q) (aX o) n):Nat):Int)),false),(Zaj (hQ neg E o n c l q) (aX o) n c,true)]:=by and_intros<;>kernel_rfl
theorem ZzN (neg j:Bool) (E N M b:Int) (o n c q:Nat) (l:List Value) (g:Nat→Value):Zg (evL (Zk prog Zf Zn hcW) 200 (tS2 f109) ((pX9 neg E N M o n c [Zo,.bool false,.int .i64 b,sOf 2 q,.bool true,.bool false])++tl 94 g,(hQ neg E o n c l q),[cmp true,cmp true,cmp true]) ⟨[],[],[]⟩) 14 92 none (pX9 neg E N M o n c [Zo,.bool false,.int .i64 b,sOf 2 q,.bool true,.bool false,sOf 4 (vO (nxt (hQ neg E o n c l q) (vO (hQ neg E o n c l q) (some ⟨2,0,none⟩) (d16 q).length*2^b.toNat)) (aX o) n-vO (nxt (hQ neg E o n c l q) (vO (hQ neg E o n c l q) (some ⟨2,0,none⟩) (d16 q).length*2^b.toNat)) (some ⟨3,0,none⟩) (d16 (vO (hQ neg E o n c l q) (some ⟨2,0,none⟩) (d16 q).length*2^b.toNat)).length),.bool false]) (nxt (nxt (hQ neg E o n c l q) (vO (hQ neg E o n c l q) (some ⟨2,0,none⟩) (d16 q).length*2^b.toNat)) (vO (nxt (hQ neg E o n c l q) (vO (hQ neg E o n c l q) (some ⟨2,0,none⟩) (d16 q).length*2^b.toNat)) (aX o) n-vO (nxt (hQ neg E o n c l q) (vO (hQ neg E o n c l q) (some ⟨2,0,none⟩) (d16 q).length*2^b.toNat)) (some ⟨3,0,none⟩) (d16 (vO (hQ neg E o n c l q) (some ⟨2,0,none⟩) (d16 q).length*2^b.toNat)).length)) [(ZN (nxt (hQ neg E o n c l q) (vO (hQ neg E o n c l q) (some ⟨2,0,none⟩) (d16 q).length*2^b.toNat)) (aX o) (some ⟨3,0,none⟩) n c (d16 (vO (hQ neg E o n c l q) (some ⟨2,0,none⟩) (d16 q).length*2^b.toNat)).length (d16 (vO (hQ neg E o n c l q) (some ⟨2,0,none⟩) (d16 q).length*2^b.toNat)).length && Nat.ble (vO (nxt (hQ neg E o n c l q) (vO (hQ neg E o n c l q) (some ⟨2,0,none⟩) (d16 q).length*2^b.toNat)) (some ⟨3,0,none⟩) (d16 (vO (hQ neg E o n c l q) (some ⟨2,0,none⟩) (d16 q).length*2^b.toNat)).length) (vO (nxt (hQ neg E o n c l q) (vO (hQ neg E o n c l q) (some ⟨2,0,none⟩) (d16 q).length*2^b.toNat)) (aX o) n),true),(decide (0<n),true),(ZcZ (hQ neg E o n c l q) (some ⟨2,0,none⟩) (d16 q).length (d16 q).length b,true),(decide (0<(d16 q).length),true),(decide (b≤((bl (vO (hQ neg E o n c l q) (aX o) n):Nat):Int)),true),(Zaj (hQ neg E o n c l q) (aX o) n c,true)]:=by and_intros<;>kernel_rfl
theorem ZzO (neg j:Bool) (E N M b:Int) (o n c q:Nat) (l:List Value) (g:Nat→Value):Zg (evL (Zk prog Zf Zn hcW) 200 (tS2 f109) ((pX9 neg E N M o n c [Zo,.bool false,.int .i64 b,sOf 2 q,.bool true,.bool true])++tl 94 g,(hQ neg E o n c l q),[cmp true,cmp true,cmp true,cmp true,cmp j]) ⟨[],[],[]⟩) 14 92 none (pX9 neg E N M o n c [Zo,.bool false,.int .i64 b,sOf 2 q,.bool true,.bool true,sOf 4 (vO (nxt (hQ neg E o n c l q) (vO (hQ neg E o n c l q) (some ⟨2,0,none⟩) (d16 q).length*2^b.toNat)) (aX o) n-vO (nxt (hQ neg E o n c l q) (vO (hQ neg E o n c l q) (some ⟨2,0,none⟩) (d16 q).length*2^b.toNat)) (some ⟨3,0,none⟩) (d16 (vO (hQ neg E o n c l q) (some ⟨2,0,none⟩) (d16 q).length*2^b.toNat)).length),.bool j]) (nxt (nxt (nxt (nxt (hQ neg E o n c l q) (vO (hQ neg E o n c l q) (some ⟨2,0,none⟩) (d16 q).length*2^b.toNat)) (vO (nxt (hQ neg E o n c l q) (vO (hQ neg E o n c l q) (some ⟨2,0,none⟩) (d16 q).length*2^b.toNat)) (aX o) n-vO (nxt (hQ neg E o n c l q) (vO (hQ neg E o n c l q) (some ⟨2,0,none⟩) (d16 q).length*2^b.toNat)) (some ⟨3,0,none⟩) (d16 (vO (hQ neg E o n c l q) (some ⟨2,0,none⟩) (d16 q).length*2^b.toNat)).length)) 1) (vO (nxt (nxt (nxt (hQ neg E o n c l q) (vO (hQ neg E o n c l q) (some ⟨2,0,none⟩) (d16 q).length*2^b.toNat)) (vO (nxt (hQ neg E o n c l q) (vO (hQ neg E o n c l q) (some ⟨2,0,none⟩) (d16 q).length*2^b.toNat)) (aX o) n-vO (nxt (hQ neg E o n c l q) (vO (hQ neg E o n c l q) (some ⟨2,0,none⟩) (d16 q).length*2^b.toNat)) (some ⟨3,0,none⟩) (d16 (vO (hQ neg E o n c l q) (some ⟨2,0,none⟩) (d16 q).length*2^b.toNat)).length)) 1) (some ⟨5,0,none⟩) (d16 1).length*2^(dif b 1).toNat)) [(Zag (vO (nxt (nxt (nxt (nxt (hQ neg E o n c l q) (vO (hQ neg E o n c l q) (some ⟨2,0,none⟩) (d16 q).length*2^b.toNat)) (vO (nxt (hQ neg E o n c l q) (vO (hQ neg E o n c l q) (some ⟨2,0,none⟩) (d16 q).length*2^b.toNat)) (aX o) n-vO (nxt (hQ neg E o n c l q) (vO (hQ neg E o n c l q) (some ⟨2,0,none⟩) (d16 q).length*2^b.toNat)) (some ⟨3,0,none⟩) (d16 (vO (hQ neg E o n c l q) (some ⟨2,0,none⟩) (d16 q).length*2^b.toNat)).length)) 1) (vO (nxt (nxt (nxt (hQ neg E o n c l q) (vO (hQ neg E o n c l q) (some ⟨2,0,none⟩) (d16 q).length*2^b.toNat)) (vO (nxt (hQ neg E o n c l q) (vO (hQ neg E o n c l q) (some ⟨2,0,none⟩) (d16 q).length*2^b.toNat)) (aX o) n-vO (nxt (hQ neg E o n c l q) (vO (hQ neg E o n c l q) (some ⟨2,0,none⟩) (d16 q).length*2^b.toNat)) (some ⟨3,0,none⟩) (d16 (vO (hQ neg E o n c l q) (some ⟨2,0,none⟩) (d16 q).length*2^b.toNat)).length)) 1) (some ⟨5,0,none⟩) (d16 1).length*2^(dif b 1).toNat)) (some ⟨4,0,none⟩) (d16 (vO (nxt (hQ neg E o n c l q) (vO (hQ neg E o n c l q) (some ⟨2,0,none⟩) (d16 q).length*2^b.toNat)) (aX o) n-vO (nxt (hQ neg E o n c l q) (vO (hQ neg E o n c l q) (some ⟨2,0,none⟩) (d16 q).length*2^b.toNat)) (some ⟨3,0,none⟩) (d16 (vO (hQ neg E o n c l q) (some ⟨2,0,none⟩) (d16 q).length*2^b.toNat)).length)).length) (vO (nxt (nxt (nxt (nxt (hQ neg E o n c l q) (vO (hQ neg E o n c l q) (some ⟨2,0,none⟩) (d16 q).length*2^b.toNat)) (vO (nxt (hQ neg E o n c l q) (vO (hQ neg E o n c l q) (some ⟨2,0,none⟩) (d16 q).length*2^b.toNat)) (aX o) n-vO (nxt (hQ neg E o n c l q) (vO (hQ neg E o n c l q) (some ⟨2,0,none⟩) (d16 q).length*2^b.toNat)) (some ⟨3,0,none⟩) (d16 (vO (hQ neg E o n c l q) (some ⟨2,0,none⟩) (d16 q).length*2^b.toNat)).length)) 1) (vO (nxt (nxt (nxt (hQ neg E o n c l q) (vO (hQ neg E o n c l q) (some ⟨2,0,none⟩) (d16 q).length*2^b.toNat)) (vO (nxt (hQ neg E o n c l q) (vO (hQ neg E o n c l q) (some ⟨2,0,none⟩) (d16 q).length*2^b.toNat)) (aX o) n-vO (nxt (hQ neg E o n c l q) (vO (hQ neg E o n c l q) (some ⟨2,0,none⟩) (d16 q).length*2^b.toNat)) (some ⟨3,0,none⟩) (d16 (vO (hQ neg E o n c l q) (some ⟨2,0,none⟩) (d16 q).length*2^b.toNat)).length)) 1) (some ⟨5,0,none⟩) (d16 1).length*2^(dif b 1).toNat)) (some ⟨6,0,none⟩) (d16 (vO (nxt (nxt (nxt (hQ neg E o n c l q) (vO (hQ neg E o n c l q) (some ⟨2,0,none⟩) (d16 q).length*2^b.toNat)) (vO (nxt (hQ neg E o n c l q) (vO (hQ neg E o n c l q) (some ⟨2,0,none⟩) (d16 q).length*2^b.toNat)) (aX o) n-vO (nxt (hQ neg E o n c l q) (vO (hQ neg E o n c l q) (some ⟨2,0,none⟩) (d16 q).length*2^b.toNat)) (some ⟨3,0,none⟩) (d16 (vO (hQ neg E o n c l q) (some ⟨2,0,none⟩) (d16 q).length*2^b.toNat)).length)) 1) (some ⟨5,0,none⟩) (d16 1).length*2^(dif b 1).toNat)).length)==0,j),(ZN (nxt (nxt (nxt (nxt (hQ neg E o n c l q) (vO (hQ neg E o n c l q) (some ⟨2,0,none⟩) (d16 q).length*2^b.toNat)) (vO (nxt (hQ neg E o n c l q) (vO (hQ neg E o n c l q) (some ⟨2,0,none⟩) (d16 q).length*2^b.toNat)) (aX o) n-vO (nxt (hQ neg E o n c l q) (vO (hQ neg E o n c l q) (some ⟨2,0,none⟩) (d16 q).length*2^b.toNat)) (some ⟨3,0,none⟩) (d16 (vO (hQ neg E o n c l q) (some ⟨2,0,none⟩) (d16 q).length*2^b.toNat)).length)) 1) (vO (nxt (nxt (nxt (hQ neg E o n c l q) (vO (hQ neg E o n c l q) (some ⟨2,0,none⟩) (d16 q).length*2^b.toNat)) (vO (nxt (hQ neg E o n c l q) (vO (hQ neg E o n c l q) (some ⟨2,0,none⟩) (d16 q).length*2^b.toNat)) (aX o) n-vO (nxt (hQ neg E o n c l q) (vO (hQ neg E o n c l q) (some ⟨2,0,none⟩) (d16 q).length*2^b.toNat)) (some ⟨3,0,none⟩) (d16 (vO (hQ neg E o n c l q) (some ⟨2,0,none⟩) (d16 q).length*2^b.toNat)).length)) 1) (some ⟨5,0,none⟩) (d16 1).length*2^(dif b 1).toNat)) (some ⟨4,0,none⟩) (some ⟨6,0,none⟩) (d16 (vO (nxt (hQ neg E o n c l q) (vO (hQ neg E o n c l q) (some ⟨2,0,none⟩) (d16 q).length*2^b.toNat)) (aX o) n-vO (nxt (hQ neg E o n c l q) (vO (hQ neg E o n c l q) (some ⟨2,0,none⟩) (d16 q).length*2^b.toNat)) (some ⟨3,0,none⟩) (d16 (vO (hQ neg E o n c l q) (some ⟨2,0,none⟩) (d16 q).length*2^b.toNat)).length)).length (d16 (vO (nxt (hQ neg E o n c l q) (vO (hQ neg E o n c l q) (some ⟨2,0,none⟩) (d16 q).length*2^b.toNat)) (aX o) n-vO (nxt (hQ neg E o n c l q) (vO (hQ neg E o n c l q) (some ⟨2,0,none⟩) (d16 q).length*2^b.toNat)) (some ⟨3,0,none⟩) (d16 (vO (hQ neg E o n c l q) (some ⟨2,0,none⟩) (d16 q).length*2^b.toNat)).length)).length (d16 (vO (nxt (nxt (nxt (hQ neg E o n c l q) (vO (hQ neg E o n c l q) (some ⟨2,0,none⟩) (d16 q).length*2^b.toNat)) (vO (nxt (hQ neg E o n c l q) (vO (hQ neg E o n c l q) (some ⟨2,0,none⟩) (d16 q).length*2^b.toNat)) (aX o) n-vO (nxt (hQ neg E o n c l q) (vO (hQ neg E o n c l q) (some ⟨2,0,none⟩) (d16 q).length*2^b.toNat)) (some ⟨3,0,none⟩) (d16 (vO (hQ neg E o n c l q) (some ⟨2,0,none⟩) (d16 q).length*2^b.toNat)).length)) 1) (some ⟨5,0,none⟩) (d16 1).length*2^(dif b 1).toNat)).length (d16 (vO (nxt (nxt (nxt (hQ neg E o n c l q) (vO (hQ neg E o n c l q) (some ⟨2,0,none⟩) (d16 q).length*2^b.toNat)) (vO (nxt (hQ neg E o n c l q) (vO (hQ neg E o n c l q) (some ⟨2,0,none⟩) (d16 q).length*2^b.toNat)) (aX o) n-vO (nxt (hQ neg E o n c l q) (vO (hQ neg E o n c l q) (some ⟨2,0,none⟩) (d16 q).length*2^b.toNat)) (some ⟨3,0,none⟩) (d16 (vO (hQ neg E o n c l q) (some ⟨2,0,none⟩) (d16 q).length*2^b.toNat)).length)) 1) (some ⟨5,0,none⟩) (d16 1).length*2^(dif b 1).toNat)).length,true),(ZcZ (nxt (nxt (nxt (hQ neg E o n c l q) (vO (hQ neg E o n c l q) (some ⟨2,0,none⟩) (d16 q).length*2^b.toNat)) (vO (nxt (hQ neg E o n c l q) (vO (hQ neg E o n c l q) (some ⟨2,0,none⟩) (d16 q).length*2^b.toNat)) (aX o) n-vO (nxt (hQ neg E o n c l q) (vO (hQ neg E o n c l q) (some ⟨2,0,none⟩) (d16 q).length*2^b.toNat)) (some ⟨3,0,none⟩) (d16 (vO (hQ neg E o n c l q) (some ⟨2,0,none⟩) (d16 q).length*2^b.toNat)).length)) 1) (some ⟨5,0,none⟩) (d16 1).length (d16 1).length (dif b 1),true),(decide (0<(d16 1).length),true),ZcY,(ZN (nxt (hQ neg E o n c l q) (vO (hQ neg E o n c l q) (some ⟨2,0,none⟩) (d16 q).length*2^b.toNat)) (aX o) (some ⟨3,0,none⟩) n c (d16 (vO (hQ neg E o n c l q) (some ⟨2,0,none⟩) (d16 q).length*2^b.toNat)).length (d16 (vO (hQ neg E o n c l q) (some ⟨2,0,none⟩) (d16 q).length*2^b.toNat)).length && Nat.ble (vO (nxt (hQ neg E o n c l q) (vO (hQ neg E o n c l q) (some ⟨2,0,none⟩) (d16 q).length*2^b.toNat)) (some ⟨3,0,none⟩) (d16 (vO (hQ neg E o n c l q) (some ⟨2,0,none⟩) (d16 q).length*2^b.toNat)).length) (vO (nxt (hQ neg E o n c l q) (vO (hQ neg E o n c l q) (some ⟨2,0,none⟩) (d16 q).length*2^b.toNat)) (aX o) n),true),(decide (0<n),true),(ZcZ (hQ neg E o n c l q) (some ⟨2,0,none⟩) (d16 q).length (d16 q).length b,true),(decide (0<(d16 q).length),true),(decide (b≤((bl (vO (hQ neg E o n c l q) (aX o) n):Nat):Int)),true),(Zaj (hQ neg E o n c l q) (aX o) n c,true)]:=by and_intros<;>kernel_rfl
theorem ZzP (neg j:Bool) (E N M b:Int) (o n c q:Nat) (l:List Value) (g:Nat→Value):Zg (evL (Zk prog Zf Zn hcW) 200 (tS2 f109) ((pX9 neg E N M o n c [Zo,.bool false,.int .i64 b,sOf 2 q,.bool true,.bool false])++tl 94 g,(hQ neg E o n c l q),[cmp true,cmp false,cmp true]) ⟨[],[],[]⟩) 14 92 none (pX9 neg E N M o n c [Zo,.bool false,.int .i64 b,sOf 2 q,.bool true,.bool false,sOf 3 (vO (hQ neg E o n c l q) (aX o) n-vO (hQ neg E o n c l q) none 0),.bool false]) (nxt (hQ neg E o n c l q) (vO (hQ neg E o n c l q) (aX o) n-vO (hQ neg E o n c l q) none 0)) [(ZN (hQ neg E o n c l q) (aX o) none n c 0 0 && Nat.ble (vO (hQ neg E o n c l q) none 0) (vO (hQ neg E o n c l q) (aX o) n),true),(decide (0<n),true),(zC (hQ neg E o n c l q) (some ⟨2,0,none⟩) (d16 q).length (d16 q).length,true),(decide (0<(d16 q).length),false),(decide (b≤((bl (vO (hQ neg E o n c l q) (aX o) n):Nat):Int)),true),(Zaj (hQ neg E o n c l q) (aX o) n c,true)]:=by and_intros<;>kernel_rfl
theorem ZzQ (neg j:Bool) (E N M b:Int) (o n c q:Nat) (l:List Value) (g:Nat→Value):Zg (evL (Zk prog Zf Zn hcW) 200 (tS2 f109) ((pX9 neg E N M o n c [Zo,.bool false,.int .i64 b,sOf 2 q,.bool true,.bool true])++tl 94 g,(hQ neg E o n c l q),[cmp true,cmp false,cmp true,cmp true,cmp j]) ⟨[],[],[]⟩) 14 92 none (pX9 neg E N M o n c [Zo,.bool false,.int .i64 b,sOf 2 q,.bool true,.bool true,sOf 3 (vO (hQ neg E o n c l q) (aX o) n-vO (hQ neg E o n c l q) none 0),.bool j]) (nxt (nxt (nxt (hQ neg E o n c l q) (vO (hQ neg E o n c l q) (aX o) n-vO (hQ neg E o n c l q) none 0)) 1) (vO (nxt (nxt (hQ neg E o n c l q) (vO (hQ neg E o n c l q) (aX o) n-vO (hQ neg E o n c l q) none 0)) 1) (some ⟨4,0,none⟩) (d16 1).length*2^(dif b 1).toNat)) [(Zag (vO (nxt (nxt (nxt (hQ neg E o n c l q) (vO (hQ neg E o n c l q) (aX o) n-vO (hQ neg E o n c l q) none 0)) 1) (vO (nxt (nxt (hQ neg E o n c l q) (vO (hQ neg E o n c l q) (aX o) n-vO (hQ neg E o n c l q) none 0)) 1) (some ⟨4,0,none⟩) (d16 1).length*2^(dif b 1).toNat)) (some ⟨3,0,none⟩) (d16 (vO (hQ neg E o n c l q) (aX o) n-vO (hQ neg E o n c l q) none 0)).length) (vO (nxt (nxt (nxt (hQ neg E o n c l q) (vO (hQ neg E o n c l q) (aX o) n-vO (hQ neg E o n c l q) none 0)) 1) (vO (nxt (nxt (hQ neg E o n c l q) (vO (hQ neg E o n c l q) (aX o) n-vO (hQ neg E o n c l q) none 0)) 1) (some ⟨4,0,none⟩) (d16 1).length*2^(dif b 1).toNat)) (some ⟨5,0,none⟩) (d16 (vO (nxt (nxt (hQ neg E o n c l q) (vO (hQ neg E o n c l q) (aX o) n-vO (hQ neg E o n c l q) none 0)) 1) (some ⟨4,0,none⟩) (d16 1).length*2^(dif b 1).toNat)).length)==0,j),(ZN (nxt (nxt (nxt (hQ neg E o n c l q) (vO (hQ neg E o n c l q) (aX o) n-vO (hQ neg E o n c l q) none 0)) 1) (vO (nxt (nxt (hQ neg E o n c l q) (vO (hQ neg E o n c l q) (aX o) n-vO (hQ neg E o n c l q) none 0)) 1) (some ⟨4,0,none⟩) (d16 1).length*2^(dif b 1).toNat)) (some ⟨3,0,none⟩) (some ⟨5,0,none⟩) (d16 (vO (hQ neg E o n c l q) (aX o) n-vO (hQ neg E o n c l q) none 0)).length (d16 (vO (hQ neg E o n c l q) (aX o) n-vO (hQ neg E o n c l q) none 0)).length (d16 (vO (nxt (nxt (hQ neg E o n c l q) (vO (hQ neg E o n c l q) (aX o) n-vO (hQ neg E o n c l q) none 0)) 1) (some ⟨4,0,none⟩) (d16 1).length*2^(dif b 1).toNat)).length (d16 (vO (nxt (nxt (hQ neg E o n c l q) (vO (hQ neg E o n c l q) (aX o) n-vO (hQ neg E o n c l q) none 0)) 1) (some ⟨4,0,none⟩) (d16 1).length*2^(dif b 1).toNat)).length,true),(ZcZ (nxt (nxt (hQ neg E o n c l q) (vO (hQ neg E o n c l q) (aX o) n-vO (hQ neg E o n c l q) none 0)) 1) (some ⟨4,0,none⟩) (d16 1).length (d16 1).length (dif b 1),true),(decide (0<(d16 1).length),true),ZcY,(ZN (hQ neg E o n c l q) (aX o) none n c 0 0 && Nat.ble (vO (hQ neg E o n c l q) none 0) (vO (hQ neg E o n c l q) (aX o) n),true),(decide (0<n),true),(zC (hQ neg E o n c l q) (some ⟨2,0,none⟩) (d16 q).length (d16 q).length,true),(decide (0<(d16 q).length),false),(decide (b≤((bl (vO (hQ neg E o n c l q) (aX o) n):Nat):Int)),true),(Zaj (hQ neg E o n c l q) (aX o) n c,true)]:=by and_intros<;>kernel_rfl
theorem ZzR (neg j:Bool) (E N M b:Int) (o n c q:Nat) (l:List Value) (g:Nat→Value):Zg (evL (Zk prog Zf Zn hcW) 200 (tS2 f109) ((pX9 neg E N M o n c [Zo,.bool false,.int .i64 b,Zo,.bool true,.bool false])++tl 94 g,(hX neg E o n c l),[cmp false]) ⟨[],[],[]⟩) 14 92 none (pX9 neg E N M o n c [Zo,.bool false,.int .i64 b,Zo,.bool true,.bool false,sl 0 o n c,.bool false]) (hX neg E o n c l) [(decide (b≤((bl (vO (hX neg E o n c l) (aX o) n):Nat):Int)),false),(Zaj (hX neg E o n c l) (aX o) n c,true)]:=by and_intros<;>kernel_rfl
theorem ZzS (neg j:Bool) (E N M b:Int) (o n c q:Nat) (l:List Value) (g:Nat→Value):Zg (evL (Zk prog Zf Zn hcW) 200 (tS2 f109) ((pX9 neg E N M o n c [Zo,.bool false,.int .i64 b,Zo,.bool true,.bool true])++tl 94 g,(hX neg E o n c l),[cmp false,cmp true,cmp j]) ⟨[],[],[]⟩) 14 92 none (pX9 neg E N M o n c [Zo,.bool false,.int .i64 b,Zo,.bool true,.bool true,sl 0 o n c,.bool j]) (nxt (nxt (hX neg E o n c l) 1) (vO (nxt (hX neg E o n c l) 1) (some ⟨2,0,none⟩) (d16 1).length*2^(dif b 1).toNat)) [(Zag (vO (nxt (nxt (hX neg E o n c l) 1) (vO (nxt (hX neg E o n c l) 1) (some ⟨2,0,none⟩) (d16 1).length*2^(dif b 1).toNat)) (aX o) n) (vO (nxt (nxt (hX neg E o n c l) 1) (vO (nxt (hX neg E o n c l) 1) (some ⟨2,0,none⟩) (d16 1).length*2^(dif b 1).toNat)) (some ⟨3,0,none⟩) (d16 (vO (nxt (hX neg E o n c l) 1) (some ⟨2,0,none⟩) (d16 1).length*2^(dif b 1).toNat)).length)==0,j),(ZN (nxt (nxt (hX neg E o n c l) 1) (vO (nxt (hX neg E o n c l) 1) (some ⟨2,0,none⟩) (d16 1).length*2^(dif b 1).toNat)) (aX o) (some ⟨3,0,none⟩) n c (d16 (vO (nxt (hX neg E o n c l) 1) (some ⟨2,0,none⟩) (d16 1).length*2^(dif b 1).toNat)).length (d16 (vO (nxt (hX neg E o n c l) 1) (some ⟨2,0,none⟩) (d16 1).length*2^(dif b 1).toNat)).length,true),(ZcZ (nxt (hX neg E o n c l) 1) (some ⟨2,0,none⟩) (d16 1).length (d16 1).length (dif b 1),true),(decide (0<(d16 1).length),true),ZcY,(decide (b≤((bl (vO (hX neg E o n c l) (aX o) n):Nat):Int)),false),(Zaj (hX neg E o n c l) (aX o) n c,true)]:=by and_intros<;>kernel_rfl
theorem ZzT (neg j:Bool) (E N M b:Int) (o n c q:Nat) (l:List Value) (g:Nat→Value):Zg (evL (Zk prog Zf Zn hcW) 200 (tS2 f109) ((pX9 neg E N M o n c [Zo,.bool false,.int .i64 b,Zo,.bool true,.bool false])++tl 94 g,(hX neg E o n c l),[cmp true,cmp false,cmp true]) ⟨[],[],[]⟩) 14 92 none (pX9 neg E N M o n c [Zo,.bool false,.int .i64 b,Zo,.bool true,.bool false,sOf 2 (vO (hX neg E o n c l) (aX o) n-vO (hX neg E o n c l) none 0),.bool false]) (nxt (hX neg E o n c l) (vO (hX neg E o n c l) (aX o) n-vO (hX neg E o n c l) none 0)) [(ZN (hX neg E o n c l) (aX o) none n c 0 0 && Nat.ble (vO (hX neg E o n c l) none 0) (vO (hX neg E o n c l) (aX o) n),true),(decide (0<n),true),(zC (hX neg E o n c l) none 0 0,true),(decide (0<0),false),(decide (b≤((bl (vO (hX neg E o n c l) (aX o) n):Nat):Int)),true),(Zaj (hX neg E o n c l) (aX o) n c,true)]:=by and_intros<;>kernel_rfl
theorem ZzU (neg j:Bool) (E N M b:Int) (o n c q:Nat) (l:List Value) (g:Nat→Value):Zg (evL (Zk prog Zf Zn hcW) 200 (tS2 f109) ((pX9 neg E N M o n c [Zo,.bool false,.int .i64 b,Zo,.bool true,.bool true])++tl 94 g,(hX neg E o n c l),[cmp true,cmp false,cmp true,cmp true,cmp j]) ⟨[],[],[]⟩) 14 92 none (pX9 neg E N M o n c [Zo,.bool false,.int .i64 b,Zo,.bool true,.bool true,sOf 2 (vO (hX neg E o n c l) (aX o) n-vO (hX neg E o n c l) none 0),.bool j]) (nxt (nxt (nxt (hX neg E o n c l) (vO (hX neg E o n c l) (aX o) n-vO (hX neg E o n c l) none 0)) 1) (vO (nxt (nxt (hX neg E o n c l) (vO (hX neg E o n c l) (aX o) n-vO (hX neg E o n c l) none 0)) 1) (some ⟨3,0,none⟩) (d16 1).length*2^(dif b 1).toNat)) [(Zag (vO (nxt (nxt (nxt (hX neg E o n c l) (vO (hX neg E o n c l) (aX o) n-vO (hX neg E o n c l) none 0)) 1) (vO (nxt (nxt (hX neg E o n c l) (vO (hX neg E o n c l) (aX o) n-vO (hX neg E o n c l) none 0)) 1) (some ⟨3,0,none⟩) (d16 1).length*2^(dif b 1).toNat)) (some ⟨2,0,none⟩) (d16 (vO (hX neg E o n c l) (aX o) n-vO (hX neg E o n c l) none 0)).length) (vO (nxt (nxt (nxt (hX neg E o n c l) (vO (hX neg E o n c l) (aX o) n-vO (hX neg E o n c l) none 0)) 1) (vO (nxt (nxt (hX neg E o n c l) (vO (hX neg E o n c l) (aX o) n-vO (hX neg E o n c l) none 0)) 1) (some ⟨3,0,none⟩) (d16 1).length*2^(dif b 1).toNat)) (some ⟨4,0,none⟩) (d16 (vO (nxt (nxt (hX neg E o n c l) (vO (hX neg E o n c l) (aX o) n-vO (hX neg E o n c l) none 0)) 1) (some ⟨3,0,none⟩) (d16 1).length*2^(dif b 1).toNat)).length)==0,j),(ZN (nxt (nxt (nxt (hX neg E o n c l) (vO (hX neg E o n c l) (aX o) n-vO (hX neg E o n c l) none 0)) 1) (vO (nxt (nxt (hX neg E o n c l) (vO (hX neg E o n c l) (aX o) n-vO (hX neg E o n c l) none 0)) 1) (some ⟨3,0,none⟩) (d16 1).length*2^(dif b 1).toNat)) (some ⟨2,0,none⟩) (some ⟨4,0,none⟩) (d16 (vO (hX neg E o n c l) (aX o) n-vO (hX neg E o n c l) none 0)).length (d16 (vO (hX neg E o n c l) (aX o) n-vO (hX neg E o n c l) none 0)).length (d16 (vO (nxt (nxt (hX neg E o n c l) (vO (hX neg E o n c l) (aX o) n-vO (hX neg E o n c l) none 0)) 1) (some ⟨3,0,none⟩) (d16 1).length*2^(dif b 1).toNat)).length (d16 (vO (nxt (nxt (hX neg E o n c l) (vO (hX neg E o n c l) (aX o) n-vO (hX neg E o n c l) none 0)) 1) (some ⟨3,0,none⟩) (d16 1).length*2^(dif b 1).toNat)).length,true),(ZcZ (nxt (nxt (hX neg E o n c l) (vO (hX neg E o n c l) (aX o) n-vO (hX neg E o n c l) none 0)) 1) (some ⟨3,0,none⟩) (d16 1).length (d16 1).length (dif b 1),true),(decide (0<(d16 1).length),true),ZcY,(ZN (hX neg E o n c l) (aX o) none n c 0 0 && Nat.ble (vO (hX neg E o n c l) none 0) (vO (hX neg E o n c l) (aX o) n),true),(decide (0<n),true),(zC (hX neg E o n c l) none 0 0,true),(decide (0<0),false),(decide (b≤((bl (vO (hX neg E o n c l) (aX o) n):Nat):Int)),true),(Zaj (hX neg E o n c l) (aX o) n c,true)]:=by and_intros<;>kernel_rfl
theorem Z5y (neg d:Bool) (E N M b x:Int) (o n c q:Nat) (l:List Value) (J:Value) (g:Nat→Value):Zg (evC (Zk prog Zf Zn hcW) 200 false (tS3 f109) ((pX9 neg E N M o n c [Zo,.bool false,.int .i64 b,sOf 2 q,.bool true,.bool false,J,.bool false])++tl 92 g,(hQ neg E o n c l q),[]) ⟨[],[],[]⟩) 15 91 none (pX9 neg E N M o n c [Zo,.bool false,.int .i64 b,sOf 2 q,.bool true,.bool false,J,.bool false,.bool false]) (hQ neg E o n c l q) []:=by and_intros<;>kernel_rfl
theorem ZzV (neg d:Bool) (E N M b x:Int) (o n c q:Nat) (l:List Value) (J:Value) (g:Nat→Value):Zg (evC (Zk prog Zf Zn hcW) 200 false (tS3 f109) ((pX9 neg E N M o n c [Zo,.bool false,.int .i64 b,sOf 2 q,.bool true,.bool true,J,.bool false])++tl 92 g,(hQ neg E o n c l q),[]) ⟨[],[],[]⟩) 15 91 none (pX9 neg E N M o n c [Zo,.bool false,.int .i64 b,sOf 2 q,.bool true,.bool true,J,.bool false,.bool true]) (hQ neg E o n c l q) []:=by and_intros<;>kernel_rfl
theorem Z5z (neg d:Bool) (E N M b x:Int) (o n c q:Nat) (l:List Value) (J:Value) (g:Nat→Value):Zg (evC (Zk prog Zf Zn hcW) 200 false (tS3 f109) ((pX9 neg E N M o n c [Zo,.bool false,.int .i64 b,Zo,.bool true,.bool false,J,.bool false])++tl 92 g,(hX neg E o n c l),[]) ⟨[],[],[]⟩) 15 91 none (pX9 neg E N M o n c [Zo,.bool false,.int .i64 b,Zo,.bool true,.bool false,J,.bool false,.bool false]) (hX neg E o n c l) []:=by and_intros<;>kernel_rfl
theorem ZzW (neg d:Bool) (E N M b x:Int) (o n c q:Nat) (l:List Value) (J:Value) (g:Nat→Value):Zg (evC (Zk prog Zf Zn hcW) 200 false (tS3 f109) ((pX9 neg E N M o n c [Zo,.bool false,.int .i64 b,Zo,.bool true,.bool true,J,.bool false])++tl 92 g,(hX neg E o n c l),[]) ⟨[],[],[]⟩) 15 91 none (pX9 neg E N M o n c [Zo,.bool false,.int .i64 b,Zo,.bool true,.bool true,J,.bool false,.bool true]) (hX neg E o n c l) []:=by and_intros<;>kernel_rfl
theorem ZzX (neg d:Bool) (E N M b x:Int) (o n c q:Nat) (l:List Value) (J:Value) (g:Nat→Value):Zg (evC (Zk prog Zf Zn hcW) 200 false (tS3 f109) ((pX9 neg E N M o n c [Zo,.bool false,.int .i64 b,sOf 2 q,.bool true,.bool true,J,.bool true])++tl 92 g,(hQ neg E o n c l q),[cmp true,at_,val (.int .u32 x),cmp true,cmp d]) ⟨[],[],[]⟩) 15 91 none (pX9 neg E N M o n c [Zo,.bool false,.int .i64 b,sOf 2 q,.bool true,.bool true,J,.bool true,.bool d]) (hQ neg E o n c l q) [(x.tmod 2==1,d),(decide ((2:Int)=0),false),(Z5 ((wU (d16 q))[0]?) (.int .u32 x),true),(decide ((0:Int)≤0∧(0:Int)<((d16 q).length:Nat)),true),(decide (((d16 q).length:Int)>0),true)]:=by and_intros<;>kernel_rfl
theorem ZtH (neg d:Bool) (E N M b x:Int) (o n c q:Nat) (l:List Value) (J:Value) (g:Nat→Value):Zg (evC (Zk prog Zf Zn hcW) 200 false (tS3 f109) ((pX9 neg E N M o n c [Zo,.bool false,.int .i64 b,sOf 2 q,.bool true,.bool true,J,.bool true])++tl 92 g,(hQ neg E o n c l q),[cmp false]) ⟨[],[],[]⟩) 15 91 none (pX9 neg E N M o n c [Zo,.bool false,.int .i64 b,sOf 2 q,.bool true,.bool true,J,.bool true,.bool false]) (hQ neg E o n c l q) [(decide (((d16 q).length:Int)>0),false)]:=by and_intros<;>kernel_rfl
theorem ZtI (neg d:Bool) (E N M b x:Int) (o n c q:Nat) (l:List Value) (J:Value) (g:Nat→Value):Zg (evC (Zk prog Zf Zn hcW) 200 false (tS3 f109) ((pX9 neg E N M o n c [Zo,.bool false,.int .i64 b,Zo,.bool true,.bool true,J,.bool true])++tl 92 g,(hX neg E o n c l),[cmp false]) ⟨[],[],[]⟩) 15 91 none (pX9 neg E N M o n c [Zo,.bool false,.int .i64 b,Zo,.bool true,.bool true,J,.bool true,.bool false]) (hX neg E o n c l) [(decide (((0:Nat):Int)>0),false)]:=by and_intros<;>kernel_rfl
theorem Z50 (neg half just up:Bool) (E N M b:Int) (o n c q:Nat) (l:List Value) (J:Value) (g:Nat→Value):Zg (evC (Zk prog Zf Zn hcW) 200 false (tS4 f109) ((pX9 neg E N M o n c [Zo,.bool false,.int .i64 b,sOf 2 q,.bool true,.bool half,J,.bool just,.bool up])++tl 91 g,(hQ neg E o n c l q),[cmp true]) ⟨[],[],[]⟩) 15 91 none (pX9 neg E N M o n c [Zo,.bool false,.int .i64 b,sOf 2 q,.bool true,.bool half,J,.bool just,.bool half]) (hQ neg E o n c l q) [(M==1,true)]:=by and_intros<;>kernel_rfl
theorem Z51 (neg half just up:Bool) (E N M b:Int) (o n c q:Nat) (l:List Value) (J:Value) (g:Nat→Value):Zg (evC (Zk prog Zf Zn hcW) 200 false (tS4 f109) ((pX9 neg E N M o n c [Zo,.bool false,.int .i64 b,sOf 2 q,.bool true,.bool half,J,.bool just,.bool up])++tl 91 g,(hQ neg E o n c l q),[cmp false,cmp true]) ⟨[],[],[]⟩) 15 91 none (pX9 neg E N M o n c [Zo,.bool false,.int .i64 b,sOf 2 q,.bool true,.bool half,J,.bool just,.bool false]) (hQ neg E o n c l q) [(M==2,true),(M==1,false)]:=by and_intros<;>kernel_rfl
theorem Z52 (neg half just up:Bool) (E N M b:Int) (o n c q:Nat) (l:List Value) (J:Value) (g:Nat→Value):Zg (evC (Zk prog Zf Zn hcW) 200 false (tS4 f109) ((pX9 neg E N M o n c [Zo,.bool false,.int .i64 b,sOf 2 q,.bool true,.bool half,J,.bool just,.bool up])++tl 91 g,(hQ neg E o n c l q),[cmp false,cmp false,cmp true]) ⟨[],[],[]⟩) 15 91 none (pX9 neg E N M o n c [Zo,.bool false,.int .i64 b,sOf 2 q,.bool true,.bool half,J,.bool just,.bool (!neg)]) (hQ neg E o n c l q) [(M==3,true),(M==2,false),(M==1,false)]:=by and_intros<;>kernel_rfl
theorem Z53 (neg half just up:Bool) (E N M b:Int) (o n c q:Nat) (l:List Value) (J:Value) (g:Nat→Value):Zg (evC (Zk prog Zf Zn hcW) 200 false (tS4 f109) ((pX9 neg E N M o n c [Zo,.bool false,.int .i64 b,sOf 2 q,.bool true,.bool half,J,.bool just,.bool up])++tl 91 g,(hQ neg E o n c l q),[cmp false,cmp false,cmp false,cmp true]) ⟨[],[],[]⟩) 15 91 none (pX9 neg E N M o n c [Zo,.bool false,.int .i64 b,sOf 2 q,.bool true,.bool half,J,.bool just,.bool neg]) (hQ neg E o n c l q) [(M==4,true),(M==3,false),(M==2,false),(M==1,false)]:=by and_intros<;>kernel_rfl
theorem Z54 (neg half just up:Bool) (E N M b:Int) (o n c q:Nat) (l:List Value) (J:Value) (g:Nat→Value):Zg (evC (Zk prog Zf Zn hcW) 200 false (tS4 f109) ((pX9 neg E N M o n c [Zo,.bool false,.int .i64 b,sOf 2 q,.bool true,.bool half,J,.bool just,.bool up])++tl 91 g,(hQ neg E o n c l q),[cmp false,cmp false,cmp false,cmp false]) ⟨[],[],[]⟩) 15 91 none (pX9 neg E N M o n c [Zo,.bool false,.int .i64 b,sOf 2 q,.bool true,.bool half,J,.bool just,.bool up]) (hQ neg E o n c l q) [(M==4,false),(M==3,false),(M==2,false),(M==1,false)]:=by and_intros<;>kernel_rfl
theorem Z55 (neg half just up:Bool) (E N M b:Int) (o n c q:Nat) (l:List Value) (J:Value) (g:Nat→Value):Zg (evC (Zk prog Zf Zn hcW) 200 false (tS4 f109) ((pX9 neg E N M o n c [Zo,.bool false,.int .i64 b,Zo,.bool true,.bool half,J,.bool just,.bool up])++tl 91 g,(hX neg E o n c l),[cmp true]) ⟨[],[],[]⟩) 15 91 none (pX9 neg E N M o n c [Zo,.bool false,.int .i64 b,Zo,.bool true,.bool half,J,.bool just,.bool half]) (hX neg E o n c l) [(M==1,true)]:=by and_intros<;>kernel_rfl
theorem Z56 (neg half just up:Bool) (E N M b:Int) (o n c q:Nat) (l:List Value) (J:Value) (g:Nat→Value):Zg (evC (Zk prog Zf Zn hcW) 200 false (tS4 f109) ((pX9 neg E N M o n c [Zo,.bool false,.int .i64 b,Zo,.bool true,.bool half,J,.bool just,.bool up])++tl 91 g,(hX neg E o n c l),[cmp false,cmp true]) ⟨[],[],[]⟩) 15 91 none (pX9 neg E N M o n c [Zo,.bool false,.int .i64 b,Zo,.bool true,.bool half,J,.bool just,.bool false]) (hX neg E o n c l) [(M==2,true),(M==1,false)]:=by and_intros<;>kernel_rfl
theorem Z57 (neg half just up:Bool) (E N M b:Int) (o n c q:Nat) (l:List Value) (J:Value) (g:Nat→Value):Zg (evC (Zk prog Zf Zn hcW) 200 false (tS4 f109) ((pX9 neg E N M o n c [Zo,.bool false,.int .i64 b,Zo,.bool true,.bool half,J,.bool just,.bool up])++tl 91 g,(hX neg E o n c l),[cmp false,cmp false,cmp true]) ⟨[],[],[]⟩) 15 91 none (pX9 neg E N M o n c [Zo,.bool false,.int .i64 b,Zo,.bool true,.bool half,J,.bool just,.bool (!neg)]) (hX neg E o n c l) [(M==3,true),(M==2,false),(M==1,false)]:=by and_intros<;>kernel_rfl
theorem Z58 (neg half just up:Bool) (E N M b:Int) (o n c q:Nat) (l:List Value) (J:Value) (g:Nat→Value):Zg (evC (Zk prog Zf Zn hcW) 200 false (tS4 f109) ((pX9 neg E N M o n c [Zo,.bool false,.int .i64 b,Zo,.bool true,.bool half,J,.bool just,.bool up])++tl 91 g,(hX neg E o n c l),[cmp false,cmp false,cmp false,cmp true]) ⟨[],[],[]⟩) 15 91 none (pX9 neg E N M o n c [Zo,.bool false,.int .i64 b,Zo,.bool true,.bool half,J,.bool just,.bool neg]) (hX neg E o n c l) [(M==4,true),(M==3,false),(M==2,false),(M==1,false)]:=by and_intros<;>kernel_rfl
theorem Z59 (neg half just up:Bool) (E N M b:Int) (o n c q:Nat) (l:List Value) (J:Value) (g:Nat→Value):Zg (evC (Zk prog Zf Zn hcW) 200 false (tS4 f109) ((pX9 neg E N M o n c [Zo,.bool false,.int .i64 b,Zo,.bool true,.bool half,J,.bool just,.bool up])++tl 91 g,(hX neg E o n c l),[cmp false,cmp false,cmp false,cmp false]) ⟨[],[],[]⟩) 15 91 none (pX9 neg E N M o n c [Zo,.bool false,.int .i64 b,Zo,.bool true,.bool half,J,.bool just,.bool up]) (hX neg E o n c l) [(M==4,false),(M==3,false),(M==2,false),(M==1,false)]:=by and_intros<;>kernel_rfl
theorem Z5A (neg half just:Bool) (E N M b:Int) (o n c q:Nat) (l:List Value) (J:Value) (g:Nat→Value):Zg (evC (Zk prog Zf Zn hcW) 200 false (tS5 f109) ((pX9 neg E N M o n c [Zo,.bool false,.int .i64 b,sOf 2 q,.bool true,.bool half,J,.bool just,.bool true])++tl 91 g,(hQ neg E o n c l q),[cmp true]) ⟨[],[],[]⟩) 8 98 (some none) (pX9 neg E N M o n c [sOf 4 (vO (nxt (hQ neg E o n c l q) 1) (some ⟨2,0,none⟩) (d16 q).length+vO (nxt (hQ neg E o n c l q) 1) (some ⟨3,0,none⟩) (d16 1).length),.bool true]) (nxt (nxt (hQ neg E o n c l q) 1) (vO (nxt (hQ neg E o n c l q) 1) (some ⟨2,0,none⟩) (d16 q).length+vO (nxt (hQ neg E o n c l q) 1) (some ⟨3,0,none⟩) (d16 1).length)) [(ZN (nxt (hQ neg E o n c l q) 1) (some ⟨2,0,none⟩) (some ⟨3,0,none⟩) (d16 q).length (d16 q).length (d16 1).length (d16 1).length,true),(decide (0<(d16 q).length∨0<(d16 1).length),true),ZcY]:=by and_intros<;>kernel_rfl
theorem Z5B (neg half just:Bool) (E N M b:Int) (o n c q:Nat) (l:List Value) (J:Value) (g:Nat→Value):Zg (evC (Zk prog Zf Zn hcW) 200 false (tS5 f109) ((pX9 neg E N M o n c [Zo,.bool false,.int .i64 b,sOf 2 q,.bool true,.bool half,J,.bool just,.bool false])++tl 91 g,(hQ neg E o n c l q),[]) ⟨[],[],[]⟩) 8 98 (some none) (pX9 neg E N M o n c [sOf 2 q,.bool true]) (hQ neg E o n c l q) []:=by and_intros<;>kernel_rfl
theorem Z5C (neg half just:Bool) (E N M b:Int) (o n c q:Nat) (l:List Value) (J:Value) (g:Nat→Value):Zg (evC (Zk prog Zf Zn hcW) 200 false (tS5 f109) ((pX9 neg E N M o n c [Zo,.bool false,.int .i64 b,Zo,.bool true,.bool half,J,.bool just,.bool true])++tl 91 g,(hX neg E o n c l),[cmp true]) ⟨[],[],[]⟩) 8 98 (some none) (pX9 neg E N M o n c [sOf 3 (vO (nxt (hX neg E o n c l) 1) none 0+vO (nxt (hX neg E o n c l) 1) (some ⟨2,0,none⟩) (d16 1).length),.bool true]) (nxt (nxt (hX neg E o n c l) 1) (vO (nxt (hX neg E o n c l) 1) none 0+vO (nxt (hX neg E o n c l) 1) (some ⟨2,0,none⟩) (d16 1).length)) [(ZN (nxt (hX neg E o n c l) 1) none (some ⟨2,0,none⟩) 0 0 (d16 1).length (d16 1).length,true),(decide (0<0∨0<(d16 1).length),true),ZcY]:=by and_intros<;>kernel_rfl
theorem Z5D (neg half just:Bool) (E N M b:Int) (o n c q:Nat) (l:List Value) (J:Value) (g:Nat→Value):Zg (evC (Zk prog Zf Zn hcW) 200 false (tS5 f109) ((pX9 neg E N M o n c [Zo,.bool false,.int .i64 b,Zo,.bool true,.bool half,J,.bool just,.bool false])++tl 91 g,(hX neg E o n c l),[]) ⟨[],[],[]⟩) 8 98 (some none) (pX9 neg E N M o n c [Zo,.bool true]) (hX neg E o n c l) []:=by and_intros<;>kernel_rfl
end Go.Proofs.YtgefjidphfdhdaaGreatDoor
namespace Go.Proofs.YtgefjidphfdhdaaGreatDoor
open Go.Proofs.Tryz
open Go.KRun Go.Nt Go.Wd Go.Rn
set_option maxRecDepth 100000
set_option linter.unusedVariables false
section
variable {l : List Value} {o c : Nat} {A : List Int}
theorem ZbB (hF:Fst l o c A) {h:Hp}(hh:h.blk? 0=some (l,tR)):vO h (aX o) A.length=vb 65536 A:=by
 unfold vO aX;rw[(hF h hh).2]
theorem ZaV (hF:Fst l o c A) (hC:Zbx 65536 A) (hn:A.length<1073741824) {h:Hp}(hh:h.blk? 0=some (l,tR)):Zaj h (aX o) A.length c=true:=by
 unfold Zaj aX;rw[(hF h hh).1,(hF h hh).2,ZbW hC,Zl.2 hn];rfl
theorem Zbt {h:Hp}{b A:Nat}{k:Int}(hb:h.blk? b=some (wU (d16 A),tU)) (hk:0≤k) (hl:k.toNat/16+(d16 A).length+3<1073741824):ZcZ h (some ⟨b,0,none⟩) (d16 A).length (d16 A).length k=true:=by
 unfold ZcZ;rw[ZP hb (by omega),Zai hb,Zl.2 hl,Xa hk];rfl
theorem ZiJ (hF:Fst l o c A) (hC:Zbx 65536 A) (hn:A.length<1073741800) {h:Hp}(hh:h.blk? 0=some (l,tR)) {b V:Nat}(hb:h.blk? b=some (wU (d16 V),tU)) (hl:(d16 V).length<1073741800):ZN h (aX o) (some ⟨b,0,none⟩) A.length c (d16 V).length (d16 V).length=true:=by
 unfold ZN aX;rw[(hF h hh).1,(hF h hh).2,Zb8 hC.1,ZP hb (by omega),Zai hb,Zl.2 (by omega)];rfl
theorem Zkl (hF:Fst l o c A) (hC:Zbx 65536 A) (hn:A.length<1073741800) {h:Hp}(hh:h.blk? 0=some (l,tR)):ZN h (aX o) none A.length c 0 0=true:=by
 unfold ZN aX;rw[(hF h hh).1,(hF h hh).2,Zb8 hC.1,Zl.2 (by omega)];rfl
def fT (neg:Bool) (E N M:Int) (o n c:Nat) (b:Int) (Q:Value):List Value:=[vRN neg E (sl 0 o n c),.int .i64 N,.int .i64 M,.pointer (some ⟨1,0,none⟩),undef,undef,Zo,.bool false,.int .i64 b,Q]
def hS (s:Bool) (neg:Bool) (E:Int) (o n c:Nat) (l:List Value) (q:Nat):Hp:=match s with | true=>hQ neg E o n c l q | false=>hX neg E o n c l
def qS (s:Bool) (q:Nat):Value:=match s with | true=>sOf 2 q | false=>Zo
theorem ZzY (s:Bool) {neg:Bool}{E N M:Int}{q:Nat}{half just u:Bool}{b:Int}{J:Value}(hq:(d16 q).length<1073741800) (hq0:s=false→q=0) (g:Nat→Value):
  RunsW (Zk prog Zf Zn hcW) (tS5 f109) (fT neg E N M o A.length c b (qS s q)++[.bool true,.bool half,J,.bool just,.bool u]++tl 91 g,hS s neg E o A.length c l q,[]) fun ex z=>(ex=none∨ex=some none)∧
   ((s=true∨u=true)→∃ k,ZY prog f109 z.1 z.2.1=some (.tuple #[sOf k (q+(if u=true then 1 else 0)),.bool true])∧∃ r,z.2.1.blk? k=some (wU (d16 (q+(if u=true then 1 else 0)))++r,tU))∧
   ((s=false∧u=false)→ZY prog f109 z.1 z.2.1=some (.tuple #[Zo,.bool true])):=by
 cases s with
 | true=>
  cases u with
  | true=>
   have e1:vO (nxt (hQ neg E o A.length c l q) 1) (some ⟨2,0,none⟩) (d16 q).length+vO (nxt (hQ neg E o A.length c l q) 1) (some ⟨3,0,none⟩) (d16 1).length=q+1:=by
    rw[zO (A:=q) (ty:=tU) rfl,zO (A:=1) (ty:=tU) rfl]
   refine (Zb (Zh Zd ZR) (Z5A neg half just E N M b o A.length c q l J g) (Zj (ZfW (A:=q) (A':=1) rfl rfl hq (by rw[Zaa];omega)) (Zj (Xa (.inr (by rw[Zaa];omega))) (Zv (by decide))))).mono fun ex z hz=> ?_;rw[e1] at hz;obtain⟨rfl,⟨g',z1⟩,z2⟩:=hz;refine⟨.inr rfl,fun _=>⟨4,?_,[],?_⟩,fun h=>by cases h.1⟩
   ·rw[z1,z2];rfl
   ·rw[z2,List.append_nil];rfl
  | false=>
   refine (Zb (Zh Zd ZR) (Z5B neg half just E N M b o A.length c q l J g) (fun x hx=>by cases hx)).mono fun ex z hz=> ?_;obtain⟨rfl,⟨g',z1⟩,z2⟩:=hz;refine⟨.inr rfl,fun _=>⟨2,?_,[],?_⟩,fun h=>by cases h.1⟩
   ·rw[z1,z2];rfl
   ·rw[z2,List.append_nil];rfl
 | false=>
  have hq1:=hq0 rfl;subst hq1;cases u with
  | true=>
   have e1:vO (nxt (hX neg E o A.length c l) 1) none 0+vO (nxt (hX neg E o A.length c l) 1) (some ⟨2,0,none⟩) (d16 1).length=0+1:=by
    rw[Zhn,zO (A:=1) (ty:=tU) rfl]
   refine (Zb (Zh Zd ZR) (Z5C neg half just E N M b o A.length c 0 l J g) (Zj (Zx5 (A:=1) rfl (by rw[Zaa];omega)) (Zj (Xa (.inr (by rw[Zaa];omega))) (Zv (by decide))))).mono fun ex z hz=> ?_;rw[e1] at hz;obtain⟨rfl,⟨g',z1⟩,z2⟩:=hz;refine⟨.inr rfl,fun _=>⟨3,?_,[],?_⟩,fun h=>by cases h.2⟩
   ·rw[z1,z2];rfl
   ·rw[z2,List.append_nil];rfl
  | false=>
   refine (Zb (Zh Zd ZR) (Z5D neg half just E N M b o A.length c 0 l J g) (fun x hx=>by cases hx)).mono fun ex z hz=> ?_;obtain⟨rfl,⟨g',z1⟩,z2⟩:=hz;refine⟨.inr rfl,(fun h=>by rcases h with h | h<;>cases h),fun _=> ?_⟩;rw[z1,z2];rfl
def upM (M:Int) (neg half ev:Bool):Bool:=if M=2 then false else if M=3 then !neg else if M=4 then neg else if M=1 then half else ev
theorem ZzZ (s:Bool) {neg:Bool}{E N M:Int}{n q:Nat}{half just u:Bool}{b:Int}{J:Value}(g:Nat→Value):
  RunsW (Zk prog Zf Zn hcW) (tS4 f109) (fT neg E N M o n c b (qS s q)++[.bool true,.bool half,J,.bool just,.bool u]++tl 91 g,hS s neg E o n c l q,[]) fun ex z=>ex=none∧(∃ g,z.1=fT neg E N M o n c b (qS s q)++[.bool true,.bool half,J,.bool just,.bool (upM M neg half u)]++tl 91 g)∧z.2.1=hS s neg E o n c l q:=by
 unfold upM;by_cases h1:M=1
 ·have n2:¬ M=2:=by omega
  have n3:¬ M=3:=by omega
  have n4:¬ M=4:=by omega
  rw[if_neg n2,if_neg n3,if_neg n4,if_pos h1];cases s with
  | true=>exact Zb (Zh Zd ZR) (Z50 neg half just u E N M b o n c q l J g) (Zv (by rw[h1];rfl))
  | false=>exact Zb (Zh Zd ZR) (Z55 neg half just u E N M b o n c q l J g) (Zv (by rw[h1];rfl))
 ·have b1:(M==1)=false:=by simp [h1]
  by_cases h2:M=2
  ·rw[if_pos h2];cases s with
   | true=>exact Zb (Zh Zd ZR) (Z51 neg half just u E N M b o n c q l J g) (Zj (by rw[h2];rfl) (Zv b1))
   | false=>exact Zb (Zh Zd ZR) (Z56 neg half just u E N M b o n c q l J g) (Zj (by rw[h2];rfl) (Zv b1))
  ·have b2:(M==2)=false:=by simp [h2]
   rw[if_neg h2];by_cases h3:M=3
   ·rw[if_pos h3];cases s with
    | true=>exact Zb (Zh Zd ZR) (Z52 neg half just u E N M b o n c q l J g) (Zj (by rw[h3];rfl) (Zj b2 (Zv b1)))
    | false=>exact Zb (Zh Zd ZR) (Z57 neg half just u E N M b o n c q l J g) (Zj (by rw[h3];rfl) (Zj b2 (Zv b1)))
   ·have b3:(M==3)=false:=by simp [h3]
    rw[if_neg h3];by_cases h4:M=4
    ·rw[if_pos h4];cases s with
     | true=>exact Zb (Zh Zd ZR) (Z53 neg half just u E N M b o n c q l J g) (Zj (by rw[h4];rfl) (Zj b3 (Zj b2 (Zv b1))))
     | false=>exact Zb (Zh Zd ZR) (Z58 neg half just u E N M b o n c q l J g) (Zj (by rw[h4];rfl) (Zj b3 (Zj b2 (Zv b1))))
    ·have b4:(M==4)=false:=by simp [h4]
     rw[if_neg h4,if_neg h1];cases s with
     | true=>exact Zb (Zh Zd ZR) (Z54 neg half just u E N M b o n c q l J g) (Zj b4 (Zj b3 (Zj b2 (Zv b1))))
     | false=>exact Zb (Zh Zd ZR) (Z59 neg half just u E N M b o n c q l J g) (Zj b4 (Zj b3 (Zj b2 (Zv b1))))
theorem Z0a (s:Bool) {neg:Bool}{E N M:Int}{n q:Nat}{half just:Bool}{b:Int}{J:Value}(hq0:s=false→q=0) (hj:half=false→just=false) (g:Nat→Value):
  RunsW (Zk prog Zf Zn hcW) (tS3 f109) (fT neg E N M o n c b (qS s q)++[.bool true,.bool half,J,.bool just]++tl 92 g,hS s neg E o n c l q,[]) fun ex z=>ex=none∧(∃ g,z.1=fT neg E N M o n c b (qS s q)++[.bool true,.bool half,J,.bool just,.bool (half && (!just || odd q))]++tl 91 g)∧z.2.1=hS s neg E o n c l q:=by
 cases half with
 | false=>
  have:=hj rfl;subst this;cases s with
  | true=>exact Zb (Zh Zd ZR) (Z5y neg false E N M b 0 o n c q l J g) (fun x hx=>by cases hx)
  | false=>exact Zb (Zh Zd ZR) (Z5z neg false E N M b 0 o n c q l J g) (fun x hx=>by cases hx)
 | true=>
  cases just with
  | false=>
   cases s with
   | true=>exact Zb (Zh Zd ZR) (ZzV neg false E N M b 0 o n c q l J g) (fun x hx=>by cases hx)
   | false=>exact Zb (Zh Zd ZR) (ZzW neg false E N M b 0 o n c q l J g) (fun x hx=>by cases hx)
  | true=>
   simp only[Bool.true_and,Bool.not_true,Bool.false_or];cases s with
   | true=>
    by_cases hl:0<(d16 q).length
    ·have hne:=ZnO hl;have hd:d16 q=((q % 65536:Nat):Int)::db 65536 (q/65536):=Zbb (by omega) hne;have ho:(((q % 65536:Nat):Int).tmod 2==1)=odd q:=by
      unfold odd;rw[Int.tmod_eq_emod_of_nonneg (by omega),Bool.eq_iff_iff];simp only[beq_iff_eq,Xi];omega
     have hcell:Z5 ((wU (d16 q))[0]?) (.int .u32 ((q % 65536:Nat):Int))=true:=by
      rw[hd];simp [wU,Z5]
     exact Zb (Zh Zd ZR) (ZzX neg (odd q) E N M b ((q % 65536:Nat):Int) o n c q l J g) (Zj ho (Zj rfl (Zj hcell (Zj (Xa ⟨by omega,by omega⟩) (Zv (Xa (by omega)))))))
    ·have h0:=Zkk hl;have ho:odd q=false:=by rw[h0];rfl
     rw[ho];exact Zb (Zh Zd ZR) (ZtH neg false E N M b 0 o n c q l J g) (Zv (Xb (by omega)))
   | false=>
    have ho:odd q=false:=by rw[hq0 rfl];rfl
    rw[ho];exact Zb (Zh Zd ZR) (ZtI neg false E N M b 0 o n c q l J g) (Zv rfl)
end
section
variable {l : List Value} {o c : Nat} {A : List Int}
def ZpS (s:Bool) (neg:Bool) (E:Int) (o n c:Nat) (l:List Value) (q:Nat):List (List Value×TypeId):=match s with | true=>[(wU (d16 q),tU),bX neg E o n c,(l,tR)] | false=>[bX neg E o n c,(l,tR)]
def kS (s:Bool):Nat:=match s with | true=>3 | false=>2
theorem Z0b (s neg:Bool) (E:Int) (n q:Nat):hS s neg E o n c l q=⟨kS s,ZpS s neg E o n c l q⟩:=by cases s<;>rfl
theorem Z0c (s neg:Bool) (E:Int) (n q:Nat) (hl:∀ v∈l,still v=true):∀ x∈ZpS s neg E o n c l q,∀ v∈x.1,lt1 (kS s) v=true:=by
 have hb:∀ k,0<k→∀ v∈(bX neg E o n c).1,lt1 k v=true:=fun k hk v hv=>by
  simp only[bX,bOf,List.mem_cons,List.not_mem_nil,or_false] at hv;rcases hv with rfl | rfl | rfl
  ·rfl
  ·rfl
  ·exact Zl.2 hk
 intro x hx v hv;cases s with
 | true=>
  simp only[ZpS,List.mem_cons,List.not_mem_nil,or_false] at hx;rcases hx with rfl | rfl | rfl
  ·exact zo (Nat.zero_le _) (Zbf _ v hv)
  ·exact hb 3 (by omega) v hv
  ·exact zp (by decide) (hl v hv)
 | false=>
  simp only[ZpS,List.mem_cons,List.not_mem_nil,or_false] at hx;rcases hx with rfl | rfl
  ·exact hb 2 (by omega) v hv
  ·exact zp (by decide) (hl v hv)
theorem ZAI (s:Bool) {neg:Bool}{E N M:Int}{n q:Nat}{b:Int}{half:Bool}:∀ v∈fT neg E N M o n c b (qS s q)++[.bool true,.bool half],lt (kS s) v=true:=by
 intro v hv;simp only[fT,List.mem_append,List.mem_cons,List.not_mem_nil,or_false] at hv;rcases hv with (rfl | rfl | rfl | rfl | rfl | rfl | rfl | rfl | rfl | rfl) | rfl | rfl<;>cases s<;>rfl
theorem Zcy (s:Bool) {neg:Bool}{E N M:Int}{n q:Nat}{b:Int}{half just:Bool}{X:Code}{P:Ex→Lf→Prop}(hl:∀ v∈l,still v=true)
  (h:∀ J g,RunsW (Zk prog Zf Zn hcW) X (fT neg E N M o n c b (qS s q)++[.bool true,.bool half,J,.bool just]++tl 92 g,hS s neg E o n c l q,[]) P)
  (u:Value) (g:Nat→Value) (sc:List Dec) {hp:Hp}{extra:List (List Value×TypeId)}(he:hp=⟨extra.length+kS s,extra++ZpS s neg E o n c l q⟩):
  RunsW (Zk prog Zf Zn hcW) X (fT neg E N M o n c b (qS s q)++[.bool true,.bool half,u,.bool just]++tl 92 g,hp,sc) P:=by
 have e1:∀ v:Value,fT neg E N M o n c b (qS s q)++[.bool true,.bool half,v,.bool just]=(fT neg E N M o n c b (qS s q)++[.bool true,.bool half])++v::[.bool just]:=fun v=>by simp
 rw[he,e1];refine RunsW.pre (k:=kS s) (s':=[]) (fun j g=> ?_) (by cases s<;>rfl) rfl (by cases s<;>decide) (Z0c s neg E n q hl) (ZAI s) (fun v hv=>by rw[List.mem_singleton.1 hv];rfl);rw[← e1,← Z0b];exact h j g
theorem ZcA {x y:Nat}:(Zag x y==0)=decide (x=y):=by
 unfold Zag;by_cases h1:x<y
 ·rw[if_pos h1,Xb (by omega)];rfl
 ·rw[if_neg h1];by_cases h2:x=y
  ·rw[if_pos h2,Xa h2];rfl
  ·rw[if_neg h2,Xb h2];rfl
theorem Z0d (s:Bool) (hF:Fst l o c A) (hl:∀ v∈l,still v=true) (hC:Zbx 65536 A) (hn:A.length<1000000) {neg:Bool}{E N M:Int}{q k:Nat}(hk:k<1000000) (hq:q=vb 65536 A/2^(k+1)) (hs:s=decide ((k+1)/16<A.length)) (hlost:vb 65536 A % 2^(k+1)≠0) {half:Bool}{X:Code}{P:Ex→Lf→Prop}
  (h:∀ J g,RunsW (Zk prog Zf Zn hcW) X (fT neg E N M o A.length c ((k+1:Nat):Int) (qS s q)++[.bool true,.bool half,J,.bool (half && decide (vb 65536 A % 2^(k+1)=2^k))]++tl 92 g,hS s neg E o A.length c l q,[]) P) (g:Nat→Value):
  RunsW (Zk prog Zf Zn hcW) (ZZ (tS2 f109) X) (fT neg E N M o A.length c ((k+1:Nat):Int) (qS s q)++[.bool true,.bool half]++tl 94 g,hS s neg E o A.length c l q,[]) P:=by
 have hT0:vb 65536 A≠0:=fun h0=>hlost (by rw[h0];exact Nat.zero_mod _);have hn0:0<A.length:=by
  rcases Nat.eq_zero_or_pos A.length with h0 | h0
  ·have:A=[]:=List.length_eq_zero_iff.1 h0;subst this;exact absurd rfl hT0
  ·exact h0
 have hp:0<2^(k+1):=Nat.pow_pos (by omega);have hdm:=Nat.div_add_mod (vb 65536 A) (2^(k+1));rw[← hq] at hdm;have hqle:q≤vb 65536 A:=by rw[hq];exact Nat.div_le_self _ _
 have hTl:vb 65536 A<65536^A.length:=Zby (by omega) A hC.1;have lenOf:∀ V,V≤vb 65536 A→(d16 V).length≤A.length:=fun V hV=>Zb6 (by omega) _ V (by omega);have hql:=lenOf q hqle;have e1:dif ((k+1:Nat):Int) 1=(k:Int):=by unfold dif;rw[Zw (by omega) (by omega)];omega
 have e2:(((k+1:Nat):Int)).toNat=k+1:=by omega
 have hA3:(d16 (1*2^k)).length≤k+1:=Zb6 (by omega) _ _ (by
  rw[ZfM];have:=Nat.pow_lt_pow_right (show 1<2 by omega) (show k<16*(k+1) by omega);omega)
 have b1:∀ q',(hS s neg E o A.length c l q').blk? 0=some (l,tR):=fun q'=>by cases s<;>rfl
 have sq0:s=false→q=0:=fun h0=>by
  rw[h0] at hs;have h1:=of_decide_eq_false hs.symm;rw[hq];refine Nat.div_eq_of_lt (Nat.lt_of_lt_of_le hTl ?_);rw[ZfM];exact Nat.pow_le_pow_right (by omega) (by omega)
 have hlen:=ZaV hF hC (by omega) (b1 q);have hvT:=ZbB hF (b1 q);by_cases hdl:((k+1:Nat):Int)≤((bl (vb 65536 A):Nat):Int)
 ·by_cases hdq:0<(d16 q).length
  ·
   have hq1:=ZnO hdq;cases s with
   | false=>exact absurd (sq0 rfl) hq1
   | true=>
    simp only[hS,qS] at*;have r2:(hQ neg E o A.length c l q).blk? 2=some (wU (d16 q),tU):=rfl;have hsub:vb 65536 A-q*2^(k+1)=vb 65536 A % 2^(k+1):=by rw[Nat.mul_comm];omega
    have hle:q*2^(k+1)≤vb 65536 A:=by rw[Nat.mul_comm];omega
    have eA:vO (hQ neg E o A.length c l q) (some ⟨2,0,none⟩) (d16 q).length*2^(((k+1:Nat):Int)).toNat=q*2^(k+1):=by rw[zO (A:=q) (ty:=tU) rfl,e2]
    have lA:=lenOf _ hle;have lS:=lenOf (vb 65536 A % 2^(k+1)) (Nat.mod_le _ _);have eS:vO (nxt (hQ neg E o A.length c l q) (q*2^(k+1))) (aX o) A.length-vO (nxt (hQ neg E o A.length c l q) (q*2^(k+1))) (some ⟨3,0,none⟩) (d16 (q*2^(k+1))).length=vb 65536 A % 2^(k+1):=by
     rw[ZbB hF rfl,zO (A:=q*2^(k+1)) (ty:=tU) rfl,hsub]
    have g1:Zx [(ZN (nxt (hQ neg E o A.length c l q) (q*2^(k+1))) (aX o) (some ⟨3,0,none⟩) A.length c (d16 (q*2^(k+1))).length (d16 (q*2^(k+1))).length && Nat.ble (vO (nxt (hQ neg E o A.length c l q) (q*2^(k+1))) (some ⟨3,0,none⟩) (d16 (q*2^(k+1))).length) (vO (nxt (hQ neg E o A.length c l q) (q*2^(k+1))) (aX o) A.length),true),(decide (0<A.length),true),(ZcZ (hQ neg E o A.length c l q) (some ⟨2,0,none⟩) (d16 q).length (d16 q).length ((k+1:Nat):Int),true),(decide (0<(d16 q).length),true),(decide (((k+1:Nat):Int)≤((bl (vO (hQ neg E o A.length c l q) (aX o) A.length):Nat):Int)),true),(Zaj (hQ neg E o A.length c l q) (aX o) A.length c,true)]:=by
     have p5:decide (((k+1:Nat):Int)≤((bl (vO (hQ neg E o A.length c l q) (aX o) A.length):Nat):Int))=true:=by rw[hvT];exact Xa hdl
     have p3:ZcZ (hQ neg E o A.length c l q) (some ⟨2,0,none⟩) (d16 q).length (d16 q).length ((k+1:Nat):Int)=true:=Zbt r2 (by omega) (by omega);have p6:Zaj (hQ neg E o A.length c l q) (aX o) A.length c=true:=ZaV hF hC (by omega) rfl;have p2:decide (0<A.length)=true:=Xa hn0;have p4:decide (0<(d16 q).length)=true:=Xa hdq;refine Za ?_ (Za p2 (Za p3 (Za p4 (Za p5 (Z4 p6)))));rw[ZiJ hF hC (by omega) rfl (V:=q*2^(k+1)) rfl (by omega),ZbB hF rfl,zO (A:=q*2^(k+1)) (ty:=tU) rfl,Nat.ble_eq_true_of_le hle];rfl
    cases half with
    | false=>
     refine Zu (Zh Zd ZR) (ZzN neg false E N M _ o A.length c q l g) (by rw[eA];exact g1) fun g'=> ?_;rw[eA,eS];exact Zcy true (q:=q) hl h _ g' _ (extra:=[(wU (d16 (vb 65536 A % 2^(k+1))),tU),(wU (d16 (q*2^(k+1))),tU)]) rfl
    | true=>
     have eP:vO (nxt (nxt (nxt (hQ neg E o A.length c l q) (q*2^(k+1))) (vb 65536 A % 2^(k+1))) 1) (some ⟨5,0,none⟩) (d16 1).length*2^(dif ((k+1:Nat):Int) 1).toNat=1*2^k:=by rw[zO (A:=1) (ty:=tU) rfl,e1,Xg]
     refine Zu (Zh Zd ZR) (ZzO neg (decide (vb 65536 A % 2^(k+1)=2^k)) E N M _ o A.length c q l g) ?_ fun g'=> ?_
     ·rw[eA,eS,eP];refine Zj ?_ (Zj (ZfW (A:=vb 65536 A % 2^(k+1)) (A':=1*2^k) rfl rfl (by omega) (by omega)) (Zj (by rw[e1];exact Zbt (A:=1) rfl (by omega) (by rw[Zaa];omega)) (Zj (Xa (by rw[Zaa];omega)) (Zj (by decide) g1))));dsimp only;rw[zO (A:=vb 65536 A % 2^(k+1)) (ty:=tU) rfl,zO (A:=1*2^k) (ty:=tU) rfl,ZcA,Nat.one_mul]
     ·rw[eA,eS,eP];exact Zcy true (q:=q) hl h _ g' _ (extra:=[(wU (d16 (1*2^k)),tU),(wU (d16 1),tU),(wU (d16 (vb 65536 A % 2^(k+1))),tU),(wU (d16 (q*2^(k+1))),tU)]) rfl
  ·
   have hq1:q=0:=Zkk hdq;have hTm:vb 65536 A % 2^(k+1)=vb 65536 A:=by rw[hq1,Nat.mul_zero,Nat.zero_add] at hdm;exact hdm
   cases s with
   | true=>
    simp only[hS,qS] at*;have p6:Zaj (hQ neg E o A.length c l q) (aX o) A.length c=true:=ZaV hF hC (by omega) rfl;have w1:vO (hQ neg E o A.length c l q) (aX o) A.length=vb 65536 A:=ZbB hF rfl;have p2:decide (0<A.length)=true:=Xa hn0;have eS:(vO (hQ neg E o A.length c l q) (aX o) A.length-vO (hQ neg E o A.length c l q) none 0)=vb 65536 A % 2^(k+1):=by rw[w1,Zhn,Nat.sub_zero,hTm]
    have p5:decide (((k+1:Nat):Int)≤((bl (vO (hQ neg E o A.length c l q) (aX o) A.length):Nat):Int))=true:=by rw[w1];exact Xa hdl
    have p3:zC (hQ neg E o A.length c l q) (some ⟨2,0,none⟩) (d16 q).length (d16 q).length=true:=ZP (A:=q) rfl (by omega);have p4:decide (0<(d16 q).length)=false:=Xb hdq;have p1:(ZN (hQ neg E o A.length c l q) (aX o) none A.length c 0 0 && Nat.ble (vO (hQ neg E o A.length c l q) none 0) (vO (hQ neg E o A.length c l q) (aX o) A.length))=true:=by rw[Zkl hF hC (by omega) rfl,Zhn];rfl
    have lS:=lenOf (vb 65536 A % 2^(k+1)) (Nat.mod_le _ _);cases half with
    | false=>
     refine Zu (Zh Zd ZR) (ZzP neg false E N M _ o A.length c q l g) (Za p1 (Za p2 (Za p3 (Za p4 (Za p5 (Z4 p6)))))) fun g'=> ?_;rw[eS];exact Zcy true (q:=q) hl h _ g' _ (extra:=[(wU (d16 (vb 65536 A % 2^(k+1))),tU)]) rfl
    | true=>
     have eP:vO (nxt (nxt (hQ neg E o A.length c l q) (vb 65536 A % 2^(k+1))) 1) (some ⟨4,0,none⟩) (d16 1).length*2^(dif ((k+1:Nat):Int) 1).toNat=1*2^k:=by rw[zO (A:=1) (ty:=tU) rfl,e1,Xg]
     refine Zu (Zh Zd ZR) (ZzQ neg (decide (vb 65536 A % 2^(k+1)=2^k)) E N M _ o A.length c q l g) ?_ fun g'=> ?_
     ·rw[eS,eP];refine Zj ?_ (Zj (ZfW (A:=vb 65536 A % 2^(k+1)) (A':=1*2^k) rfl rfl (by omega) (by omega)) (Zj (by rw[e1];exact Zbt (A:=1) rfl (by omega) (by rw[Zaa];omega)) (Zj (Xa (by rw[Zaa];omega)) (Zj (by decide) (Za p1 (Za p2 (Za p3 (Za p4 (Za p5 (Z4 p6))))))))));dsimp only;rw[zO (A:=vb 65536 A % 2^(k+1)) (ty:=tU) rfl,zO (A:=1*2^k) (ty:=tU) rfl,ZcA,Nat.one_mul]
     ·rw[eS,eP];exact Zcy true (q:=q) hl h _ g' _ (extra:=[(wU (d16 (1*2^k)),tU),(wU (d16 1),tU),(wU (d16 (vb 65536 A % 2^(k+1))),tU)]) rfl
   | false=>
    simp only[hS,qS] at*;have p6:Zaj (hX neg E o A.length c l) (aX o) A.length c=true:=ZaV hF hC (by omega) rfl;have w1:vO (hX neg E o A.length c l) (aX o) A.length=vb 65536 A:=ZbB hF rfl;have p2:decide (0<A.length)=true:=Xa hn0;have eS:(vO (hX neg E o A.length c l) (aX o) A.length-vO (hX neg E o A.length c l) none 0)=vb 65536 A % 2^(k+1):=by rw[w1,Zhn,Nat.sub_zero,hTm]
    have p5:decide (((k+1:Nat):Int)≤((bl (vO (hX neg E o A.length c l) (aX o) A.length):Nat):Int))=true:=by rw[w1];exact Xa hdl
    have p3:zC (hX neg E o A.length c l) none 0 0=true:=rfl;have p4:decide (0<0)=false:=rfl;have p1:(ZN (hX neg E o A.length c l) (aX o) none A.length c 0 0 && Nat.ble (vO (hX neg E o A.length c l) none 0) (vO (hX neg E o A.length c l) (aX o) A.length))=true:=by rw[Zkl hF hC (by omega) rfl,Zhn];rfl
    have lS:=lenOf (vb 65536 A % 2^(k+1)) (Nat.mod_le _ _);cases half with
    | false=>
     refine Zu (Zh Zd ZR) (ZzT neg false E N M _ o A.length c q l g) (Za p1 (Za p2 (Za p3 (Za p4 (Za p5 (Z4 p6)))))) fun g'=> ?_;rw[eS];exact Zcy false (q:=q) hl h _ g' _ (extra:=[(wU (d16 (vb 65536 A % 2^(k+1))),tU)]) rfl
    | true=>
     have eP:vO (nxt (nxt (hX neg E o A.length c l) (vb 65536 A % 2^(k+1))) 1) (some ⟨3,0,none⟩) (d16 1).length*2^(dif ((k+1:Nat):Int) 1).toNat=1*2^k:=by rw[zO (A:=1) (ty:=tU) rfl,e1,Xg]
     refine Zu (Zh Zd ZR) (ZzU neg (decide (vb 65536 A % 2^(k+1)=2^k)) E N M _ o A.length c q l g) ?_ fun g'=> ?_
     ·rw[eS,eP];refine Zj ?_ (Zj (ZfW (A:=vb 65536 A % 2^(k+1)) (A':=1*2^k) rfl rfl (by omega) (by omega)) (Zj (by rw[e1];exact Zbt (A:=1) rfl (by omega) (by rw[Zaa];omega)) (Zj (Xa (by rw[Zaa];omega)) (Zj (by decide) (Za p1 (Za p2 (Za p3 (Za p4 (Za p5 (Z4 p6))))))))));dsimp only;rw[zO (A:=vb 65536 A % 2^(k+1)) (ty:=tU) rfl,zO (A:=1*2^k) (ty:=tU) rfl,ZcA,Nat.one_mul]
     ·rw[eS,eP];exact Zcy false (q:=q) hl h _ g' _ (extra:=[(wU (d16 (1*2^k)),tU),(wU (d16 1),tU),(wU (d16 (vb 65536 A % 2^(k+1))),tU)]) rfl
 ·
  have hTs:vb 65536 A<2^(k+1):=by
   have h1:=Zwp (vb 65536 A);have h2:=Nat.pow_le_pow_right (show 0<2 by omega) (show bl (vb 65536 A)≤k+1 by omega);omega
  have hTm:vb 65536 A % 2^(k+1)=vb 65536 A:=Nat.mod_eq_of_lt hTs;cases s with
  | true=>
   simp only[hS,qS] at*;have p6:Zaj (hQ neg E o A.length c l q) (aX o) A.length c=true:=ZaV hF hC (by omega) rfl;have w1:vO (hQ neg E o A.length c l q) (aX o) A.length=vb 65536 A:=ZbB hF rfl;have p5:decide (((k+1:Nat):Int)≤((bl (vO (hQ neg E o A.length c l q) (aX o) A.length):Nat):Int))=false:=by rw[w1];exact Xb hdl
   cases half with
   | false=>
    refine Zu (Zh Zd ZR) (ZzL neg false E N M _ o A.length c q l g) (Za p5 (Z4 p6)) fun g'=> ?_;exact Zcy true (q:=q) hl h _ g' _ (extra:=[]) rfl
   | true=>
    have eP:vO (nxt (hQ neg E o A.length c l q) 1) (some ⟨3,0,none⟩) (d16 1).length*2^(dif ((k+1:Nat):Int) 1).toNat=1*2^k:=by rw[zO (A:=1) (ty:=tU) rfl,e1,Xg]
    refine Zu (Zh Zd ZR) (ZzM neg (decide (vb 65536 A % 2^(k+1)=2^k)) E N M _ o A.length c q l g) ?_ fun g'=> ?_
    ·rw[eP];have pt:ZN (nxt (nxt (hQ neg E o A.length c l q) 1) (1*2^k)) (aX o) (some ⟨4,0,none⟩) A.length c (d16 (1*2^k)).length (d16 (1*2^k)).length=true:=ZiJ hF hC (by omega) rfl (V:=1*2^k) rfl (by omega);refine Zj ?_ (Zj (by dsimp only;exact pt) (Zj (by rw[e1];exact Zbt (A:=1) rfl (by omega) (by rw[Zaa];omega)) (Zj (Xa (by rw[Zaa];omega)) (Zj (by decide) (Za p5 (Z4 p6))))));dsimp only;rw[ZbB hF rfl,zO (A:=1*2^k) (ty:=tU) rfl,ZcA,Nat.one_mul,hTm]
    ·rw[eP];exact Zcy true (q:=q) hl h _ g' _ (extra:=[(wU (d16 (1*2^k)),tU),(wU (d16 1),tU)]) rfl
  | false=>
   simp only[hS,qS] at*;have p6:Zaj (hX neg E o A.length c l) (aX o) A.length c=true:=ZaV hF hC (by omega) rfl;have w1:vO (hX neg E o A.length c l) (aX o) A.length=vb 65536 A:=ZbB hF rfl;have p5:decide (((k+1:Nat):Int)≤((bl (vO (hX neg E o A.length c l) (aX o) A.length):Nat):Int))=false:=by rw[w1];exact Xb hdl
   cases half with
   | false=>
    refine Zu (Zh Zd ZR) (ZzR neg false E N M _ o A.length c q l g) (Za p5 (Z4 p6)) fun g'=> ?_;exact Zcy false (q:=q) hl h _ g' _ (extra:=[]) rfl
   | true=>
    have eP:vO (nxt (hX neg E o A.length c l) 1) (some ⟨2,0,none⟩) (d16 1).length*2^(dif ((k+1:Nat):Int) 1).toNat=1*2^k:=by rw[zO (A:=1) (ty:=tU) rfl,e1,Xg]
    refine Zu (Zh Zd ZR) (ZzS neg (decide (vb 65536 A % 2^(k+1)=2^k)) E N M _ o A.length c q l g) ?_ fun g'=> ?_
    ·rw[eP];have pt:ZN (nxt (nxt (hX neg E o A.length c l) 1) (1*2^k)) (aX o) (some ⟨3,0,none⟩) A.length c (d16 (1*2^k)).length (d16 (1*2^k)).length=true:=ZiJ hF hC (by omega) rfl (V:=1*2^k) rfl (by omega);refine Zj ?_ (Zj (by dsimp only;exact pt) (Zj (by rw[e1];exact Zbt (A:=1) rfl (by omega) (by rw[Zaa];omega)) (Zj (Xa (by rw[Zaa];omega)) (Zj (by decide) (Za p5 (Z4 p6))))));dsimp only;rw[ZbB hF rfl,zO (A:=1*2^k) (ty:=tU) rfl,ZcA,Nat.one_mul,hTm]
    ·rw[eP];exact Zcy false (q:=q) hl h _ g' _ (extra:=[(wU (d16 (1*2^k)),tU),(wU (d16 1),tU)]) rfl
end
end Go.Proofs.YtgefjidphfdhdaaGreatDoor
