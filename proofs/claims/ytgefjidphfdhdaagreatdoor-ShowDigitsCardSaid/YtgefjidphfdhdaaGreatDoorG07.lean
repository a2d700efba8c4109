/-
  ConV7, NumL, ConV8, ConVK, ConNV, Asn, AsNum, RunK, Row, RowS, SlN, NumSl, ConVI, ConVJ, ConV9
-/
import Derived.Test.YtgefjidphfdhdaaGreatDoorG06
import Derived.WalkKit
import Derived.LaidEql
import Derived.Stop.Asserts
import Derived.RowKitTokens
import Derived.ProofKit
import Derived.OpenShut
import Derived.Laws.IdiomArrays
import Derived.Lib.SmallJoins
import Derived.ChangeSlices
namespace Go.Proofs.YtgefjidphfdhdaaGreatDoor
open Go.Proofs.Tryz
open Go.IntKind
open Go.KRun Go.Nt
set_option maxRecDepth 100000
def Zac (a b:Nat):Int:=if a<b then -1 else if a=b then 0 else 1
theorem ZhQ (b:Nat) (L:List Int) (k:Nat):vb b L=vb b (L.take k)+b^k*vb b (L.drop k):=by
 by_cases h:k≤L.length
 ·have e:(L.take k).length=k:=by rw[List.length_take];omega
  have:=ZaN b (L.take k) (L.drop k);rw[List.take_append_drop,e] at this;exact this
 ·rw[List.take_of_length_le (by omega),List.drop_eq_nil_of_le (by omega)];simp [vb]
theorem ZeI {L:List Int}(k:Nat):vb 65536 (L.drop k)=dgN L k+65536*vb 65536 (L.drop (k+1)):=by
 by_cases h:k<L.length
 ·rw[List.drop_eq_getElem_cons h];simp only[vb,dgN];rw[ZhO h]
 ·rw[List.drop_eq_nil_of_le (by omega),List.drop_eq_nil_of_le (by omega),ZdA (by omega)];rfl
theorem ZkZ {L:List Int}(h:∀ x∈L,Dg 65536 x) (k:Nat):vb 65536 (L.take k)<65536^k:=by
 have h1:=ZcU (b:=65536) (by omega) (L.take k) (fun x hx=>h x (List.mem_of_mem_take hx));have h2:(L.take k).length≤k:=by rw[List.length_take];omega
 exact Nat.lt_of_lt_of_le h1 (Nat.pow_le_pow_right (by omega) h2)
theorem Zla {A B:List Int}(hA:∀ x∈A,Dg 65536 x) {k:Nat}(he:vb 65536 (A.drop (k+1))=vb 65536 (B.drop (k+1))) (hd:dgN A k<dgN B k):vb 65536 A<vb 65536 B:=by
 have a1:=ZhQ 65536 A k;have b1:=ZhQ 65536 B k;have a2:=ZkZ hA k;rw[ZeI,he] at a1;rw[ZeI] at b1;generalize vb 65536 (B.drop (k+1))=D at*;generalize 65536^k=P at*;have h1:P*(dgN A k+65536*D+1)≤P*(dgN B k+65536*D):=Nat.mul_le_mul_left _ (by omega);rw[Nat.mul_add P _ 1,Nat.mul_one] at h1;omega
def Z2Q (F:Func):List Code:=[Z1 (Zq F)]
def kR1 (F:Func):Code:=Z1 (Z1 (Zz (Zq F)))
def ZgO (F:Func):Code:=cIn (cIn (Zz (Z1 (Zz (Zq F)))))
def Z2R (F:Func):Code:=Zz (Zz (Zq F))
theorem Zlb:f35.body=some (zo (Z2Q f35) (.seq (.seq (kR1 f35) (.block 0 (.loop (ZgO f35)))) (Z2R f35))):=by kernel_rfl
def mxI (n n':Nat):Int:=i64.wrap ((if (n':Int)>n then (n':Int) else n)-1)
theorem Zpz (a b:Value) (h:Hp):Zh (evL (Zm prog Zg Zn hcV) 100 (Z2Q f35) ([a,b]++List.replicate 28 undef,h,[]) ⟨[],[],[]⟩) 5 25 none [a,b,undef,undef,.int .i64 0] h []:=by and_intros<;>kernel_rfl
theorem Zt4 (p q:Option Addr) (n c n' c':Nat) (h:Hp) (g:Nat→Value):Zh (evC (Zm prog Zg Zn hcV) 100 false (kR1 f35) ([.slice p n c,.slice q n' c',undef,undef,.int .i64 0]++tl 25 g,h,[]) ⟨[],[],[]⟩) 6 24 none [.slice p n c,.slice q n' c',undef,undef,.int .i64 0,.int .i64 (mxI n n')] h []:=by and_intros<;>kernel_rfl
theorem Zt5 (p q:Option Addr) (n c n' c':Nat) (i:Int) (x y:List Value×TypeId) (g:Nat→Value):Zh (evC (Zm prog Zg Zn hcV) 100 false (ZgO f35) ([.slice p n c,.slice q n' c',undef,undef,.int .i64 0,.int .i64 i]++tl 24 g,hp2 y x,[cmp true,cmp true]) ⟨[],[],[]⟩) 6 24 (some none) [.slice p n c,.slice q n' c',undef,undef,.int .i64 (-1),.int .i64 i] (hp2 y x) [(decide (atN (Zj (hp2 y x) p n) i<atN (Zj (hp2 y x) q n') i),true),rP (hp2 y x) q n' c',rP (hp2 y x) p n c,(decide (i≥0),true)]:=by and_intros<;>kernel_rfl
theorem Zt6 (p q:Option Addr) (n c n' c':Nat) (i:Int) (x y:List Value×TypeId) (g:Nat→Value):Zh (evC (Zm prog Zg Zn hcV) 100 false (ZgO f35) ([.slice p n c,.slice q n' c',undef,undef,.int .i64 0,.int .i64 i]++tl 24 g,hp2 y x,[cmp true,cmp false,cmp true]) ⟨[],[],[]⟩) 6 24 (some none) [.slice p n c,.slice q n' c',undef,undef,.int .i64 1,.int .i64 i] (hp2 y x) [(decide (atN (Zj (hp2 y x) p n) i>atN (Zj (hp2 y x) q n') i),true),rP (hp2 y x) q n' c',rP (hp2 y x) p n c,(decide (atN (Zj (hp2 y x) p n) i<atN (Zj (hp2 y x) q n') i),false),rP (hp2 y x) q n' c',rP (hp2 y x) p n c,(decide (i≥0),true)]:=by and_intros<;>kernel_rfl
theorem Zt7 (p q:Option Addr) (n c n' c':Nat) (i:Int) (x y:List Value×TypeId) (g:Nat→Value):Zh (evC (Zm prog Zg Zn hcV) 100 false (ZgO f35) ([.slice p n c,.slice q n' c',undef,undef,.int .i64 0,.int .i64 i]++tl 24 g,hp2 y x,[cmp true,cmp false,cmp false]) ⟨[],[],[]⟩) 6 24 none [.slice p n c,.slice q n' c',undef,undef,.int .i64 0,.int .i64 (i1 i)] (hp2 y x) [(decide (atN (Zj (hp2 y x) p n) i>atN (Zj (hp2 y x) q n') i),false),rP (hp2 y x) q n' c',rP (hp2 y x) p n c,(decide (atN (Zj (hp2 y x) p n) i<atN (Zj (hp2 y x) q n') i),false),rP (hp2 y x) q n' c',rP (hp2 y x) p n c,(decide (i≥0),true)]:=by and_intros<;>kernel_rfl
theorem Zp0 (a b:Value) (i:Int) (h:Hp) (g:Nat→Value):Zh (evC (Zm prog Zg Zn hcV) 100 false (ZgO f35) ([a,b,undef,undef,.int .i64 0,.int .i64 i]++tl 24 g,h,[cmp false]) ⟨[],[],[]⟩) 6 24 (some (some 0)) [a,b,undef,undef,.int .i64 0,.int .i64 i] h [(decide (i≥0),false)]:=by and_intros<;>kernel_rfl
theorem Zp1 (a b:Value) (i:Int) (h:Hp) (g:Nat→Value):Zh (evC (Zm prog Zg Zn hcV) 100 false (Z2R f35) ([a,b,undef,undef,.int .i64 0,.int .i64 i]++tl 24 g,h,[]) ⟨[],[],[]⟩) 5 25 (some none) [a,b,undef,undef,.int .i64 0] h []:=by and_intros<;>kernel_rfl
section
variable {x y : List Value × TypeId} {p q : Option Addr} {n c n' c' : Nat} {A B : List Int}
def Z2S (p q:Option Addr) (n c n' c':Nat) (A B:List Int) (Y:Lf):Prop:=∃ i g,Y.1=[.slice p n c,.slice q n' c',undef,undef,.int .i64 (Zac (vb 65536 A) (vb 65536 B)),.int .i64 i]++tl 24 g
theorem Zlc (NA:Nu 0 x p n c A) (NB:Nu 1 y q n' c' B) (lA:A.length=n) (lB:B.length=n') (hA:∀ x∈A,Dg 65536 x) (hB:∀ x∈B,Dg 65536 x) (hn:max n n'+2<1073741824) (g:Nat→Value):
  Runs (Zm prog Zg Zn hcV) (.block 0 (.loop (ZgO f35))) ([.slice p n c,.slice q n' c',undef,undef,.int .i64 0,.int .i64 (mxI n n')]++tl 24 g,hp2 y x,[]) fun e Y=>match e with | none=>Zac (vb 65536 A) (vb 65536 B)=0∧∃ i g,Y.1=[.slice p n c,.slice q n' c',undef,undef,.int .i64 0,.int .i64 i]++tl 24 g | some none=>Z2S p q n c n' c' A B Y | some (some _)=>False:=by
 have em:mxI n n'=((max n n':Nat):Int)-1:=by
  unfold mxI;split
  ·rw[Zw (by omega) (by omega)];omega
  ·rw[Zw (by omega) (by omega)];omega
 refine Runs.forLoop (P:=fun Y=>Zac (vb 65536 A) (vb 65536 B)=0∧∃ i g,Y.1=[.slice p n c,.slice q n' c',undef,undef,.int .i64 0,.int .i64 i]++tl 24 g) (R:=Z2S p q n c n' c' A B)
  (fun k Y=>k≤max n n'∧vb 65536 (A.drop k)=vb 65536 (B.drop k)∧(∃ g,Y.1=[.slice p n c,.slice q n' c',undef,undef,.int .i64 0,.int .i64 ((k:Nat)-1:Int)]++tl 24 g)∧Y.2.1=hp2 y x) ?_ (n:=max n n') ⟨Nat.le_refl _,by rw[List.drop_eq_nil_of_le (by omega),List.drop_eq_nil_of_le (by omega)],⟨g,by rw[em]⟩,rfl⟩
 rintro k ⟨t,h',s⟩ ⟨hk,he,⟨g,ht⟩,hh⟩;simp only at ht hh;subst ht hh;cases k with
 | zero=>
  refine (Zb (Zp Ze Z2) (Zp0 _ _ _ _ g) (Zv (Xb (by omega)))).mono fun e z hz=> ?_;obtain⟨rfl,⟨g',z1⟩,z2⟩:=hz;refine⟨rfl,?_,_,g',z1⟩;simp only[List.drop_zero] at he;unfold Zac;rw[he];simp
 | succ k=>
  have ek:((k+1:Nat):Int)-1=(k:Int):=by omega
  rw[ek];have r0:=NA.row (hp2 y x) rfl;have r1:=NB.row (hp2 y x) rfl;have d1:=Zaq hA k;have d2:=Zaq hB k;have hg:decide ((k:Int)≥0)=true:=Xa (by omega);by_cases h1:dgN A k<dgN B k
  ·have hlt:=Zla hA he h1;refine (Zb (Zp Ze Z2) (Zt5 p q n c n' c' k x y g) (by
    rw[r0.2,r1.2,Za1,Za1,← d1.2,← d2.2];exact okW (Xa (by omega)) (okW r1.1 (okW r0.1 (Zv hg))))).mono fun e z hz=> ?_
   obtain⟨rfl,⟨g',z1⟩,z2⟩:=hz;refine⟨k,g',?_⟩;rw[z1];unfold Zac;rw[if_pos hlt]
  ·by_cases h2:dgN B k<dgN A k
   ·have hlt:=Zla hB he.symm h2;refine (Zb (Zp Ze Z2) (Zt6 p q n c n' c' k x y g) (by
     rw[r0.2,r1.2,Za1,Za1,← d1.2,← d2.2];exact okW (Xa (by omega)) (okW r1.1 (okW r0.1 (okW (Xb (by omega)) (okW r1.1 (okW r0.1 (Zv hg)))))))).mono fun e z hz=> ?_
    obtain⟨rfl,⟨g',z1⟩,z2⟩:=hz;refine⟨k,g',?_⟩;rw[z1];unfold Zac;rw[if_neg (by omega),if_neg (by omega)]
   ·refine (Zb (Zp Ze Z2) (Zt7 p q n c n' c' k x y g) (by
     rw[r0.2,r1.2,Za1,Za1,← d1.2,← d2.2];exact okW (Xb (by omega)) (okW r1.1 (okW r0.1 (okW (Xb (by omega)) (okW r1.1 (okW r0.1 (Zv hg)))))))).mono fun e z hz=> ?_
    obtain⟨rfl,⟨g',z1⟩,z2⟩:=hz;have e1:i1 (k:Int)=(k:Int)-1:=by unfold i1;rw[Zw (by omega) (by omega)]
    refine⟨k,by omega,by omega,?_,⟨g',by rw[z1,e1]⟩,z2⟩;rw[ZeI,ZeI (L:=B),he];omega
theorem Zld (NA:Nu 0 x p n c A) (NB:Nu 1 y q n' c' B) (lA:A.length=n) (lB:B.length=n') (hA:∀ x∈A,Dg 65536 x) (hB:∀ x∈B,Dg 65536 x) (hn:max n n'+2<1073741824):
  Runs (Zm prog Zg Zn hcV) (zo (Z2Q f35) (.seq (.seq (kR1 f35) (.block 0 (.loop (ZgO f35)))) (Z2R f35))) ([.slice p n c,.slice q n' c']++List.replicate 28 undef,hp2 y x,[]) fun e z=>(e=none∨e=some none)∧zd prog f35 z.1 z.2.1=some (.int .i64 (Zac (vb 65536 A) (vb 65536 B))):=by
 refine Z4 (Zp Ze Z2) (Zpz _ _ _) (fun x hx=>by cases hx) fun g=> ?_;refine Runs.seq (P1:=fun e Y=>match e with | none=>Zac (vb 65536 A) (vb 65536 B)=0∧∃ i g,Y.1=[.slice p n c,.slice q n' c',undef,undef,.int .i64 0,.int .i64 i]++tl 24 g | some none=>Z2S p q n c n' c' A B Y | some (some _)=>False) (Runs.seq (P1:=fun e Y=>e=none∧(∃ g,Y.1=[.slice p n c,.slice q n' c',undef,undef,.int .i64 0,.int .i64 (mxI n n')]++tl 24 g)∧Y.2.1=hp2 y x) (Zb (Zp Ze Z2) (Zt4 p q n c n' c' _ g) (fun x hx=>by cases hx)) ?_ (fun e y he=>by cases he.1)) ?_ ?_
 ·rintro⟨t,h',s⟩ ⟨_,⟨g',ht⟩,hh⟩;simp only at ht hh;subst ht hh;exact Runs.script (Zlc NA NB lA lB hA hB hn g')
 ·rintro⟨t,h',s⟩ ⟨e0,i,g',ht⟩;simp only at ht;subst ht;refine (Zb (Zp Ze Z2) (Zp1 _ _ i h' g') (fun x hx=>by cases hx)).mono fun e z hz=> ?_;obtain⟨rfl,⟨g2,z1⟩,z2⟩:=hz;refine⟨.inr rfl,?_⟩;rw[z1,e0];rfl
 ·intro e Y he
  match e,he with
  | none,⟨i,g',h1⟩=>
   refine⟨.inr rfl,?_⟩;rw[h1];rfl
end
def Zp2:Zag:=fun vals h s=>
 match vals with
 | [.slice p n c,.slice q n' c']=>some (.int .i64 (Zac (vO h p n) (vO h q n')),h,s,[(zB h p q n c n' c',true)])
 | _=>none
theorem ZhR:Z8 35 Zp2:=by
 intro vals h s v h' s' lg hg hl m B w E hv;unfold Zp2 at hg;split at hg
 ·rename_i p n c q n' c';cases hg;have q1:=hl _ Xf;simp only at q1;obtain⟨r1,r2,d1,d2,hn⟩:=Zcm q1;obtain⟨x,p',a,NA,eA,fA⟩:=ZbS 0 r1;obtain⟨y,q',b,NB,eB,fB⟩:=ZbS 1 r2;have r:=Zld NA NB (zK r1) (zK r2) d1 d2 hn;have:=ZI (T:=Zm prog Zg Zn hcV) func35 Zlb (Zck NA NB) (vals:=[.slice p' n c,.slice q' n' c']) (fun v hv=>by
   simp only[List.mem_cons,List.not_mem_nil,or_false] at hv;rcases hv with rfl | rfl
   ·exact NA.lt (by show 0<2;omega)
   ·exact NB.lt (by show 1<2;omega)) (by rfl) r.w E (s:=Zd1 a b) (Zcl fA fB)
  simp only[List.map_cons,List.map_nil] at this;rw[eA _ rfl,eB _ rfl] at this;exact this
 ·cases hg
end Go.Proofs.YtgefjidphfdhdaaGreatDoor
namespace Go.Nt
def bl (V:Nat):Nat:=if _h:V=0 then 0 else bl (V/2)+1
 termination_by V
 decreasing_by omega
theorem Zc5:bl 0=0:=by rw[bl];simp
theorem Zet {V:Nat}(h:V≠0):bl V=bl (V/2)+1:=by rw[bl];rw[dif_neg h]
theorem Zyo (V:Nat):V<2^bl V:=by
 induction V using Nat.strongRecOn with
 | ind V ih=>
  by_cases h:V=0
  ·subst h;rw[Zc5];decide
  ·rw[Zet h,Nat.pow_succ];have:=ih (V/2) (by omega);omega
theorem Zt8 {V:Nat}(h:V≠0):2^(bl V-1)≤V:=by
 induction V using Nat.strongRecOn with
 | ind V ih=>
  rw[Zet h,Nat.add_sub_cancel];by_cases h2:V/2=0
  ·rw[h2,Zc5];omega
  ·have i:=ih (V/2) (by omega) h2;have e:bl (V/2)=(bl (V/2)-1)+1:=by
    have:=Zet h2;omega
   rw[e,Nat.pow_succ];omega
theorem Zle {V k:Nat}(h0:2^k≤V) (h1:V<2^(k+1)):bl V=k+1:=by
 have hp:0<2^k:=Nat.pow_pos (by omega);have hV:V≠0:=by omega
 have a1:=Zyo V;have a2:=Zt8 hV;have a3:bl V≠0:=by have:=Zet hV;omega
 rcases Nat.lt_or_ge (bl V) (k+1) with h | h
 ·have:=Nat.pow_le_pow_right (show 0<2 by omega) (show bl V≤k by omega);omega
 ·rcases Nat.lt_or_ge (k+1) (bl V) with h' | h'
  ·have:=Nat.pow_le_pow_right (show 0<2 by omega) (show k+1≤bl V-1 by omega);omega
  ·omega
theorem Zp3 {V k:Nat}(h:V<2^k):bl V≤k:=by
 by_cases hV:V=0
 ·subst hV;rw[Zc5];omega
 ·have a:=Zt8 hV;rcases Nat.lt_or_ge k (bl V) with h' | h'
  ·have:=Nat.pow_le_pow_right (show 0<2 by omega) (show k≤bl V-1 by omega);omega
  ·exact h'
theorem Zt9 (k:Nat):65536^k=2^(16*k):=by rw[show (65536:Nat)=2^16 from rfl,← Nat.pow_mul]
theorem Zyp {t lo k:Nat}(ht:t≠0) (hlo:lo<65536^k):bl (lo+65536^k*t)=16*k+bl t:=by
 have a1:=Zyo t;have a2:=Zt8 ht;have a3:bl t≠0:=by have:=Zet ht;omega
 rw[Zt9] at*;have e:16*k+bl t=(16*k+(bl t-1))+1:=by omega
 rw[e];refine Zle ?_ ?_
 ·rw[Nat.pow_add];have:=Nat.mul_le_mul_left (2^(16*k)) a2;omega
 ·rw[Nat.add_assoc,show bl t-1+1=bl t by omega,Nat.pow_add];have:=Nat.mul_le_mul_left (2^(16*k)) (show t+1≤2^bl t by omega);rw[Nat.mul_add,Nat.mul_one] at this;omega
end Go.Nt
namespace Go.Proofs.YtgefjidphfdhdaaGreatDoor
open Go.Proofs.Tryz
open Go.IntKind
open Go.KRun Go.Nt
set_option maxRecDepth 100000
def nA (F:Func):Code:=Z1 (Zz (Zq F))
def nR3 (F:Func):Code:=Z1 (Zz (Zz (Zq F)))
def nR4 (F:Func):Code:=Z1 (Z1 (Zz (Zz (Zz (Zq F)))))
def nLp (F:Func):Code:=cIn (cIn (Zz (Z1 (Zz (Zz (Zz (Zq F)))))))
def nEn (F:Func):Code:=Zz (Zz (Zz (Zz (Zq F))))
def nPr (F:Func):List Code:=[Z1 (Zq F),nA F,nR3 F]
theorem Zlf:f65.body=some (zo (nPr f65) (.seq (.seq (nR4 f65) (.block 0 (.loop (nLp f65)))) (nEn f65))):=by kernel_rfl
theorem Zjk:f65.body=some (Zq f65):=by kernel_rfl
def n16 (n:Nat):Int:=i64.wrap (16*n1 n)
theorem Zp4 (o n c:Nat) (h:Hp):Zh (evL (Zm prog Zg Zn hcV) 100 (nPr f65) ([sl 0 o n c]++List.replicate 24 undef,h,[cmp false]) ⟨[],[],[]⟩) 4 21 none [sl 0 o n c,undef,.int .i64 0,.int .i64 (n16 n)] h [((n:Int)==0,false)]:=by and_intros<;>kernel_rfl
theorem ZtA (o n c:Nat) (x:Int) (l:List Value) (v:Value) (g:Nat→Value):Zh (evC (Zm prog Zg Zn hcV) 100 false (nR4 f65) ([sl 0 o n c,undef,.int .i64 0,v]++tl 21 g,⟨1,[(l,tR)]⟩,[at_,val (.int .u32 x)]) ⟨[],[],[]⟩) 5 20 none [sl 0 o n c,undef,.int .i64 0,v,.int .u32 x] ⟨1,[(l,tR)]⟩ [(Z3 (l[o+(n1 n).toNat*1]?) (.int .u32 x),true),(decide (0≤n1 n∧n1 n<n),true)]:=by and_intros<;>kernel_rfl
theorem Zlg (p:Option Addr) (n c:Nat) (h:Hp):Zh (evC (Zm prog Zg Zn hcV) 100 false (Zq f65) ([.slice p n c]++List.replicate 24 undef,h,[cmp true]) ⟨[],[],[]⟩) 3 22 (some none) [.slice p n c,undef,.int .i64 0] h [((n:Int)==0,true)]:=by and_intros<;>kernel_rfl
theorem ZtB (a:Value) (n x:Int) (h:Hp) (g:Nat→Value):Zh (evC (Zm prog Zg Zn hcV) 100 false (nLp f65) ([a,undef,.int .i64 0,.int .i64 n,.int .u32 x]++tl 20 g,h,[cmp true]) ⟨[],[],[]⟩) 5 20 none [a,undef,.int .i64 0,.int .i64 (i64.wrap (n+1)),.int .u32 (u32.wrap (x.tdiv 2))] h [(decide (x>0),true)]:=by and_intros<;>kernel_rfl
theorem Zp5 (a:Value) (n x:Int) (h:Hp) (g:Nat→Value):Zh (evC (Zm prog Zg Zn hcV) 100 false (nLp f65) ([a,undef,.int .i64 0,.int .i64 n,.int .u32 x]++tl 20 g,h,[cmp false]) ⟨[],[],[]⟩) 5 20 (some (some 0)) [a,undef,.int .i64 0,.int .i64 n,.int .u32 x] h [(decide (x>0),false)]:=by and_intros<;>kernel_rfl
theorem Zp6 (a:Value) (n x:Int) (h:Hp) (g:Nat→Value):Zh (evC (Zm prog Zg Zn hcV) 100 false (nEn f65) ([a,undef,.int .i64 0,.int .i64 n,.int .u32 x]++tl 20 g,h,[]) ⟨[],[],[]⟩) 3 22 (some none) [a,undef,.int .i64 n] h []:=by and_intros<;>kernel_rfl
theorem Zlh (a:Value) (n x:Nat) (hn:n+32<4611686018427387904) (hx:x<4294967296) (h:Hp) (g:Nat→Value):
  Runs (Zm prog Zg Zn hcV) (.block 0 (.loop (nLp f65))) ([a,undef,.int .i64 0,.int .i64 (n:Nat),.int .u32 (x:Nat)]++tl 20 g,h,[]) fun e Y=>match e with | none=>(∃ g,Y.1=[a,undef,.int .i64 0,.int .i64 ((n+bl x:Nat):Int),.int .u32 0]++tl 20 g)∧Y.2.1=h | some none=>False | some (some _)=>False:=by
 refine Runs.forLoop (P:=fun Y=>(∃ g,Y.1=[a,undef,.int .i64 0,.int .i64 ((n+bl x:Nat):Int),.int .u32 0]++tl 20 g)∧Y.2.1=h) (R:=fun _=>False)
  (fun k Y=>∃ j:Nat,k≤x∧j+bl k=n+bl x∧(∃ g,Y.1=[a,undef,.int .i64 0,.int .i64 (j:Nat),.int .u32 (k:Nat)]++tl 20 g)∧Y.2.1=h) ?_ (n:=x) ⟨n,Nat.le_refl _,rfl,⟨g,rfl⟩,rfl⟩
 rintro k ⟨t,h',s⟩ ⟨j,hk,hj,⟨g,ht⟩,hh⟩;simp only at ht hh;subst ht hh;have hb:bl x≤32:=Zp3 (by show x<2^32;omega);by_cases h0:k=0
 ·subst h0;refine (Zb (Zp Ze Z2) (Zp5 a j 0 h' g) (Zv rfl)).mono fun e z hz=> ?_;obtain⟨rfl,⟨g',z1⟩,z2⟩:=hz;rw[Zc5] at hj;exact⟨rfl,⟨g',by rw[z1,show (n+bl x)=j from by omega]⟩,z2⟩
 ·refine (Zb (Zp Ze Z2) (ZtB a j k h' g) (Zv (Xa (by omega)))).mono fun e z hz=> ?_;obtain⟨rfl,⟨g',z1⟩,z2⟩:=hz;have e1:=Zet h0;have e2:i64.wrap ((j:Int)+1)=((j+1:Nat):Int):=by rw[Zw (by omega) (by omega)];omega
  have e3:u32.wrap ((k:Int).tdiv 2)=((k/2:Nat):Int):=by rw[Int.tdiv_eq_ediv_of_nonneg (by omega),zT (by omega) (by omega)];omega
  exact⟨k/2,by omega,j+1,by omega,by omega,⟨g',by rw[z1,e2,e3]⟩,z2⟩
theorem Zli {l:List Value}{o c:Nat}{L:List Int}(hR:Row l o L) (hC:ZfO 65536 L) (h0:0<L.length) (hn:L.length<1073741824):
  Runs (Zm prog Zg Zn hcV) (zo (nPr f65) (.seq (.seq (nR4 f65) (.block 0 (.loop (nLp f65)))) (nEn f65))) ([sl 0 o L.length c]++List.replicate 24 undef,⟨1,[(l,tR)]⟩,[]) fun e z=>(e=none∨e=some none)∧zd prog f65 z.1 z.2.1=some (.int .i64 ((bl (vb 65536 L):Nat):Int)):=by
 have ek:n1 L.length=((L.length-1:Nat):Int):=by
  unfold n1;rw[Zw (by omega) (by omega)];omega
 have e16:n16 L.length=((16*(L.length-1):Nat):Int):=by
  unfold n16;rw[ek,Zw (by omega) (by omega)];omega
 have htop:dgN L (L.length-1)≠0:=by
  rcases Zbx L with h | h
  ·rw[hC.2] at h;omega
  ·rw[hC.2] at h;have:=Zd9 hC.1 (L.length-1);unfold dgN;omega
 have hd:=Zaq hC.1 (L.length-1);have hval:bl (vb 65536 L)=16*(L.length-1)+bl (dgN L (L.length-1)):=by
  have e:=ZaD 65536 L (L.length-1);rw[show L.length-1+1=L.length by omega,List.take_length] at e;rw[e];exact Zyp htop (ZkZ hC.1 _)
 refine Z4 (Zp Ze Z2) (Zp4 o L.length c _) (Zv (beq_eq_false_iff_ne.2 (by omega))) fun g=> ?_;refine Runs.seq (P1:=fun e Y=>match e with | none=>(∃ g,Y.1=[sl 0 o L.length c,undef,.int .i64 0,.int .i64 ((bl (vb 65536 L):Nat):Int),.int .u32 0]++tl 20 g)∧Y.2.1=⟨1,[(l,tR)]⟩ | some none=>False | some (some _)=>False) (Runs.seq (P1:=fun e Y=>e=none∧(∃ g,Y.1=[sl 0 o L.length c,undef,.int .i64 0,.int .i64 (n16 L.length),.int .u32 (L.getD (L.length-1) 0)]++tl 20 g)∧Y.2.1=⟨1,[(l,tR)]⟩) (Zb (Zp Ze Z2) (ZtA o L.length c (L.getD (L.length-1) 0) l _ g) (Zi (by rw[ek,Xg,Nat.mul_one,hR.cell (by omega)];simp [Z3]) (Zv (by rw[ek];exact Xa (by omega))))) ?_ (fun e y he=>by cases he.1)) ?_ (fun e Y he=>by match e,he with | none,he=>exact he.elim | some id,he=>exact he.elim)
 ·rintro⟨t,h',s⟩ ⟨_,⟨g',ht⟩,hh⟩;simp only at ht hh;subst ht hh;rw[e16,← hd.2];refine Runs.script ((Zlh _ (16*(L.length-1)) (dgN L (L.length-1)) (by omega) (by omega) _ g').mono fun e Y he=> ?_)
  match e,he with
  | none,he=>rw[hval];exact he
 ·rintro⟨t,h',s⟩ ⟨⟨g',ht⟩,hh⟩;simp only at ht hh;subst ht hh;refine (Zb (Zp Ze Z2) (Zp6 _ _ _ _ g') (fun x hx=>by cases hx)).mono fun e z hz=> ?_;obtain⟨rfl,⟨g2,z1⟩,z2⟩:=hz;refine⟨.inr rfl,?_⟩;rw[z1,z2];rfl
def ZeJ (L:List Int):Bool:=dgB L && Nat.beq (Zc L) L.length
theorem ZgP {L:List Int}(h:ZeJ L=true):ZfO 65536 L:=by
 unfold ZeJ at h;simp only[Xh] at h;exact⟨ZcN h.1,Xj h.2⟩
theorem Zlj {L:List Int}(h:ZfO 65536 L):ZeJ L=true:=by
 unfold ZeJ;rw[Zes h.1,h.2,Nat.beq_refl];rfl
def ZtC:Zag:=fun vals h s=>
 match vals with
 | [.slice p n c]=>some (.int .i64 ((bl (vO h p n):Nat):Int),h,s,[(Zaa h p n c && ZeJ (Zj h p n) && Nat.blt n 1073741824,true)])
 | _=>none
theorem Zp7:Z8 65 ZtC:=by
 intro vals h s v h' s' lg hg hl m B w E hv;unfold ZtC at hg;split at hg
 ·rename_i p n c;cases hg;have q:=hl _ Xf;simp only[Xh] at q;obtain⟨⟨q1,q2⟩,q3⟩:=q;have q2:=ZgP q2;have q3:=Zk.1 q3;have hlen:=zK q1;by_cases hn:n=0
  ·subst hn;have e0:Zj h p 0=[]:=List.length_eq_zero_iff.1 hlen;have ev:vO h p 0=0:=by unfold vO;rw[e0];rfl
   obtain⟨x,p',a,NA,eA,fA⟩:=ZbS 0 q1;have hr:Runs (Zm prog Zg Zn hcV) (Zq f65) ([.slice p' 0 c]++List.replicate 24 undef,⟨1,[x]⟩,[]) fun e z=>(e=none∨e=some none)∧zd prog f65 z.1 z.2.1=some (.int .i64 ((bl (vO h p 0):Nat):Int)):=by
    refine (Zb (Zp Ze Z2) (Zlg p' 0 c _) (Zv rfl)).mono fun e z he=> ?_;obtain⟨rfl,⟨g,e2⟩,e3⟩:=he;refine⟨.inr rfl,?_⟩;rw[e2,e3,ev,Zc5];rfl
   have b1:∀ {i:Nat}{z:List Value×TypeId},(⟨1,[x]⟩:Hp).blk? i=some z→i=0∧z=x:=fun {i z} hz=>by
    have:i<1:=Hp.blk_lt hz;have hi:i=0:=by omega
    subst hi;exact⟨rfl,(Option.some.inj hz).symm⟩
   have:=ZI (T:=Zm prog Zg Zn hcV) func65 Zjk (h0:=⟨1,[x]⟩) ⟨rfl,fun b z hz=>by obtain⟨_,rfl⟩:=b1 hz;exact⟨NA.ros.1,NA.lt0,NA.ros.2⟩⟩ (vals:=[.slice p' 0 c]) (fun v hv=>by rw[List.mem_singleton.1 hv];exact NA.lt (by show 0<1;omega)) (by rfl) hr.w E (s:=fun _=>a) (fun i z hz ht=>by obtain⟨_,rfl⟩:=b1 hz;exact fA ht);simp only[List.map_cons,List.map_nil] at this;rw[eA _ rfl] at this;exact this
  ·rcases ZQ q1 with ⟨rfl,rfl,rfl,e0⟩ | ⟨b,o,x,rfl,hx,r1,_,e0⟩
   ·exact absurd rfl hn
   ·rw[e0] at q2 hlen;obtain⟨h1,h2,h3,h4,h5,h6,h7⟩:=zP r1;have r:=Zli (c:=c) h1 q2 (by rw[h2];omega) (by rw[h2];exact q3);rw[h2] at r;have ev:vO h (some ⟨b,o,none⟩) n=vb 65536 (Zx x.1 o n):=by unfold vO;rw[e0]
    rw[ev];exact ZI (T:=Zm prog Zg Zn hcV) func65 Zlf (ZaU h7) (vals:=[sl 0 o n c]) (fun v hv=>by rw[List.mem_singleton.1 hv];rfl) (by rfl) r.w E (s:=fun _=>b) (zX hx h5 h6 rfl)
 ·cases hg
end Go.Proofs.YtgefjidphfdhdaaGreatDoor
namespace Go.Proofs.YtgefjidphfdhdaaGreatDoor.Na
open Go.KRun Go.Nt
set_option maxRecDepth 100000
set_option linter.unusedVariables false
section
variable {l : List Value} {o c : Nat} {A : List Int}
def d32 (V:Nat):List Int:=db 4294967296 V
end
def Zsi (h:Hp) (p:Option Addr) (n:Nat):Nat:=vb 4294967296 (Zj h p n)
end Go.Proofs.YtgefjidphfdhdaaGreatDoor.Na
namespace Go.Proofs.YtgefjidphfdhdaaGreatDoor
open Go.Proofs.Tryz
open Go.RowKit Go.Extern.Stop Go.Stop Go.Extern
theorem ZgQ (t:Addr) (w:World):(ReflectliteValue.unpack (.iface 73 (.pointer (some t)))).run prog w
  = .ok (.agg #[.pointer (some ⟨7,73,none⟩),.pointer (some ⟨w.heap.size,0,none⟩),.int .u64 150]) (w.alloc (.cells #[.pointer (some t)] 73)):=by kernel_rfl
theorem Zp8 (a:Addr) (w:World):(ReflectliteValue.methodAny (ReflectliteValue.valueError "reflectlite.Value.Type" 0) (fun t _ _ _=>ReflectliteType.toType t) #[.agg #[.pointer (some ⟨7,73,none⟩),.pointer (some a),.int .u64 150]]).run prog w
  = .ok (.iface 194 (.agg #[.pointer (some ⟨7,73,none⟩)])) w:=by kernel_rfl
theorem ZeK (h:Value) (w:World):(Go.method 397 194 (.agg #[h]) "Kind").run prog w= .ok (233,h) w:=by kernel_rfl
theorem Zp9 (w:World):((ReflectliteType.abiMethod fun t=>(fun a:Nat=>Value.int IntKind.u8 (a:Int))<$>Rtype.kind t) #[.pointer (some ⟨7,73,none⟩)]).run prog w= .ok (.int .u8 22) w:=by kernel_rfl
theorem ZpA (w:World):((ReflectliteType.abiMethod fun t=>(fun a:Nat=>Value.int IntKind.u8 (a:Int))<$>Rtype.kind t) #[.pointer (some ⟨7,69,none⟩)]).run prog w= .ok (.int .u8 2) w:=by kernel_rfl
theorem Zsj (z:Sem Value) (f:TypeId→Addr→Nat→Nat→Sem Value) (v:Value):
  ReflectliteValue.method z f #[v]=(do match ← ReflectliteValue.parts v with | none=>z | some (t,a,fl)=>f t a fl (fl % 32)):=rfl
theorem ZfT (a:Addr) (w:World):(ReflectliteValue.parts (.agg #[.pointer (some ⟨7,73,none⟩),.pointer (some a),.int .u64 150])).run prog w= .ok (some (73,a,150)) w:=by kernel_rfl
theorem Zlk (a p:Addr) (W:World) (ha:W.cell? a=some (.pointer (some p))):
  (ReflectliteValue.method (ReflectliteValue.valueError "reflectlite.Value.IsNil" 0) ReflectliteValue.isNil #[.agg #[.pointer (some ⟨7,73,none⟩),.pointer (some a),.int .u64 150]]).run prog W= .ok (.bool false) W:=by
 rw[Zsj];simp only[Sem.run_bind,ZfT,Result.andThen];simp [ReflectliteValue.isNil,loadVar,isAgg,underlying,underlying73,ha,Result.andThen]
theorem ZeL (h:Value) (w:World):(Go.method 397 194 (.agg #[h]) "Elem").run prog w= .ok (244,.agg #[h]) w:=by kernel_rfl
theorem ZbT (h:Value) (w:World):(Go.method 397 194 (.agg #[h]) "Implements").run prog w= .ok (245,.agg #[h]) w:=by kernel_rfl
theorem Zbz (h:Value) (w:World):(Go.method 397 194 (.agg #[h]) "AssignableTo").run prog w= .ok (242,.agg #[h]) w:=by kernel_rfl
theorem ZpB (w:World):(ReflectliteType.method ReflectliteType.elem #[.agg #[.pointer (some ⟨7,73,none⟩)]]).run prog w= .ok (.iface 194 (.agg #[.pointer (some ⟨7,69,none⟩)])) w:=by kernel_rfl
theorem ZdV (w:World):(ReflectliteType.relation "Implements" ReflectliteType.implements_ #[.agg #[.pointer (some ⟨7,69,none⟩)],.iface 194 (.agg #[.pointer (some ⟨7,27,none⟩)])]).run prog w= .ok (.bool true) w:=by kernel_rfl
theorem Zjl (v:Value) (w:World):(ReflectliteType.typeOf #[.iface 69 v]).run prog w= .ok (.iface 194 (.agg #[.pointer (some ⟨7,69,none⟩)])) w:=by kernel_rfl
theorem ZdW (w:World):(ReflectliteType.relation "AssignableTo" ReflectliteType.assignableTo #[.agg #[.pointer (some ⟨7,69,none⟩)],.iface 194 (.agg #[.pointer (some ⟨7,69,none⟩)])]).run prog w= .ok (.bool true) w:=by kernel_rfl
theorem ZgR (n:Int) (w:World):(ReflectliteValue.unpack (.iface 69 (.int .i64 n))).run prog w
  = .ok (.agg #[.pointer (some ⟨7,69,none⟩),.pointer (some ⟨w.heap.size,0,none⟩),.int .u64 130]) (w.alloc (.cells #[.int .i64 n] 69)):=by kernel_rfl
theorem Zjm (w:World):(Rtype.elem? 73).run prog w= .ok (some 69) w:=by kernel_rfl
theorem Zyq (p:Addr) (w:World):(ReflectliteValue.mk 69 p ReflectliteValue.flagAddr).run prog w= .ok (.agg #[.pointer (some ⟨7,69,none⟩),.pointer (some p),.int .u64 386]) w:=by kernel_rfl
theorem Zll (a p:Addr) (W:World) (ha:W.cell? a=some (.pointer (some p))):
  (ReflectliteValue.method (ReflectliteValue.valueError "reflectlite.Value.Elem" 0) ReflectliteValue.elem #[.agg #[.pointer (some ⟨7,73,none⟩),.pointer (some a),.int .u64 150]]).run prog W
   = .ok (.agg #[.pointer (some ⟨7,69,none⟩),.pointer (some p),.int .u64 386]) W:=by
 rw[Zsj];simp only[Sem.run_bind,ZfT,Result.andThen];simp [ReflectliteValue.elem,loadVar,isAgg,underlying,underlying73,ha,Result.andThen,Zjm,Zyq]
theorem Zjn (a:Addr) (w:World):(ReflectliteValue.parts (.agg #[.pointer (some ⟨7,69,none⟩),.pointer (some a),.int .u64 386])).run prog w= .ok (some (69,a,386)) w:=by kernel_rfl
theorem Zlm (a:Addr) (w:World):(ReflectliteValue.parts (.agg #[.pointer (some ⟨7,69,none⟩),.pointer (some a),.int .u64 130])).run prog w= .ok (some (69,a,130)) w:=by kernel_rfl
theorem Zjo (w:World):(Rtype.directlyAssignable 69 69).run prog w= .ok true w:=by kernel_rfl
theorem ZtD (ta b:Addr) (n:Int) (old:Value) (W:World) (hb:W.cell? b=some (.int .i64 n)) (ht:W.cell? ta=some old) (hf:W.frozen? ta=false):
  (ReflectliteValue.set #[.agg #[.pointer (some ⟨7,69,none⟩),.pointer (some ta),.int .u64 386],.agg #[.pointer (some ⟨7,69,none⟩),.pointer (some b),.int .u64 130]]).run prog W
   = .ok (.tuple #[]) (W.setCell ta (.int .i64 n)):=by
 have e:∀ v x:Value,ReflectliteValue.set #[v,x]=(ReflectliteValue.parts v>>=fun p=>ReflectliteValue.parts x>>=fun q=>_):=fun _ _=>rfl;rw[e];simp only[Sem.run_bind,Zjn,Zlm,Result.andThen];simp [ReflectliteValue.flagAddr,loadVar,isAgg,underlying,underlying69,hb,Result.andThen,Zjo,storeVar,Value.cells,storeCells,Addr.add];rw[run_store prog W ta _ _ (by rfl)];simp [ht,hf]
def Zln:Value:= .iface 194 (.agg #[.pointer (some ⟨7,27,none⟩)])
def asW (n:Int) (t:Addr) (w:World):World:=((((w.alloc (.cells #[.pointer (some t)] 73)).alloc (.cells #[.pointer (some ⟨7,73,none⟩),.pointer (some ⟨w.heap.size,0,none⟩),.int .u64 150] 125)).alloc (.cells #[.pointer (some ⟨7,73,none⟩),.pointer (some ⟨w.heap.size,0,none⟩),.int .u64 150] 125)).alloc (.cells #[.int .i64 n] 69)).setCell t (.int .i64 n)
set_option maxHeartbeats 4000000 in
theorem Zyr (n:Int) (t:Addr) (old:Value) (w:World) (hg:w.cell? ⟨0,0,none⟩=some (.iface 194 (.agg #[.pointer (some ⟨7,27,none⟩)]))) (ht0:w.cell? t=some old) (hf0:w.frozen? t=false):
  Calls prog 41 #[.iface 69 (.int .i64 n),.iface 73 (.pointer (some t))] w fun ev w'=>ev= .returned (.bool true)∧w'=((((w.alloc (.cells #[.pointer (some t)] 73)).alloc (.cells #[.pointer (some ⟨7,73,none⟩),.pointer (some ⟨w.heap.size,0,none⟩),.int .u64 150] 125)).alloc (.cells #[.pointer (some ⟨7,73,none⟩),.pointer (some ⟨w.heap.size,0,none⟩),.int .u64 150] 125)).alloc (.cells #[.int .i64 n] 69)).setCell t (.int .i64 n):=by
 have h6:= @run_callFunc_extern prog 81 _ (fun args=>ReflectliteValue.unpack (args.getD 0 (.tuple #[]))) func81 (by kernel_rfl) (by kernel_rfl) (by kernel_rfl) (by kernel_rfl);have h7:= @run_callFunc_extern prog 82 _ (ReflectliteValue.methodAny (ReflectliteValue.valueError "reflectlite.Value.Type" 0) (fun t _ _ _=>ReflectliteType.toType t)) func82 (by kernel_rfl) (by kernel_rfl) (by kernel_rfl) (by kernel_rfl);have h8:= @run_callFunc_extern prog 83 _ (ReflectliteValue.method (ReflectliteValue.valueError "reflectlite.Value.IsNil" 0) ReflectliteValue.isNil) func83 (by kernel_rfl) (by kernel_rfl) (by kernel_rfl) (by kernel_rfl);have h27:= @run_callFunc_extern prog 233 _ (ReflectliteType.abiMethod fun t=>do pure (.int .u8 (← Rtype.kind t))) func233 (by kernel_rfl) (by kernel_rfl) (by kernel_rfl) (by kernel_rfl);have h37:= @run_callFunc_extern prog 244 _ (ReflectliteType.method ReflectliteType.elem) func244 (by kernel_rfl) (by kernel_rfl) (by kernel_rfl) (by kernel_rfl);have h38:= @run_callFunc_extern prog 245 _ (ReflectliteType.relation "Implements" ReflectliteType.implements_) func245 (by kernel_rfl) (by kernel_rfl) (by kernel_rfl) (by kernel_rfl);have h10:= @run_callFunc_extern prog 136 _ ReflectliteType.typeOf func136 (by kernel_rfl) (by kernel_rfl) (by kernel_rfl) (by kernel_rfl);have h35:= @run_callFunc_extern prog 242 _ (ReflectliteType.relation "AssignableTo" ReflectliteType.assignableTo) func242 (by kernel_rfl) (by kernel_rfl) (by kernel_rfl) (by kernel_rfl);have h11:= @run_callFunc_extern prog 137 _ (ReflectliteValue.method (ReflectliteValue.valueError "reflectlite.Value.Elem" 0) ReflectliteValue.elem) func137 (by kernel_rfl) (by kernel_rfl) (by kernel_rfl) (by kernel_rfl);have h12:= @run_callFunc_extern prog 138 _ ReflectliteValue.set func138 (by kernel_rfl) (by kernel_rfl) (by kernel_rfl) (by kernel_rfl);have tO:=Zjl;have mA:=Zbz;have aE:=ZdW;have vE:=ZgR;have f6:=ZgQ;have f7:=Zp8;have mK:=ZeK;have mE:=ZeL;have mI:=ZbT;have kP:=Zp9;have kE:=ZpA;have eP:=ZpB;have iE:=ZdV;have n8:=Zlk ⟨w.heap.size,0,none⟩ t ((w.alloc (.cells #[.pointer (some t)] 73)).alloc (.cells #[.pointer (some ⟨7,73,none⟩),.pointer (some ⟨w.heap.size,0,none⟩),.int .u64 150] 125)) (by simp);have hlt:0<w.heap.size:=by
  rcases Nat.eq_zero_or_pos w.heap.size with h0 | h
  ·simp [World.cell?,h0] at hg
  ·exact h
 have hg2:((w.alloc (.cells #[.pointer (some t)] 73)).alloc (.cells #[.pointer (some ⟨7,73,none⟩),.pointer (some ⟨w.heap.size,0,none⟩),.int .u64 150] 125)).cell? ⟨0,0,none⟩=some (.iface 194 (.agg #[.pointer (some ⟨7,27,none⟩)])):=by
  rw[World.cell?_alloc_lt _ _ ⟨0,0,none⟩ (by simp),World.cell?_alloc_lt _ _ ⟨0,0,none⟩ hlt];exact hg
 have htl:t.block<w.heap.size:=by
  rcases Nat.lt_or_ge t.block w.heap.size with h | h
  ·exact h
  ·simp [World.cell?,Array.getElem?_eq_none h] at ht0
 have el:=Zll ⟨w.heap.size,0,none⟩ t (((w.alloc (.cells #[.pointer (some t)] 73)).alloc (.cells #[.pointer (some ⟨7,73,none⟩),.pointer (some ⟨w.heap.size,0,none⟩),.int .u64 150] 125)).alloc (.cells #[.pointer (some ⟨7,73,none⟩),.pointer (some ⟨w.heap.size,0,none⟩),.int .u64 150] 125)) (by rw[World.cell?_alloc_lt _ _ ⟨w.heap.size,0,none⟩ (by simp;omega)];simp);have st:=ZtD t ⟨w.heap.size+1+1+1,0,none⟩ n old ((((w.alloc (.cells #[.pointer (some t)] 73)).alloc (.cells #[.pointer (some ⟨7,73,none⟩),.pointer (some ⟨w.heap.size,0,none⟩),.int .u64 150] 125)).alloc (.cells #[.pointer (some ⟨7,73,none⟩),.pointer (some ⟨w.heap.size,0,none⟩),.int .u64 150] 125)).alloc (.cells #[.int .i64 n] 69))
  (by rw[World.cell?_alloc_at _ _ _ _ (by simp)];rfl)
  (by rw[World.cell?_alloc_lt _ _ t (by simp;omega),World.cell?_alloc_lt _ _ t (by simp;omega),World.cell?_alloc_lt _ _ t (by simp;omega),World.cell?_alloc_lt _ _ t htl];exact ht0)
  (by rw[World.frozen?_alloc_old _ _ t (by simp;omega),World.frozen?_alloc_old _ _ t (by simp;omega),World.frozen?_alloc_old _ _ t (by simp;omega),World.frozen?_alloc_old _ _ t (Nat.ne_of_lt htl)];exact hf0)
 go_enter func41,ntmps41
 go_wp2
 refine wp_loop_rounds 1 ?_;rw[rounds_succ]
 go_wp2
 go_ret
 exact⟨rfl,rfl⟩
end Go.Proofs.YtgefjidphfdhdaaGreatDoor
namespace Go.Proofs.YtgefjidphfdhdaaGreatDoor
open Go.Proofs.Tryz
open Go.KRun Go.RowKit
set_option maxRecDepth 100000
def ZdB (w:World):Prop:=w.cell? ⟨0,0,none⟩=some Zln
set_option maxHeartbeats 4000000 in
theorem Zlo (n:Int) (w:World) (hg:ZdB w):Calls prog 14 #[.iface 69 (.int .i64 n)] w fun e w'=>e= .returned (.int .i64 n)∧zH w w':=by
 have hlt:0<w.heap.size:=by
  rcases Nat.eq_zero_or_pos w.heap.size with h0 | h
  ·unfold ZdB at hg;simp [World.cell?,h0] at hg
  ·exact h
 have hg1:(w.alloc (.cells #[.int .i64 0] 69)).cell? ⟨0,0,none⟩=some Zln:=by
  rw[World.cell?_alloc_lt _ _ ⟨0,0,none⟩ hlt];exact hg
 have ht1:(w.alloc (.cells #[.int .i64 0] 69)).cell? ⟨w.heap.size,0,none⟩=some (.int .i64 0):=by simp
 have hf1:(w.alloc (.cells #[.int .i64 0] 69)).frozen? ⟨w.heap.size,0,none⟩=false:=by simp
 have hit:=Zyr n ⟨w.heap.size,0,none⟩ (.int .i64 0) _ hg1 ht1 hf1;have hb:(w.alloc (.cells #[.int .i64 0] 69)).heap[w.heap.size]? =some (.cells #[.int .i64 0] 69 (0,0)):=Zas w _;have hcell:(asW n ⟨w.heap.size,0,none⟩ (w.alloc (.cells #[.int .i64 0] 69))).cell? ⟨w.heap.size,0,none⟩=some (.int .i64 n)∧zH w (asW n ⟨w.heap.size,0,none⟩ (w.alloc (.cells #[.int .i64 0] 69))):=by
  unfold asW;have t1:=ZaK w #[.int .i64 0] 69;generalize hw1:w.alloc (.cells #[.int .i64 0] 69)=w1 at*;have s1:w.heap.size<w1.heap.size:=by rw[← hw1,zO];omega
  have t2:=ZaK w1 #[.pointer (some ⟨w.heap.size,0,none⟩)] 73;have q2:=ZY w1 (.cells #[.pointer (some ⟨w.heap.size,0,none⟩)] 73) w.heap.size (by omega);have s2:=zO w1 (.cells #[.pointer (some ⟨w.heap.size,0,none⟩)] 73);generalize w1.alloc (.cells #[.pointer (some ⟨w.heap.size,0,none⟩)] 73)=w2 at*;have t3:=ZaK w2 #[.pointer (some ⟨7,73,none⟩),.pointer (some ⟨w1.heap.size,0,none⟩),.int .u64 150] 125;have q3:=ZY w2 (.cells #[.pointer (some ⟨7,73,none⟩),.pointer (some ⟨w1.heap.size,0,none⟩),.int .u64 150] 125) w.heap.size (by omega);have s3:=zO w2 (.cells #[.pointer (some ⟨7,73,none⟩),.pointer (some ⟨w1.heap.size,0,none⟩),.int .u64 150] 125);generalize w2.alloc (.cells #[.pointer (some ⟨7,73,none⟩),.pointer (some ⟨w1.heap.size,0,none⟩),.int .u64 150] 125)=w3 at*;have t4:=ZaK w3 #[.pointer (some ⟨7,73,none⟩),.pointer (some ⟨w1.heap.size,0,none⟩),.int .u64 150] 125;have q4:=ZY w3 (.cells #[.pointer (some ⟨7,73,none⟩),.pointer (some ⟨w1.heap.size,0,none⟩),.int .u64 150] 125) w.heap.size (by omega);have s4:=zO w3 (.cells #[.pointer (some ⟨7,73,none⟩),.pointer (some ⟨w1.heap.size,0,none⟩),.int .u64 150] 125);generalize w3.alloc (.cells #[.pointer (some ⟨7,73,none⟩),.pointer (some ⟨w1.heap.size,0,none⟩),.int .u64 150] 125)=w4 at*;have t5:=ZaK w4 #[.int .i64 n] 69;have q5:=ZY w4 (.cells #[.int .i64 n] 69) w.heap.size (by omega);generalize w4.alloc (.cells #[.int .i64 n] 69)=w5 at*;have hb5:w5.heap[w.heap.size]? =some (.cells #[.int .i64 0] 69 (0,0)):=by rw[q5,q4,q3,q2];exact hb
  exact⟨cell_of_one (one_setCell hb5),ZfD (Zb8 t1 (Zb8 t2 (Zb8 t3 (Zb8 t4 t5)))) (Nat.le_refl _) hb5 _⟩
 obtain⟨W',hc1,hc2,hit'⟩:∃ W':World,W'.cell? ⟨w.heap.size,0,none⟩=some (.int .i64 n)∧zH w W'∧Calls prog 41 #[.iface 69 (.int .i64 n),.iface 73 (.pointer (some ⟨w.heap.size,0,none⟩))] (w.alloc (.cells #[.int .i64 0] 69)) fun ev w'=>ev= .returned (.bool true)∧w'=W':=⟨_,hcell.1,hcell.2,hit⟩;clear hit hcell hb hf1 ht1 hg1 hlt hg
 go_enter func14,ntmps14
 go_wp2_with (go_at_call 41;refine hit'.mono ?_;rintro e w' ⟨rfl,rfl⟩)
 go_ret
 exact⟨rfl,hc2⟩
def eqA:List Value→Bool
 | [.pointer (some ⟨g,e,none⟩)]=>Nat.beq g 7 && Nat.beq e 27
 | _=>false
def eqE:Value→Bool
 | .iface r (.agg a)=>Nat.beq r 194 && eqA a.toList
 | _=>false
def kOk:List Value→Bool
 | [.iface d v]=>Nat.beq d ZT && eqE v
 | _=>false
def kV:List Value:=[.iface ZT Zln]
def kT:TypeId:=3*ZT
theorem ZpC {v:Value}(h:eqE v=true):v=Zln:=by
 unfold eqE at h;split at h
 ·rename_i r a;simp only[Xh] at h;obtain⟨h1,h2⟩:=h;have h1:=Xj h1;unfold eqA at h2;split at h2
  ·rename_i g e ha;simp only[Xh] at h2;have h3:=Xj h2.1;have h4:=Xj h2.2;have ea:a= #[.pointer (some ⟨g,e,none⟩)]:=by
    apply Array.toList_inj.1;rw[ha]
   rw[ea,h1,h3,h4];rfl
  ·cases h2
 ·cases h
theorem ZpD {cs:List Value}(h:kOk cs=true):cs=kV:=by
 unfold kOk at h;split at h
 ·rename_i d v;simp only[Xh] at h;rw[Xj h.1,ZpC h.2];rfl
 ·cases h
def Z2T:Zag:=fun vals h s=>
 match vals,h.blk? 0 with
 | [.iface t (.int .i64 n)],some (cs,ty)=>some (.int .i64 n,h,s,[(Nat.beq t 69 && Nat.beq ty kT && kOk cs,true)])
 | _,_=>none
theorem ZfU {w:World}{r:List Value}{t:TypeId}{z:Nat×Nat}(h:w.heap[0]? =some (.cells (Zln::r).toArray t z)):ZdB w:=by
 unfold ZdB World.cell?;simp [h]
theorem ZtE:Z8 14 Z2T:=by
 intro vals h s v h' s' lg hg hl m B w E hv;unfold Z2T at hg;split at hg
 ·rename_i t n cs ty hb;cases hg;have h1:=hl _ Xf;simp only[Xh] at h1;obtain⟨⟨e1,e2⟩,e3⟩:=h1;have e1:=Xj e1;have e2:=Xj e2;have e3:=ZpD e3;subst e1 e2 e3;obtain⟨_,r,t',z,k2,_⟩:=E.abs 0 _ hb (by kernel_rfl);have hk:ZdB w:=ZfU (r:=r) (t:=t') (z:=z) (by
   have e4:kV.map (mv1 m)=[Zln]:=by rfl
   have e5:nbA kT=0:=by kernel_rfl
   rw[e4] at k2;simp only[e5] at k2;exact k2)
  refine (Zlo n w hk).mono fun e w' he=> ?_;obtain⟨E',hb'⟩:=ZS E he.2;exact⟨m,he.1,⟨Agree.refl _ _,E',hb',Nat.le_refl _,rfl⟩⟩
 ·cases hg
theorem ZdX {T:Tab}{f:Nat}{F:Func}{c:Code}(hF:T.P.funcs[f]? =some F) (hc:F.body=some c) {h0:Hp}{vals:List Value}(hvals:∀ v∈vals,lt h0.n v=true) {v:Value}(hv:lt 0 v=true)
  (hrun:Runs T c (vals++List.replicate (F.ntmps-vals.length) undef,h0,[]) fun e y=>(e=none∨e=some none)∧zd T.P F y.1 y.2.1=some v)
  {m:Mp}{w:World}(E:Emb m w.heap.size h0 w):
  Calls T.P f (vals.map (mv m)).toArray w fun e w'=>e= .returned v∧zH w w':=by
 refine calls_of_wp hF hc ?_;have R:Rel m w.heap.size (vals++List.replicate (F.ntmps-vals.length) undef,h0,[]) {tmps:=(vals.map (mv m)).toArray++Array.replicate (F.ntmps-(vals.map (mv m)).toArray.size) undef,defers:=[]} w:=by
  refine⟨?_,rfl,E,?_⟩
  ·simp [zl]
  ·intro y hy;rcases List.mem_append.1 hy with hy | hy
   ·exact hvals y hy
   ·rw[List.eq_of_mem_replicate hy];simp [undef,lt]
 refine hrun _ _ _ w R _ fun e y he a' w' hR=> ?_;obtain⟨hex,hres⟩:=he;obtain⟨m1,k1,k2,k3,_⟩:=hR;obtain⟨r1,r2⟩:=zV k2.emb k2.wf hres;rw[← k2.tmps,Z7 hv] at r1;have td:zH w w':=⟨k3,fun k h1 h2=>k2.emb.ice k h1 h2⟩;have post:a'.defers=[]∧∃ v',(results F a'.tmps).run T.P w'= .ok v' w'∧(Ending.returned v'= .returned v∧zH w w'):=⟨k2.dfr,_,r1,rfl,td⟩;rcases hex with rfl | rfl<;>exact post
def hK:Hp:=⟨1,[(kV,kT)]⟩
theorem Zx1 {b:Nat}{x:List Value×TypeId}(h:hK.blk? b=some x):x=(kV,kT):=by
 have hb0:b=0:=by have:b<1:=Hp.blk_lt h;omega
 subst hb0;exact (Option.some.inj h).symm
theorem Zys {w:World}(hk:ZdB w):Emb (fun b=>(b,0)) w.heap.size hK w where
 len:=rfl
 lies:=fun b x hb hx=>by rw[Zx1 hb,show zE kT=true from by kernel_rfl] at hx;cases hx
 low:=fun b x hb hx=>by rw[Zx1 hb,show ro kT=true from by kernel_rfl] at hx;cases hx
 ros:=fun b x hb hx=>by rw[Zx1 hb,show zE kT=true from by kernel_rfl] at hx;cases hx
 inj:=fun b b' x x' hb _ hx=>by rw[Zx1 hb,show ro kT=true from by kernel_rfl] at hx;cases hx
 wf:=fun b x hb v hv=>by
  rw[Zx1 hb] at hv;rw[List.mem_singleton.1 hv];rfl
 base:=Nat.le_refl _
 ice:=fun k h1 h2=>by omega
 abs:=fun b x hb _=>by
  rw[Zx1 hb];have e5:nbA kT=0:=by kernel_rfl
  have e6:lnA kT=0:=by kernel_rfl
  have e4:kV.map (mv1 fun b=>(b,0))=[Zln]:=by rfl
  unfold absR;simp only[e5,e4,e6];unfold ZdB World.cell? at hk;simp only at hk;cases h0:w.heap[0]? with
  | none=>rw[h0] at hk;simp at hk
  | some o=>
   have hlt:=(Array.getElem?_eq_some_iff.1 h0).1;rw[h0] at hk;cases o with
   | cells c t z=>
    refine⟨hlt,c.toList.drop 1,t,z,?_,.inl trivial⟩;have hc:c.toList[0]? =some Zln:=by simpa using hk
    have:[Zln]++c.toList.drop 1=c.toList:=by
     cases hl:c.toList with
     | nil=>rw[hl] at hc;simp at hc
     | cons a l=>
      rw[hl] at hc;simp at hc;simp [hc]
    rw[this]
   | _=>simp at hk
end Go.Proofs.YtgefjidphfdhdaaGreatDoor
namespace Go.KRun
open Go.RowKit
def ZK (T:Tab) (h0:Hp) (n:Nat) (f:Nat) (vals:List Value) (s:List Dec):Option (Value×Hp×List Dec×Lg):=ZfA T (evC T n false) f vals h0 s ⟨[],[],[]⟩
theorem ZcO {T:Tab}(hT:TabOk T) {h0:Hp}{n f:Nat}{vals:List Value}{s:List Dec}{v:Value}{cs:Log}(hF:ZH (ZK T h0 n f vals s) v cs) (hcs:Zu cs) (hvals:(vals.all (lt h0.n))=true) (hv:lt 0 v=true) {m:Mp}{w:World}(E:Emb m w.heap.size h0 w):
  Calls T.P f (vals.map (mv m)).toArray w fun e w'=>e= .returned v∧zH w w':=by
 obtain⟨h1,h2,h3,h4⟩:=hF;cases hr:ZK T h0 n f vals s with
 | none=>rw[hr] at h1;cases h1
 | some r=>
  rw[hr] at h1 h2 h3 h4;simp only[Option.map_some,Option.some.injEq] at h1 h2 h3 h4;obtain⟨v',h',s',L⟩:=r;simp only at h1 h2 h3 h4;subst h1;obtain⟨_,_,h5⟩:=Zd0 hT (ZfB hT n).1 _ _ _ _ _ _ _ _ _ hr ⟨by rw[h2];exact hcs,Zcf _ h3,Zcf _ h4⟩;refine (h5 _ _ w E (List.all_eq_true.1 hvals)).mono fun en w' he=> ?_;obtain⟨m',rfl,C⟩:=he;exact⟨by rw[Z7 hv],C.below,fun k h1 h2=>C.emb.ice k h1 h2⟩
theorem Zb0 {T:Tab}(hT:TabOk T) {h0:Hp}{n f:Nat}{vals:List Value}{s:List Dec}{v:Value}{cs:Log}(hF:ZH (ZK T h0 n f vals s) v cs) (hcs:Zu cs) (hvals:(vals.all (lt 0))=true) (hv:lt 0 v=true) {m:Mp}{w:World}(E:Emb m w.heap.size h0 w):
  Calls T.P f vals.toArray w fun e w'=>e= .returned v∧zH w w':=by
 have hst:∀ y∈vals,lt 0 y=true:=List.all_eq_true.1 hvals;have e:vals.map (mv m)=vals:=(List.map_congr_left fun y hy=>Z7 (hst y hy)).trans (List.map_id' _);have:=ZcO hT hF hcs (List.all_eq_true.2 fun y hy=>z6 (Nat.zero_le _) (hst y hy)) hv E;rw[e] at this;exact this
end Go.KRun
namespace Go.KRun
open Go.ChangeShapes Go.WideShapes Go.ChangeAt Go.RowKit Go.Joins
theorem Zjp {n:Int}(h:(Lit.int .u64 n).wf=true):0≤n∧n<18446744073709551616:=by
 simp [Lit.wf,IntKind.min,IntKind.max,IntKind.signed,IntKind.bits] at h;omega
section
variable {H : Type} {enc : TypeId × Value → H} {P : Program} {w : World}
structure Lain (w:World) (b off:Nat) (cs:Array Value) (zs:List Int):Prop where
 heap:∃ ty z,w.heap[b]? =some (.cells cs ty z)
 room:off+zs.length≤cs.size
 cell:∀ i,i<zs.length→cs[off+i]? =some (.int .u32 (zs.getD i 0))
 wf:∀ n∈zs,(Lit.int .u32 n).wf=true
end
end Go.KRun
namespace Go.Proofs.YtgefjidphfdhdaaGreatDoor.Na
open Go.KRun Go.Nt
set_option maxRecDepth 100000
set_option linter.unusedVariables false
theorem Zsk {x:Bool×Bool}{l:Log}(h:Zu (x::l)):x.1=x.2∧Zu l:=⟨h _ Xe,fun y hy=>h y (Xd _ hy)⟩
end Go.Proofs.YtgefjidphfdhdaaGreatDoor.Na
namespace Go.Nt
theorem Zjq:∀ {L:List Int},wds L→vN L=(vb 4294967296 L:Nat)
 | [],_=>rfl
 | x::r,h=>by
  obtain⟨h1,h2⟩:=Zal h;have:=Zjq h2;show x+4294967296*vN r=((x.toNat+4294967296*vb 4294967296 r:Nat):Int);rw[this];omega
theorem Zjr:∀ (m:Nat) (V:Int),0≤V→V<4294967296^m→vN (dg m V)=V
 | 0,V,h0,h1=>by
  have:V=0:=by rw[Int.pow_zero] at h1;omega
  subst this;rfl
 | m+1,V,h0,h1=>by
  rw[pw] at h1;have h2:=Zjr m (V/4294967296) (by omega) (by omega);simp only[dg,vN];rw[h2];omega
theorem Zlp {m:Nat}{V:Nat}(h:(V:Int)<4294967296^m):(dg m V).take (Zc (dg m V))=db 4294967296 V:=by
 have hw:=ZaA m V;rw[za (b:=4294967296) (by omega) _ hw];have h1:=Zjr m V (by omega) h;rw[Zjq hw] at h1;rw[Int.ofNat.inj h1]
theorem ZfV (L M:List Int):∀ k,Zad L M k= -1∨Zad L M k=0∨Zad L M k=1
 | 0=> .inr (.inl rfl)
 | k+1=>by
  unfold Zad;split
  ·exact ZfV L M k
  ·split
   ·exact .inl rfl
   ·exact .inr (.inr rfl)
theorem ZtF (L M:List Int):ZbP L M= -1∨ZbP L M=0∨ZbP L M=1:=by
 unfold ZbP;split
 ·exact ZfV _ _ _
 ·split
  ·exact .inl rfl
  ·exact .inr (.inr rfl)
theorem ZtG {L M:List Int}(hL:ZaJ L) (hM:ZaJ M):ZbP L M=if vb 4294967296 L<vb 4294967296 M then -1 else if vb 4294967296 L=vb 4294967296 M then 0 else 1:=by
 have h:=ZhM hL hM;rw[Zjq hL.1,Zjq hM.1] at h;have h3:=ZtF L M;split
 ·have:=h.1.2 (by omega);omega
 ·split
  ·exact h.2.2 (by omega)
  ·have h1:¬ ZbP L M<0:=fun hx=>by have:=h.1.1 hx;omega
   have h2:¬ ZbP L M=0:=fun hx=>by have:=h.2.1 hx;omega
   omega
theorem ZtH {L:List Int}(hL:wds L) {m:Nat}(h:L.length≤m):vb 4294967296 L<4294967296^m:=by
 have h1:=ZcU (b:=4294967296) (by omega) L hL;exact Nat.lt_of_lt_of_le h1 (Nat.pow_le_pow_right (by omega) h)
theorem Zc6 {b V:Nat}(hb:2≤b):0<(db b V).length↔0<V:=by
 rw[List.length_pos_iff,ne_eq,ZcM hb];omega
end Go.Nt
namespace Go.Proofs.YtgefjidphfdhdaaGreatDoor
open Go.Proofs.Tryz
open Go.IntKind
open Go.KRun Go.Nt
set_option maxRecDepth 100000
set_option linter.unusedVariables false
def Z2U (F:Func):List Code:=[Z1 (Zq F),Z1 (Zz (Zq F)),Z1 (Zz (Zz (Zq F)))]
def Z2V (F:Func):Code:=Z1 (Z1 (Zz (Zz (Zz (Zq F)))))
def ZcW (F:Func):Code:=cIn (cIn (Zz (Z1 (Zz (Zz (Zz (Zq F)))))))
def Z2W (F:Func):Code:=Zz (Zz (Zz (Zz (Zq F))))
theorem ZpE:f70.body=some (zo (Z2U f70) (.seq (.seq (Z2V f70) (.block 0 (.loop (ZcW f70)))) (Z2W f70))):=by kernel_rfl
def sv (A:List Int) (b c i:Int):Int:=u64.wrap (c+u64.wrap (u64.wrap (atN A i)*u64.wrap b))
def Zeu (x:List Value×TypeId):Hp:=⟨1,[x]⟩
def Zfy (lo:List Value) (x:List Value×TypeId):Hp:=⟨2,[(lo,tU),x]⟩
def Z2m (w:Nat):List Dec:=match w with | 0=>[cmp true] | _=>[cmp false,cmp true]
def Zyt (w:Nat) (n:Nat) (k i:Int):Log:=match w with | 0=>[(decide (i<n),true)] | _=>[(decide (k>0),true),(decide (i<n),false)]
def rP' (h:Hp) (p:Option Addr) (n c:Nat):Bool×Bool:=(Zaa h p n c,true)
theorem ZtI (p:Option Addr) (n c:Nat) (b e:Int) (h:Hp):Zh (evL (Zm prog Zg Zn hcV) 100 (Z2U f70) ([.slice p n c,.int .u32 b,.int .u32 e]++List.replicate 38 undef,h,[]) ⟨[],[],[]⟩) 9 32 none [.slice p n c,.int .u32 b,.int .u32 e,undef,undef,undef,Zs,Zs,.int .u64 (u64.wrap e)] h []:=by and_intros<;>kernel_rfl
theorem Zyu (p:Option Addr) (n c:Nat) (b e k:Int) (h:Hp) (g:Nat→Value):Zh (evC (Zm prog Zg Zn hcV) 100 false (Z2V f70) ([.slice p n c,.int .u32 b,.int .u32 e,undef,undef,undef,Zs,Zs,.int .u64 k]++tl 32 g,h,[]) ⟨[],[],[]⟩) 10 31 none [.slice p n c,.int .u32 b,.int .u32 e,undef,undef,undef,Zs,Zs,.int .u64 k,.int .i64 0] h []:=by and_intros<;>kernel_rfl
theorem ZpF (p:Option Addr) (n c:Nat) (b e k i:Int) (x:List Value×TypeId) (g:Nat→Value):Zh (evC (Zm prog Zg Zn hcV) 100 false (ZcW f70) ([.slice p n c,.int .u32 b,.int .u32 e,undef,undef,undef,Zs,Zs,.int .u64 k,.int .i64 i]++tl 31 g,Zeu x,Z2m 0++[cmp true]) ⟨[],[],[]⟩) 10 31 none [.slice p n c,.int .u32 b,.int .u32 e,undef,undef,undef,Zs,sl 2 0 1 grown,.int .u64 (u64.wrap ((sv (Zj (Zeu x) p n) b k i).tdiv 65536)),.int .i64 (i64.wrap (i+1))] ⟨3,[([.int .u32 (u32.wrap ((sv (Zj (Zeu x) p n) b k i).tmod 65536))],tU),([.int .u32 (u32.wrap ((sv (Zj (Zeu x) p n) b k i).tmod 65536))],tU),x]⟩ ((decide ((65536:Int)=0),false)::rP' (Zeu x) p n c::Zyt 0 n k i):=by and_intros<;>kernel_rfl
theorem ZpG (p:Option Addr) (n c:Nat) (b e k i:Int) (x:List Value×TypeId) (g:Nat→Value):Zh (evC (Zm prog Zg Zn hcV) 100 false (ZcW f70) ([.slice p n c,.int .u32 b,.int .u32 e,undef,undef,undef,Zs,Zs,.int .u64 k,.int .i64 i]++tl 31 g,Zeu x,Z2m 1++[cmp true]) ⟨[],[],[]⟩) 10 31 none [.slice p n c,.int .u32 b,.int .u32 e,undef,undef,undef,Zs,sl 2 0 1 grown,.int .u64 (u64.wrap ((sv (Zj (Zeu x) p n) b k i).tdiv 65536)),.int .i64 (i64.wrap (i+1))] ⟨3,[([.int .u32 (u32.wrap ((sv (Zj (Zeu x) p n) b k i).tmod 65536))],tU),([.int .u32 (u32.wrap ((sv (Zj (Zeu x) p n) b k i).tmod 65536))],tU),x]⟩ ((decide ((65536:Int)=0),false)::rP' (Zeu x) p n c::Zyt 1 n k i):=by and_intros<;>kernel_rfl
theorem Zlq (p:Option Addr) (n c z:Nat) (b e k i:Int) (x:List Value×TypeId) (lo:List Value) (g:Nat→Value):Zh (evC (Zm prog Zg Zn hcV) 100 false (ZcW f70) ([.slice p n c,.int .u32 b,.int .u32 e,undef,undef,undef,Zs,sl 1 0 z grown,.int .u64 k,.int .i64 i]++tl 31 g,Zfy lo x,Z2m 0++[cmp true,at_]) ⟨[],[],[]⟩) 10 31 none [.slice p n c,.int .u32 b,.int .u32 e,undef,undef,undef,Zs,sl 3 0 (z+1) grown,.int .u64 (u64.wrap ((sv (Zj (Zfy lo x) p n) b k i).tdiv 65536)),.int .i64 (i64.wrap (i+1))] ⟨4,[(lo++[.int .u32 (u32.wrap ((sv (Zj (Zfy lo x) p n) b k i).tmod 65536))],tU),([.int .u32 (u32.wrap ((sv (Zj (Zfy lo x) p n) b k i).tmod 65536))],tU),([],2*ZT),x]⟩ ((zS tU (lo,tU) ([.int .u32 (u32.wrap ((sv (Zj (Zfy lo x) p n) b k i).tmod 65536))],tU) z 0 1,true)::(decide ((65536:Int)=0),false)::rP' (Zfy lo x) p n c::Zyt 0 n k i):=by and_intros<;>kernel_rfl
theorem Zlr (p:Option Addr) (n c z:Nat) (b e k i:Int) (x:List Value×TypeId) (lo:List Value) (g:Nat→Value):Zh (evC (Zm prog Zg Zn hcV) 100 false (ZcW f70) ([.slice p n c,.int .u32 b,.int .u32 e,undef,undef,undef,Zs,sl 1 0 z grown,.int .u64 k,.int .i64 i]++tl 31 g,Zfy lo x,Z2m 1++[cmp true,at_]) ⟨[],[],[]⟩) 10 31 none [.slice p n c,.int .u32 b,.int .u32 e,undef,undef,undef,Zs,sl 3 0 (z+1) grown,.int .u64 (u64.wrap ((sv (Zj (Zfy lo x) p n) b k i).tdiv 65536)),.int .i64 (i64.wrap (i+1))] ⟨4,[(lo++[.int .u32 (u32.wrap ((sv (Zj (Zfy lo x) p n) b k i).tmod 65536))],tU),([.int .u32 (u32.wrap ((sv (Zj (Zfy lo x) p n) b k i).tmod 65536))],tU),([],2*ZT),x]⟩ ((zS tU (lo,tU) ([.int .u32 (u32.wrap ((sv (Zj (Zfy lo x) p n) b k i).tmod 65536))],tU) z 0 1,true)::(decide ((65536:Int)=0),false)::rP' (Zfy lo x) p n c::Zyt 1 n k i):=by and_intros<;>kernel_rfl
theorem ZtJ (p:Option Addr) (n c:Nat) (b e k i:Int) (v:Value) (h:Hp) (g:Nat→Value):Zh (evC (Zm prog Zg Zn hcV) 100 false (ZcW f70) ([.slice p n c,.int .u32 b,.int .u32 e,undef,undef,undef,Zs,v,.int .u64 k,.int .i64 i]++tl 31 g,h,[cmp false,cmp false]) ⟨[],[],[]⟩) 10 31 (some (some 0)) [.slice p n c,.int .u32 b,.int .u32 e,undef,undef,undef,Zs,v,.int .u64 k,.int .i64 i] h [(decide (k>0),false),(decide (i<n),false)]:=by and_intros<;>kernel_rfl
theorem ZtK (p:Option Addr) (n c z:Nat) (b e k i:Int) (x:List Value×TypeId) (lo:List Value) (g:Nat→Value):Zh (evC (Zm prog Zg Zn hcV) 100 false (Z2W f70) ([.slice p n c,.int .u32 b,.int .u32 e,undef,undef,undef,Zs,sl 1 0 z grown,.int .u64 k,.int .i64 i]++tl 31 g,Zfy lo x,[]) ⟨[],[],[]⟩) 7 34 (some none) [.slice p n c,.int .u32 b,.int .u32 e,undef,undef,undef,sl 1 0 (Zc (Zx lo 0 z)) (Zc (Zx lo 0 z))] (Zfy lo x) [(ZaB tU lo 0 z grown,true)]:=by and_intros<;>kernel_rfl
theorem Zls (p:Option Addr) (n c:Nat) (b e:Int) (h:Hp):Zh (evC (Zm prog Zg Zn hcV) 100 false (Zq f70) ([.slice p n c,.int .u32 b,.int .u32 e]++List.replicate 38 undef,h,[cmp false,cmp false]) ⟨[],[],[]⟩) 7 34 (some none) [.slice p n c,.int .u32 b,.int .u32 e,undef,undef,undef,Zs] h [(decide (u64.wrap e>0),false),(decide ((0:Int)<n),false)]:=by and_intros<;>kernel_rfl
theorem ZbU {n:Int}(h0:0≤n) (h1:n<18446744073709551616):u64.wrap n=n:=by simp [IntKind.wrap,IntKind.bits,IntKind.signed];omega
theorem Z2X {A:List Int}(hA:∀ x∈A,Dg 65536 x) {b k:Nat}(hb:b<4294967296) (hk:k<4294967296) (i:Nat):sv A b k i=((k+dgN A i*b:Nat):Int):=by
 have h1:=(Zaq hA i).1;have h2:=(Zaq hA i).2;have hp:dgN A i*b≤65535*4294967295:=Nat.mul_le_mul (by omega) (by omega);have e0:atN A (i:Int)=((dgN A i:Nat):Int):=by
  have:=Zd9 hA i;rw[Za1];unfold dgN;have:=this.1;omega
 unfold sv;rw[e0,ZbU (n:=((dgN A i:Nat):Int)) (by omega) (by omega),ZbU (n:=(b:Int)) (by omega) (by omega)];have e1:((dgN A i:Nat):Int)*(b:Int)=((dgN A i*b:Nat):Int):=by simp
 rw[e1,ZbU (n:=((dgN A i*b:Nat):Int)) (by omega) (by omega),ZbU (by omega) (by omega)];omega
theorem Zjs {O:List Int}{A:List Int}{i k b e:Nat}(hO:O.length=i) (h:vb 65536 O+65536^i*k=vb 65536 (A.take i)*b+e):
  vb 65536 (O++[(((k+dgN A i*b) % 65536:Nat):Int)])+65536^(i+1)*((k+dgN A i*b)/65536)=vb 65536 (A.take (i+1))*b+e:=by
 rw[Zd7,hO,Xg,ZaD,Nat.add_mul];have h2:=Nat.div_add_mod (k+dgN A i*b) 65536;have h3:65536^i*(k+dgN A i*b)=65536^i*(65536*((k+dgN A i*b)/65536))+65536^i*((k+dgN A i*b) % 65536):=by rw[← Nat.mul_add,h2]
 have h4:65536^i*(k+dgN A i*b)=65536^i*k+65536^i*(dgN A i*b):=Nat.mul_add _ _ _;have h5:65536^(i+1)*((k+dgN A i*b)/65536)=65536^i*(65536*((k+dgN A i*b)/65536)):=by rw[Nat.pow_succ,Nat.mul_assoc]
 have h6:65536^i*(A.getD i 0).toNat*b=65536^i*(dgN A i*b):=by rw[Nat.mul_assoc];rfl
 rw[h5,h6];omega
section
variable {x : List Value × TypeId} {p : Option Addr} {n c : Nat} {A : List Int}
theorem ZhS (NA:Nu 0 x p n c A) {h:Hp}(h0:h.blk? 0=some x):∀ i z,(⟨1,[x]⟩:Hp).blk? i=some z→h.blk? i=some z∧∀ v∈z.1,still v=true:=fun i z hz=>by
 have hi:i=0:=by have:i<1:=Hp.blk_lt hz;omega
 subst hi;have:z=x:=(Option.some.inj hz).symm;subst this;exact⟨h0,NA.st⟩
def sFr (p:Option Addr) (n c:Nat) (b e:Nat) (out:Value) (k i:Nat):List Value:=[.slice p n c,.int .u32 ((b:Nat):Int),.int .u32 ((e:Nat):Int),undef,undef,undef,Zs,out,.int .u64 ((k:Nat):Int),.int .i64 ((i:Nat):Int)]
def Z2Y (x:List Value×TypeId) (p:Option Addr) (n c b e:Nat) (O:List Int) (i k:Nat) (Y:Lf):Prop:=
 (i=0∧(∃ g,Y.1=sFr p n c b e Zs k i++tl 31 g)∧Y.2.1=Zeu x)∨(0<i∧(∃ g,Y.1=sFr p n c b e (sl 1 0 i grown) k i++tl 31 g)∧Y.2.1=Zfy (wU O) x)
theorem Zlt (NA:Nu 0 x p n c A) (hA:∀ x∈A,Dg 65536 x) {b e k i:Nat}(hb:b<4294967296) {O:List Int}(hk:k<4294967296) (hi:i<1073741823) (hO:O.length=i) (hgo:i<n∨0<k) {Y:Lf}(hY:Z2Y x p n c b e O i k Y):
  RunsW (Zm prog Zg Zn hcV) (ZcW f70) Y fun ex z=>ex=none∧(∃ g,z.1=sFr p n c b e (sl 1 0 (i+1) grown) ((k+dgN A i*b)/65536) (i+1)++tl 31 g)∧z.2.1=Zfy (wU (O++[(((k+dgN A i*b) % 65536:Nat):Int)])) x:=by
 obtain⟨t,h',s⟩:=Y;have hd1:=(Zaq hA i).1;have hp:dgN A i*b≤65535*4294967295:=Nat.mul_le_mul (by omega) (by omega);have es:=Z2X hA hb hk i;have e1:u32.wrap ((sv A b k i).tmod 65536)=(((k+dgN A i*b) % 65536:Nat):Int):=by rw[es,Int.tmod_eq_emod_of_nonneg (by omega),zT (by omega) (by omega)];omega
 have e2:u64.wrap ((sv A b k i).tdiv 65536)=(((k+dgN A i*b)/65536:Nat):Int):=by rw[es,Int.tdiv_eq_ediv_of_nonneg (by omega),ZbU (by omega) (by omega)];omega
 have e3:i64.wrap ((i:Int)+1)=((i+1:Nat):Int):=by rw[Zw (by omega) (by omega)];omega
 have hw:∃ w,w≤1∧Zu (Zyt w n k i):=by
  by_cases ha:i<n
  ·exact⟨0,by omega,Zv (Xa (by omega))⟩
  ·exact⟨1,by omega,okW (Xa (by omega)) (Zv (Xb (by omega)))⟩
 obtain⟨w,hw1,hl⟩:=hw;rcases hY with ⟨h0,⟨g,ht⟩,hh⟩ | ⟨h0,⟨g,ht⟩,hh⟩
 ·simp only at ht hh;subst ht hh;have r0:=NA.row (Zeu x) rfl;have hO':O=[]:=List.length_eq_zero_iff.1 (by omega);have fin:RunsW (Zm prog Zg Zn hcV) (ZcW f70) (sFr p n c b e Zs k i++tl 31 g,Zeu x,s) fun ex z=>ex=none∧(∃ g,z.1=[.slice p n c,.int .u32 ((b:Nat):Int),.int .u32 ((e:Nat):Int),undef,undef,undef,Zs,sl 2 0 1 grown,.int .u64 (u64.wrap ((sv A b k i).tdiv 65536)),.int .i64 (i64.wrap ((i:Int)+1))]++tl 31 g)∧z.2.1=⟨3,[([.int .u32 (u32.wrap ((sv A b k i).tmod 65536))],tU),([.int .u32 (u32.wrap ((sv A b k i).tmod 65536))],tU),x]⟩:=by
   match w,hw1,hl with
   | 0,_,hl=>
    have:=Zd (Zp Ze Z2) (s0:=s) (ZpF p n c b e k i x g) (okW rfl (okW r0.1 hl));rw[r0.2] at this;exact this
   | 1,_,hl=>
    have:=Zd (Zp Ze Z2) (s0:=s) (ZpG p n c b e k i x g) (okW rfl (okW r0.1 hl));rw[r0.2] at this;exact this
  rw[e1,e2,e3] at fin;have:=fin.kept (k:=1) (b:=2) (base:=[x]) (y:=([.int .u32 (((k+dgN A i*b) % 65536:Nat):Int)],tU)) (front':=sFr p n c b e (sl 1 0 1 grown) ((k+dgN A i*b)/65536) (i+1)) rfl
   (by simp only[sFr,List.map_cons,List.map_nil,NA.rn (f:=zA 1 2) rfl];kernel_rfl) (ZhS NA rfl) rfl (by omega) (fun v hv=>by rw[List.mem_singleton.1 hv];rfl) (fun v hv=>by
    simp only[sFr,List.mem_cons,List.not_mem_nil,or_false] at hv;rcases hv with rfl | rfl | rfl | rfl | rfl | rfl | rfl | rfl | rfl | rfl
    ·exact NA.lt (by omega)
    all_goals rfl)
  refine this.mono fun ex z hz=> ?_;obtain⟨rfl,⟨g',q1⟩,q2⟩:=hz;subst hO' h0;exact⟨rfl,⟨g',q1⟩,q2⟩
 ·simp only at ht hh;subst ht hh;have r0:=NA.row (Zfy (wU O) x) rfl;have hchk:zS tU (wU O,tU) ([.int .u32 (u32.wrap ((sv A b k i).tmod 65536))],tU) i 0 1=true:=
   Zby (L:=O) (M:=[u32.wrap ((sv A b k i).tmod 65536)]) hO.symm (show 0<1 by omega) (by show O.length+1≤_;omega)
  have fin:RunsW (Zm prog Zg Zn hcV) (ZcW f70) (sFr p n c b e (sl 1 0 i grown) k i++tl 31 g,Zfy (wU O) x,s) fun ex z=>ex=none∧(∃ g,z.1=[.slice p n c,.int .u32 ((b:Nat):Int),.int .u32 ((e:Nat):Int),undef,undef,undef,Zs,sl 3 0 (i+1) grown,.int .u64 (u64.wrap ((sv A b k i).tdiv 65536)),.int .i64 (i64.wrap ((i:Int)+1))]++tl 31 g)∧z.2.1=⟨4,[(wU O++[.int .u32 (u32.wrap ((sv A b k i).tmod 65536))],tU),([.int .u32 (u32.wrap ((sv A b k i).tmod 65536))],tU),([],2*ZT),x]⟩:=by
   match w,hw1,hl with
   | 0,_,hl=>
    have:=Zd (Zp Ze Z2) (s0:=s) (Zlq p n c i b e k i x (wU O) g) (by rw[r0.2];exact okW hchk (okW rfl (okW r0.1 hl)));rw[r0.2] at this;exact this
   | 1,_,hl=>
    have:=Zd (Zp Ze Z2) (s0:=s) (Zlr p n c i b e k i x (wU O) g) (by rw[r0.2];exact okW hchk (okW rfl (okW r0.1 hl)));rw[r0.2] at this;exact this
  rw[e1,e2,e3] at fin;have ew:wU O++[.int .u32 (((k+dgN A i*b) % 65536:Nat):Int)]=wU (O++[(((k+dgN A i*b) % 65536:Nat):Int)]):=by rw[zk];rfl
  rw[ew] at fin;have:=fin.kept (k:=1) (b:=3) (base:=[x]) (y:=(wU (O++[(((k+dgN A i*b) % 65536:Nat):Int)]),tU)) (front':=sFr p n c b e (sl 1 0 (i+1) grown) ((k+dgN A i*b)/65536) (i+1)) rfl
   (by simp only[sFr,List.map_cons,List.map_nil,NA.rn (f:=zA 1 3) rfl];kernel_rfl) (ZhS NA rfl) rfl (by omega) (ZG _) (fun v hv=>by
    simp only[sFr,List.mem_cons,List.not_mem_nil,or_false] at hv;rcases hv with rfl | rfl | rfl | rfl | rfl | rfl | rfl | rfl | rfl | rfl
    ·exact NA.lt (by omega)
    all_goals rfl)
  exact this
def Z2Z (x:List Value×TypeId) (p:Option Addr) (n c:Nat) (A:List Int) (b e m:Nat) (Y:Lf):Prop:=
 ∃ (i k:Nat) (O:List Int),O.length=i∧m=n+2-i∧i≤n+2∧k<4294967296∧((i=n+1→k<65536)∧(i=n+2→k=0))∧(∀ x∈O,Dg 65536 x)∧vb 65536 O+65536^i*k=vb 65536 (A.take i)*b+e∧Z2Y x p n c b e O i k Y
def ZtL (x:List Value×TypeId) (p:Option Addr) (n c:Nat) (A:List Int) (b e:Nat) (Y:Lf):Prop:=
 ∃ (i:Nat) (O:List Int),O.length=i∧i≤n+2∧(∀ x∈O,Dg 65536 x)∧vb 65536 O=vb 65536 A*b+e∧n≤i∧Z2Y x p n c b e O i 0 Y
theorem ZpH (NA:Nu 0 x p n c A) (lA:A.length=n) (hA:∀ x∈A,Dg 65536 x) {b e:Nat}(hb:b<4294967296) (he:e<4294967296) (hn:n+3<1073741824) (g:Nat→Value):
  RunsW (Zm prog Zg Zn hcV) (.block 0 (.loop (ZcW f70))) (sFr p n c b e Zs e 0++tl 31 g,Zeu x,[]) fun ex Y=>match ex with | none=>ZtL x p n c A b e Y | some none=>False | some (some _)=>False:=by
 refine RunsW.forLoop (P:=ZtL x p n c A b e) (R:=fun _=>False) (Z2Z x p n c A b e) ?_ (n:=n+2) ⟨0,e,[],rfl,by omega,by omega,he,⟨by omega,by omega⟩,(fun x hx=>by cases hx),by simp [vb],.inl ⟨rfl,⟨g,rfl⟩,rfl⟩⟩;rintro m Y ⟨i,k,O,hO,hm,hi,hk,⟨hk1,hk0⟩,hOd,hval,hY⟩;by_cases hgo:i<n∨0<k
 ·have hmx:i≤n+1:=by
   rcases Nat.lt_or_ge i (n+2) with h | h
   ·omega
   ·have:k=0:=hk0 (by omega);omega
  have r:=Zlt NA hA (e:=e) hb hk (by omega) hO hgo hY;refine r.mono fun ex z hz=> ?_;obtain⟨rfl,z1,z2⟩:=hz;have d1:=(Zaq hA i).1;have hp:dgN A i*b≤65535*4294967295:=Nat.mul_le_mul (by omega) (by omega);refine⟨n+2-(i+1),by omega,i+1,(k+dgN A i*b)/65536,O++[(((k+dgN A i*b) % 65536:Nat):Int)],by simp [hO],rfl,by omega,by omega,⟨fun he'=> ?_,fun he'=> ?_⟩,fun x hx=> ?_,Zjs hO hval,.inr ⟨by omega,z1,z2⟩⟩
  ·have z1:dgN A i=0:=ZdA (by omega);rw[z1];omega
  ·have z1:dgN A i=0:=ZdA (by omega);have:=hk1 (by omega);rw[z1];omega
  ·rcases List.mem_append.1 hx with hx | hx
   ·exact hOd x hx
   ·rw[List.mem_singleton.1 hx];exact⟨by omega,by omega⟩
 ·have hk:k=0:=by omega
  subst hk;have ha:n≤i:=by omega
  have out:∀ (v:Value) (h:Hp) (g:Nat→Value) (s:List Dec),RunsW (Zm prog Zg Zn hcV) (ZcW f70) (sFr p n c b e v 0 i++tl 31 g,h,s) fun ex z=>ex=some (some 0)∧(∃ g,z.1=sFr p n c b e v 0 i++tl 31 g)∧z.2.1=h:=fun v h g s=>
   Zd (Zp Ze Z2) (ZtJ p n c b e 0 i v h g) (okW rfl (Zv (Xb (by omega))))
  have hv:vb 65536 O=vb 65536 A*b+e:=by
   rw[List.take_of_length_le (by omega)] at hval;omega
  obtain⟨t,h',s⟩:=Y;rcases hY with ⟨h0,⟨g,ht⟩,hh⟩ | ⟨h0,⟨g,ht⟩,hh⟩
  ·simp only at ht hh;subst ht hh;refine (out Zs _ g s).mono fun ex z hz=> ?_;obtain⟨rfl,z1,z2⟩:=hz;exact⟨rfl,i,O,hO,hi,hOd,hv,ha,.inl ⟨h0,z1,z2⟩⟩
  ·simp only at ht hh;subst ht hh;refine (out (sl 1 0 i grown) _ g s).mono fun ex z hz=> ?_;obtain⟨rfl,z1,z2⟩:=hz;exact⟨rfl,i,O,hO,hi,hOd,hv,ha,.inr ⟨h0,z1,z2⟩⟩
theorem ZpI (NA:Nu 0 x p n c A) (lA:A.length=n) (hA:∀ x∈A,Dg 65536 x) {b e:Nat}(hb:b<4294967296) (he:e<4294967296) (hn:n+3<1073741824) (h0:0<n∨0<e) {V:Nat}(hV:V=vb 65536 A*b+e):
  RunsW (Zm prog Zg Zn hcV) (zo (Z2U f70) (.seq (.seq (Z2V f70) (.block 0 (.loop (ZcW f70)))) (Z2W f70))) ([.slice p n c,.int .u32 ((b:Nat):Int),.int .u32 ((e:Nat):Int)]++List.replicate 38 undef,Zeu x,[]) fun ex z=>(ex=none∨ex=some none)∧zd prog f70 z.1 z.2.1=some (sl 1 0 (d16 V).length (d16 V).length)∧∃ r,z.2.1.blk? 1=some (wU (d16 V)++r,tU):=by
 refine ZA (Zp Ze Z2) (ZtI p n c b e (Zeu x)) (fun x hx=>by cases hx) fun g=> ?_;have ee:u64.wrap ((e:Nat):Int)=((e:Nat):Int):=ZbU (by omega) (by omega);rw[ee];refine ZkN (Zd (Zp Ze Z2) (Zyu p n c b e e (Zeu x) g) (fun x hx=>by cases hx)) (fun ex y he=>by cases he.1) (P2:=fun ex Y=>match ex with | none=>ZtL x p n c A b e Y | some none=>False | some (some _)=>False) ?_ ?_ ?_
 ·rintro⟨t,h',s⟩ ⟨_,⟨g',ht⟩,hh⟩;simp only at ht hh;subst ht hh;exact RunsW.script (ZpH NA lA hA hb he hn g')
 ·intro ex y hy
  match ex,hy with
  | none,hy=>exact hy
  | some id,hy=>exact hy
 ·rintro⟨t,h',s⟩ ⟨i,O,hO,hi,hOd,hv,ha,hY⟩;rcases hY with ⟨e0,_⟩ | ⟨_,⟨g',ht⟩,hh⟩
  ·exfalso
   have hO':O=[]:=List.length_eq_zero_iff.1 (by omega);rw[hO'] at hv;have:vb 65536 []=0:=rfl;omega
  ·simp only at ht hh;subst ht hh;have hrow:ZaB tU (wU O) 0 i grown=true:=by
    rw[← hO];exact Zah (fun x hx=>⟨(hOd x hx).1,by have:=(hOd x hx).2;omega⟩) (by omega) (Zyi _)
   refine (Zd (Zp Ze Z2) (ZtK p n c i b e 0 i x (wU O) g') (Zv hrow)).mono fun ex z hz=> ?_;obtain⟨rfl,⟨g2,e1⟩,e2⟩:=hz;have et:Zc (Zx (wU O) 0 i)=(d16 V).length:=by
    rw[← hO,ZaO,Zam (by omega) hOd,hv,← hV];rfl
   refine⟨.inr rfl,?_,?_⟩
   ·rw[e1,e2,et];rfl
   ·rw[e2];refine⟨wU (O.drop (Zc O)),?_⟩;have e3:wU (d16 V)++wU (O.drop (Zc O))=wU O:=by
     unfold d16;rw[hV,← hv,← za (by omega) _ hOd,← zk,List.take_append_drop]
    rw[e3];rfl
theorem ZhT (NA:Nu 0 x p n c A):(Zeu x).rows:=by
 refine⟨rfl,fun b z hz=> ?_⟩;have hb:b=0:=by have:b<1:=Hp.blk_lt hz;omega
 subst hb;have:z=x:=(Option.some.inj hz).symm;subst this;exact⟨NA.ros.1,NA.lt0,NA.ros.2⟩
theorem ZhU {h:Hp}{a:Nat}(hx:zE x.2=false→∃ z r,h.blk? a=some z∧zE z.2=false∧rt z.2=rt x.2∧z.1=x.1++r):(Zeu x).fits (fun _=>a) h:=by
 intro i z hz ht;have hb:i=0:=by have:i<1:=Hp.blk_lt hz;omega
 subst hb;have:z=x:=(Option.some.inj hz).symm;subst this;exact hx ht
end
theorem Zlu:f70.body=some (Zq f70):=by kernel_rfl
def ZbV (h:Hp) (p:Option Addr) (n c:Nat) (b e:Int):Bool:=Zaa h p n c && dgB (Zj h p n) && Nat.blt (n+3) 1073741824 && decide ((0≤b∧b<4294967296)∧(0≤e∧e<4294967296))
def Z2n:Zag:=fun vals h s=>
 match vals,s with
 | [.slice p n c,.int .u32 b,.int .u32 e],.inr (.inr (.inr (.inl d)))::s'=>
  match d with
  | true=>ZcV (vO h p n*b.toNat+e.toNat) h s' [(ZbV h p n c b e,true),(decide (0<n∨0<e),true)]
  | false=>some (Zs,h,s',[(ZbV h p n c b e,true),(decide (0<n∨0<e),false)])
 | _,_=>none
theorem ZgS:Z8 70 Z2n:=by
 intro vals h s v h' s' lg hg hl m B w E hv;unfold Z2n at hg;split at hg
 ·rename_i p n c b e d s2;have key:ZbV h p n c b e=true→∃ b' e':Nat,b=(b':Int)∧e=(e':Int)∧b'<4294967296∧e'<4294967296∧Zaa h p n c=true∧(∀ x∈Zj h p n,Dg 65536 x)∧n+3<1073741824:=fun hk=>by
   simp only[ZbV,Xh,Xi] at hk;obtain⟨⟨⟨r1,r2⟩,r3⟩,r4⟩:=hk;exact⟨b.toNat,e.toNat,by omega,by omega,by omega,by omega,r1,ZcN r2,Zk.1 r3⟩
  split at hg
  ·unfold ZcV at hg;cases hg;have q1:=hl _ (Xe);have q2:=hl _ (Xd _ Xf);simp only[Xi] at q2;obtain⟨b',e',rfl,rfl,hb,he,r1,r2,r3⟩:=key q1;rw[Xg,Xg];obtain⟨x,p',a,NA,eA,fA⟩:=ZbS 0 r1;have r:=ZpI NA (zK r1) r2 hb he r3 (by omega) rfl;have:=ZL (T:=Zm prog Zg Zn hcV) func70 ZpE (ZhT NA) (vals:=[.slice p' n c,.int .u32 ((b':Nat):Int),.int .u32 ((e':Nat):Int)]) (fun v hv=>by
    simp only[List.mem_cons,List.not_mem_nil,or_false] at hv;rcases hv with rfl | rfl | rfl
    ·exact NA.lt (by show 0<1;omega)
    all_goals rfl) (k:=1) (cs:=wU (d16 (vO h p n*b'+e'))) (ty:=tU) (ZbR _) (by kernel_rfl) r (by rfl) E (s:=fun _=>a) (ZhU fA)
   simp only[List.map_cons,List.map_nil] at this;rw[eA _ rfl] at this;exact this
  ·cases hg;have q1:=hl _ (Xe);have q2:=hl _ (Xd _ Xf);simp only[decide_eq_false_iff_not] at q2;obtain⟨b',e',rfl,rfl,hb,he,r1,r2,r3⟩:=key q1;obtain⟨x,p',a,NA,eA,fA⟩:=ZbS 0 r1;have hr:Runs (Zm prog Zg Zn hcV) (Zq f70) ([.slice p' n c,.int .u32 ((b':Nat):Int),.int .u32 ((e':Nat):Int)]++List.replicate 38 undef,Zeu x,[]) fun ex z=>(ex=none∨ex=some none)∧zd prog f70 z.1 z.2.1=some Zs:=by
    refine (Zb (Zp Ze Z2) (Zls p' n c b' e' _) (okW (Xb (by rw[ZbU (by omega) (by omega)];omega)) (Zv (Xb (by omega))))).mono fun ex z he=> ?_;obtain⟨rfl,⟨g,e2⟩,e3⟩:=he;refine⟨.inr rfl,?_⟩;rw[e2,e3];rfl
   have:=ZI (T:=Zm prog Zg Zn hcV) func70 Zlu (ZhT NA) (vals:=[.slice p' n c,.int .u32 ((b':Nat):Int),.int .u32 ((e':Nat):Int)]) (fun v hv=>by
    simp only[List.mem_cons,List.not_mem_nil,or_false] at hv;rcases hv with rfl | rfl | rfl
    ·exact NA.lt (by show 0<1;omega)
    all_goals rfl) (v:=Zs) (by rfl) hr.w E (s:=fun _=>a) (ZhU fA)
   simp only[List.map_cons,List.map_nil] at this;rw[eA _ rfl] at this;exact this
 ·cases hg
end Go.Proofs.YtgefjidphfdhdaaGreatDoor
namespace Go.Proofs.YtgefjidphfdhdaaGreatDoor
open Go.Proofs.Tryz
open Go.IntKind
open Go.KRun Go.Nt
set_option maxRecDepth 100000
def sA (F:Func):Code:=Z1 (Zz (Zq F))
def sR (F:Func):Code:=Zz (Zz (Zq F))
def sR3 (F:Func):Code:=Z1 (sR F)
def sR4 (F:Func):Code:=Z1 (Zz (sR F))
def sR5 (F:Func):Code:=Z1 (Z1 (Zz (Zz (sR F))))
def sL1 (F:Func):Code:=cIn (cIn (Zz (Z1 (Zz (Zz (sR F))))))
def sR9 (F:Func):Code:=Z1 (Zz (Zz (Zz (sR F))))
def sT (F:Func):Code:=Zz (Zz (Zz (Zz (sR F))))
def Z3a (F:Func):Code:=Z1 (Z1 (sT F))
def sL2 (F:Func):Code:=cIn (cIn (Zz (Z1 (sT F))))
def sEn (F:Func):Code:=Zz (sT F)
def sPr (F:Func):List Code:=[Z1 (Zq F),sA F,sR3 F,sR4 F]
theorem Zlv:f36.body=some (zo (sPr f36) (.seq (.seq (sR5 f36) (.block 0 (.loop (sL1 f36)))) (.seq (sR9 f36) (.seq (.seq (Z3a f36) (.block 2 (.loop (sL2 f36)))) (sEn f36))))):=by kernel_rfl
theorem Zjt:f36.body=some (Zq f36):=by kernel_rfl
def k16 (k:Int):Int:=i64.wrap (k.tdiv 16)
def zz (z:Nat):List Value:=List.replicate z (.int .u32 0)
theorem Zlw (p:Option Addr) (n c:Nat) (k:Value) (h:Hp):Zh (evC (Zm prog Zg Zn hcV) 100 false (Zq f36) ([.slice p n c,k]++List.replicate 48 undef,h,[cmp true]) ⟨[],[],[]⟩) 5 45 (some none) [.slice p n c,k,undef,undef,Zs] h [((n:Int)==0,true)]:=by and_intros<;>kernel_rfl
theorem ZpJ (o n c:Nat) (k:Int) (x:List Value×TypeId):Zh (evL (Zm prog Zg Zn hcV) 100 (sPr f36) ([sl 0 o n c,.int .i64 k]++List.replicate 48 undef,⟨1,[x]⟩,[cmp false,at_]) ⟨[],[],[]⟩) 7 43 none [sl 0 o n c,.int .i64 k,undef,undef,Zs,sl 1 0 (k16 k).toNat (k16 k).toNat,.int .u32 1] ⟨2,[(zz (k16 k).toNat,tU),x]⟩ [(ZJ 4 (k16 k) (k16 k),true),((n:Int)==0,false)]:=by and_intros<;>kernel_rfl
theorem ZtM (a v:Value) (k:Int) (h:Hp) (g:Nat→Value):Zh (evC (Zm prog Zg Zn hcV) 100 false (sR5 f36) ([a,.int .i64 k,undef,undef,Zs,v,.int .u32 1]++tl 43 g,h,[]) ⟨[],[],[]⟩) 8 42 none [a,.int .i64 k,undef,undef,Zs,v,.int .u32 1,.int .i64 0] h []:=by and_intros<;>kernel_rfl
theorem ZtN (a v:Value) (k b i:Int) (h:Hp) (g:Nat→Value):Zh (evC (Zm prog Zg Zn hcV) 100 false (sL1 f36) ([a,.int .i64 k,undef,undef,Zs,v,.int .u32 b,.int .i64 i]++tl 42 g,h,[cmp true,cmp true]) ⟨[],[],[]⟩) 8 42 none [a,.int .i64 k,undef,undef,Zs,v,.int .u32 (u32.wrap (2*b)),.int .i64 (i64.wrap (i+1))] h [(decide (i<k.tmod 16),true),(decide ((16:Int)=0),false)]:=by and_intros<;>kernel_rfl
theorem ZtO (a v:Value) (k b i:Int) (h:Hp) (g:Nat→Value):Zh (evC (Zm prog Zg Zn hcV) 100 false (sL1 f36) ([a,.int .i64 k,undef,undef,Zs,v,.int .u32 b,.int .i64 i]++tl 42 g,h,[cmp true,cmp false]) ⟨[],[],[]⟩) 8 42 (some (some 0)) [a,.int .i64 k,undef,undef,Zs,v,.int .u32 b,.int .i64 i] h [(decide (i<k.tmod 16),false),(decide ((16:Int)=0),false)]:=by and_intros<;>kernel_rfl
theorem ZtP (a v:Value) (k b i:Int) (h:Hp) (g:Nat→Value):Zh (evC (Zm prog Zg Zn hcV) 100 false (sR9 f36) ([a,.int .i64 k,undef,undef,Zs,v,.int .u32 b,.int .i64 i]++tl 42 g,h,[]) ⟨[],[],[]⟩) 9 41 none [a,.int .i64 k,undef,undef,Zs,v,.int .u32 b,.int .i64 i,.int .u32 0] h []:=by and_intros<;>kernel_rfl
theorem ZpK (a v:Value) (k b i:Int) (h:Hp) (g:Nat→Value):Zh (evC (Zm prog Zg Zn hcV) 100 false (Z3a f36) ([a,.int .i64 k,undef,undef,Zs,v,.int .u32 b,.int .i64 i,.int .u32 0]++tl 41 g,h,[]) ⟨[],[],[]⟩) 10 40 none [a,.int .i64 k,undef,undef,Zs,v,.int .u32 b,.int .i64 i,.int .u32 0,.int .i64 0] h []:=by and_intros<;>kernel_rfl
def cy (e x b:Int):Int:=u32.wrap (e+u32.wrap (x*b))
def lAx (l:List Value) (o n:Nat) (i x:Int):Log:=[(decide ((65536:Int)=0),false),(Z3 (l[o+i.toNat*1]?) (.int .u32 x),true),(decide (0≤i∧i<n),true),(decide (i<n),true)]
theorem ZpL (o n c z z':Nat) (b e i x:Int) (l lo:List Value) (j1 j7:Value) (g:Nat→Value):Zh (evC (Zm prog Zg Zn hcV) 100 false (sL2 f36) ([sl 0 o n c,j1,undef,undef,Zs,sl 1 0 z z',.int .u32 b,j7,.int .u32 e,.int .i64 i]++tl 40 g,⟨2,[(lo,tU),(l,tR)]⟩,[cmp true,at_,val (.int .u32 x),cmp true,num 0]) ⟨[],[],[]⟩) 10 40 none [sl 0 o n c,j1,undef,undef,Zs,sl 3 0 (z+1) grown,.int .u32 b,j7,.int .u32 (u32.wrap ((cy e x b).tdiv 65536)),.int .i64 (i64.wrap (i+1))] ⟨4,[(lo++[.int .u32 ((cy e x b).tmod 65536)],tU),([.int .u32 ((cy e x b).tmod 65536)],tU),(lo,tU),(l,tR)]⟩ ((ZcH (lo,tU) ([.int .u32 ((cy e x b).tmod 65536)],tU) z z' 0 1,true)::lAx l o n i x):=by and_intros<;>kernel_rfl
theorem ZpM (o n c z:Nat) (b e i x:Int) (l lo:List Value) (j1 j7:Value) (g:Nat→Value):Zh (evC (Zm prog Zg Zn hcV) 100 false (sL2 f36) ([sl 0 o n c,j1,undef,undef,Zs,sl 1 0 z grown,.int .u32 b,j7,.int .u32 e,.int .i64 i]++tl 40 g,⟨2,[(lo,tU),(l,tR)]⟩,[cmp true,at_,val (.int .u32 x),cmp true,at_]) ⟨[],[],[]⟩) 10 40 none [sl 0 o n c,j1,undef,undef,Zs,sl 3 0 (z+1) grown,.int .u32 b,j7,.int .u32 (u32.wrap ((cy e x b).tdiv 65536)),.int .i64 (i64.wrap (i+1))] ⟨4,[(lo++[.int .u32 ((cy e x b).tmod 65536)],tU),([.int .u32 ((cy e x b).tmod 65536)],tU),([],2*ZT),(l,tR)]⟩ ((zS tU (lo,tU) ([.int .u32 ((cy e x b).tmod 65536)],tU) z 0 1,true)::lAx l o n i x):=by and_intros<;>kernel_rfl
theorem Zlx (p:Option Addr) (n c:Nat) (v:Value) (b e i:Int) (h:Hp) (j1 j7:Value) (g:Nat→Value):Zh (evC (Zm prog Zg Zn hcV) 100 false (sL2 f36) ([.slice p n c,j1,undef,undef,Zs,v,.int .u32 b,j7,.int .u32 e,.int .i64 i]++tl 40 g,h,[cmp false]) ⟨[],[],[]⟩) 10 40 (some (some 2)) [.slice p n c,j1,undef,undef,Zs,v,.int .u32 b,j7,.int .u32 e,.int .i64 i] h [(decide (i<n),false)]:=by and_intros<;>kernel_rfl
theorem ZpN (a:Value) (z:Nat) (b e i:Int) (x:List Value×TypeId) (lo:List Value) (j1 j7:Value) (g:Nat→Value):Zh (evC (Zm prog Zg Zn hcV) 100 false (sEn f36) ([a,j1,undef,undef,Zs,sl 1 0 z grown,.int .u32 b,j7,.int .u32 e,.int .i64 i]++tl 40 g,⟨2,[(lo,tU),x]⟩,[at_]) ⟨[],[],[]⟩) 5 45 (some none) [a,j1,undef,undef,sl 3 0 (Zc (Zx (lo++[.int .u32 e]) 0 (z+1))) (Zc (Zx (lo++[.int .u32 e]) 0 (z+1)))] ⟨4,[(lo++[.int .u32 e],tU),([.int .u32 e],tU),([],2*ZT),x]⟩ [(ZaB tU (lo++[.int .u32 e]) 0 (z+1) grown,true),(zS tU (lo,tU) ([.int .u32 e],tU) z 0 1,true)]:=by and_intros<;>kernel_rfl
end Go.Proofs.YtgefjidphfdhdaaGreatDoor
