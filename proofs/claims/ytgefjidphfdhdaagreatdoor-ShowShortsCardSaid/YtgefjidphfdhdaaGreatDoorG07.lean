/-
  ConV7, NumL, ConV8, ConVK, AsNum, RunK, Row, RowS, SlN, NumSl, ConVI, ConVJ, ConV9, ConVA, NumPa
-/
import Derived.Test.YtgefjidphfdhdaaGreatDoorG06
import Derived.WalkKit
import Derived.LaidEql
import Derived.Stop.Asserts
import Derived.RowKitTokens
import Derived.ProofKit
import Derived.OpenShut
import Derived.Laws.IdiomArrays
import Derived.Lib.SmallJoins
import Derived.ChangeSlices
namespace Go.Proofs.YtgefjidphfdhdaaGreatDoor
open Go.Proofs.Tryz
open Go.IntKind
open Go.KRun Go.Nt
set_option maxRecDepth 100000
def zY (a b:Nat):Int:=if a<b then -1 else if a=b then 0 else 1
theorem Zi6 (b:Nat) (L:List Int) (k:Nat):vb b L=vb b (L.take k)+b^k*vb b (L.drop k):=by
 by_cases h:k≤L.length
 ·have e:(L.take k).length=k:=by rw[List.length_take];omega
  have:=ZaJ b (L.take k) (L.drop k);rw[List.take_append_drop,e] at this;exact this
 ·rw[List.take_of_length_le (by omega),List.drop_eq_nil_of_le (by omega)];simp [vb]
theorem Zck {L:List Int}(k:Nat):vb 65536 (L.drop k)=dgN L k+65536*vb 65536 (L.drop (k+1)):=by
 by_cases h:k<L.length
 ·rw[List.drop_eq_getElem_cons h];simp only[vb,dgN];rw[Zi3 h]
 ·rw[List.drop_eq_nil_of_le (by omega),List.drop_eq_nil_of_le (by omega),Zeg (by omega)];rfl
theorem ZlN {L:List Int}(h:∀ x∈L,Dg 65536 x) (k:Nat):vb 65536 (L.take k)<65536^k:=by
 have h1:=ZbG (b:=65536) (by omega) (L.take k) (fun x hx=>h x (List.mem_of_mem_take hx));have h2:(L.take k).length≤k:=by rw[List.length_take];omega
 exact Nat.lt_of_lt_of_le h1 (Nat.pow_le_pow_right (by omega) h2)
theorem ZlO {A B:List Int}(hA:∀ x∈A,Dg 65536 x) {k:Nat}(he:vb 65536 (A.drop (k+1))=vb 65536 (B.drop (k+1))) (hd:dgN A k<dgN B k):vb 65536 A<vb 65536 B:=by
 have a1:=Zi6 65536 A k;have b1:=Zi6 65536 B k;have a2:=ZlN hA k;rw[Zck,he] at a1;rw[Zck] at b1;generalize vb 65536 (B.drop (k+1))=D at*;generalize 65536^k=P at*;have h1:P*(dgN A k+65536*D+1)≤P*(dgN B k+65536*D):=Nat.mul_le_mul_left _ (by omega);rw[Nat.mul_add P _ 1,Nat.mul_one] at h1;omega
def Z4P (F:Func):List Code:=[Z2 (Zs F)]
def kR1 (F:Func):Code:=Z2 (Z2 (Z0 (Zs F)))
def Zh1 (F:Func):Code:=cIn (cIn (Z0 (Z2 (Z0 (Zs F)))))
def Z4Q (F:Func):Code:=Z0 (Z0 (Zs F))
theorem ZlP:f35.body=some (ZW (Z4P f35) (.seq (.seq (kR1 f35) (.block 0 (.loop (Zh1 f35)))) (Z4Q f35))):=by kernel_rfl
def mxI (n n':Nat):Int:=i64.wrap ((if (n':Int)>n then (n':Int) else n)-1)
theorem Zqg (a b:Value) (h:Hp):Zg (evL (Zk prog Zf Zo hcV) 100 (Z4P f35) ([a,b]++List.replicate 28 undef,h,[]) ⟨[],[],[]⟩) 5 25 none [a,b,undef,undef,.int .i64 0] h []:=by and_intros<;>kernel_rfl
theorem Zux (p q:Option Addr) (n c n' c':Nat) (h:Hp) (g:Nat→Value):Zg (evC (Zk prog Zf Zo hcV) 100 false (kR1 f35) ([.slice p n c,.slice q n' c',undef,undef,.int .i64 0]++tl 25 g,h,[]) ⟨[],[],[]⟩) 6 24 none [.slice p n c,.slice q n' c',undef,undef,.int .i64 0,.int .i64 (mxI n n')] h []:=by and_intros<;>kernel_rfl
theorem Zuy (p q:Option Addr) (n c n' c':Nat) (i:Int) (x y:List Value×TypeId) (g:Nat→Value):Zg (evC (Zk prog Zf Zo hcV) 100 false (Zh1 f35) ([.slice p n c,.slice q n' c',undef,undef,.int .i64 0,.int .i64 i]++tl 24 g,hp2 y x,[cmp true,cmp true]) ⟨[],[],[]⟩) 6 24 (some none) [.slice p n c,.slice q n' c',undef,undef,.int .i64 (-1),.int .i64 i] (hp2 y x) [(decide (atN (Zm (hp2 y x) p n) i<atN (Zm (hp2 y x) q n') i),true),rP (hp2 y x) q n' c',rP (hp2 y x) p n c,(decide (i≥0),true)]:=by and_intros<;>kernel_rfl
theorem Zuz (p q:Option Addr) (n c n' c':Nat) (i:Int) (x y:List Value×TypeId) (g:Nat→Value):Zg (evC (Zk prog Zf Zo hcV) 100 false (Zh1 f35) ([.slice p n c,.slice q n' c',undef,undef,.int .i64 0,.int .i64 i]++tl 24 g,hp2 y x,[cmp true,cmp false,cmp true]) ⟨[],[],[]⟩) 6 24 (some none) [.slice p n c,.slice q n' c',undef,undef,.int .i64 1,.int .i64 i] (hp2 y x) [(decide (atN (Zm (hp2 y x) p n) i>atN (Zm (hp2 y x) q n') i),true),rP (hp2 y x) q n' c',rP (hp2 y x) p n c,(decide (atN (Zm (hp2 y x) p n) i<atN (Zm (hp2 y x) q n') i),false),rP (hp2 y x) q n' c',rP (hp2 y x) p n c,(decide (i≥0),true)]:=by and_intros<;>kernel_rfl
theorem Zu0 (p q:Option Addr) (n c n' c':Nat) (i:Int) (x y:List Value×TypeId) (g:Nat→Value):Zg (evC (Zk prog Zf Zo hcV) 100 false (Zh1 f35) ([.slice p n c,.slice q n' c',undef,undef,.int .i64 0,.int .i64 i]++tl 24 g,hp2 y x,[cmp true,cmp false,cmp false]) ⟨[],[],[]⟩) 6 24 none [.slice p n c,.slice q n' c',undef,undef,.int .i64 0,.int .i64 (i1 i)] (hp2 y x) [(decide (atN (Zm (hp2 y x) p n) i>atN (Zm (hp2 y x) q n') i),false),rP (hp2 y x) q n' c',rP (hp2 y x) p n c,(decide (atN (Zm (hp2 y x) p n) i<atN (Zm (hp2 y x) q n') i),false),rP (hp2 y x) q n' c',rP (hp2 y x) p n c,(decide (i≥0),true)]:=by and_intros<;>kernel_rfl
theorem Zqh (a b:Value) (i:Int) (h:Hp) (g:Nat→Value):Zg (evC (Zk prog Zf Zo hcV) 100 false (Zh1 f35) ([a,b,undef,undef,.int .i64 0,.int .i64 i]++tl 24 g,h,[cmp false]) ⟨[],[],[]⟩) 6 24 (some (some 0)) [a,b,undef,undef,.int .i64 0,.int .i64 i] h [(decide (i≥0),false)]:=by and_intros<;>kernel_rfl
theorem Zqi (a b:Value) (i:Int) (h:Hp) (g:Nat→Value):Zg (evC (Zk prog Zf Zo hcV) 100 false (Z4Q f35) ([a,b,undef,undef,.int .i64 0,.int .i64 i]++tl 24 g,h,[]) ⟨[],[],[]⟩) 5 25 (some none) [a,b,undef,undef,.int .i64 0] h []:=by and_intros<;>kernel_rfl
section
variable {x y : List Value × TypeId} {p q : Option Addr} {n c n' c' : Nat} {A B : List Int}
def Z4R (p q:Option Addr) (n c n' c':Nat) (A B:List Int) (Y:Lf):Prop:=∃ i g,Y.1=[.slice p n c,.slice q n' c',undef,undef,.int .i64 (zY (vb 65536 A) (vb 65536 B)),.int .i64 i]++tl 24 g
theorem ZlQ (NA:Nu 0 x p n c A) (NB:Nu 1 y q n' c' B) (lA:A.length=n) (lB:B.length=n') (hA:∀ x∈A,Dg 65536 x) (hB:∀ x∈B,Dg 65536 x) (hn:max n n'+2<1073741824) (g:Nat→Value):
  Runs (Zk prog Zf Zo hcV) (.block 0 (.loop (Zh1 f35))) ([.slice p n c,.slice q n' c',undef,undef,.int .i64 0,.int .i64 (mxI n n')]++tl 24 g,hp2 y x,[]) fun e Y=>match e with | none=>zY (vb 65536 A) (vb 65536 B)=0∧∃ i g,Y.1=[.slice p n c,.slice q n' c',undef,undef,.int .i64 0,.int .i64 i]++tl 24 g | some none=>Z4R p q n c n' c' A B Y | some (some _)=>False:=by
 have em:mxI n n'=((max n n':Nat):Int)-1:=by
  unfold mxI;split
  ·rw[Zw (by omega) (by omega)];omega
  ·rw[Zw (by omega) (by omega)];omega
 refine Runs.forLoop (P:=fun Y=>zY (vb 65536 A) (vb 65536 B)=0∧∃ i g,Y.1=[.slice p n c,.slice q n' c',undef,undef,.int .i64 0,.int .i64 i]++tl 24 g) (R:=Z4R p q n c n' c' A B)
  (fun k Y=>k≤max n n'∧vb 65536 (A.drop k)=vb 65536 (B.drop k)∧(∃ g,Y.1=[.slice p n c,.slice q n' c',undef,undef,.int .i64 0,.int .i64 ((k:Nat)-1:Int)]++tl 24 g)∧Y.2.1=hp2 y x) ?_ (n:=max n n') ⟨Nat.le_refl _,by rw[List.drop_eq_nil_of_le (by omega),List.drop_eq_nil_of_le (by omega)],⟨g,by rw[em]⟩,rfl⟩
 rintro k ⟨t,h',s⟩ ⟨hk,he,⟨g,ht⟩,hh⟩;simp only at ht hh;subst ht hh;cases k with
 | zero=>
  refine (Zc (Zh Zd Zy) (Zqh _ _ _ _ g) (Zu (Xb (by omega)))).mono fun e z hz=> ?_;obtain⟨rfl,⟨g',z1⟩,z2⟩:=hz;refine⟨rfl,?_,_,g',z1⟩;simp only[List.drop_zero] at he;unfold zY;rw[he];simp
 | succ k=>
  have ek:((k+1:Nat):Int)-1=(k:Int):=by omega
  rw[ek];have r0:=NA.row (hp2 y x) rfl;have r1:=NB.row (hp2 y x) rfl;have d1:=zC hA k;have d2:=zC hB k;have hg:decide ((k:Int)≥0)=true:=Xa (by omega);by_cases h1:dgN A k<dgN B k
  ·have hlt:=ZlO hA he h1;refine (Zc (Zh Zd Zy) (Zuy p q n c n' c' k x y g) (by
    rw[r0.2,r1.2,Zat,Zat,← d1.2,← d2.2];exact okW (Xa (by omega)) (okW r1.1 (okW r0.1 (Zu hg))))).mono fun e z hz=> ?_
   obtain⟨rfl,⟨g',z1⟩,z2⟩:=hz;refine⟨k,g',?_⟩;rw[z1];unfold zY;rw[if_pos hlt]
  ·by_cases h2:dgN B k<dgN A k
   ·have hlt:=ZlO hB he.symm h2;refine (Zc (Zh Zd Zy) (Zuz p q n c n' c' k x y g) (by
     rw[r0.2,r1.2,Zat,Zat,← d1.2,← d2.2];exact okW (Xa (by omega)) (okW r1.1 (okW r0.1 (okW (Xb (by omega)) (okW r1.1 (okW r0.1 (Zu hg)))))))).mono fun e z hz=> ?_
    obtain⟨rfl,⟨g',z1⟩,z2⟩:=hz;refine⟨k,g',?_⟩;rw[z1];unfold zY;rw[if_neg (by omega),if_neg (by omega)]
   ·refine (Zc (Zh Zd Zy) (Zu0 p q n c n' c' k x y g) (by
     rw[r0.2,r1.2,Zat,Zat,← d1.2,← d2.2];exact okW (Xb (by omega)) (okW r1.1 (okW r0.1 (okW (Xb (by omega)) (okW r1.1 (okW r0.1 (Zu hg)))))))).mono fun e z hz=> ?_
    obtain⟨rfl,⟨g',z1⟩,z2⟩:=hz;have e1:i1 (k:Int)=(k:Int)-1:=by unfold i1;rw[Zw (by omega) (by omega)]
    refine⟨k,by omega,by omega,?_,⟨g',by rw[z1,e1]⟩,z2⟩;rw[Zck,Zck (L:=B),he];omega
theorem ZlR (NA:Nu 0 x p n c A) (NB:Nu 1 y q n' c' B) (lA:A.length=n) (lB:B.length=n') (hA:∀ x∈A,Dg 65536 x) (hB:∀ x∈B,Dg 65536 x) (hn:max n n'+2<1073741824):
  Runs (Zk prog Zf Zo hcV) (ZW (Z4P f35) (.seq (.seq (kR1 f35) (.block 0 (.loop (Zh1 f35)))) (Z4Q f35))) ([.slice p n c,.slice q n' c']++List.replicate 28 undef,hp2 y x,[]) fun e z=>(e=none∨e=some none)∧ZV prog f35 z.1 z.2.1=some (.int .i64 (zY (vb 65536 A) (vb 65536 B))):=by
 refine Z3 (Zh Zd Zy) (Zqg _ _ _) (fun x hx=>by cases hx) fun g=> ?_;refine Runs.seq (P1:=fun e Y=>match e with | none=>zY (vb 65536 A) (vb 65536 B)=0∧∃ i g,Y.1=[.slice p n c,.slice q n' c',undef,undef,.int .i64 0,.int .i64 i]++tl 24 g | some none=>Z4R p q n c n' c' A B Y | some (some _)=>False) (Runs.seq (P1:=fun e Y=>e=none∧(∃ g,Y.1=[.slice p n c,.slice q n' c',undef,undef,.int .i64 0,.int .i64 (mxI n n')]++tl 24 g)∧Y.2.1=hp2 y x) (Zc (Zh Zd Zy) (Zux p q n c n' c' _ g) (fun x hx=>by cases hx)) ?_ (fun e y he=>by cases he.1)) ?_ ?_
 ·rintro⟨t,h',s⟩ ⟨_,⟨g',ht⟩,hh⟩;simp only at ht hh;subst ht hh;exact Runs.script (ZlQ NA NB lA lB hA hB hn g')
 ·rintro⟨t,h',s⟩ ⟨e0,i,g',ht⟩;simp only at ht;subst ht;refine (Zc (Zh Zd Zy) (Zqi _ _ i h' g') (fun x hx=>by cases hx)).mono fun e z hz=> ?_;obtain⟨rfl,⟨g2,z1⟩,z2⟩:=hz;refine⟨.inr rfl,?_⟩;rw[z1,e0];rfl
 ·intro e Y he
  match e,he with
  | none,⟨i,g',h1⟩=>
   refine⟨.inr rfl,?_⟩;rw[h1];rfl
end
def ZlS:Zae:=fun vals h s=>
 match vals with
 | [.slice p n c,.slice q n' c']=>some (.int .i64 (zY (vO h p n) (vO h q n')),h,s,[(ZL h p q n c n' c',true)])
 | _=>none
theorem Zfy:Z6 35 ZlS:=by
 intro vals h s v h' s' lg hg hl m B w E hv;unfold ZlS at hg;split at hg
 ·rename_i p n c q n' c';cases hg;have q1:=hl _ Xf;simp only at q1;obtain⟨r1,r2,d1,d2,hn⟩:=Zc7 q1;obtain⟨x,p',a,NA,eA,fA⟩:=Zb0 0 r1;obtain⟨y,q',b,NB,eB,fB⟩:=Zb0 1 r2;have r:=ZlR NA NB (z6 r1) (z6 r2) d1 d2 hn;have:=ZB (T:=Zk prog Zf Zo hcV) func35 ZlP (Zc5 NA NB) (vals:=[.slice p' n c,.slice q' n' c']) (fun v hv=>by
   simp only[List.mem_cons,List.not_mem_nil,or_false] at hv;rcases hv with rfl | rfl
   ·exact NA.lt (by show 0<2;omega)
   ·exact NB.lt (by show 1<2;omega)) (by rfl) r.w E (s:=ZdY a b) (Zc6 fA fB)
  simp only[List.map_cons,List.map_nil] at this;rw[eA _ rfl,eB _ rfl] at this;exact this
 ·cases hg
end Go.Proofs.YtgefjidphfdhdaaGreatDoor
namespace Go.Nt
def bl (V:Nat):Nat:=if _h:V=0 then 0 else bl (V/2)+1
 termination_by V
 decreasing_by omega
theorem Zdb:bl 0=0:=by rw[bl];simp
theorem ZeT {V:Nat}(h:V≠0):bl V=bl (V/2)+1:=by rw[bl];rw[dif_neg h]
theorem Zu1 (V:Nat):V<2^bl V:=by
 induction V using Nat.strongRecOn with
 | ind V ih=>
  by_cases h:V=0
  ·subst h;rw[Zdb];decide
  ·rw[ZeT h,Nat.pow_succ];have:=ih (V/2) (by omega);omega
theorem Zu2 {V:Nat}(h:V≠0):2^(bl V-1)≤V:=by
 induction V using Nat.strongRecOn with
 | ind V ih=>
  rw[ZeT h,Nat.add_sub_cancel];by_cases h2:V/2=0
  ·rw[h2,Zdb];omega
  ·have i:=ih (V/2) (by omega) h2;have e:bl (V/2)=(bl (V/2)-1)+1:=by
    have:=ZeT h2;omega
   rw[e,Nat.pow_succ];omega
theorem ZlT {V k:Nat}(h0:2^k≤V) (h1:V<2^(k+1)):bl V=k+1:=by
 have hp:0<2^k:=Nat.pow_pos (by omega);have hV:V≠0:=by omega
 have a1:=Zu1 V;have a2:=Zu2 hV;have a3:bl V≠0:=by have:=ZeT hV;omega
 rcases Nat.lt_or_ge (bl V) (k+1) with h | h
 ·have:=Nat.pow_le_pow_right (show 0<2 by omega) (show bl V≤k by omega);omega
 ·rcases Nat.lt_or_ge (k+1) (bl V) with h' | h'
  ·have:=Nat.pow_le_pow_right (show 0<2 by omega) (show k+1≤bl V-1 by omega);omega
  ·omega
theorem Zqj {V k:Nat}(h:V<2^k):bl V≤k:=by
 by_cases hV:V=0
 ·subst hV;rw[Zdb];omega
 ·have a:=Zu2 hV;rcases Nat.lt_or_ge k (bl V) with h' | h'
  ·have:=Nat.pow_le_pow_right (show 0<2 by omega) (show k≤bl V-1 by omega);omega
  ·exact h'
theorem Zfz (k:Nat):65536^k=2^(16*k):=by rw[show (65536:Nat)=2^16 from rfl,← Nat.pow_mul]
theorem Zz8 {t lo k:Nat}(ht:t≠0) (hlo:lo<65536^k):bl (lo+65536^k*t)=16*k+bl t:=by
 have a1:=Zu1 t;have a2:=Zu2 ht;have a3:bl t≠0:=by have:=ZeT ht;omega
 rw[Zfz] at*;have e:16*k+bl t=(16*k+(bl t-1))+1:=by omega
 rw[e];refine ZlT ?_ ?_
 ·rw[Nat.pow_add];have:=Nat.mul_le_mul_left (2^(16*k)) a2;omega
 ·rw[Nat.add_assoc,show bl t-1+1=bl t by omega,Nat.pow_add];have:=Nat.mul_le_mul_left (2^(16*k)) (show t+1≤2^bl t by omega);rw[Nat.mul_add,Nat.mul_one] at this;omega
end Go.Nt
namespace Go.Proofs.YtgefjidphfdhdaaGreatDoor
open Go.Proofs.Tryz
open Go.IntKind
open Go.KRun Go.Nt
set_option maxRecDepth 100000
def nA (F:Func):Code:=Z2 (Z0 (Zs F))
def nR3 (F:Func):Code:=Z2 (Z0 (Z0 (Zs F)))
def nR4 (F:Func):Code:=Z2 (Z2 (Z0 (Z0 (Z0 (Zs F)))))
def nLp (F:Func):Code:=cIn (cIn (Z0 (Z2 (Z0 (Z0 (Z0 (Zs F)))))))
def nEn (F:Func):Code:=Z0 (Z0 (Z0 (Z0 (Zs F))))
def nPr (F:Func):List Code:=[Z2 (Zs F),nA F,nR3 F]
theorem ZlU:f65.body=some (ZW (nPr f65) (.seq (.seq (nR4 f65) (.block 0 (.loop (nLp f65)))) (nEn f65))):=by kernel_rfl
theorem Zkc:f65.body=some (Zs f65):=by kernel_rfl
def n16 (n:Nat):Int:=i64.wrap (16*n1 n)
theorem Zqk (o n c:Nat) (h:Hp):Zg (evL (Zk prog Zf Zo hcV) 100 (nPr f65) ([sl 0 o n c]++List.replicate 24 undef,h,[cmp false]) ⟨[],[],[]⟩) 4 21 none [sl 0 o n c,undef,.int .i64 0,.int .i64 (n16 n)] h [((n:Int)==0,false)]:=by and_intros<;>kernel_rfl
theorem Zu3 (o n c:Nat) (x:Int) (l:List Value) (v:Value) (g:Nat→Value):Zg (evC (Zk prog Zf Zo hcV) 100 false (nR4 f65) ([sl 0 o n c,undef,.int .i64 0,v]++tl 21 g,⟨1,[(l,tR)]⟩,[at_,val (.int .u32 x)]) ⟨[],[],[]⟩) 5 20 none [sl 0 o n c,undef,.int .i64 0,v,.int .u32 x] ⟨1,[(l,tR)]⟩ [(Z4 (l[o+(n1 n).toNat*1]?) (.int .u32 x),true),(decide (0≤n1 n∧n1 n<n),true)]:=by and_intros<;>kernel_rfl
theorem ZlV (p:Option Addr) (n c:Nat) (h:Hp):Zg (evC (Zk prog Zf Zo hcV) 100 false (Zs f65) ([.slice p n c]++List.replicate 24 undef,h,[cmp true]) ⟨[],[],[]⟩) 3 22 (some none) [.slice p n c,undef,.int .i64 0] h [((n:Int)==0,true)]:=by and_intros<;>kernel_rfl
theorem Zu4 (a:Value) (n x:Int) (h:Hp) (g:Nat→Value):Zg (evC (Zk prog Zf Zo hcV) 100 false (nLp f65) ([a,undef,.int .i64 0,.int .i64 n,.int .u32 x]++tl 20 g,h,[cmp true]) ⟨[],[],[]⟩) 5 20 none [a,undef,.int .i64 0,.int .i64 (i64.wrap (n+1)),.int .u32 (u32.wrap (x.tdiv 2))] h [(decide (x>0),true)]:=by and_intros<;>kernel_rfl
theorem Zql (a:Value) (n x:Int) (h:Hp) (g:Nat→Value):Zg (evC (Zk prog Zf Zo hcV) 100 false (nLp f65) ([a,undef,.int .i64 0,.int .i64 n,.int .u32 x]++tl 20 g,h,[cmp false]) ⟨[],[],[]⟩) 5 20 (some (some 0)) [a,undef,.int .i64 0,.int .i64 n,.int .u32 x] h [(decide (x>0),false)]:=by and_intros<;>kernel_rfl
theorem Zqm (a:Value) (n x:Int) (h:Hp) (g:Nat→Value):Zg (evC (Zk prog Zf Zo hcV) 100 false (nEn f65) ([a,undef,.int .i64 0,.int .i64 n,.int .u32 x]++tl 20 g,h,[]) ⟨[],[],[]⟩) 3 22 (some none) [a,undef,.int .i64 n] h []:=by and_intros<;>kernel_rfl
theorem ZlW (a:Value) (n x:Nat) (hn:n+32<4611686018427387904) (hx:x<4294967296) (h:Hp) (g:Nat→Value):
  Runs (Zk prog Zf Zo hcV) (.block 0 (.loop (nLp f65))) ([a,undef,.int .i64 0,.int .i64 (n:Nat),.int .u32 (x:Nat)]++tl 20 g,h,[]) fun e Y=>match e with | none=>(∃ g,Y.1=[a,undef,.int .i64 0,.int .i64 ((n+bl x:Nat):Int),.int .u32 0]++tl 20 g)∧Y.2.1=h | some none=>False | some (some _)=>False:=by
 refine Runs.forLoop (P:=fun Y=>(∃ g,Y.1=[a,undef,.int .i64 0,.int .i64 ((n+bl x:Nat):Int),.int .u32 0]++tl 20 g)∧Y.2.1=h) (R:=fun _=>False)
  (fun k Y=>∃ j:Nat,k≤x∧j+bl k=n+bl x∧(∃ g,Y.1=[a,undef,.int .i64 0,.int .i64 (j:Nat),.int .u32 (k:Nat)]++tl 20 g)∧Y.2.1=h) ?_ (n:=x) ⟨n,Nat.le_refl _,rfl,⟨g,rfl⟩,rfl⟩
 rintro k ⟨t,h',s⟩ ⟨j,hk,hj,⟨g,ht⟩,hh⟩;simp only at ht hh;subst ht hh;have hb:bl x≤32:=Zqj (by show x<2^32;omega);by_cases h0:k=0
 ·subst h0;refine (Zc (Zh Zd Zy) (Zql a j 0 h' g) (Zu rfl)).mono fun e z hz=> ?_;obtain⟨rfl,⟨g',z1⟩,z2⟩:=hz;rw[Zdb] at hj;exact⟨rfl,⟨g',by rw[z1,show (n+bl x)=j from by omega]⟩,z2⟩
 ·refine (Zc (Zh Zd Zy) (Zu4 a j k h' g) (Zu (Xa (by omega)))).mono fun e z hz=> ?_;obtain⟨rfl,⟨g',z1⟩,z2⟩:=hz;have e1:=ZeT h0;have e2:i64.wrap ((j:Int)+1)=((j+1:Nat):Int):=by rw[Zw (by omega) (by omega)];omega
  have e3:u32.wrap ((k:Int).tdiv 2)=((k/2:Nat):Int):=by rw[Int.tdiv_eq_ediv_of_nonneg (by omega),zt (by omega) (by omega)];omega
  exact⟨k/2,by omega,j+1,by omega,by omega,⟨g',by rw[z1,e2,e3]⟩,z2⟩
theorem ZlX {l:List Value}{o c:Nat}{L:List Int}(hR:Row l o L) (hC:Zbq 65536 L) (h0:0<L.length) (hn:L.length<1073741824):
  Runs (Zk prog Zf Zo hcV) (ZW (nPr f65) (.seq (.seq (nR4 f65) (.block 0 (.loop (nLp f65)))) (nEn f65))) ([sl 0 o L.length c]++List.replicate 24 undef,⟨1,[(l,tR)]⟩,[]) fun e z=>(e=none∨e=some none)∧ZV prog f65 z.1 z.2.1=some (.int .i64 ((bl (vb 65536 L):Nat):Int)):=by
 have ek:n1 L.length=((L.length-1:Nat):Int):=by
  unfold n1;rw[Zw (by omega) (by omega)];omega
 have e16:n16 L.length=((16*(L.length-1):Nat):Int):=by
  unfold n16;rw[ek,Zw (by omega) (by omega)];omega
 have htop:dgN L (L.length-1)≠0:=by
  rcases Zcw L with h | h
  ·rw[hC.2] at h;omega
  ·rw[hC.2] at h;have:=Zef hC.1 (L.length-1);unfold dgN;omega
 have hd:=zC hC.1 (L.length-1);have hval:bl (vb 65536 L)=16*(L.length-1)+bl (dgN L (L.length-1)):=by
  have e:=Za5 65536 L (L.length-1);rw[show L.length-1+1=L.length by omega,List.take_length] at e;rw[e];exact Zz8 htop (ZlN hC.1 _)
 refine Z3 (Zh Zd Zy) (Zqk o L.length c _) (Zu (beq_eq_false_iff_ne.2 (by omega))) fun g=> ?_;refine Runs.seq (P1:=fun e Y=>match e with | none=>(∃ g,Y.1=[sl 0 o L.length c,undef,.int .i64 0,.int .i64 ((bl (vb 65536 L):Nat):Int),.int .u32 0]++tl 20 g)∧Y.2.1=⟨1,[(l,tR)]⟩ | some none=>False | some (some _)=>False) (Runs.seq (P1:=fun e Y=>e=none∧(∃ g,Y.1=[sl 0 o L.length c,undef,.int .i64 0,.int .i64 (n16 L.length),.int .u32 (L.getD (L.length-1) 0)]++tl 20 g)∧Y.2.1=⟨1,[(l,tR)]⟩) (Zc (Zh Zd Zy) (Zu3 o L.length c (L.getD (L.length-1) 0) l _ g) (Zj (by rw[ek,Xg,Nat.mul_one,hR.cell (by omega)];simp [Z4]) (Zu (by rw[ek];exact Xa (by omega))))) ?_ (fun e y he=>by cases he.1)) ?_ (fun e Y he=>by match e,he with | none,he=>exact he.elim | some id,he=>exact he.elim)
 ·rintro⟨t,h',s⟩ ⟨_,⟨g',ht⟩,hh⟩;simp only at ht hh;subst ht hh;rw[e16,← hd.2];refine Runs.script ((ZlW _ (16*(L.length-1)) (dgN L (L.length-1)) (by omega) (by omega) _ g').mono fun e Y he=> ?_)
  match e,he with
  | none,he=>rw[hval];exact he
 ·rintro⟨t,h',s⟩ ⟨⟨g',ht⟩,hh⟩;simp only at ht hh;subst ht hh;refine (Zc (Zh Zd Zy) (Zqm _ _ _ _ g') (fun x hx=>by cases hx)).mono fun e z hz=> ?_;obtain⟨rfl,⟨g2,z1⟩,z2⟩:=hz;refine⟨.inr rfl,?_⟩;rw[z1,z2];rfl
def ZcQ (L:List Int):Bool:=dgB L && Nat.beq (Zi L) L.length
theorem Zdc {L:List Int}(h:ZcQ L=true):Zbq 65536 L:=by
 unfold ZcQ at h;simp only[Xh] at h;exact⟨Zbu h.1,Xj h.2⟩
theorem ZbH {L:List Int}(h:Zbq 65536 L):ZcQ L=true:=by
 unfold ZcQ;rw[Zbv h.1,h.2,Nat.beq_refl];rfl
def ZlY:Zae:=fun vals h s=>
 match vals with
 | [.slice p n c]=>some (.int .i64 ((bl (vO h p n):Nat):Int),h,s,[(zx h p n c && ZcQ (Zm h p n) && Nat.blt n 1073741824,true)])
 | _=>none
theorem Zf0:Z6 65 ZlY:=by
 intro vals h s v h' s' lg hg hl m B w E hv;unfold ZlY at hg;split at hg
 ·rename_i p n c;cases hg;have q:=hl _ Xf;simp only[Xh] at q;obtain⟨⟨q1,q2⟩,q3⟩:=q;have q2:=Zdc q2;have q3:=Zl.1 q3;have hlen:=z6 q1;by_cases hn:n=0
  ·subst hn;have e0:Zm h p 0=[]:=List.length_eq_zero_iff.1 hlen;have ev:vO h p 0=0:=by unfold vO;rw[e0];rfl
   obtain⟨x,p',a,NA,eA,fA⟩:=Zb0 0 q1;have hr:Runs (Zk prog Zf Zo hcV) (Zs f65) ([.slice p' 0 c]++List.replicate 24 undef,⟨1,[x]⟩,[]) fun e z=>(e=none∨e=some none)∧ZV prog f65 z.1 z.2.1=some (.int .i64 ((bl (vO h p 0):Nat):Int)):=by
    refine (Zc (Zh Zd Zy) (ZlV p' 0 c _) (Zu rfl)).mono fun e z he=> ?_;obtain⟨rfl,⟨g,e2⟩,e3⟩:=he;refine⟨.inr rfl,?_⟩;rw[e2,e3,ev,Zdb];rfl
   have b1:∀ {i:Nat}{z:List Value×TypeId},(⟨1,[x]⟩:Hp).blk? i=some z→i=0∧z=x:=fun {i z} hz=>by
    have:i<1:=Hp.blk_lt hz;have hi:i=0:=by omega
    subst hi;exact⟨rfl,(Option.some.inj hz).symm⟩
   have:=ZB (T:=Zk prog Zf Zo hcV) func65 Zkc (h0:=⟨1,[x]⟩) ⟨rfl,fun b z hz=>by obtain⟨_,rfl⟩:=b1 hz;exact⟨NA.ros.1,NA.lt0,NA.ros.2⟩⟩ (vals:=[.slice p' 0 c]) (fun v hv=>by rw[List.mem_singleton.1 hv];exact NA.lt (by show 0<1;omega)) (by rfl) hr.w E (s:=fun _=>a) (fun i z hz ht=>by obtain⟨_,rfl⟩:=b1 hz;exact fA ht);simp only[List.map_cons,List.map_nil] at this;rw[eA _ rfl] at this;exact this
  ·rcases ZC q1 with ⟨rfl,rfl,rfl,e0⟩ | ⟨b,o,x,rfl,hx,r1,_,e0⟩
   ·exact absurd rfl hn
   ·rw[e0] at q2 hlen;obtain⟨h1,h2,h3,h4,h5,h6,h7⟩:=zj r1;have r:=ZlX (c:=c) h1 q2 (by rw[h2];omega) (by rw[h2];exact q3);rw[h2] at r;have ev:vO h (some ⟨b,o,none⟩) n=vb 65536 (Zz x.1 o n):=by unfold vO;rw[e0]
    rw[ev];exact ZB (T:=Zk prog Zf Zo hcV) func65 ZlU (ZaH h7) (vals:=[sl 0 o n c]) (fun v hv=>by rw[List.mem_singleton.1 hv];rfl) (by rfl) r.w E (s:=fun _=>b) (zS hx h5 h6 rfl)
 ·cases hg
end Go.Proofs.YtgefjidphfdhdaaGreatDoor
namespace Go.Proofs.YtgefjidphfdhdaaGreatDoor.Na
open Go.KRun Go.Nt
set_option maxRecDepth 100000
set_option linter.unusedVariables false
section
variable {l : List Value} {o c : Nat} {A : List Int}
def d32 (V:Nat):List Int:=db 4294967296 V
end
end Go.Proofs.YtgefjidphfdhdaaGreatDoor.Na
namespace Go.Proofs.YtgefjidphfdhdaaGreatDoor
open Go.KRun Go.RowKit
set_option maxRecDepth 100000
set_option maxHeartbeats 4000000 in
theorem Ze5 {T:Tab}{f:Nat}{F:Func}{c:Code}(hF:T.P.funcs[f]? =some F) (hc:F.body=some c) {h0:Hp}{vals:List Value}(hvals:∀ v∈vals,lt h0.n v=true) {v:Value}(hv:lt 0 v=true)
  (hrun:Runs T c (vals++List.replicate (F.ntmps-vals.length) undef,h0,[]) fun e y=>(e=none∨e=some none)∧ZV T.P F y.1 y.2.1=some v)
  {m:Mp}{w:World}(E:Emb m w.heap.size h0 w):
  Calls T.P f (vals.map (mv m)).toArray w fun e w'=>e= .returned v∧Za0 w w':=by
 refine calls_of_wp hF hc ?_;have R:Rel m w.heap.size (vals++List.replicate (F.ntmps-vals.length) undef,h0,[]) {tmps:=(vals.map (mv m)).toArray++Array.replicate (F.ntmps-(vals.map (mv m)).toArray.size) undef,defers:=[]} w:=by
  refine⟨?_,rfl,E,?_⟩
  ·simp [zu]
  ·intro y hy;rcases List.mem_append.1 hy with hy | hy
   ·exact hvals y hy
   ·rw[List.eq_of_mem_replicate hy];simp [undef,lt]
 refine hrun _ _ _ w R _ fun e y he a' w' hR=> ?_;obtain⟨hex,hres⟩:=he;obtain⟨m1,k1,k2,k3,_⟩:=hR;obtain⟨r1,r2⟩:=Zah k2.emb k2.wf hres;rw[← k2.tmps,ZA hv] at r1;have td:Za0 w w':=⟨k3,fun k h1 h2=>k2.emb.ice k h1 h2⟩;have post:a'.defers=[]∧∃ v',(results F a'.tmps).run T.P w'= .ok v' w'∧(Ending.returned v'= .returned v∧Za0 w w'):=⟨k2.dfr,_,r1,rfl,td⟩;rcases hex with rfl | rfl<;>exact post
end Go.Proofs.YtgefjidphfdhdaaGreatDoor
namespace Go.KRun
open Go.RowKit
def zg (T:Tab) (h0:Hp) (n:Nat) (f:Nat) (vals:List Value) (s:List Dec):Option (Value×Hp×List Dec×Lg):=Zgr T (evC T n false) f vals h0 s ⟨[],[],[]⟩
theorem Zdv {T:Tab}(hT:TabOk T) {h0:Hp}{n f:Nat}{vals:List Value}{s:List Dec}{v:Value}{cs:Log}(hF:ZD (zg T h0 n f vals s) v cs) (hcs:Zx cs) (hvals:(vals.all (lt h0.n))=true) (hv:lt 0 v=true) {m:Mp}{w:World}(E:Emb m w.heap.size h0 w):
  Calls T.P f (vals.map (mv m)).toArray w fun e w'=>e= .returned v∧Za0 w w':=by
 obtain⟨h1,h2,h3,h4⟩:=hF;cases hr:zg T h0 n f vals s with
 | none=>rw[hr] at h1;cases h1
 | some r=>
  rw[hr] at h1 h2 h3 h4;simp only[Option.map_some,Option.some.injEq] at h1 h2 h3 h4;obtain⟨v',h',s',L⟩:=r;simp only at h1 h2 h3 h4;subst h1;obtain⟨_,_,h5⟩:=ZdX hT (Zgs hT n).1 _ _ _ _ _ _ _ _ _ hr ⟨by rw[h2];exact hcs,Zcv _ h3,Zcv _ h4⟩;refine (h5 _ _ w E (List.all_eq_true.1 hvals)).mono fun en w' he=> ?_;obtain⟨m',rfl,C⟩:=he;exact⟨by rw[ZA hv],C.below,fun k h1 h2=>C.emb.ice k h1 h2⟩
theorem Zg4 {T:Tab}(hT:TabOk T) {h0:Hp}{n f:Nat}{vals:List Value}{s:List Dec}{v:Value}{cs:Log}(hF:ZD (zg T h0 n f vals s) v cs) (hcs:Zx cs) (hvals:(vals.all (lt 0))=true) (hv:lt 0 v=true) {m:Mp}{w:World}(E:Emb m w.heap.size h0 w):
  Calls T.P f vals.toArray w fun e w'=>e= .returned v∧Za0 w w':=by
 have hst:∀ y∈vals,lt 0 y=true:=List.all_eq_true.1 hvals;have e:vals.map (mv m)=vals:=(List.map_congr_left fun y hy=>ZA (hst y hy)).trans (List.map_id' _);have:=Zdv hT hF hcs (List.all_eq_true.2 fun y hy=>zG (Nat.zero_le _) (hst y hy)) hv E;rw[e] at this;exact this
end Go.KRun
namespace Go.KRun
open Go.ChangeShapes Go.WideShapes Go.ChangeAt Go.RowKit Go.Joins
theorem Zkd {n:Int}(h:(Lit.int .u64 n).wf=true):0≤n∧n<18446744073709551616:=by
 simp [Lit.wf,IntKind.min,IntKind.max,IntKind.signed,IntKind.bits] at h;omega
section
variable {H : Type} {enc : TypeId × Value → H} {P : Program} {w : World}
structure Lain (w:World) (b off:Nat) (cs:Array Value) (zs:List Int):Prop where
 heap:∃ ty z,w.heap[b]? =some (.cells cs ty z)
 room:off+zs.length≤cs.size
 cell:∀ i,i<zs.length→cs[off+i]? =some (.int .u32 (zs.getD i 0))
 wf:∀ n∈zs,(Lit.int .u32 n).wf=true
end
end Go.KRun
namespace Go.Proofs.YtgefjidphfdhdaaGreatDoor.Na
open Go.KRun Go.Nt
set_option maxRecDepth 100000
set_option linter.unusedVariables false
theorem Ztd {x:Bool×Bool}{l:Log}(h:Zx (x::l)):x.1=x.2∧Zx l:=⟨h _ Xe,fun y hy=>h y (Xd _ hy)⟩
end Go.Proofs.YtgefjidphfdhdaaGreatDoor.Na
namespace Go.Nt
theorem ZlZ:∀ {L:List Int},wds L→vN L=(vb 4294967296 L:Nat)
 | [],_=>rfl
 | x::r,h=>by
  obtain⟨h1,h2⟩:=Zax h;have:=ZlZ h2;show x+4294967296*vN r=((x.toNat+4294967296*vb 4294967296 r:Nat):Int);rw[this];omega
theorem Zke:∀ (m:Nat) (V:Int),0≤V→V<4294967296^m→vN (dg m V)=V
 | 0,V,h0,h1=>by
  have:V=0:=by rw[Int.pow_zero] at h1;omega
  subst this;rfl
 | m+1,V,h0,h1=>by
  rw[pw] at h1;have h2:=Zke m (V/4294967296) (by omega) (by omega);simp only[dg,vN];rw[h2];omega
theorem Zu5 {m:Nat}{V:Nat}(h:(V:Int)<4294967296^m):(dg m V).take (Zi (dg m V))=db 4294967296 V:=by
 have hw:=Zbd m V;rw[zf (b:=4294967296) (by omega) _ hw];have h1:=Zke m V (by omega) h;rw[ZlZ hw] at h1;rw[Int.ofNat.inj h1]
theorem Zg5 (L M:List Int):∀ k,Zaq L M k= -1∨Zaq L M k=0∨Zaq L M k=1
 | 0=> .inr (.inl rfl)
 | k+1=>by
  unfold Zaq;split
  ·exact Zg5 L M k
  ·split
   ·exact .inl rfl
   ·exact .inr (.inr rfl)
theorem Zu6 (L M:List Int):Zci L M= -1∨Zci L M=0∨Zci L M=1:=by
 unfold Zci;split
 ·exact Zg5 _ _ _
 ·split
  ·exact .inl rfl
  ·exact .inr (.inr rfl)
theorem Zu7 {L M:List Int}(hL:Zbn L) (hM:Zbn M):Zci L M=if vb 4294967296 L<vb 4294967296 M then -1 else if vb 4294967296 L=vb 4294967296 M then 0 else 1:=by
 have h:=Zi0 hL hM;rw[ZlZ hL.1,ZlZ hM.1] at h;have h3:=Zu6 L M;split
 ·have:=h.1.2 (by omega);omega
 ·split
  ·exact h.2.2 (by omega)
  ·have h1:¬ Zci L M<0:=fun hx=>by have:=h.1.1 hx;omega
   have h2:¬ Zci L M=0:=fun hx=>by have:=h.2.1 hx;omega
   omega
theorem Zdd {b V:Nat}(hb:2≤b):0<(db b V).length↔0<V:=by
 rw[List.length_pos_iff,ne_eq,Zcc hb];omega
end Go.Nt
namespace Go.Proofs.YtgefjidphfdhdaaGreatDoor
open Go.Proofs.Tryz
open Go.IntKind
open Go.KRun Go.Nt
set_option maxRecDepth 100000
set_option linter.unusedVariables false
def Z4S (F:Func):List Code:=[Z2 (Zs F),Z2 (Z0 (Zs F)),Z2 (Z0 (Z0 (Zs F)))]
def Z4T (F:Func):Code:=Z2 (Z2 (Z0 (Z0 (Z0 (Zs F)))))
def Zd2 (F:Func):Code:=cIn (cIn (Z0 (Z2 (Z0 (Z0 (Z0 (Zs F)))))))
def Z4U (F:Func):Code:=Z0 (Z0 (Z0 (Z0 (Zs F))))
theorem Zqn:f70.body=some (ZW (Z4S f70) (.seq (.seq (Z4T f70) (.block 0 (.loop (Zd2 f70)))) (Z4U f70))):=by kernel_rfl
def sv (A:List Int) (b c i:Int):Int:=u64.wrap (c+u64.wrap (u64.wrap (atN A i)*u64.wrap b))
def ZeU (x:List Value×TypeId):Hp:=⟨1,[x]⟩
def Zgf (lo:List Value) (x:List Value×TypeId):Hp:=⟨2,[(lo,tU),x]⟩
def Z4i (w:Nat):List Dec:=match w with | 0=>[cmp true] | _=>[cmp false,cmp true]
def Zz9 (w:Nat) (n:Nat) (k i:Int):Log:=match w with | 0=>[(decide (i<n),true)] | _=>[(decide (k>0),true),(decide (i<n),false)]
def rP' (h:Hp) (p:Option Addr) (n c:Nat):Bool×Bool:=(zx h p n c,true)
theorem Zu8 (p:Option Addr) (n c:Nat) (b e:Int) (h:Hp):Zg (evL (Zk prog Zf Zo hcV) 100 (Z4S f70) ([.slice p n c,.int .u32 b,.int .u32 e]++List.replicate 38 undef,h,[]) ⟨[],[],[]⟩) 9 32 none [.slice p n c,.int .u32 b,.int .u32 e,undef,undef,undef,Zn,Zn,.int .u64 (u64.wrap e)] h []:=by and_intros<;>kernel_rfl
theorem ZzA (p:Option Addr) (n c:Nat) (b e k:Int) (h:Hp) (g:Nat→Value):Zg (evC (Zk prog Zf Zo hcV) 100 false (Z4T f70) ([.slice p n c,.int .u32 b,.int .u32 e,undef,undef,undef,Zn,Zn,.int .u64 k]++tl 32 g,h,[]) ⟨[],[],[]⟩) 10 31 none [.slice p n c,.int .u32 b,.int .u32 e,undef,undef,undef,Zn,Zn,.int .u64 k,.int .i64 0] h []:=by and_intros<;>kernel_rfl
theorem Zqo (p:Option Addr) (n c:Nat) (b e k i:Int) (x:List Value×TypeId) (g:Nat→Value):Zg (evC (Zk prog Zf Zo hcV) 100 false (Zd2 f70) ([.slice p n c,.int .u32 b,.int .u32 e,undef,undef,undef,Zn,Zn,.int .u64 k,.int .i64 i]++tl 31 g,ZeU x,Z4i 0++[cmp true]) ⟨[],[],[]⟩) 10 31 none [.slice p n c,.int .u32 b,.int .u32 e,undef,undef,undef,Zn,sl 2 0 1 grown,.int .u64 (u64.wrap ((sv (Zm (ZeU x) p n) b k i).tdiv 65536)),.int .i64 (i64.wrap (i+1))] ⟨3,[([.int .u32 (u32.wrap ((sv (Zm (ZeU x) p n) b k i).tmod 65536))],tU),([.int .u32 (u32.wrap ((sv (Zm (ZeU x) p n) b k i).tmod 65536))],tU),x]⟩ ((decide ((65536:Int)=0),false)::rP' (ZeU x) p n c::Zz9 0 n k i):=by and_intros<;>kernel_rfl
theorem Zqp (p:Option Addr) (n c:Nat) (b e k i:Int) (x:List Value×TypeId) (g:Nat→Value):Zg (evC (Zk prog Zf Zo hcV) 100 false (Zd2 f70) ([.slice p n c,.int .u32 b,.int .u32 e,undef,undef,undef,Zn,Zn,.int .u64 k,.int .i64 i]++tl 31 g,ZeU x,Z4i 1++[cmp true]) ⟨[],[],[]⟩) 10 31 none [.slice p n c,.int .u32 b,.int .u32 e,undef,undef,undef,Zn,sl 2 0 1 grown,.int .u64 (u64.wrap ((sv (Zm (ZeU x) p n) b k i).tdiv 65536)),.int .i64 (i64.wrap (i+1))] ⟨3,[([.int .u32 (u32.wrap ((sv (Zm (ZeU x) p n) b k i).tmod 65536))],tU),([.int .u32 (u32.wrap ((sv (Zm (ZeU x) p n) b k i).tmod 65536))],tU),x]⟩ ((decide ((65536:Int)=0),false)::rP' (ZeU x) p n c::Zz9 1 n k i):=by and_intros<;>kernel_rfl
theorem Zma (p:Option Addr) (n c z:Nat) (b e k i:Int) (x:List Value×TypeId) (lo:List Value) (g:Nat→Value):Zg (evC (Zk prog Zf Zo hcV) 100 false (Zd2 f70) ([.slice p n c,.int .u32 b,.int .u32 e,undef,undef,undef,Zn,sl 1 0 z grown,.int .u64 k,.int .i64 i]++tl 31 g,Zgf lo x,Z4i 0++[cmp true,at_]) ⟨[],[],[]⟩) 10 31 none [.slice p n c,.int .u32 b,.int .u32 e,undef,undef,undef,Zn,sl 3 0 (z+1) grown,.int .u64 (u64.wrap ((sv (Zm (Zgf lo x) p n) b k i).tdiv 65536)),.int .i64 (i64.wrap (i+1))] ⟨4,[(lo++[.int .u32 (u32.wrap ((sv (Zm (Zgf lo x) p n) b k i).tmod 65536))],tU),([.int .u32 (u32.wrap ((sv (Zm (Zgf lo x) p n) b k i).tmod 65536))],tU),([],2*zo),x]⟩ ((Zag tU (lo,tU) ([.int .u32 (u32.wrap ((sv (Zm (Zgf lo x) p n) b k i).tmod 65536))],tU) z 0 1,true)::(decide ((65536:Int)=0),false)::rP' (Zgf lo x) p n c::Zz9 0 n k i):=by and_intros<;>kernel_rfl
theorem Zmb (p:Option Addr) (n c z:Nat) (b e k i:Int) (x:List Value×TypeId) (lo:List Value) (g:Nat→Value):Zg (evC (Zk prog Zf Zo hcV) 100 false (Zd2 f70) ([.slice p n c,.int .u32 b,.int .u32 e,undef,undef,undef,Zn,sl 1 0 z grown,.int .u64 k,.int .i64 i]++tl 31 g,Zgf lo x,Z4i 1++[cmp true,at_]) ⟨[],[],[]⟩) 10 31 none [.slice p n c,.int .u32 b,.int .u32 e,undef,undef,undef,Zn,sl 3 0 (z+1) grown,.int .u64 (u64.wrap ((sv (Zm (Zgf lo x) p n) b k i).tdiv 65536)),.int .i64 (i64.wrap (i+1))] ⟨4,[(lo++[.int .u32 (u32.wrap ((sv (Zm (Zgf lo x) p n) b k i).tmod 65536))],tU),([.int .u32 (u32.wrap ((sv (Zm (Zgf lo x) p n) b k i).tmod 65536))],tU),([],2*zo),x]⟩ ((Zag tU (lo,tU) ([.int .u32 (u32.wrap ((sv (Zm (Zgf lo x) p n) b k i).tmod 65536))],tU) z 0 1,true)::(decide ((65536:Int)=0),false)::rP' (Zgf lo x) p n c::Zz9 1 n k i):=by and_intros<;>kernel_rfl
theorem Zu9 (p:Option Addr) (n c:Nat) (b e k i:Int) (v:Value) (h:Hp) (g:Nat→Value):Zg (evC (Zk prog Zf Zo hcV) 100 false (Zd2 f70) ([.slice p n c,.int .u32 b,.int .u32 e,undef,undef,undef,Zn,v,.int .u64 k,.int .i64 i]++tl 31 g,h,[cmp false,cmp false]) ⟨[],[],[]⟩) 10 31 (some (some 0)) [.slice p n c,.int .u32 b,.int .u32 e,undef,undef,undef,Zn,v,.int .u64 k,.int .i64 i] h [(decide (k>0),false),(decide (i<n),false)]:=by and_intros<;>kernel_rfl
theorem ZuA (p:Option Addr) (n c z:Nat) (b e k i:Int) (x:List Value×TypeId) (lo:List Value) (g:Nat→Value):Zg (evC (Zk prog Zf Zo hcV) 100 false (Z4U f70) ([.slice p n c,.int .u32 b,.int .u32 e,undef,undef,undef,Zn,sl 1 0 z grown,.int .u64 k,.int .i64 i]++tl 31 g,Zgf lo x,[]) ⟨[],[],[]⟩) 7 34 (some none) [.slice p n c,.int .u32 b,.int .u32 e,undef,undef,undef,sl 1 0 (Zi (Zz lo 0 z)) (Zi (Zz lo 0 z))] (Zgf lo x) [(ZaQ tU lo 0 z grown,true)]:=by and_intros<;>kernel_rfl
theorem Zmc (p:Option Addr) (n c:Nat) (b e:Int) (h:Hp):Zg (evC (Zk prog Zf Zo hcV) 100 false (Zs f70) ([.slice p n c,.int .u32 b,.int .u32 e]++List.replicate 38 undef,h,[cmp false,cmp false]) ⟨[],[],[]⟩) 7 34 (some none) [.slice p n c,.int .u32 b,.int .u32 e,undef,undef,undef,Zn] h [(decide (u64.wrap e>0),false),(decide ((0:Int)<n),false)]:=by and_intros<;>kernel_rfl
theorem Zcl {n:Int}(h0:0≤n) (h1:n<18446744073709551616):u64.wrap n=n:=by simp [IntKind.wrap,IntKind.bits,IntKind.signed];omega
theorem Z4V {A:List Int}(hA:∀ x∈A,Dg 65536 x) {b k:Nat}(hb:b<4294967296) (hk:k<4294967296) (i:Nat):sv A b k i=((k+dgN A i*b:Nat):Int):=by
 have h1:=(zC hA i).1;have h2:=(zC hA i).2;have hp:dgN A i*b≤65535*4294967295:=Nat.mul_le_mul (by omega) (by omega);have e0:atN A (i:Int)=((dgN A i:Nat):Int):=by
  have:=Zef hA i;rw[Zat];unfold dgN;have:=this.1;omega
 unfold sv;rw[e0,Zcl (n:=((dgN A i:Nat):Int)) (by omega) (by omega),Zcl (n:=(b:Int)) (by omega) (by omega)];have e1:((dgN A i:Nat):Int)*(b:Int)=((dgN A i*b:Nat):Int):=by simp
 rw[e1,Zcl (n:=((dgN A i*b:Nat):Int)) (by omega) (by omega),Zcl (by omega) (by omega)];omega
theorem Zkf {O:List Int}{A:List Int}{i k b e:Nat}(hO:O.length=i) (h:vb 65536 O+65536^i*k=vb 65536 (A.take i)*b+e):
  vb 65536 (O++[(((k+dgN A i*b) % 65536:Nat):Int)])+65536^(i+1)*((k+dgN A i*b)/65536)=vb 65536 (A.take (i+1))*b+e:=by
 rw[ZcZ,hO,Xg,Za5,Nat.add_mul];have h2:=Nat.div_add_mod (k+dgN A i*b) 65536;have h3:65536^i*(k+dgN A i*b)=65536^i*(65536*((k+dgN A i*b)/65536))+65536^i*((k+dgN A i*b) % 65536):=by rw[← Nat.mul_add,h2]
 have h4:65536^i*(k+dgN A i*b)=65536^i*k+65536^i*(dgN A i*b):=Nat.mul_add _ _ _;have h5:65536^(i+1)*((k+dgN A i*b)/65536)=65536^i*(65536*((k+dgN A i*b)/65536)):=by rw[Nat.pow_succ,Nat.mul_assoc]
 have h6:65536^i*(A.getD i 0).toNat*b=65536^i*(dgN A i*b):=by rw[Nat.mul_assoc];rfl
 rw[h5,h6];omega
section
variable {x : List Value × TypeId} {p : Option Addr} {n c : Nat} {A : List Int}
theorem Zi7 (NA:Nu 0 x p n c A) {h:Hp}(h0:h.blk? 0=some x):∀ i z,(⟨1,[x]⟩:Hp).blk? i=some z→h.blk? i=some z∧∀ v∈z.1,still v=true:=fun i z hz=>by
 have hi:i=0:=by have:i<1:=Hp.blk_lt hz;omega
 subst hi;have:z=x:=(Option.some.inj hz).symm;subst this;exact⟨h0,NA.st⟩
def sFr (p:Option Addr) (n c:Nat) (b e:Nat) (out:Value) (k i:Nat):List Value:=[.slice p n c,.int .u32 ((b:Nat):Int),.int .u32 ((e:Nat):Int),undef,undef,undef,Zn,out,.int .u64 ((k:Nat):Int),.int .i64 ((i:Nat):Int)]
def Z4W (x:List Value×TypeId) (p:Option Addr) (n c b e:Nat) (O:List Int) (i k:Nat) (Y:Lf):Prop:=
 (i=0∧(∃ g,Y.1=sFr p n c b e Zn k i++tl 31 g)∧Y.2.1=ZeU x)∨(0<i∧(∃ g,Y.1=sFr p n c b e (sl 1 0 i grown) k i++tl 31 g)∧Y.2.1=Zgf (wU O) x)
theorem Zmd (NA:Nu 0 x p n c A) (hA:∀ x∈A,Dg 65536 x) {b e k i:Nat}(hb:b<4294967296) {O:List Int}(hk:k<4294967296) (hi:i<1073741823) (hO:O.length=i) (hgo:i<n∨0<k) {Y:Lf}(hY:Z4W x p n c b e O i k Y):
  RunsW (Zk prog Zf Zo hcV) (Zd2 f70) Y fun ex z=>ex=none∧(∃ g,z.1=sFr p n c b e (sl 1 0 (i+1) grown) ((k+dgN A i*b)/65536) (i+1)++tl 31 g)∧z.2.1=Zgf (wU (O++[(((k+dgN A i*b) % 65536:Nat):Int)])) x:=by
 obtain⟨t,h',s⟩:=Y;have hd1:=(zC hA i).1;have hp:dgN A i*b≤65535*4294967295:=Nat.mul_le_mul (by omega) (by omega);have es:=Z4V hA hb hk i;have e1:u32.wrap ((sv A b k i).tmod 65536)=(((k+dgN A i*b) % 65536:Nat):Int):=by rw[es,Int.tmod_eq_emod_of_nonneg (by omega),zt (by omega) (by omega)];omega
 have e2:u64.wrap ((sv A b k i).tdiv 65536)=(((k+dgN A i*b)/65536:Nat):Int):=by rw[es,Int.tdiv_eq_ediv_of_nonneg (by omega),Zcl (by omega) (by omega)];omega
 have e3:i64.wrap ((i:Int)+1)=((i+1:Nat):Int):=by rw[Zw (by omega) (by omega)];omega
 have hw:∃ w,w≤1∧Zx (Zz9 w n k i):=by
  by_cases ha:i<n
  ·exact⟨0,by omega,Zu (Xa (by omega))⟩
  ·exact⟨1,by omega,okW (Xa (by omega)) (Zu (Xb (by omega)))⟩
 obtain⟨w,hw1,hl⟩:=hw;rcases hY with ⟨h0,⟨g,ht⟩,hh⟩ | ⟨h0,⟨g,ht⟩,hh⟩
 ·simp only at ht hh;subst ht hh;have r0:=NA.row (ZeU x) rfl;have hO':O=[]:=List.length_eq_zero_iff.1 (by omega);have fin:RunsW (Zk prog Zf Zo hcV) (Zd2 f70) (sFr p n c b e Zn k i++tl 31 g,ZeU x,s) fun ex z=>ex=none∧(∃ g,z.1=[.slice p n c,.int .u32 ((b:Nat):Int),.int .u32 ((e:Nat):Int),undef,undef,undef,Zn,sl 2 0 1 grown,.int .u64 (u64.wrap ((sv A b k i).tdiv 65536)),.int .i64 (i64.wrap ((i:Int)+1))]++tl 31 g)∧z.2.1=⟨3,[([.int .u32 (u32.wrap ((sv A b k i).tmod 65536))],tU),([.int .u32 (u32.wrap ((sv A b k i).tmod 65536))],tU),x]⟩:=by
   match w,hw1,hl with
   | 0,_,hl=>
    have:=Zb (Zh Zd Zy) (s0:=s) (Zqo p n c b e k i x g) (okW rfl (okW r0.1 hl));rw[r0.2] at this;exact this
   | 1,_,hl=>
    have:=Zb (Zh Zd Zy) (s0:=s) (Zqp p n c b e k i x g) (okW rfl (okW r0.1 hl));rw[r0.2] at this;exact this
  rw[e1,e2,e3] at fin;have:=fin.kept (k:=1) (b:=2) (base:=[x]) (y:=([.int .u32 (((k+dgN A i*b) % 65536:Nat):Int)],tU)) (front':=sFr p n c b e (sl 1 0 1 grown) ((k+dgN A i*b)/65536) (i+1)) rfl
   (by simp only[sFr,List.map_cons,List.map_nil,NA.rn (f:=zK 1 2) rfl];kernel_rfl) (Zi7 NA rfl) rfl (by omega) (fun v hv=>by rw[List.mem_singleton.1 hv];rfl) (fun v hv=>by
    simp only[sFr,List.mem_cons,List.not_mem_nil,or_false] at hv;rcases hv with rfl | rfl | rfl | rfl | rfl | rfl | rfl | rfl | rfl | rfl
    ·exact NA.lt (by omega)
    all_goals rfl)
  refine this.mono fun ex z hz=> ?_;obtain⟨rfl,⟨g',q1⟩,q2⟩:=hz;subst hO' h0;exact⟨rfl,⟨g',q1⟩,q2⟩
 ·simp only at ht hh;subst ht hh;have r0:=NA.row (Zgf (wU O) x) rfl;have hchk:Zag tU (wU O,tU) ([.int .u32 (u32.wrap ((sv A b k i).tmod 65536))],tU) i 0 1=true:=
   Zbf (L:=O) (M:=[u32.wrap ((sv A b k i).tmod 65536)]) hO.symm (show 0<1 by omega) (by show O.length+1≤_;omega)
  have fin:RunsW (Zk prog Zf Zo hcV) (Zd2 f70) (sFr p n c b e (sl 1 0 i grown) k i++tl 31 g,Zgf (wU O) x,s) fun ex z=>ex=none∧(∃ g,z.1=[.slice p n c,.int .u32 ((b:Nat):Int),.int .u32 ((e:Nat):Int),undef,undef,undef,Zn,sl 3 0 (i+1) grown,.int .u64 (u64.wrap ((sv A b k i).tdiv 65536)),.int .i64 (i64.wrap ((i:Int)+1))]++tl 31 g)∧z.2.1=⟨4,[(wU O++[.int .u32 (u32.wrap ((sv A b k i).tmod 65536))],tU),([.int .u32 (u32.wrap ((sv A b k i).tmod 65536))],tU),([],2*zo),x]⟩:=by
   match w,hw1,hl with
   | 0,_,hl=>
    have:=Zb (Zh Zd Zy) (s0:=s) (Zma p n c i b e k i x (wU O) g) (by rw[r0.2];exact okW hchk (okW rfl (okW r0.1 hl)));rw[r0.2] at this;exact this
   | 1,_,hl=>
    have:=Zb (Zh Zd Zy) (s0:=s) (Zmb p n c i b e k i x (wU O) g) (by rw[r0.2];exact okW hchk (okW rfl (okW r0.1 hl)));rw[r0.2] at this;exact this
  rw[e1,e2,e3] at fin;have ew:wU O++[.int .u32 (((k+dgN A i*b) % 65536:Nat):Int)]=wU (O++[(((k+dgN A i*b) % 65536:Nat):Int)]):=by rw[ZU];rfl
  rw[ew] at fin;have:=fin.kept (k:=1) (b:=3) (base:=[x]) (y:=(wU (O++[(((k+dgN A i*b) % 65536:Nat):Int)]),tU)) (front':=sFr p n c b e (sl 1 0 (i+1) grown) ((k+dgN A i*b)/65536) (i+1)) rfl
   (by simp only[sFr,List.map_cons,List.map_nil,NA.rn (f:=zK 1 3) rfl];kernel_rfl) (Zi7 NA rfl) rfl (by omega) (ZE _) (fun v hv=>by
    simp only[sFr,List.mem_cons,List.not_mem_nil,or_false] at hv;rcases hv with rfl | rfl | rfl | rfl | rfl | rfl | rfl | rfl | rfl | rfl
    ·exact NA.lt (by omega)
    all_goals rfl)
  exact this
def Z4X (x:List Value×TypeId) (p:Option Addr) (n c:Nat) (A:List Int) (b e m:Nat) (Y:Lf):Prop:=
 ∃ (i k:Nat) (O:List Int),O.length=i∧m=n+2-i∧i≤n+2∧k<4294967296∧((i=n+1→k<65536)∧(i=n+2→k=0))∧(∀ x∈O,Dg 65536 x)∧vb 65536 O+65536^i*k=vb 65536 (A.take i)*b+e∧Z4W x p n c b e O i k Y
def ZuB (x:List Value×TypeId) (p:Option Addr) (n c:Nat) (A:List Int) (b e:Nat) (Y:Lf):Prop:=
 ∃ (i:Nat) (O:List Int),O.length=i∧i≤n+2∧(∀ x∈O,Dg 65536 x)∧vb 65536 O=vb 65536 A*b+e∧n≤i∧Z4W x p n c b e O i 0 Y
theorem Zqq (NA:Nu 0 x p n c A) (lA:A.length=n) (hA:∀ x∈A,Dg 65536 x) {b e:Nat}(hb:b<4294967296) (he:e<4294967296) (hn:n+3<1073741824) (g:Nat→Value):
  RunsW (Zk prog Zf Zo hcV) (.block 0 (.loop (Zd2 f70))) (sFr p n c b e Zn e 0++tl 31 g,ZeU x,[]) fun ex Y=>match ex with | none=>ZuB x p n c A b e Y | some none=>False | some (some _)=>False:=by
 refine RunsW.forLoop (P:=ZuB x p n c A b e) (R:=fun _=>False) (Z4X x p n c A b e) ?_ (n:=n+2) ⟨0,e,[],rfl,by omega,by omega,he,⟨by omega,by omega⟩,(fun x hx=>by cases hx),by simp [vb],.inl ⟨rfl,⟨g,rfl⟩,rfl⟩⟩;rintro m Y ⟨i,k,O,hO,hm,hi,hk,⟨hk1,hk0⟩,hOd,hval,hY⟩;by_cases hgo:i<n∨0<k
 ·have hmx:i≤n+1:=by
   rcases Nat.lt_or_ge i (n+2) with h | h
   ·omega
   ·have:k=0:=hk0 (by omega);omega
  have r:=Zmd NA hA (e:=e) hb hk (by omega) hO hgo hY;refine r.mono fun ex z hz=> ?_;obtain⟨rfl,z1,z2⟩:=hz;have d1:=(zC hA i).1;have hp:dgN A i*b≤65535*4294967295:=Nat.mul_le_mul (by omega) (by omega);refine⟨n+2-(i+1),by omega,i+1,(k+dgN A i*b)/65536,O++[(((k+dgN A i*b) % 65536:Nat):Int)],by simp [hO],rfl,by omega,by omega,⟨fun he'=> ?_,fun he'=> ?_⟩,fun x hx=> ?_,Zkf hO hval,.inr ⟨by omega,z1,z2⟩⟩
  ·have z1:dgN A i=0:=Zeg (by omega);rw[z1];omega
  ·have z1:dgN A i=0:=Zeg (by omega);have:=hk1 (by omega);rw[z1];omega
  ·rcases List.mem_append.1 hx with hx | hx
   ·exact hOd x hx
   ·rw[List.mem_singleton.1 hx];exact⟨by omega,by omega⟩
 ·have hk:k=0:=by omega
  subst hk;have ha:n≤i:=by omega
  have out:∀ (v:Value) (h:Hp) (g:Nat→Value) (s:List Dec),RunsW (Zk prog Zf Zo hcV) (Zd2 f70) (sFr p n c b e v 0 i++tl 31 g,h,s) fun ex z=>ex=some (some 0)∧(∃ g,z.1=sFr p n c b e v 0 i++tl 31 g)∧z.2.1=h:=fun v h g s=>
   Zb (Zh Zd Zy) (Zu9 p n c b e 0 i v h g) (okW rfl (Zu (Xb (by omega))))
  have hv:vb 65536 O=vb 65536 A*b+e:=by
   rw[List.take_of_length_le (by omega)] at hval;omega
  obtain⟨t,h',s⟩:=Y;rcases hY with ⟨h0,⟨g,ht⟩,hh⟩ | ⟨h0,⟨g,ht⟩,hh⟩
  ·simp only at ht hh;subst ht hh;refine (out Zn _ g s).mono fun ex z hz=> ?_;obtain⟨rfl,z1,z2⟩:=hz;exact⟨rfl,i,O,hO,hi,hOd,hv,ha,.inl ⟨h0,z1,z2⟩⟩
  ·simp only at ht hh;subst ht hh;refine (out (sl 1 0 i grown) _ g s).mono fun ex z hz=> ?_;obtain⟨rfl,z1,z2⟩:=hz;exact⟨rfl,i,O,hO,hi,hOd,hv,ha,.inr ⟨h0,z1,z2⟩⟩
theorem Zqr (NA:Nu 0 x p n c A) (lA:A.length=n) (hA:∀ x∈A,Dg 65536 x) {b e:Nat}(hb:b<4294967296) (he:e<4294967296) (hn:n+3<1073741824) (h0:0<n∨0<e) {V:Nat}(hV:V=vb 65536 A*b+e):
  RunsW (Zk prog Zf Zo hcV) (ZW (Z4S f70) (.seq (.seq (Z4T f70) (.block 0 (.loop (Zd2 f70)))) (Z4U f70))) ([.slice p n c,.int .u32 ((b:Nat):Int),.int .u32 ((e:Nat):Int)]++List.replicate 38 undef,ZeU x,[]) fun ex z=>(ex=none∨ex=some none)∧ZV prog f70 z.1 z.2.1=some (sl 1 0 (d16 V).length (d16 V).length)∧∃ r,z.2.1.blk? 1=some (wU (d16 V)++r,tU):=by
 refine Zv (Zh Zd Zy) (Zu8 p n c b e (ZeU x)) (fun x hx=>by cases hx) fun g=> ?_;have ee:u64.wrap ((e:Nat):Int)=((e:Nat):Int):=Zcl (by omega) (by omega);rw[ee];refine Zg2 (Zb (Zh Zd Zy) (ZzA p n c b e e (ZeU x) g) (fun x hx=>by cases hx)) (fun ex y he=>by cases he.1) (P2:=fun ex Y=>match ex with | none=>ZuB x p n c A b e Y | some none=>False | some (some _)=>False) ?_ ?_ ?_
 ·rintro⟨t,h',s⟩ ⟨_,⟨g',ht⟩,hh⟩;simp only at ht hh;subst ht hh;exact RunsW.script (Zqq NA lA hA hb he hn g')
 ·intro ex y hy
  match ex,hy with
  | none,hy=>exact hy
  | some id,hy=>exact hy
 ·rintro⟨t,h',s⟩ ⟨i,O,hO,hi,hOd,hv,ha,hY⟩;rcases hY with ⟨e0,_⟩ | ⟨_,⟨g',ht⟩,hh⟩
  ·exfalso
   have hO':O=[]:=List.length_eq_zero_iff.1 (by omega);rw[hO'] at hv;have:vb 65536 []=0:=rfl;omega
  ·simp only at ht hh;subst ht hh;have hrow:ZaQ tU (wU O) 0 i grown=true:=by
    rw[← hO];exact Zal (fun x hx=>⟨(hOd x hx).1,by have:=(hOd x hx).2;omega⟩) (by omega) (ZyJ _)
   refine (Zb (Zh Zd Zy) (ZuA p n c i b e 0 i x (wU O) g') (Zu hrow)).mono fun ex z hz=> ?_;obtain⟨rfl,⟨g2,e1⟩,e2⟩:=hz;have et:Zi (Zz (wU O) 0 i)=(d16 V).length:=by
    rw[← hO,ZaV,Zaj (by omega) hOd,hv,← hV];rfl
   refine⟨.inr rfl,?_,?_⟩
   ·rw[e1,e2,et];rfl
   ·rw[e2];refine⟨wU (O.drop (Zi O)),?_⟩;have e3:wU (d16 V)++wU (O.drop (Zi O))=wU O:=by
     unfold d16;rw[hV,← hv,← zf (by omega) _ hOd,← ZU,List.take_append_drop]
    rw[e3];rfl
theorem Zi8 (NA:Nu 0 x p n c A):(ZeU x).rows:=by
 refine⟨rfl,fun b z hz=> ?_⟩;have hb:b=0:=by have:b<1:=Hp.blk_lt hz;omega
 subst hb;have:z=x:=(Option.some.inj hz).symm;subst this;exact⟨NA.ros.1,NA.lt0,NA.ros.2⟩
theorem Zi9 {h:Hp}{a:Nat}(hx:Zad x.2=false→∃ z r,h.blk? a=some z∧Zad z.2=false∧rt z.2=rt x.2∧z.1=x.1++r):(ZeU x).fits (fun _=>a) h:=by
 intro i z hz ht;have hb:i=0:=by have:i<1:=Hp.blk_lt hz;omega
 subst hb;have:z=x:=(Option.some.inj hz).symm;subst this;exact hx ht
end
theorem Zme:f70.body=some (Zs f70):=by kernel_rfl
def ZaZ (h:Hp) (p:Option Addr) (n c:Nat) (b e:Int):Bool:=zx h p n c && dgB (Zm h p n) && Nat.blt (n+3) 1073741824 && decide ((0≤b∧b<4294967296)∧(0≤e∧e<4294967296))
def Z4j:Zae:=fun vals h s=>
 match vals,s with
 | [.slice p n c,.int .u32 b,.int .u32 e],.inr (.inr (.inr (.inl d)))::s'=>
  match d with
  | true=>Zda (vO h p n*b.toNat+e.toNat) h s' [(ZaZ h p n c b e,true),(decide (0<n∨0<e),true)]
  | false=>some (Zn,h,s',[(ZaZ h p n c b e,true),(decide (0<n∨0<e),false)])
 | _,_=>none
theorem Zh2:Z6 70 Z4j:=by
 intro vals h s v h' s' lg hg hl m B w E hv;unfold Z4j at hg;split at hg
 ·rename_i p n c b e d s2;have key:ZaZ h p n c b e=true→∃ b' e':Nat,b=(b':Int)∧e=(e':Int)∧b'<4294967296∧e'<4294967296∧zx h p n c=true∧(∀ x∈Zm h p n,Dg 65536 x)∧n+3<1073741824:=fun hk=>by
   simp only[ZaZ,Xh,Xi] at hk;obtain⟨⟨⟨r1,r2⟩,r3⟩,r4⟩:=hk;exact⟨b.toNat,e.toNat,by omega,by omega,by omega,by omega,r1,Zbu r2,Zl.1 r3⟩
  split at hg
  ·unfold Zda at hg;cases hg;have q1:=hl _ (Xe);have q2:=hl _ (Xd _ Xf);simp only[Xi] at q2;obtain⟨b',e',rfl,rfl,hb,he,r1,r2,r3⟩:=key q1;rw[Xg,Xg];obtain⟨x,p',a,NA,eA,fA⟩:=Zb0 0 r1;have r:=Zqr NA (z6 r1) r2 hb he r3 (by omega) rfl;have:=ZI (T:=Zk prog Zf Zo hcV) func70 Zqn (Zi8 NA) (vals:=[.slice p' n c,.int .u32 ((b':Nat):Int),.int .u32 ((e':Nat):Int)]) (fun v hv=>by
    simp only[List.mem_cons,List.not_mem_nil,or_false] at hv;rcases hv with rfl | rfl | rfl
    ·exact NA.lt (by show 0<1;omega)
    all_goals rfl) (k:=1) (cs:=wU (d16 (vO h p n*b'+e'))) (ty:=tU) (ZaX _) (by kernel_rfl) r (by rfl) E (s:=fun _=>a) (Zi9 fA)
   simp only[List.map_cons,List.map_nil] at this;rw[eA _ rfl] at this;exact this
  ·cases hg;have q1:=hl _ (Xe);have q2:=hl _ (Xd _ Xf);simp only[decide_eq_false_iff_not] at q2;obtain⟨b',e',rfl,rfl,hb,he,r1,r2,r3⟩:=key q1;obtain⟨x,p',a,NA,eA,fA⟩:=Zb0 0 r1;have hr:Runs (Zk prog Zf Zo hcV) (Zs f70) ([.slice p' n c,.int .u32 ((b':Nat):Int),.int .u32 ((e':Nat):Int)]++List.replicate 38 undef,ZeU x,[]) fun ex z=>(ex=none∨ex=some none)∧ZV prog f70 z.1 z.2.1=some Zn:=by
    refine (Zc (Zh Zd Zy) (Zmc p' n c b' e' _) (okW (Xb (by rw[Zcl (by omega) (by omega)];omega)) (Zu (Xb (by omega))))).mono fun ex z he=> ?_;obtain⟨rfl,⟨g,e2⟩,e3⟩:=he;refine⟨.inr rfl,?_⟩;rw[e2,e3];rfl
   have:=ZB (T:=Zk prog Zf Zo hcV) func70 Zme (Zi8 NA) (vals:=[.slice p' n c,.int .u32 ((b':Nat):Int),.int .u32 ((e':Nat):Int)]) (fun v hv=>by
    simp only[List.mem_cons,List.not_mem_nil,or_false] at hv;rcases hv with rfl | rfl | rfl
    ·exact NA.lt (by show 0<1;omega)
    all_goals rfl) (v:=Zn) (by rfl) hr.w E (s:=fun _=>a) (Zi9 fA)
   simp only[List.map_cons,List.map_nil] at this;rw[eA _ rfl] at this;exact this
 ·cases hg
end Go.Proofs.YtgefjidphfdhdaaGreatDoor
namespace Go.Proofs.YtgefjidphfdhdaaGreatDoor
open Go.Proofs.Tryz
open Go.IntKind
open Go.KRun Go.Nt
set_option maxRecDepth 100000
def sA (F:Func):Code:=Z2 (Z0 (Zs F))
def sR (F:Func):Code:=Z0 (Z0 (Zs F))
def sR3 (F:Func):Code:=Z2 (sR F)
def sR4 (F:Func):Code:=Z2 (Z0 (sR F))
def sR5 (F:Func):Code:=Z2 (Z2 (Z0 (Z0 (sR F))))
def sL1 (F:Func):Code:=cIn (cIn (Z0 (Z2 (Z0 (Z0 (sR F))))))
def sR9 (F:Func):Code:=Z2 (Z0 (Z0 (Z0 (sR F))))
def sT (F:Func):Code:=Z0 (Z0 (Z0 (Z0 (sR F))))
def Z4Y (F:Func):Code:=Z2 (Z2 (sT F))
def sL2 (F:Func):Code:=cIn (cIn (Z0 (Z2 (sT F))))
def sEn (F:Func):Code:=Z0 (sT F)
def sPr (F:Func):List Code:=[Z2 (Zs F),sA F,sR3 F,sR4 F]
theorem Zmf:f36.body=some (ZW (sPr f36) (.seq (.seq (sR5 f36) (.block 0 (.loop (sL1 f36)))) (.seq (sR9 f36) (.seq (.seq (Z4Y f36) (.block 2 (.loop (sL2 f36)))) (sEn f36))))):=by kernel_rfl
theorem Zkg:f36.body=some (Zs f36):=by kernel_rfl
def k16 (k:Int):Int:=i64.wrap (k.tdiv 16)
def zz (z:Nat):List Value:=List.replicate z (.int .u32 0)
theorem Zmg (p:Option Addr) (n c:Nat) (k:Value) (h:Hp):Zg (evC (Zk prog Zf Zo hcV) 100 false (Zs f36) ([.slice p n c,k]++List.replicate 48 undef,h,[cmp true]) ⟨[],[],[]⟩) 5 45 (some none) [.slice p n c,k,undef,undef,Zn] h [((n:Int)==0,true)]:=by and_intros<;>kernel_rfl
theorem Zqs (o n c:Nat) (k:Int) (x:List Value×TypeId):Zg (evL (Zk prog Zf Zo hcV) 100 (sPr f36) ([sl 0 o n c,.int .i64 k]++List.replicate 48 undef,⟨1,[x]⟩,[cmp false,at_]) ⟨[],[],[]⟩) 7 43 none [sl 0 o n c,.int .i64 k,undef,undef,Zn,sl 1 0 (k16 k).toNat (k16 k).toNat,.int .u32 1] ⟨2,[(zz (k16 k).toNat,tU),x]⟩ [(ZO 4 (k16 k) (k16 k),true),((n:Int)==0,false)]:=by and_intros<;>kernel_rfl
theorem ZuC (a v:Value) (k:Int) (h:Hp) (g:Nat→Value):Zg (evC (Zk prog Zf Zo hcV) 100 false (sR5 f36) ([a,.int .i64 k,undef,undef,Zn,v,.int .u32 1]++tl 43 g,h,[]) ⟨[],[],[]⟩) 8 42 none [a,.int .i64 k,undef,undef,Zn,v,.int .u32 1,.int .i64 0] h []:=by and_intros<;>kernel_rfl
theorem ZuD (a v:Value) (k b i:Int) (h:Hp) (g:Nat→Value):Zg (evC (Zk prog Zf Zo hcV) 100 false (sL1 f36) ([a,.int .i64 k,undef,undef,Zn,v,.int .u32 b,.int .i64 i]++tl 42 g,h,[cmp true,cmp true]) ⟨[],[],[]⟩) 8 42 none [a,.int .i64 k,undef,undef,Zn,v,.int .u32 (u32.wrap (2*b)),.int .i64 (i64.wrap (i+1))] h [(decide (i<k.tmod 16),true),(decide ((16:Int)=0),false)]:=by and_intros<;>kernel_rfl
theorem ZuE (a v:Value) (k b i:Int) (h:Hp) (g:Nat→Value):Zg (evC (Zk prog Zf Zo hcV) 100 false (sL1 f36) ([a,.int .i64 k,undef,undef,Zn,v,.int .u32 b,.int .i64 i]++tl 42 g,h,[cmp true,cmp false]) ⟨[],[],[]⟩) 8 42 (some (some 0)) [a,.int .i64 k,undef,undef,Zn,v,.int .u32 b,.int .i64 i] h [(decide (i<k.tmod 16),false),(decide ((16:Int)=0),false)]:=by and_intros<;>kernel_rfl
theorem ZuF (a v:Value) (k b i:Int) (h:Hp) (g:Nat→Value):Zg (evC (Zk prog Zf Zo hcV) 100 false (sR9 f36) ([a,.int .i64 k,undef,undef,Zn,v,.int .u32 b,.int .i64 i]++tl 42 g,h,[]) ⟨[],[],[]⟩) 9 41 none [a,.int .i64 k,undef,undef,Zn,v,.int .u32 b,.int .i64 i,.int .u32 0] h []:=by and_intros<;>kernel_rfl
theorem Zqt (a v:Value) (k b i:Int) (h:Hp) (g:Nat→Value):Zg (evC (Zk prog Zf Zo hcV) 100 false (Z4Y f36) ([a,.int .i64 k,undef,undef,Zn,v,.int .u32 b,.int .i64 i,.int .u32 0]++tl 41 g,h,[]) ⟨[],[],[]⟩) 10 40 none [a,.int .i64 k,undef,undef,Zn,v,.int .u32 b,.int .i64 i,.int .u32 0,.int .i64 0] h []:=by and_intros<;>kernel_rfl
def cy (e x b:Int):Int:=u32.wrap (e+u32.wrap (x*b))
def lAx (l:List Value) (o n:Nat) (i x:Int):Log:=[(decide ((65536:Int)=0),false),(Z4 (l[o+i.toNat*1]?) (.int .u32 x),true),(decide (0≤i∧i<n),true),(decide (i<n),true)]
theorem Zqu (o n c z z':Nat) (b e i x:Int) (l lo:List Value) (j1 j7:Value) (g:Nat→Value):Zg (evC (Zk prog Zf Zo hcV) 100 false (sL2 f36) ([sl 0 o n c,j1,undef,undef,Zn,sl 1 0 z z',.int .u32 b,j7,.int .u32 e,.int .i64 i]++tl 40 g,⟨2,[(lo,tU),(l,tR)]⟩,[cmp true,at_,val (.int .u32 x),cmp true,num 0]) ⟨[],[],[]⟩) 10 40 none [sl 0 o n c,j1,undef,undef,Zn,sl 3 0 (z+1) grown,.int .u32 b,j7,.int .u32 (u32.wrap ((cy e x b).tdiv 65536)),.int .i64 (i64.wrap (i+1))] ⟨4,[(lo++[.int .u32 ((cy e x b).tmod 65536)],tU),([.int .u32 ((cy e x b).tmod 65536)],tU),(lo,tU),(l,tR)]⟩ ((Zdq (lo,tU) ([.int .u32 ((cy e x b).tmod 65536)],tU) z z' 0 1,true)::lAx l o n i x):=by and_intros<;>kernel_rfl
theorem Zqv (o n c z:Nat) (b e i x:Int) (l lo:List Value) (j1 j7:Value) (g:Nat→Value):Zg (evC (Zk prog Zf Zo hcV) 100 false (sL2 f36) ([sl 0 o n c,j1,undef,undef,Zn,sl 1 0 z grown,.int .u32 b,j7,.int .u32 e,.int .i64 i]++tl 40 g,⟨2,[(lo,tU),(l,tR)]⟩,[cmp true,at_,val (.int .u32 x),cmp true,at_]) ⟨[],[],[]⟩) 10 40 none [sl 0 o n c,j1,undef,undef,Zn,sl 3 0 (z+1) grown,.int .u32 b,j7,.int .u32 (u32.wrap ((cy e x b).tdiv 65536)),.int .i64 (i64.wrap (i+1))] ⟨4,[(lo++[.int .u32 ((cy e x b).tmod 65536)],tU),([.int .u32 ((cy e x b).tmod 65536)],tU),([],2*zo),(l,tR)]⟩ ((Zag tU (lo,tU) ([.int .u32 ((cy e x b).tmod 65536)],tU) z 0 1,true)::lAx l o n i x):=by and_intros<;>kernel_rfl
theorem Zmh (p:Option Addr) (n c:Nat) (v:Value) (b e i:Int) (h:Hp) (j1 j7:Value) (g:Nat→Value):Zg (evC (Zk prog Zf Zo hcV) 100 false (sL2 f36) ([.slice p n c,j1,undef,undef,Zn,v,.int .u32 b,j7,.int .u32 e,.int .i64 i]++tl 40 g,h,[cmp false]) ⟨[],[],[]⟩) 10 40 (some (some 2)) [.slice p n c,j1,undef,undef,Zn,v,.int .u32 b,j7,.int .u32 e,.int .i64 i] h [(decide (i<n),false)]:=by and_intros<;>kernel_rfl
theorem Zqw (a:Value) (z:Nat) (b e i:Int) (x:List Value×TypeId) (lo:List Value) (j1 j7:Value) (g:Nat→Value):Zg (evC (Zk prog Zf Zo hcV) 100 false (sEn f36) ([a,j1,undef,undef,Zn,sl 1 0 z grown,.int .u32 b,j7,.int .u32 e,.int .i64 i]++tl 40 g,⟨2,[(lo,tU),x]⟩,[at_]) ⟨[],[],[]⟩) 5 45 (some none) [a,j1,undef,undef,sl 3 0 (Zi (Zz (lo++[.int .u32 e]) 0 (z+1))) (Zi (Zz (lo++[.int .u32 e]) 0 (z+1)))] ⟨4,[(lo++[.int .u32 e],tU),([.int .u32 e],tU),([],2*zo),x]⟩ [(ZaQ tU (lo++[.int .u32 e]) 0 (z+1) grown,true),(Zag tU (lo,tU) ([.int .u32 e],tU) z 0 1,true)]:=by and_intros<;>kernel_rfl
theorem Zkh (a v:Value) (k:Nat) (h:Hp) (g:Nat→Value):
  Runs (Zk prog Zf Zo hcV) (.block 0 (.loop (sL1 f36))) ([a,.int .i64 (k:Nat),undef,undef,Zn,v,.int .u32 1,.int .i64 0]++tl 42 g,h,[]) fun e Y=>match e with | none=>(∃ g,Y.1=[a,.int .i64 (k:Nat),undef,undef,Zn,v,.int .u32 ((2^(k % 16):Nat):Int),.int .i64 ((k % 16:Nat):Int)]++tl 42 g)∧Y.2.1=h | some none=>False | some (some _)=>False:=by
 have em:(k:Int).tmod 16=((k % 16:Nat):Int):=by rw[Int.tmod_eq_emod_of_nonneg (by omega)];omega
 refine Runs.forLoop (P:=fun Y=>(∃ g,Y.1=[a,.int .i64 (k:Nat),undef,undef,Zn,v,.int .u32 ((2^(k % 16):Nat):Int),.int .i64 ((k % 16:Nat):Int)]++tl 42 g)∧Y.2.1=h) (R:=fun _=>False)
  (fun m Y=>∃ j:Nat,j≤k % 16∧m=k % 16-j∧(∃ g,Y.1=[a,.int .i64 (k:Nat),undef,undef,Zn,v,.int .u32 ((2^j:Nat):Int),.int .i64 (j:Nat)]++tl 42 g)∧Y.2.1=h) ?_ (n:=k % 16) ⟨0,by omega,by omega,⟨g,rfl⟩,rfl⟩
 rintro m ⟨t,h',s⟩ ⟨j,hj,hm,⟨g,ht⟩,hh⟩;simp only at ht hh;subst ht hh;by_cases hlt:j<k % 16
 ·refine (Zc (Zh Zd Zy) (ZuD a v k _ j h' g) (Zj (by rw[em];exact Xa (by omega)) (Zu rfl))).mono fun e z hz=> ?_;obtain⟨rfl,⟨g',z1⟩,z2⟩:=hz;have hp:2^j≤32768:=by
   have:=Nat.pow_le_pow_right (show 0<2 by omega) (show j≤15 by omega);omega
  have e1:u32.wrap (2*((2^j:Nat):Int))=((2^(j+1):Nat):Int):=by
   rw[Nat.pow_succ];generalize 2^j=Q at hp ⊢;rw[zt (by omega) (by omega)];omega
  have e2:i64.wrap ((j:Int)+1)=((j+1:Nat):Int):=by rw[Zw (by omega) (by omega)];omega
  exact⟨k % 16-(j+1),by omega,j+1,by omega,rfl,⟨g',by rw[z1,e1,e2]⟩,z2⟩
 ·have hj':j=k % 16:=by omega
  subst hj';refine (Zc (Zh Zd Zy) (ZuE a v k _ _ h' g) (Zj (by rw[em];exact Xb (by omega)) (Zu rfl))).mono fun e z hz=> ?_;obtain⟨rfl,⟨g',z1⟩,z2⟩:=hz;exact⟨rfl,⟨g',z1⟩,z2⟩
theorem Zg6 {L M:List Int}{k c:Nat}(hk:k=L.length) (hc:k=c) (hM:0<M.length) (hb:L.length+M.length≤1073741824):Zdq (wU L,tU) (wU M,tU) k c 0 M.length=true:=by
 subst hc;subst hk;unfold Zdq;simp only[Xh,Bool.not_eq_true',Zak];refine⟨⟨⟨⟨⟨⟨⟨⟨Nat.beq_refl _,Nat.ble_eq_true_of_le hb⟩,by kernel_rfl⟩,Zl.2 (by unfold zo;omega)⟩,?_⟩,by kernel_rfl⟩,Nat.ble_eq_true_of_le (by omega)⟩,Zl.2 hM⟩,?_⟩
 ·cases h:Nat.ble (L.length+M.length) L.length
  ·rfl
  ·have:=Nat.le_of_ble_eq_true h;omega
 ·rw[List.drop_zero,← Zak,List.take_length];exact Zi2 M
theorem ZzB {e x P:Nat}(he:e<P) (hx:x<65536) (hP:P≤32768):cy e x P=((e+x*P:Nat):Int)∧e+x*P<65536*P:=by
 have h1:x*P≤65535*P:=Nat.mul_le_mul_right P (by omega);have e1:(x:Int)*(P:Int)=((x*P:Nat):Int):=by simp
 unfold cy;rw[e1,zt (n:=((x*P:Nat):Int)) (by omega) (by omega),zt (by omega) (by omega)];omega
theorem Zqx {O:List Int}{z i e x P W:Nat}(hO:O.length=z+i) (h:vb 65536 O+65536^(z+i)*e=65536^z*(P*W)):
  vb 65536 (O++[(((e+x*P) % 65536:Nat):Int)])+65536^(z+(i+1))*((e+x*P)/65536)=65536^z*(P*(W+65536^i*x)):=by
 rw[ZcZ,Xg,hO,← Nat.add_assoc,Nat.pow_succ,Nat.mul_assoc];have e0:=Nat.mod_add_div (e+x*P) 65536;have e1:65536^(z+i)*((e+x*P) % 65536)+65536^(z+i)*(65536*((e+x*P)/65536))=65536^(z+i)*e+65536^(z+i)*(x*P):=by rw[← Nat.mul_add,e0,Nat.mul_add]
 have e2:65536^z*(P*(W+65536^i*x))=65536^z*(P*W)+65536^(z+i)*(x*P):=by
  rw[Nat.mul_add P,Nat.mul_add (65536^z),Nat.pow_add];congr 1;rw[Nat.mul_assoc (65536^z),Nat.mul_comm x P,Nat.mul_left_comm P]
 omega
section
variable {l : List Value} {o c : Nat} {A : List Int}
def hSt (l:List Value) (o c n z i P e:Nat) (j1 j7:Value) (O:List Int) (Y:Lf):Prop:=
 (i=0∧(∃ g,Y.1=[sl 0 o n c,j1,undef,undef,Zn,sl 1 0 z z,.int .u32 (P:Nat),j7,.int .u32 (e:Nat),.int .i64 (i:Nat)]++tl 40 g)∨(0<i∧∃ g,Y.1=[sl 0 o n c,j1,undef,undef,Zn,sl 1 0 (z+i) grown,.int .u32 (P:Nat),j7,.int .u32 (e:Nat),.int .i64 (i:Nat)]++tl 40 g))∧Y.2.1=⟨2,[(wU O,tU),(l,tR)]⟩
theorem Zki (hR:Row l o A) (hs:∀ v∈l,still v=true) (hA:∀ x∈A,Dg 65536 x) {z i P e:Nat}{O:List Int}(hO:O.length=z+i) (he:e<P) (hP:P≤32768) (hi:i<A.length) (hz:z+A.length+2<1073741824) {j1 j7:Value}(w1:lt 2 j1=true∧rn (zK 1 3) j1=j1) (w7:lt 2 j7=true∧rn (zK 1 3) j7=j7) {Y:Lf}(hY:hSt l o c A.length z i P e j1 j7 O Y):
  RunsW (Zk prog Zf Zo hcV) (sL2 f36) Y fun ex W=>ex=none∧(∃ g,W.1=[sl 0 o A.length c,j1,undef,undef,Zn,sl 1 0 (z+(i+1)) grown,.int .u32 (P:Nat),j7,.int .u32 (((e+dgN A i*P)/65536:Nat):Int),.int .i64 ((i+1:Nat):Int)]++tl 40 g)∧W.2.1=⟨2,[(wU (O++[(((e+dgN A i*P) % 65536:Nat):Int)]),tU),(l,tR)]⟩:=by
 obtain⟨t,h',s⟩:=Y;have hd:=zC hA i;obtain⟨ec,hlt⟩:=ZzB he hd.1 hP;have e1:(cy e (A.getD i 0) P).tmod 65536=(((e+dgN A i*P) % 65536:Nat):Int):=by rw[← hd.2,ec,Zfv]
 have e2:u32.wrap ((cy e (A.getD i 0) P).tdiv 65536)=(((e+dgN A i*P)/65536:Nat):Int):=by rw[← hd.2,ec,Zfw (by omega)]
 have e3:i64.wrap ((i:Int)+1)=((i+1:Nat):Int):=by rw[Zw (by omega) (by omega)];omega
 have hlog:Zx (lAx l o A.length i (A.getD i 0)):=Zj rfl (Zj (by
  show Z4 (l[o+(i:Int).toNat*1]?) _=true;rw[Xg,Nat.mul_one,hR.cell hi];simp [Z4]) (Zj (Xa (by omega)) (Zu (Xa (by omega)))))
 have ew:wU O++[.int .u32 (((e+dgN A i*P) % 65536:Nat):Int)]=wU (O++[(((e+dgN A i*P) % 65536:Nat):Int)]):=by rw[ZU];rfl
 have key:∀ {X:List Value×TypeId},RunsW (Zk prog Zf Zo hcV) (sL2 f36) (t,h',s) (fun ex W=>ex=none∧(∃ g,W.1=[sl 0 o A.length c,j1,undef,undef,Zn,sl 3 0 (z+i+1) grown,.int .u32 (P:Nat),j7,.int .u32 (((e+dgN A i*P)/65536:Nat):Int),.int .i64 ((i+1:Nat):Int)]++tl 40 g)∧W.2.1=⟨4,[(wU (O++[(((e+dgN A i*P) % 65536:Nat):Int)]),tU),([.int .u32 (((e+dgN A i*P) % 65536:Nat):Int)],tU),X,(l,tR)]⟩)→
   RunsW (Zk prog Zf Zo hcV) (sL2 f36) (t,h',s) fun ex W=>ex=none∧(∃ g,W.1=[sl 0 o A.length c,j1,undef,undef,Zn,sl 1 0 (z+(i+1)) grown,.int .u32 (P:Nat),j7,.int .u32 (((e+dgN A i*P)/65536:Nat):Int),.int .i64 ((i+1:Nat):Int)]++tl 40 g)∧W.2.1=⟨2,[(wU (O++[(((e+dgN A i*P) % 65536:Nat):Int)]),tU),(l,tR)]⟩:=fun {X} fin=>
  fin.kept (k:=1) (b:=3) (base:=[(l,tR)]) (y:=(wU (O++[(((e+dgN A i*P) % 65536:Nat):Int)]),tU)) (front':=[sl 0 o A.length c,j1,undef,undef,Zn,sl 1 0 (z+(i+1)) grown,.int .u32 (P:Nat),j7,.int .u32 (((e+dgN A i*P)/65536:Nat):Int),.int .i64 ((i+1:Nat):Int)]) rfl
   (by simp only[List.map_cons,List.map_nil,w1.2,w7.2];kernel_rfl) (fun j x hx=>by
    have hj:j<1:=Hp.blk_lt hx;have hj0:j=0:=by omega
    subst hj0;have hx':x=(l,tR):=(Option.some.inj hx).symm;subst hx';exact⟨rfl,hs⟩) rfl (by omega) (ZE _) (fun v hv=>by
    simp only[List.mem_cons,List.not_mem_nil,or_false] at hv;rcases hv with rfl | rfl | rfl | rfl | rfl | rfl | rfl | rfl | rfl | rfl
    ·rfl
    ·exact w1.1
    ·rfl
    ·rfl
    ·rfl
    ·rfl
    ·rfl
    ·exact w7.1
    ·rfl
    ·rfl)
 obtain⟨hY,hh⟩:=hY;simp only at hY hh;subst hh;rcases hY with ⟨h0,g,ht⟩ | ⟨h0,g,ht⟩
 ·subst ht;have hchk:Zdq (wU O,tU) ([.int .u32 ((cy e (A.getD i 0) P).tmod 65536)],tU) z z 0 1=true:=
   Zg6 (L:=O) (M:=[(cy e (A.getD i 0) P).tmod 65536]) (by omega) rfl (show 0<1 by omega) (by show O.length+1≤_;omega)
  have fin:=Zb (Zh Zd Zy) (s0:=s) (Zqu o A.length c z z P e i (A.getD i 0) l (wU O) j1 j7 g) (Zj hchk hlog);rw[e1,e2,e3,ew] at fin;refine key (X:=(wU O,tU)) (fin.mono fun ex W hW=> ?_);subst h0;exact hW
 ·subst ht;have hchk:Zag tU (wU O,tU) ([.int .u32 ((cy e (A.getD i 0) P).tmod 65536)],tU) (z+i) 0 1=true:=
   Zbf (L:=O) (M:=[(cy e (A.getD i 0) P).tmod 65536]) hO.symm (show 0<1 by omega) (by show O.length+1≤_;omega)
  have fin:=Zb (Zh Zd Zy) (s0:=s) (Zqv o A.length c (z+i) P e i (A.getD i 0) l (wU O) j1 j7 g) (Zj hchk hlog);rw[e1,e2,e3,ew] at fin;exact key (X:=([],2*zo)) fin
def Z8F (l:List Value) (o c z P:Nat) (A:List Int) (j1 j7:Value) (m:Nat) (Y:Lf):Prop:=
 ∃ (i e:Nat) (O:List Int),m=A.length-i∧i≤A.length∧O.length=z+i∧e<P∧(∀ x∈O,Dg 65536 x)∧vb 65536 O+65536^(z+i)*e=65536^z*(P*vb 65536 (A.take i))∧hSt l o c A.length z i P e j1 j7 O Y
def Z4Z (l:List Value) (o c z P:Nat) (A:List Int) (j1 j7:Value) (Y:Lf):Prop:=
 ∃ (e:Nat) (O:List Int),O.length=z+A.length∧e<P∧(∀ x∈O,Dg 65536 x)∧vb 65536 O+65536^(z+A.length)*e=65536^z*(P*vb 65536 A)∧hSt l o c A.length z A.length P e j1 j7 O Y
theorem Zkj (hR:Row l o A) (hs:∀ v∈l,still v=true) (hA:∀ x∈A,Dg 65536 x) {z P:Nat}(h0:0<P) (hP:P≤32768) (hz:z+A.length+2<1073741824) {j1 j7:Value}(w1:lt 2 j1=true∧rn (zK 1 3) j1=j1) (w7:lt 2 j7=true∧rn (zK 1 3) j7=j7) (g:Nat→Value):
  RunsW (Zk prog Zf Zo hcV) (.block 2 (.loop (sL2 f36))) ([sl 0 o A.length c,j1,undef,undef,Zn,sl 1 0 z z,.int .u32 (P:Nat),j7,.int .u32 0,.int .i64 0]++tl 40 g,⟨2,[(zz z,tU),(l,tR)]⟩,[]) fun e Y=>match e with | none=>Z4Z l o c z P A j1 j7 Y | some none=>False | some (some _)=>False:=by
 have ez:zz z=wU (List.replicate z 0):=by unfold zz wU;rw[List.map_replicate]
 have vz:∀ k,vb 65536 (List.replicate k 0)=0:=fun k=>by
  induction k with
  | zero=>rfl
  | succ k ih=>rw[List.replicate_succ];simp [vb,ih]
 refine RunsW.forLoop (P:=Z4Z l o c z P A j1 j7) (R:=fun _=>False) (Z8F l o c z P A j1 j7) ?_ (n:=A.length) ⟨0,0,List.replicate z 0,by omega,by omega,by simp,h0,(fun x hx=>by rw[List.eq_of_mem_replicate hx];exact⟨by omega,by omega⟩),by rw[vz];simp [vb],.inl ⟨rfl,g,rfl⟩,by rw[ez]⟩;rintro m Y ⟨i,e,O,hm,hi,hO,he,hOd,hv,hY⟩;by_cases hlt:i<A.length
 ·have r:=Zki hR hs hA hO he hP hlt hz w1 w7 hY;refine r.mono fun ex W hW=> ?_;obtain⟨rfl,z1,z2⟩:=hW;have hd:=zC hA i;obtain⟨_,hl2⟩:=ZzB he hd.1 hP;refine⟨A.length-(i+1),by omega,i+1,(e+dgN A i*P)/65536,O++[(((e+dgN A i*P) % 65536:Nat):Int)],rfl,by omega,by rw[List.length_append,hO];rfl,Nat.div_lt_of_lt_mul hl2,fun x hx=> ?_,?_,.inr ⟨by omega,z1⟩,z2⟩
  ·rcases List.mem_append.1 hx with hx | hx
   ·exact hOd x hx
   ·rw[List.mem_singleton.1 hx];exact⟨by omega,by omega⟩
  ·have e1:vb 65536 (A.take (i+1))=vb 65536 (A.take i)+65536^i*dgN A i:=Za5 65536 A i;rw[e1];exact Zqx hO hv
 ·have hil:i=A.length:=by omega
  subst hil;rw[List.take_length] at hv;obtain⟨t,h',s⟩:=Y;obtain⟨hY,hh⟩:=hY;simp only at hY hh;subst hh;rcases hY with ⟨h0,g,ht⟩ | ⟨h0,g,ht⟩
  ·subst ht;refine (Zb (Zh Zd Zy) (Zmh _ _ _ _ _ _ _ _ j1 j7 g) (Zu (Xb (by omega)))).mono fun ex W hW=> ?_;obtain⟨rfl,⟨g',z1⟩,z2⟩:=hW;exact⟨rfl,e,O,hO,he,hOd,hv,.inl ⟨h0,g',z1⟩,z2⟩
  ·subst ht;refine (Zb (Zh Zd Zy) (Zmh _ _ _ _ _ _ _ _ j1 j7 g) (Zu (Xb (by omega)))).mono fun ex W hW=> ?_;obtain⟨rfl,⟨g',z1⟩,z2⟩:=hW;exact⟨rfl,e,O,hO,he,hOd,hv,.inr ⟨h0,g',z1⟩,z2⟩
end
theorem Zmi {l:List Value}{o c:Nat}{A:List Int}(hR:Row l o A) (hs:∀ v∈l,still v=true) (hA:∀ x∈A,Dg 65536 x) (h0:0<A.length) {k:Nat}(hk:k/16+A.length+3<1073741824) {V:Nat}(hV:V=vb 65536 A*2^k):
  RunsW (Zk prog Zf Zo hcV) (ZW (sPr f36) (.seq (.seq (sR5 f36) (.block 0 (.loop (sL1 f36)))) (.seq (sR9 f36) (.seq (.seq (Z4Y f36) (.block 2 (.loop (sL2 f36)))) (sEn f36))))) ([sl 0 o A.length c,.int .i64 (k:Nat)]++List.replicate 48 undef,⟨1,[(l,tR)]⟩,[]) fun e z=>(e=none∨e=some none)∧ZV prog f36 z.1 z.2.1=some (sl 3 0 (d16 V).length (d16 V).length)∧∃ r,z.2.1.blk? 3=some (wU (d16 V)++r,tU):=by
 have ek:k16 (k:Int)=((k/16:Nat):Int):=by
  unfold k16;rw[Int.tdiv_eq_ediv_of_nonneg (by omega),Zw (by omega) (by omega)];omega
 have hP:2^(k % 16)≤32768:=by
  have:=Nat.pow_le_pow_right (show 0<2 by omega) (show k % 16≤15 by omega);omega
 have hP0:0<2^(k % 16):=Nat.pow_pos (by omega);have hpk:2^k=65536^(k/16)*2^(k % 16):=by
  rw[Zfz,← Nat.pow_add];congr 1;omega
 refine Zv (Zh Zd Zy) (Zqs o A.length c k (l,tR)) (Zj (by rw[ek];exact Xa (by omega)) (Zu (beq_eq_false_iff_ne.2 (by omega)))) fun g=> ?_;rw[ek,Xg];refine Zg2 (Zb (Zh Zd Zy) (ZuC _ _ k _ g) (fun x hx=>by cases hx)) (fun e y he=>by cases he.1) (P2:=fun e Y=>match e with | none=>(∃ g,Y.1=[sl 0 o A.length c,.int .i64 (k:Nat),undef,undef,Zn,sl 1 0 (k/16) (k/16),.int .u32 ((2^(k % 16):Nat):Int),.int .i64 ((k % 16:Nat):Int)]++tl 42 g)∧Y.2.1=⟨2,[(zz (k/16),tU),(l,tR)]⟩ | some none=>False | some (some _)=>False) ?_ ?_ ?_
 ·rintro⟨t,h',s⟩ ⟨_,⟨g',ht⟩,hh⟩;simp only at ht hh;subst ht hh;exact RunsW.script (Zkh _ _ k _ g').w
 ·intro e y he
  match e,he with
  | none,he=>exact he
  | some id,he=>exact he
 ·rintro⟨t,h',s⟩ ⟨⟨g',ht⟩,hh⟩;simp only at ht hh;subst ht hh;refine RunsW.seq (P1:=fun e Y=>e=none∧(∃ g,Y.1=[sl 0 o A.length c,.int .i64 (k:Nat),undef,undef,Zn,sl 1 0 (k/16) (k/16),.int .u32 ((2^(k % 16):Nat):Int),.int .i64 ((k % 16:Nat):Int),.int .u32 0]++tl 41 g)∧Y.2.1=⟨2,[(zz (k/16),tU),(l,tR)]⟩) (Zb (Zh Zd Zy) (ZuF _ _ k _ _ _ g') (fun x hx=>by cases hx)) ?_ (fun e y he=>by cases he.1);rintro⟨t,h',s⟩ ⟨_,⟨g',ht⟩,hh⟩;simp only at ht hh;subst ht hh;refine Zg2 (Zb (Zh Zd Zy) (Zqt _ _ k _ _ _ g') (fun x hx=>by cases hx)) (fun e y he=>by cases he.1) (P2:=fun e Y=>match e with | none=>Z4Z l o c (k/16) (2^(k % 16)) A (.int .i64 (k:Nat)) (.int .i64 ((k % 16:Nat):Int)) Y | some none=>False | some (some _)=>False) ?_ ?_ ?_
  ·rintro⟨t,h',s⟩ ⟨_,⟨g',ht⟩,hh⟩;simp only at ht hh;subst ht hh;exact RunsW.script (Zkj hR hs hA hP0 hP (by omega) ⟨rfl,rfl⟩ ⟨rfl,rfl⟩ g')
  ·intro e y he
   match e,he with
   | none,he=>exact he
   | some id,he=>exact he
  ·rintro⟨t,h',s⟩ ⟨e,O,hO,he,hOd,hv,hY,hh⟩;simp only at hY hh;subst hh;rcases hY with ⟨e0,_⟩ | ⟨_,g',ht⟩
   ·omega
   ·subst ht;have hOd':∀ x∈O++[(e:Int)],Dg 65536 x:=fun x hx=>by
     rcases List.mem_append.1 hx with hx | hx
     ·exact hOd x hx
     ·rw[List.mem_singleton.1 hx];exact⟨by omega,by omega⟩
    have hlen:(O++[(e:Int)]).length=k/16+A.length+1:=by rw[List.length_append,hO];rfl
    have ew:wU O++[.int .u32 (e:Int)]=wU (O++[(e:Int)]):=by rw[ZU];rfl
    have hval:vb 65536 (O++[(e:Int)])=V:=by
     rw[ZcZ,hO,Xg,hv,hV,hpk,Nat.mul_comm (vb 65536 A),Nat.mul_assoc]
    have hrow:ZaQ tU (wU (O++[(e:Int)])) 0 (k/16+A.length+1) grown=true:=by
     rw[← hlen];exact Zal (fun x hx=>⟨(hOd' x hx).1,by have:=(hOd' x hx).2;omega⟩) (by omega) (ZyJ _)
    have hchk:Zag tU (wU O,tU) ([.int .u32 (e:Int)],tU) (k/16+A.length) 0 1=true:=
     Zbf (L:=O) (M:=[(e:Int)]) hO.symm (show 0<1 by omega) (by show O.length+1≤_;omega)
    refine (Zb (Zh Zd Zy) (Zqw _ (k/16+A.length) _ e _ (l,tR) (wU O) _ _ g') (by rw[ew];exact Zj hrow (Zu hchk))).mono fun ex W hW=> ?_;rw[ew] at hW;obtain⟨rfl,⟨g2,z1⟩,z2⟩:=hW;have et:Zi (Zz (wU (O++[(e:Int)])) 0 (k/16+A.length+1))=(d16 V).length:=by
     rw[← hlen,ZaV,Zaj (by omega) hOd',hval];rfl
    refine⟨.inr rfl,?_,?_⟩
    ·rw[z1,z2,et];rfl
    ·rw[z2];refine⟨wU ((O++[(e:Int)]).drop (Zi (O++[(e:Int)]))),?_⟩;have e3:wU (d16 V)++wU ((O++[(e:Int)]).drop (Zi (O++[(e:Int)])))=wU (O++[(e:Int)]):=by
      unfold d16;rw[← hval,← zf (by omega) _ hOd',← ZU,List.take_append_drop]
     rw[e3];rfl
def Zqy:Zae:=fun vals h s=>
 match vals,s with
 | [.slice p n c,.int .i64 k],.inr (.inr (.inr (.inl d)))::s'=>
  match d with
  | true=>Zda (vO h p n*2^k.toNat) h s' [(zx h p n c && dgB (Zm h p n) && Nat.blt (k.toNat/16+n+3) 1073741824 && decide (0≤k),true),(decide (0<n),true)]
  | false=>some (Zn,h,s',[(zx h p n c,true),(decide (0<n),false)])
 | _,_=>none
theorem Zf1:Z6 36 Zqy:=by
 intro vals h s v h' s' lg hg hl m B w E hv;unfold Zqy at hg;split at hg
 ·rename_i p n c k d s2;split at hg
  ·unfold Zda at hg;cases hg;have q1:=hl _ (Xe);have q2:=hl _ (Xd _ Xf);simp only[Xh,Xi] at q1 q2;obtain⟨⟨⟨r1,r2⟩,r3⟩,r4⟩:=q1;have r2:=Zbu r2;have r3:=Zl.1 r3;obtain⟨K,rfl⟩:=Int.eq_ofNat_of_zero_le r4;rw[Xg] at r3 ⊢;rcases ZC r1 with ⟨rfl,rfl,rfl,e0⟩ | ⟨b,o,x,rfl,hx,t1,t2,e0⟩
   ·omega
   ·rw[e0] at r2;obtain⟨h1,h2,h3,h4,h5,h6,h7⟩:=zj t1;have ev:vO h (some ⟨b,o,none⟩) n=vb 65536 (Zz x.1 o n):=by unfold vO;rw[e0]
    have r:=Zmi (c:=c) h1 t2 r2 (by rw[h2];exact q2) (k:=K) (by rw[h2];exact r3) rfl;rw[h2] at r;rw[ev];exact ZI (T:=Zk prog Zf Zo hcV) func36 Zmf (ZaH h7) (vals:=[sl 0 o n c,.int .i64 (K:Nat)]) (fun v hv=>by
     simp only[List.mem_cons,List.not_mem_nil,or_false] at hv;rcases hv with rfl | rfl<;>rfl) (k:=3) (cs:=wU (d16 (vb 65536 (Zz x.1 o n)*2^K))) (ty:=tU) (ZaX _) (by kernel_rfl) r (by rfl) E (s:=fun _=>b) (zS hx h5 h6 rfl)
  ·cases hg;have q1:=hl _ (Xe);have q2:=hl _ (Xd _ Xf);simp only[decide_eq_false_iff_not] at q1 q2;have hn:n=0:=by omega
   subst hn;obtain⟨x,p',a,NA,eA,fA⟩:=Zb0 0 q1;have hr:Runs (Zk prog Zf Zo hcV) (Zs f36) ([.slice p' 0 c,.int .i64 k]++List.replicate 48 undef,⟨1,[x]⟩,[]) fun e z=>(e=none∨e=some none)∧ZV prog f36 z.1 z.2.1=some Zn:=by
    refine (Zc (Zh Zd Zy) (Zmg p' 0 c _ _) (Zu rfl)).mono fun e z he=> ?_;obtain⟨rfl,⟨g,e2⟩,e3⟩:=he;refine⟨.inr rfl,?_⟩;rw[e2,e3];rfl
   have b1:∀ {i:Nat}{z:List Value×TypeId},(⟨1,[x]⟩:Hp).blk? i=some z→i=0∧z=x:=fun {i z} hz=>by
    have:i<1:=Hp.blk_lt hz;have hi:i=0:=by omega
    subst hi;exact⟨rfl,(Option.some.inj hz).symm⟩
   have:=ZB (T:=Zk prog Zf Zo hcV) func36 Zkg (h0:=⟨1,[x]⟩) ⟨rfl,fun b z hz=>by obtain⟨_,rfl⟩:=b1 hz;exact⟨NA.ros.1,NA.lt0,NA.ros.2⟩⟩ (vals:=[.slice p' 0 c,.int .i64 k]) (fun v hv=>by
    simp only[List.mem_cons,List.not_mem_nil,or_false] at hv;rcases hv with rfl | rfl
    ·exact NA.lt (by show 0<1;omega)
    ·rfl) (v:=Zn) (by rfl) hr.w E (s:=fun _=>a) (fun i z hz ht=>by obtain⟨_,rfl⟩:=b1 hz;exact fA ht)
   simp only[List.map_cons,List.map_nil] at this;rw[eA _ rfl] at this;exact this
 ·cases hg
end Go.Proofs.YtgefjidphfdhdaaGreatDoor
namespace Go.Nt
set_option maxRecDepth 100000
theorem Zh3:∀ (i V:Nat),((db 65536 V).getD i 0).toNat=V/65536^i % 65536
 | i,V=>by
  by_cases hV:V=0
  ·rw[hV,zc];simp
  ·rw[ZaU (by omega) hV];cases i with
   | zero=>simp;omega
   | succ i=>
    have:=Zh3 i (V/65536);rw[List.getD_cons_succ,this,Nat.div_div_eq_div_mul,Nat.pow_succ,Nat.mul_comm (65536^i)]
theorem Z5a {c:Nat}(h:c<4294967296):c/65536 % 65536*65536+c % 65536=c:=by omega
theorem ZuG {v:Nat}(h:v<281474976710656):v/4294967296 % 65536*4294967296+v/65536 % 65536*65536+v % 65536=v:=by
 have h1:v/4294967296<65536:=by omega
 have h2:v/4294967296=v/65536/65536:=by rw[Nat.div_div_eq_div_mul]
 rw[Nat.mod_eq_of_lt h1,h2];omega
theorem Z5b {v:Nat}(h:v<4294967296):v/65536 % 65536*4294967296+v % 65536*65536+0=v*65536:=by omega
def Zqz (V n:Nat):Nat:=(V/65536^n % 65536)*4294967296+(V/65536^(n-1) % 65536)*65536+(if 2≤n then V/65536^(n-2) % 65536 else 0)
def Zpd (B n:Nat):Nat:=(B/65536^(n-1) % 65536)*65536+(if 2≤n then B/65536^(n-2) % 65536 else 0)
theorem ZzC {V B n:Nat}(hn:1≤n) (h0:65536^(n-1)≤B) (h1:B<65536^n) (hV:V<65536*B):0<Zpd B n∧Zpd B n<4294967296∧Zqz V n<281474976710656∧V/B≤Zqz V n/Zpd B n∧V/B<65536:=by
 have hp:0<65536^(n-1):=Nat.pow_pos (by omega);have hB:0<B:=by omega
 have hd:V/B<65536:=by rw[Nat.div_lt_iff_lt_mul hB];exact hV
 have b1:Zpd B n<4294967296:=by
  have:=Nat.mod_lt (B/65536^(n-1)) (show 0<65536 by omega);have:=Nat.mod_lt (B/65536^(n-2)) (show 0<65536 by omega);unfold Zpd;split<;>omega
 have b2:Zqz V n<281474976710656:=by
  have:=Nat.mod_lt (V/65536^n) (show 0<65536 by omega);have:=Nat.mod_lt (V/65536^(n-1)) (show 0<65536 by omega);have:=Nat.mod_lt (V/65536^(n-2)) (show 0<65536 by omega);unfold Zqz;split<;>omega
 by_cases h2:2≤n
 ·obtain⟨k,rfl⟩:∃ k,n=k+2:=⟨n-2,by omega⟩;have e1:k+2-1=k+1:=by omega
  have e2:k+2-2=k:=by omega
  rw[e1] at h0;unfold Zqz Zpd at*;rw[e1,e2,if_pos h2] at*;rw[if_pos h2] at*;have hw:0<65536^k:=Nat.pow_pos (by omega);have dv:∀ x j:Nat,x/65536^(k+j)=x/65536^k/65536^j:=fun x j=>by rw[Nat.pow_add,Nat.div_div_eq_div_mul]
  rw[dv V 2,dv V 1,dv B 1] at*;have p1:(65536:Nat)^1=65536:=rfl;have p2:(65536:Nat)^2=4294967296:=rfl;rw[p1,p2] at*;have hBw:B/65536^k<4294967296:=by
   rw[Nat.div_lt_iff_lt_mul hw];have:65536^(k+2)=4294967296*65536^k:=by rw[Nat.pow_add,p2,Nat.mul_comm]
   omega
  have hBl:65536≤B/65536^k:=by
   rw[Nat.le_div_iff_mul_le hw];have:65536^(k+1)=65536*65536^k:=by rw[Nat.pow_add,p1,Nat.mul_comm]
   omega
  have hVw:V/65536^k<281474976710656:=by
   rw[Nat.div_lt_iff_lt_mul hw];have:65536^(k+2)=4294967296*65536^k:=by rw[Nat.pow_add,p2,Nat.mul_comm]
   omega
  have hm:V/B*(B/65536^k)≤V/65536^k:=by
   rw[Nat.le_div_iff_mul_le hw,Nat.mul_assoc];have h3:B/65536^k*65536^k≤B:=Nat.div_mul_le_self _ _;have h4:=Nat.mul_le_mul_left (V/B) h3;have h5:=Nat.div_mul_le_self V B;omega
  generalize V/65536^k=v at*;generalize B/65536^k=c at*;have ec:=Z5a hBw;have ev:=ZuG hVw;rw[ec,ev];have hc:0<c:=Nat.lt_of_lt_of_le (by decide) hBl;refine⟨hc,hBw,hVw,?_,hd⟩;rw[Nat.le_div_iff_mul_le hc];exact hm
 ·have e:n=1:=by omega
  subst e;unfold Zqz Zpd at*;rw[if_neg h2] at*;rw[if_neg h2] at*;have p1:(65536:Nat)^1=65536:=rfl;have p0:(65536:Nat)^(1-1)=1:=rfl;rw[p1] at*;rw[p0] at*;rw[Nat.div_one] at*;rw[Nat.div_one] at*;have hB1:B<65536:=h1;have hV1:V<4294967296:=Nat.lt_of_lt_of_le hV (Nat.mul_le_mul_left 65536 (Nat.le_of_lt hB1));have eB:B % 65536*65536+0=B*65536:=by rw[Nat.mod_eq_of_lt hB1,Nat.add_zero]
  have eV:=Z5b hV1;rw[eB,eV];rw[eB] at b1;rw[eV] at b2;refine⟨Nat.mul_pos hB (by decide),b1,b2,?_,hd⟩;rw[Nat.mul_div_mul_right _ _ (by decide)];exact Nat.le_refl _
theorem ZzD {L:List Int}(hC:Zbq 65536 L) (h:1≤L.length):65536^(L.length-1)≤vb 65536 L:=by
 rcases Nat.lt_or_ge (vb 65536 L) (65536^(L.length-1)) with h1 | h1
 ·have:=Zbt (b:=65536) (by omega) _ _ h1;rw[Zi1 (by omega) hC] at this;omega
 ·exact h1
theorem Zf2 {L:List Int}{i:Nat}(h:i<L.length):vb 65536 (L.drop i)=(L.getD i 0).toNat+65536*vb 65536 (L.drop (i+1)):=by
 rw[List.drop_eq_getElem_cons h];simp only[vb];simp [List.getD,List.getElem?_eq_getElem h]
end Go.Nt
