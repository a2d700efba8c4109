/-
  ConV6, ConV7, NumL, ConV8, ConVK, Row, RowS, SlN, NumSl, NumTm, ConNM, ConNN
-/
import Derived.Test.YtjlponbdflkbjaaGreatDoorG08
import Derived.Test.YtjlponbdflkbjaaGreatDoorG07
import Derived.Test.YtjlponbdflkbjaaGreatDoorG05
import Derived.Test.YtjlponbdflkbjaaGreatDoorG04
import Derived.WalkKit
import Derived.ProofKit
import Derived.OpenShut
import Derived.Laws.IdiomArrays
import Derived.Lib.SmallJoins
import Derived.ChangeSlices
import Derived.LaidEql
import Derived.Stop.Asserts
import Derived.RowKitTokens
import Derived.OneCell
import Derived.Test.YtjlponbdflkbjaaGreatDoorG06
namespace Go.Proofs.YtjlponbdflkbjaaGreatDoor
open Go.Proofs.Tryz
open Go.IntKind
open Go.KRun Go.Nt
set_option maxRecDepth 100000
theorem ZlL:f91.body=some (ZW (Zj9 f91) (.seq (.seq (aR3 f91) (.block 0 (.loop (ZaU f91)))) (ZyR f91))):=by kernel_rfl
theorem ZjG:f91.body=some (Zs f91):=by kernel_rfl
theorem ZpK (a b:Value) (h:Hp):Zg (evL (Zr prog Zf Zn hcV) 100 (Zj9 f91) ([a,b]++List.replicate 33 uZ,h,[]) ⟨[],[],[]⟩) 7 28 none [a,b,uZ,uZ,Zp,Zp,.int .u32 0] h []:=by and_intros<;>kernel_rfl
theorem Zuz (a b:Value) (h:Hp) (g:Nat→Value):Zg (evC (Zr prog Zf Zn hcV) 100 false (aR3 f91) ([a,b,uZ,uZ,Zp,Zp,.int .u32 0]++tl 28 g,h,[]) ⟨[],[],[]⟩) 8 27 none [a,b,uZ,uZ,Zp,Zp,.int .u32 0,.int .i64 0] h []:=by and_intros<;>kernel_rfl
def df (A B:List Int) (k i:Int):Int:=u32.wrap (u32.wrap (u32.wrap (65536+atN A i)-atN B i)-k)
theorem ZpL (p q:Option Addr) (n c n' c':Nat) (k i:Int) (x y:List Value×TypeId) (g:Nat→Value):Zg (evC (Zr prog Zf Zn hcV) 100 false (ZaU f91) ([.slice p n c,.slice q n' c',uZ,uZ,Zp,Zp,.int .u32 k,.int .i64 i]++tl 27 g,hp2 y x,[cmp true,cmp true]) ⟨[],[],[]⟩) 8 27 none [.slice p n c,.slice q n' c',uZ,uZ,Zp,sl 3 0 1 grown,.int .u32 (u32.wrap (1-u32.wrap ((df (Zq (hp2 y x) p n) (Zq (hp2 y x) q n') k i).tdiv 65536))),.int .i64 (i64.wrap (i+1))] ⟨4,[([.int .u32 ((df (Zq (hp2 y x) p n) (Zq (hp2 y x) q n') k i).tmod 65536)],tU),([.int .u32 ((df (Zq (hp2 y x) p n) (Zq (hp2 y x) q n') k i).tmod 65536)],tU),y,x]⟩ [(decide ((65536:Int)=0),false),rP (hp2 y x) q n' c',rP (hp2 y x) p n c,(decide (i<n),true)]:=by and_intros<;>kernel_rfl
theorem ZlM (p q:Option Addr) (n c n' c' z:Nat) (k i:Int) (x y:List Value×TypeId) (lo:List Value) (g:Nat→Value):Zg (evC (Zr prog Zf Zn hcV) 100 false (ZaU f91) ([.slice p n c,.slice q n' c',uZ,uZ,Zp,sl 2 0 z grown,.int .u32 k,.int .i64 i]++tl 27 g,hu3 lo y x,[cmp true,cmp true,at_]) ⟨[],[],[]⟩) 8 27 none [.slice p n c,.slice q n' c',uZ,uZ,Zp,sl 4 0 (z+1) grown,.int .u32 (u32.wrap (1-u32.wrap ((df (Zq (hu3 lo y x) p n) (Zq (hu3 lo y x) q n') k i).tdiv 65536))),.int .i64 (i64.wrap (i+1))] ⟨5,[(lo++[.int .u32 ((df (Zq (hu3 lo y x) p n) (Zq (hu3 lo y x) q n') k i).tmod 65536)],tU),([.int .u32 ((df (Zq (hu3 lo y x) p n) (Zq (hu3 lo y x) q n') k i).tmod 65536)],tU),([],2*za),y,x]⟩ [(Zab tU (lo,tU) ([.int .u32 ((df (Zq (hu3 lo y x) p n) (Zq (hu3 lo y x) q n') k i).tmod 65536)],tU) z 0 1,true),(decide ((65536:Int)=0),false),rP (hu3 lo y x) q n' c',rP (hu3 lo y x) p n c,(decide (i<n),true)]:=by and_intros<;>kernel_rfl
theorem ZpM (p q:Option Addr) (n c n' c':Nat) (v:Value) (k i:Int) (h:Hp) (g:Nat→Value):Zg (evC (Zr prog Zf Zn hcV) 100 false (ZaU f91) ([.slice p n c,.slice q n' c',uZ,uZ,Zp,v,.int .u32 k,.int .i64 i]++tl 27 g,h,[cmp false]) ⟨[],[],[]⟩) 8 27 (some (some 0)) [.slice p n c,.slice q n' c',uZ,uZ,Zp,v,.int .u32 k,.int .i64 i] h [(decide (i<n),false)]:=by and_intros<;>kernel_rfl
theorem ZpN (a b:Value) (z:Nat) (k i:Int) (x y:List Value×TypeId) (lo:List Value) (g:Nat→Value):Zg (evC (Zr prog Zf Zn hcV) 100 false (ZyR f91) ([a,b,uZ,uZ,Zp,sl 2 0 z grown,.int .u32 k,.int .i64 i]++tl 27 g,hu3 lo y x,[]) ⟨[],[],[]⟩) 5 30 (some none) [a,b,uZ,uZ,sl 2 0 (Zl (Zx lo 0 z)) (Zl (Zx lo 0 z))] (hu3 lo y x) [(Zbm tU lo 0 z grown,true)]:=by and_intros<;>kernel_rfl
theorem ZjH (p q:Option Addr) (n c n' c':Nat) (h:Hp):Zg (evC (Zr prog Zf Zn hcV) 100 false (Zs f91) ([.slice p n c,.slice q n' c']++List.replicate 33 uZ,h,[cmp false]) ⟨[],[],[]⟩) 5 30 (some none) [.slice p n c,.slice q n' c',uZ,uZ,Zp] h [(decide ((0:Int)<n),false)]:=by and_intros<;>kernel_rfl
def dfN (A B:List Int) (k i:Nat):Nat:=65536+dgN A i-dgN B i-k
theorem Z0c {A B:List Int}(hA:∀ x∈A,Dg 65536 x) (hB:∀ x∈B,Dg 65536 x) {k:Nat}(hk:k≤1) (i:Nat):df A B k i=((dfN A B k i:Nat):Int)∧dfN A B k i<131072∧dfN A B k i+dgN B i+k=65536+dgN A i:=by
 have h1:=zy hA i;have h2:=zy hB i;unfold df dfN;rw[Zaq,Zaq,← h1.2,← h2.2,zk (n:=65536+_) (by omega) (by omega),zk (n:=65536+_-_) (by omega) (by omega),zk (by omega) (by omega)];omega
theorem Z0d {d:Nat}(h:d<131072):u32.wrap (1-u32.wrap ((d:Int).tdiv 65536))=((1-d/65536:Nat):Int):=by
 rw[Zf1 (by omega),zk (by omega) (by omega)];omega
section
variable {x y : List Value × TypeId} {p q : Option Addr} {n c n' c' : Nat} {A B : List Int}
theorem ZjI (NA:Nu 0 x p n c A) (NB:Nu 1 y q n' c' B) (hA:∀ x∈A,Dg 65536 x) (hB:∀ x∈B,Dg 65536 x) {k i:Nat}{O:List Int}(hk:k≤1) (hi:i<1073741823) (hO:O.length=i) (hgo:i<n) {Y:Lf}
  (hY:(i=0∧k=0∧(∃ g,Y.1=[.slice p n c,.slice q n' c',uZ,uZ,Zp,Zp,.int .u32 (k:Nat),.int .i64 (i:Nat)]++tl 27 g)∧Y.2.1=hp2 y x)∨(0<i∧(∃ g,Y.1=[.slice p n c,.slice q n' c',uZ,uZ,Zp,sl 2 0 i grown,.int .u32 (k:Nat),.int .i64 (i:Nat)]++tl 27 g)∧Y.2.1=hu3 (wU O) y x)):
  RunsW (Zr prog Zf Zn hcV) (ZaU f91) Y fun e z=>e=none∧(∃ g,z.1=[.slice p n c,.slice q n' c',uZ,uZ,Zp,sl 2 0 (i+1) grown,.int .u32 ((1-dfN A B k i/65536:Nat):Int),.int .i64 ((i+1:Nat):Int)]++tl 27 g)∧z.2.1=hu3 (wU (O++[((dfN A B k i % 65536:Nat):Int)])) y x:=by
 obtain⟨t,h',s⟩:=Y;obtain⟨es,hlt,_⟩:=Z0c hA hB hk i;have e1:(df A B k i).tmod 65536=((dfN A B k i % 65536:Nat):Int):=by rw[es,Zf0]
 have e2:u32.wrap (1-u32.wrap ((df A B k i).tdiv 65536))=((1-dfN A B k i/65536:Nat):Int):=by rw[es,Z0d hlt]
 have e3:i64.wrap ((i:Int)+1)=((i+1:Nat):Int):=by rw[Zw (by omega) (by omega)];omega
 have hl:decide ((i:Int)<(n:Nat))=true:=dT (by omega);rcases hY with ⟨h0,k0,⟨g,ht⟩,hh⟩ | ⟨h0,⟨g,ht⟩,hh⟩
 ·simp only at ht hh;subst ht hh;have r0:=NA.row (hp2 y x) rfl;have r1:=NB.row (hp2 y x) rfl;have fin:=Ze (Zh Zd Zu) (s0:=s) (ZpL p q n c n' c' k i x y g) (okW rfl (okW r1.1 (okW r0.1 (Zt hl))));have hO':O=[]:=List.length_eq_zero_iff.1 (by omega);rw[r0.2,r1.2,e1,e2,e3] at fin;have:=fin.kept (k:=2) (b:=3) (base:=[y,x]) (y:=([.int .u32 ((dfN A B k i % 65536:Nat):Int)],tU)) (front':=[.slice p n c,.slice q n' c',uZ,uZ,Zp,sl 2 0 1 grown,.int .u32 ((1-dfN A B k i/65536:Nat):Int),.int .i64 ((i+1:Nat):Int)]) rfl
   (by simp only[List.map_cons,List.map_nil,NA.rn (f:=zA 2 3) rfl,NB.rn (f:=zA 2 3) rfl];kernel_rfl) (Zc3 NA NB rfl rfl) rfl (by omega) (fun v hv=>by rw[List.mem_singleton.1 hv];rfl) (fun v hv=>by
    simp only[List.mem_cons,List.not_mem_nil,or_false] at hv;rcases hv with rfl | rfl | rfl | rfl | rfl | rfl | rfl | rfl
    ·exact NA.lt (by omega)
    ·exact NB.lt (by omega)
    all_goals rfl)
  refine this.mono fun e z hz=> ?_;obtain⟨rfl,⟨g',q1⟩,q2⟩:=hz;subst hO' h0;exact⟨rfl,⟨g',q1⟩,q2⟩
 ·simp only at ht hh;subst ht hh;have r0:=NA.row (hu3 (wU O) y x) rfl;have r1:=NB.row (hu3 (wU O) y x) rfl;have hchk:Zab tU (wU O,tU) ([.int .u32 ((df A B k i).tmod 65536)],tU) i 0 1=true:=
   Zba (L:=O) (M:=[(df A B k i).tmod 65536]) hO.symm (show 0<1 by omega) (by show O.length+1≤_;omega)
  have fin:=Ze (Zh Zd Zu) (s0:=s) (ZlM p q n c n' c' i k i x y (wU O) g) (by rw[r0.2,r1.2];exact okW hchk (okW rfl (okW r1.1 (okW r0.1 (Zt hl)))));rw[r0.2,r1.2,e1,e2,e3] at fin;have ew:wU O++[.int .u32 ((dfN A B k i % 65536:Nat):Int)]=wU (O++[((dfN A B k i % 65536:Nat):Int)]):=by rw[ZX];rfl
  rw[ew] at fin;exact fin.kept (k:=2) (b:=4) (base:=[y,x]) (y:=(wU (O++[((dfN A B k i % 65536:Nat):Int)]),tU)) (front':=[.slice p n c,.slice q n' c',uZ,uZ,Zp,sl 2 0 (i+1) grown,.int .u32 ((1-dfN A B k i/65536:Nat):Int),.int .i64 ((i+1:Nat):Int)]) rfl
   (by simp only[List.map_cons,List.map_nil,NA.rn (f:=zA 2 4) rfl,NB.rn (f:=zA 2 4) rfl];kernel_rfl) (Zc3 NA NB rfl rfl) rfl (by omega) (ZD _) (fun v hv=>by
    simp only[List.mem_cons,List.not_mem_nil,or_false] at hv;rcases hv with rfl | rfl | rfl | rfl | rfl | rfl | rfl | rfl
    ·exact NA.lt (by omega)
    ·exact NB.lt (by omega)
    all_goals rfl)
def sSt (x y:List Value×TypeId) (p q:Option Addr) (n c n' c':Nat) (O:List Int) (i k:Nat) (Y:Lf):Prop:=
 (i=0∧k=0∧(∃ g,Y.1=[.slice p n c,.slice q n' c',uZ,uZ,Zp,Zp,.int .u32 (k:Nat),.int .i64 (i:Nat)]++tl 27 g)∧Y.2.1=hp2 y x)∨(0<i∧(∃ g,Y.1=[.slice p n c,.slice q n' c',uZ,uZ,Zp,sl 2 0 i grown,.int .u32 (k:Nat),.int .i64 (i:Nat)]++tl 27 g)∧Y.2.1=hu3 (wU O) y x)
def Z8O (x y:List Value×TypeId) (p q:Option Addr) (n c n' c':Nat) (A B:List Int) (m:Nat) (Y:Lf):Prop:=
 ∃ (i k:Nat) (O:List Int),O.length=i∧m=n-i∧i≤n∧k≤1∧(∀ x∈O,Dg 65536 x)∧vb 65536 O+vb 65536 (B.take i)=vb 65536 (A.take i)+65536^O.length*k∧sSt x y p q n c n' c' O i k Y
def Z5a (x y:List Value×TypeId) (p q:Option Addr) (n c n' c':Nat) (A B:List Int) (Y:Lf):Prop:=
 ∃ (k:Nat) (O:List Int),O.length=n∧(∀ x∈O,Dg 65536 x)∧vb 65536 O+vb 65536 (B.take n)=vb 65536 A+65536^n*k∧sSt x y p q n c n' c' O n k Y
theorem ZlN (NA:Nu 0 x p n c A) (NB:Nu 1 y q n' c' B) (lA:A.length=n) (hA:∀ x∈A,Dg 65536 x) (hB:∀ x∈B,Dg 65536 x) (hn:n<1073741823) (g:Nat→Value):
  RunsW (Zr prog Zf Zn hcV) (.block 0 (.loop (ZaU f91))) ([.slice p n c,.slice q n' c',uZ,uZ,Zp,Zp,.int .u32 0,.int .i64 0]++tl 27 g,hp2 y x,[]) fun e Y=>match e with | none=>Z5a x y p q n c n' c' A B Y | some none=>False | some (some _)=>False:=by
 refine RunsW.forLoop (P:=Z5a x y p q n c n' c' A B) (R:=fun _=>False) (Z8O x y p q n c n' c' A B) ?_ (n:=n) ⟨0,0,[],rfl,by omega,by omega,by omega,(fun x hx=>by cases hx),by simp [vb],.inl ⟨rfl,rfl,⟨g,rfl⟩,rfl⟩⟩;rintro m Y ⟨i,k,O,hO,hm,hi,hk,hOd,hval,hY⟩;by_cases hgo:i<n
 ·have r:=ZjI NA NB hA hB hk (by omega) hO hgo hY;refine r.mono fun e z hz=> ?_;obtain⟨rfl,z1,z2⟩:=hz;obtain⟨_,hlt,hsum⟩:=Z0c hA hB hk i;refine⟨n-(i+1),by omega,i+1,1-dfN A B k i/65536,O++[((dfN A B k i % 65536:Nat):Int)],by simp [hO],rfl,by omega,by omega,fun x hx=> ?_,?_,.inr ⟨by omega,z1,z2⟩⟩
  ·rcases List.mem_append.1 hx with hx | hx
   ·exact hOd x hx
   ·rw[List.mem_singleton.1 hx];exact⟨by omega,by omega⟩
  ·have ha:vb 65536 (A.take (i+1))=vb 65536 (A.take i)+65536^i*dgN A i:=Zag 65536 A i;have hb:vb 65536 (B.take (i+1))=vb 65536 (B.take i)+65536^i*dgN B i:=Zag 65536 B i;rw[ha,hb,Zda,tN,List.length_append,hO,List.length_singleton,Nat.pow_succ,Nat.mul_assoc];rw[hO] at hval;generalize 65536^i=P at*;have hq:dfN A B k i/65536≤1:=by omega
   have e:dfN A B k i % 65536+dgN B i+k=dgN A i+65536*(1-dfN A B k i/65536):=by omega
   have e':P*(dfN A B k i % 65536)+P*dgN B i+P*k=P*dgN A i+P*(65536*(1-dfN A B k i/65536)):=by rw[← Nat.mul_add,← Nat.mul_add,← Nat.mul_add,e]
   omega
 ·have hin:i=n:=by omega
  subst hin;have hv:vb 65536 O+vb 65536 (B.take i)=vb 65536 A+65536^i*k:=by
   rw[List.take_of_length_le (show A.length≤i by omega),hO] at hval;exact hval
  have out:∀ (v:Value) (h:Hp) (g:Nat→Value) (s:List Dec),RunsW (Zr prog Zf Zn hcV) (ZaU f91) ([.slice p i c,.slice q n' c',uZ,uZ,Zp,v,.int .u32 (k:Nat),.int .i64 (i:Nat)]++tl 27 g,h,s) fun e z=>e=some (some 0)∧(∃ g,z.1=[.slice p i c,.slice q n' c',uZ,uZ,Zp,v,.int .u32 (k:Nat),.int .i64 (i:Nat)]++tl 27 g)∧z.2.1=h:=fun v h g s=>
   Ze (Zh Zd Zu) (ZpM p q i c n' c' v k i h g) (Zt (dF (by omega)))
  obtain⟨t,h',s⟩:=Y;rcases hY with ⟨h0,k0,⟨g,ht⟩,hh⟩ | ⟨h0,⟨g,ht⟩,hh⟩
  ·simp only at ht hh;subst ht hh;refine (out Zp _ g s).mono fun e z hz=> ?_;obtain⟨rfl,z1,z2⟩:=hz;exact⟨rfl,k,O,hO,hOd,hv,.inl ⟨h0,k0,z1,z2⟩⟩
  ·simp only at ht hh;subst ht hh;refine (out (sl 2 0 i grown) _ g s).mono fun e z hz=> ?_;obtain⟨rfl,z1,z2⟩:=hz;exact⟨rfl,k,O,hO,hOd,hv,.inr ⟨h0,z1,z2⟩⟩
theorem ZlO (NA:Nu 0 x p n c A) (NB:Nu 1 y q n' c' B) (lA:A.length=n) (hA:∀ x∈A,Dg 65536 x) (hB:∀ x∈B,Dg 65536 x) (hn:n<1073741823) (h0:0<n) (hle:vb 65536 B≤vb 65536 A) {V:Nat}(hV:V=vb 65536 A-vb 65536 B):
  RunsW (Zr prog Zf Zn hcV) (ZW (Zj9 f91) (.seq (.seq (aR3 f91) (.block 0 (.loop (ZaU f91)))) (ZyR f91))) ([.slice p n c,.slice q n' c']++List.replicate 33 uZ,hp2 y x,[]) fun e z=>(e=none∨e=some none)∧ZV prog f91 z.1 z.2.1=some (sl 2 0 (d16 V).length (d16 V).length)∧∃ r,z.2.1.blk? 2=some (wU (d16 V)++r,tU):=by
 refine Z0 (Zh Zd Zu) (ZpK _ _ _) (fun x hx=>by cases hx) fun g=> ?_;refine Zgs (Ze (Zh Zd Zu) (Zuz _ _ _ g) (fun x hx=>by cases hx)) (fun e y he=>by cases he.1) (P2:=fun e Y=>match e with | none=>Z5a x y p q n c n' c' A B Y | some none=>False | some (some _)=>False) ?_ ?_ ?_
 ·rintro⟨t,h',s⟩ ⟨_,⟨g',ht⟩,hh⟩;simp only at ht hh;subst ht hh;exact RunsW.script (ZlN NA NB lA hA hB hn g')
 ·intro e y he
  match e,he with
  | none,he=>exact he
  | some id,he=>exact he
 ·rintro⟨t,h',s⟩ ⟨k,O,hO,hOd,hval,hY⟩;have hv:vb 65536 O=vb 65536 A-vb 65536 B:=by
   have l1:=Zbl (by omega) A hA;have l2:=Zbl (by omega) O hOd;have hsp:vb 65536 B=vb 65536 (B.take n)+65536^(B.take n).length*vb 65536 (B.drop n):=by rw[← Zay,List.take_append_drop]
   rw[lA] at l1;rw[hO] at l2;have hpos:0<65536^n:=Nat.pow_pos (by omega);have hz:65536^(B.take n).length*vb 65536 (B.drop n)=0:=by
    by_cases hb:B.length≤n
    ·rw[List.drop_eq_nil_of_le hb];simp [vb]
    ·have hl:(B.take n).length=n:=by rw[List.length_take];omega
     rw[hl] at hsp ⊢;rcases Nat.eq_zero_or_pos (vb 65536 (B.drop n)) with h | h
     ·rw[h];rfl
     ·have:=Nat.le_mul_of_pos_right (65536^n) h;omega
   have hk:k=0:=by
    rcases Nat.eq_zero_or_pos k with h | h
    ·exact h
    ·have:=Nat.le_mul_of_pos_right (65536^n) h;omega
   subst hk;omega
  rcases hY with ⟨e0,_⟩ | ⟨_,⟨g',ht⟩,hh⟩
  ·omega
  ·simp only at ht hh;subst ht hh;have hrow:Zbm tU (wU O) 0 n grown=true:=by
    rw[← hO];exact Zap (fun x hx=>⟨(hOd x hx).1,by have:=(hOd x hx).2;omega⟩) (by omega) (ZyQ _)
   refine (Ze (Zh Zd Zu) (ZpN _ _ n k n x y (wU O) g') (Zt hrow)).mono fun e z he=> ?_;obtain⟨rfl,⟨g2,e1⟩,e2⟩:=he;have et:Zl (Zx (wU O) 0 n)=(d16 V).length:=by
    rw[← hO,ZaO,Zat (by omega) hOd,hv,← hV];rfl
   refine⟨.inr rfl,?_,?_⟩
   ·rw[e1,e2,et];rfl
   ·rw[e2];refine⟨wU (O.drop (Zl O)),?_⟩;have e3:wU (d16 V)++wU (O.drop (Zl O))=wU O:=by
     unfold d16;rw[hV,← hv,← zj (by omega) _ hOd,← ZX,List.take_append_drop]
    rw[e3];rfl
end
def ZpO:Zad:=fun vals h s=>
 match vals,s with
 | [.slice p n c,.slice q n' c'],.inr (.inr (.inr (.inl d)))::s'=>
  match d with
  | true=>Zde (vO h p n-vO h q n') h s' [(ZT h p q n c n' c' && Nat.ble (vO h q n') (vO h p n),true),(decide (0<n),true)]
  | false=>some (Zp,h,s',[(ZT h p q n c n' c',true),(decide (0<n),false)])
 | _,_=>none
theorem Zio:Z8 91 ZpO:=by
 intro vals h s v h' s' lg hg hl m B w E hv;unfold ZpO at hg;split at hg
 ·rename_i p n c q n' c' d s2;split at hg
  ·unfold Zde at hg;cases hg;have q1:=hl _ (mH);have q2:=hl _ (mN _ mS);simp only[decide_eq_true_eq,Bool.and_eq_true] at q1 q2;obtain⟨q1,q3⟩:=q1;have q3:=Nat.le_of_ble_eq_true q3;obtain⟨r1,r2,d1,d2,hn⟩:=Zc6 q1;obtain⟨x,p',a,NA,eA,fA⟩:=ZbF 0 r1;obtain⟨y,q',b,NB,eB,fB⟩:=ZbF 1 r2;have r:=ZlO NA NB (zK r1) d1 d2 (by omega) q2 q3 rfl;have:=ZE (T:=Zr prog Zf Zn hcV) func91 ZlL (Zc4 NA NB) (vals:=[.slice p' n c,.slice q' n' c']) (fun v hv=>by
    simp only[List.mem_cons,List.not_mem_nil,or_false] at hv;rcases hv with rfl | rfl
    ·exact NA.lt (by show 0<2;omega)
    ·exact NB.lt (by show 1<2;omega)) (k:=2) (cs:=wU (d16 (vO h p n-vO h q n'))) (ty:=tU) (Zbb _) (by kernel_rfl) r (by rfl) E (s:=ZeQ a b) (Zc5 fA fB)
   simp only[List.map_cons,List.map_nil] at this;rw[eA _ rfl,eB _ rfl] at this;exact this
  ·cases hg;have q1:=hl _ (mH);have q2:=hl _ (mN _ mS);simp only[decide_eq_false_iff_not] at q1 q2;obtain⟨r1,r2,d1,d2,hn⟩:=Zc6 q1;obtain⟨x,p',a,NA,eA,fA⟩:=ZbF 0 r1;obtain⟨y,q',b,NB,eB,fB⟩:=ZbF 1 r2;have hr:Runs (Zr prog Zf Zn hcV) (Zs f91) ([.slice p' n c,.slice q' n' c']++List.replicate 33 uZ,hp2 y x,[]) fun e z=>(e=none∨e=some none)∧ZV prog f91 z.1 z.2.1=some Zp:=by
    refine (Zb (Zh Zd Zu) (ZjH p' q' n c n' c' _) (Zt (dF (by omega)))).mono fun e z he=> ?_;obtain⟨rfl,⟨g,e2⟩,e3⟩:=he;refine⟨.inr rfl,?_⟩;rw[e2,e3];rfl
   have:=ZB (T:=Zr prog Zf Zn hcV) func91 ZjG (Zc4 NA NB) (vals:=[.slice p' n c,.slice q' n' c']) (fun v hv=>by
    simp only[List.mem_cons,List.not_mem_nil,or_false] at hv;rcases hv with rfl | rfl
    ·exact NA.lt (by show 0<2;omega)
    ·exact NB.lt (by show 1<2;omega)) (v:=Zp) (by rfl) hr.w E (s:=ZeQ a b) (Zc5 fA fB)
   simp only[List.map_cons,List.map_nil] at this;rw[eA _ rfl,eB _ rfl] at this;exact this
 ·cases hg
def ZcR (a b:Nat):Int:=if a<b then -1 else if a=b then 0 else 1
theorem Zip (b:Nat) (L:List Int) (k:Nat):vb b L=vb b (L.take k)+b^k*vb b (L.drop k):=by
 by_cases h:k≤L.length
 ·have e:(L.take k).length=k:=by rw[List.length_take];omega
  have:=Zay b (L.take k) (L.drop k);rw[List.take_append_drop,e] at this;exact this
 ·rw[List.take_of_length_le (by omega),List.drop_eq_nil_of_le (by omega)];simp [vb]
theorem Zcj {L:List Int}(k:Nat):vb 65536 (L.drop k)=dgN L k+65536*vb 65536 (L.drop (k+1)):=by
 by_cases h:k<L.length
 ·rw[List.drop_eq_getElem_cons h];simp only[vb,dgN];rw[Zil h]
 ·rw[List.drop_eq_nil_of_le (by omega),List.drop_eq_nil_of_le (by omega),Zee (by omega)];rfl
theorem ZlP {L:List Int}(h:∀ x∈L,Dg 65536 x) (k:Nat):vb 65536 (L.take k)<65536^k:=by
 have h1:=Zbl (b:=65536) (by omega) (L.take k) (fun x hx=>h x (List.mem_of_mem_take hx));have h2:(L.take k).length≤k:=by rw[List.length_take];omega
 exact Nat.lt_of_lt_of_le h1 (Nat.pow_le_pow_right (by omega) h2)
theorem ZlQ {A B:List Int}(hA:∀ x∈A,Dg 65536 x) {k:Nat}(he:vb 65536 (A.drop (k+1))=vb 65536 (B.drop (k+1))) (hd:dgN A k<dgN B k):vb 65536 A<vb 65536 B:=by
 have a1:=Zip 65536 A k;have b1:=Zip 65536 B k;have a2:=ZlP hA k;rw[Zcj,he] at a1;rw[Zcj] at b1;generalize vb 65536 (B.drop (k+1))=D at*;generalize 65536^k=P at*;have h1:P*(dgN A k+65536*D+1)≤P*(dgN B k+65536*D):=Nat.mul_le_mul_left _ (by omega);rw[Nat.mul_add P _ 1,Nat.mul_one] at h1;omega
def Z5b (F:Func):List Code:=[Z2 (Zs F)]
def kR1 (F:Func):Code:=Z2 (Z2 (Zz (Zs F)))
def Zhk (F:Func):Code:=cIn (cIn (Zz (Z2 (Zz (Zs F)))))
def Z5c (F:Func):Code:=Zz (Zz (Zs F))
theorem ZlR:f92.body=some (ZW (Z5b f92) (.seq (.seq (kR1 f92) (.block 0 (.loop (Zhk f92)))) (Z5c f92))):=by kernel_rfl
def mxI (n n':Nat):Int:=i64.wrap ((if (n':Int)>n then (n':Int) else n)-1)
theorem ZpP (a b:Value) (h:Hp):Zg (evL (Zr prog Zf Zn hcV) 100 (Z5b f92) ([a,b]++List.replicate 28 uZ,h,[]) ⟨[],[],[]⟩) 5 25 none [a,b,uZ,uZ,.int .i64 0] h []:=by and_intros<;>kernel_rfl
theorem Zu0 (p q:Option Addr) (n c n' c':Nat) (h:Hp) (g:Nat→Value):Zg (evC (Zr prog Zf Zn hcV) 100 false (kR1 f92) ([.slice p n c,.slice q n' c',uZ,uZ,.int .i64 0]++tl 25 g,h,[]) ⟨[],[],[]⟩) 6 24 none [.slice p n c,.slice q n' c',uZ,uZ,.int .i64 0,.int .i64 (mxI n n')] h []:=by and_intros<;>kernel_rfl
theorem Zu1 (p q:Option Addr) (n c n' c':Nat) (i:Int) (x y:List Value×TypeId) (g:Nat→Value):Zg (evC (Zr prog Zf Zn hcV) 100 false (Zhk f92) ([.slice p n c,.slice q n' c',uZ,uZ,.int .i64 0,.int .i64 i]++tl 24 g,hp2 y x,[cmp true,cmp true]) ⟨[],[],[]⟩) 6 24 (some none) [.slice p n c,.slice q n' c',uZ,uZ,.int .i64 (-1),.int .i64 i] (hp2 y x) [(decide (atN (Zq (hp2 y x) p n) i<atN (Zq (hp2 y x) q n') i),true),rP (hp2 y x) q n' c',rP (hp2 y x) p n c,(decide (i≥0),true)]:=by and_intros<;>kernel_rfl
theorem Zu2 (p q:Option Addr) (n c n' c':Nat) (i:Int) (x y:List Value×TypeId) (g:Nat→Value):Zg (evC (Zr prog Zf Zn hcV) 100 false (Zhk f92) ([.slice p n c,.slice q n' c',uZ,uZ,.int .i64 0,.int .i64 i]++tl 24 g,hp2 y x,[cmp true,cmp false,cmp true]) ⟨[],[],[]⟩) 6 24 (some none) [.slice p n c,.slice q n' c',uZ,uZ,.int .i64 1,.int .i64 i] (hp2 y x) [(decide (atN (Zq (hp2 y x) p n) i>atN (Zq (hp2 y x) q n') i),true),rP (hp2 y x) q n' c',rP (hp2 y x) p n c,(decide (atN (Zq (hp2 y x) p n) i<atN (Zq (hp2 y x) q n') i),false),rP (hp2 y x) q n' c',rP (hp2 y x) p n c,(decide (i≥0),true)]:=by and_intros<;>kernel_rfl
theorem Zu3 (p q:Option Addr) (n c n' c':Nat) (i:Int) (x y:List Value×TypeId) (g:Nat→Value):Zg (evC (Zr prog Zf Zn hcV) 100 false (Zhk f92) ([.slice p n c,.slice q n' c',uZ,uZ,.int .i64 0,.int .i64 i]++tl 24 g,hp2 y x,[cmp true,cmp false,cmp false]) ⟨[],[],[]⟩) 6 24 none [.slice p n c,.slice q n' c',uZ,uZ,.int .i64 0,.int .i64 (i1 i)] (hp2 y x) [(decide (atN (Zq (hp2 y x) p n) i>atN (Zq (hp2 y x) q n') i),false),rP (hp2 y x) q n' c',rP (hp2 y x) p n c,(decide (atN (Zq (hp2 y x) p n) i<atN (Zq (hp2 y x) q n') i),false),rP (hp2 y x) q n' c',rP (hp2 y x) p n c,(decide (i≥0),true)]:=by and_intros<;>kernel_rfl
theorem ZpQ (a b:Value) (i:Int) (h:Hp) (g:Nat→Value):Zg (evC (Zr prog Zf Zn hcV) 100 false (Zhk f92) ([a,b,uZ,uZ,.int .i64 0,.int .i64 i]++tl 24 g,h,[cmp false]) ⟨[],[],[]⟩) 6 24 (some (some 0)) [a,b,uZ,uZ,.int .i64 0,.int .i64 i] h [(decide (i≥0),false)]:=by and_intros<;>kernel_rfl
theorem ZpR (a b:Value) (i:Int) (h:Hp) (g:Nat→Value):Zg (evC (Zr prog Zf Zn hcV) 100 false (Z5c f92) ([a,b,uZ,uZ,.int .i64 0,.int .i64 i]++tl 24 g,h,[]) ⟨[],[],[]⟩) 5 25 (some none) [a,b,uZ,uZ,.int .i64 0] h []:=by and_intros<;>kernel_rfl
section
variable {x y : List Value × TypeId} {p q : Option Addr} {n c n' c' : Nat} {A B : List Int}
def Z5d (p q:Option Addr) (n c n' c':Nat) (A B:List Int) (Y:Lf):Prop:=∃ i g,Y.1=[.slice p n c,.slice q n' c',uZ,uZ,.int .i64 (ZcR (vb 65536 A) (vb 65536 B)),.int .i64 i]++tl 24 g
theorem ZlS (NA:Nu 0 x p n c A) (NB:Nu 1 y q n' c' B) (lA:A.length=n) (lB:B.length=n') (hA:∀ x∈A,Dg 65536 x) (hB:∀ x∈B,Dg 65536 x) (hn:max n n'+2<1073741824) (g:Nat→Value):
  Runs (Zr prog Zf Zn hcV) (.block 0 (.loop (Zhk f92))) ([.slice p n c,.slice q n' c',uZ,uZ,.int .i64 0,.int .i64 (mxI n n')]++tl 24 g,hp2 y x,[]) fun e Y=>match e with | none=>ZcR (vb 65536 A) (vb 65536 B)=0∧∃ i g,Y.1=[.slice p n c,.slice q n' c',uZ,uZ,.int .i64 0,.int .i64 i]++tl 24 g | some none=>Z5d p q n c n' c' A B Y | some (some _)=>False:=by
 have em:mxI n n'=((max n n':Nat):Int)-1:=by
  unfold mxI;split
  ·rw[Zw (by omega) (by omega)];omega
  ·rw[Zw (by omega) (by omega)];omega
 refine Runs.forLoop (P:=fun Y=>ZcR (vb 65536 A) (vb 65536 B)=0∧∃ i g,Y.1=[.slice p n c,.slice q n' c',uZ,uZ,.int .i64 0,.int .i64 i]++tl 24 g) (R:=Z5d p q n c n' c' A B)
  (fun k Y=>k≤max n n'∧vb 65536 (A.drop k)=vb 65536 (B.drop k)∧(∃ g,Y.1=[.slice p n c,.slice q n' c',uZ,uZ,.int .i64 0,.int .i64 ((k:Nat)-1:Int)]++tl 24 g)∧Y.2.1=hp2 y x) ?_ (n:=max n n') ⟨Nat.le_refl _,by rw[List.drop_eq_nil_of_le (by omega),List.drop_eq_nil_of_le (by omega)],⟨g,by rw[em]⟩,rfl⟩
 rintro k ⟨t,h',s⟩ ⟨hk,he,⟨g,ht⟩,hh⟩;simp only at ht hh;subst ht hh;cases k with
 | zero=>
  refine (Zb (Zh Zd Zu) (ZpQ _ _ _ _ g) (Zt (dF (by omega)))).mono fun e z hz=> ?_;obtain⟨rfl,⟨g',z1⟩,z2⟩:=hz;refine⟨rfl,?_,_,g',z1⟩;simp only[List.drop_zero] at he;unfold ZcR;rw[he];simp
 | succ k=>
  have ek:((k+1:Nat):Int)-1=(k:Int):=by omega
  rw[ek];have r0:=NA.row (hp2 y x) rfl;have r1:=NB.row (hp2 y x) rfl;have d1:=zy hA k;have d2:=zy hB k;have hg:decide ((k:Int)≥0)=true:=dT (by omega);by_cases h1:dgN A k<dgN B k
  ·have hlt:=ZlQ hA he h1;refine (Zb (Zh Zd Zu) (Zu1 p q n c n' c' k x y g) (by
    rw[r0.2,r1.2,Zaq,Zaq,← d1.2,← d2.2];exact okW (dT (by omega)) (okW r1.1 (okW r0.1 (Zt hg))))).mono fun e z hz=> ?_
   obtain⟨rfl,⟨g',z1⟩,z2⟩:=hz;refine⟨k,g',?_⟩;rw[z1];unfold ZcR;rw[if_pos hlt]
  ·by_cases h2:dgN B k<dgN A k
   ·have hlt:=ZlQ hB he.symm h2;refine (Zb (Zh Zd Zu) (Zu2 p q n c n' c' k x y g) (by
     rw[r0.2,r1.2,Zaq,Zaq,← d1.2,← d2.2];exact okW (dT (by omega)) (okW r1.1 (okW r0.1 (okW (dF (by omega)) (okW r1.1 (okW r0.1 (Zt hg)))))))).mono fun e z hz=> ?_
    obtain⟨rfl,⟨g',z1⟩,z2⟩:=hz;refine⟨k,g',?_⟩;rw[z1];unfold ZcR;rw[if_neg (by omega),if_neg (by omega)]
   ·refine (Zb (Zh Zd Zu) (Zu3 p q n c n' c' k x y g) (by
     rw[r0.2,r1.2,Zaq,Zaq,← d1.2,← d2.2];exact okW (dF (by omega)) (okW r1.1 (okW r0.1 (okW (dF (by omega)) (okW r1.1 (okW r0.1 (Zt hg)))))))).mono fun e z hz=> ?_
    obtain⟨rfl,⟨g',z1⟩,z2⟩:=hz;have e1:i1 (k:Int)=(k:Int)-1:=by unfold i1;rw[Zw (by omega) (by omega)]
    refine⟨k,by omega,by omega,?_,⟨g',by rw[z1,e1]⟩,z2⟩;rw[Zcj,Zcj (L:=B),he];omega
theorem ZlT (NA:Nu 0 x p n c A) (NB:Nu 1 y q n' c' B) (lA:A.length=n) (lB:B.length=n') (hA:∀ x∈A,Dg 65536 x) (hB:∀ x∈B,Dg 65536 x) (hn:max n n'+2<1073741824):
  Runs (Zr prog Zf Zn hcV) (ZW (Z5b f92) (.seq (.seq (kR1 f92) (.block 0 (.loop (Zhk f92)))) (Z5c f92))) ([.slice p n c,.slice q n' c']++List.replicate 28 uZ,hp2 y x,[]) fun e z=>(e=none∨e=some none)∧ZV prog f92 z.1 z.2.1=some (.int .i64 (ZcR (vb 65536 A) (vb 65536 B))):=by
 refine Zv (Zh Zd Zu) (ZpP _ _ _) (fun x hx=>by cases hx) fun g=> ?_;refine Runs.seq (P1:=fun e Y=>match e with | none=>ZcR (vb 65536 A) (vb 65536 B)=0∧∃ i g,Y.1=[.slice p n c,.slice q n' c',uZ,uZ,.int .i64 0,.int .i64 i]++tl 24 g | some none=>Z5d p q n c n' c' A B Y | some (some _)=>False) (Runs.seq (P1:=fun e Y=>e=none∧(∃ g,Y.1=[.slice p n c,.slice q n' c',uZ,uZ,.int .i64 0,.int .i64 (mxI n n')]++tl 24 g)∧Y.2.1=hp2 y x) (Zb (Zh Zd Zu) (Zu0 p q n c n' c' _ g) (fun x hx=>by cases hx)) ?_ (fun e y he=>by cases he.1)) ?_ ?_
 ·rintro⟨t,h',s⟩ ⟨_,⟨g',ht⟩,hh⟩;simp only at ht hh;subst ht hh;exact Runs.script (ZlS NA NB lA lB hA hB hn g')
 ·rintro⟨t,h',s⟩ ⟨e0,i,g',ht⟩;simp only at ht;subst ht;refine (Zb (Zh Zd Zu) (ZpR _ _ i h' g') (fun x hx=>by cases hx)).mono fun e z hz=> ?_;obtain⟨rfl,⟨g2,z1⟩,z2⟩:=hz;refine⟨.inr rfl,?_⟩;rw[z1,e0];rfl
 ·intro e Y he
  match e,he with
  | none,⟨i,g',h1⟩=>
   refine⟨.inr rfl,?_⟩;rw[h1];rfl
end
def ZlU:Zad:=fun vals h s=>
 match vals with
 | [.slice p n c,.slice q n' c']=>some (.int .i64 (ZcR (vO h p n) (vO h q n')),h,s,[(ZT h p q n c n' c',true)])
 | _=>none
theorem Zf3:Z8 92 ZlU:=by
 intro vals h s v h' s' lg hg hl m B w E hv;unfold ZlU at hg;split at hg
 ·rename_i p n c q n' c';cases hg;have q1:=hl _ mS;simp only at q1;obtain⟨r1,r2,d1,d2,hn⟩:=Zc6 q1;obtain⟨x,p',a,NA,eA,fA⟩:=ZbF 0 r1;obtain⟨y,q',b,NB,eB,fB⟩:=ZbF 1 r2;have r:=ZlT NA NB (zK r1) (zK r2) d1 d2 hn;have:=ZB (T:=Zr prog Zf Zn hcV) func92 ZlR (Zc4 NA NB) (vals:=[.slice p' n c,.slice q' n' c']) (fun v hv=>by
   simp only[List.mem_cons,List.not_mem_nil,or_false] at hv;rcases hv with rfl | rfl
   ·exact NA.lt (by show 0<2;omega)
   ·exact NB.lt (by show 1<2;omega)) (by rfl) r.w E (s:=ZeQ a b) (Zc5 fA fB)
  simp only[List.map_cons,List.map_nil] at this;rw[eA _ rfl,eB _ rfl] at this;exact this
 ·cases hg
end Go.Proofs.YtjlponbdflkbjaaGreatDoor
namespace Go.Nt
def bl (V:Nat):Nat:=if _h:V=0 then 0 else bl (V/2)+1
 termination_by V
 decreasing_by omega
theorem Zdf:bl 0=0:=by rw[bl];simp
theorem ZeW {V:Nat}(h:V≠0):bl V=bl (V/2)+1:=by rw[bl];rw[dif_neg h]
theorem Zu4 (V:Nat):V<2^bl V:=by
 induction V using Nat.strongRecOn with
 | ind V ih=>
  by_cases h:V=0
  ·subst h;rw[Zdf];decide
  ·rw[ZeW h,Nat.pow_succ];have:=ih (V/2) (by omega);omega
theorem Zu5 {V:Nat}(h:V≠0):2^(bl V-1)≤V:=by
 induction V using Nat.strongRecOn with
 | ind V ih=>
  rw[ZeW h,Nat.add_sub_cancel];by_cases h2:V/2=0
  ·rw[h2,Zdf];omega
  ·have i:=ih (V/2) (by omega) h2;have e:bl (V/2)=(bl (V/2)-1)+1:=by
    have:=ZeW h2;omega
   rw[e,Nat.pow_succ];omega
theorem ZlV {V k:Nat}(h0:2^k≤V) (h1:V<2^(k+1)):bl V=k+1:=by
 have hp:0<2^k:=Nat.pow_pos (by omega);have hV:V≠0:=by omega
 have a1:=Zu4 V;have a2:=Zu5 hV;have a3:bl V≠0:=by have:=ZeW hV;omega
 rcases Nat.lt_or_ge (bl V) (k+1) with h | h
 ·have:=Nat.pow_le_pow_right (show 0<2 by omega) (show bl V≤k by omega);omega
 ·rcases Nat.lt_or_ge (k+1) (bl V) with h' | h'
  ·have:=Nat.pow_le_pow_right (show 0<2 by omega) (show k+1≤bl V-1 by omega);omega
  ·omega
theorem ZpS {V k:Nat}(h:V<2^k):bl V≤k:=by
 by_cases hV:V=0
 ·subst hV;rw[Zdf];omega
 ·have a:=Zu5 hV;rcases Nat.lt_or_ge k (bl V) with h' | h'
  ·have:=Nat.pow_le_pow_right (show 0<2 by omega) (show k≤bl V-1 by omega);omega
  ·exact h'
theorem Zf4 (k:Nat):65536^k=2^(16*k):=by rw[show (65536:Nat)=2^16 from rfl,← Nat.pow_mul]
theorem Z0e {t lo k:Nat}(ht:t≠0) (hlo:lo<65536^k):bl (lo+65536^k*t)=16*k+bl t:=by
 have a1:=Zu4 t;have a2:=Zu5 ht;have a3:bl t≠0:=by have:=ZeW ht;omega
 rw[Zf4] at*;have e:16*k+bl t=(16*k+(bl t-1))+1:=by omega
 rw[e];refine ZlV ?_ ?_
 ·rw[Nat.pow_add];have:=Nat.mul_le_mul_left (2^(16*k)) a2;omega
 ·rw[Nat.add_assoc,show bl t-1+1=bl t by omega,Nat.pow_add];have:=Nat.mul_le_mul_left (2^(16*k)) (show t+1≤2^bl t by omega);rw[Nat.mul_add,Nat.mul_one] at this;omega
end Go.Nt
namespace Go.Proofs.YtjlponbdflkbjaaGreatDoor
open Go.Proofs.Tryz
open Go.IntKind
open Go.KRun Go.Nt
set_option maxRecDepth 100000
def nA (F:Func):Code:=Z2 (Zz (Zs F))
def nR3 (F:Func):Code:=Z2 (Zz (Zz (Zs F)))
def nR4 (F:Func):Code:=Z2 (Z2 (Zz (Zz (Zz (Zs F)))))
def nLp (F:Func):Code:=cIn (cIn (Zz (Z2 (Zz (Zz (Zz (Zs F)))))))
def nEn (F:Func):Code:=Zz (Zz (Zz (Zz (Zs F))))
def nPr (F:Func):List Code:=[Z2 (Zs F),nA F,nR3 F]
theorem ZlW:f46.body=some (ZW (nPr f46) (.seq (.seq (nR4 f46) (.block 0 (.loop (nLp f46)))) (nEn f46))):=by kernel_rfl
theorem ZjJ:f46.body=some (Zs f46):=by kernel_rfl
def n16 (n:Nat):Int:=i64.wrap (16*n1 n)
theorem ZpT (o n c:Nat) (h:Hp):Zg (evL (Zr prog Zf Zn hcV) 100 (nPr f46) ([sl 0 o n c]++List.replicate 24 uZ,h,[cmp false]) ⟨[],[],[]⟩) 4 21 none [sl 0 o n c,uZ,.int .i64 0,.int .i64 (n16 n)] h [((n:Int)==0,false)]:=by and_intros<;>kernel_rfl
theorem Zu6 (o n c:Nat) (x:Int) (l:List Value) (v:Value) (g:Nat→Value):Zg (evC (Zr prog Zf Zn hcV) 100 false (nR4 f46) ([sl 0 o n c,uZ,.int .i64 0,v]++tl 21 g,⟨1,[(l,tR)]⟩,[at_,val (.int .u32 x)]) ⟨[],[],[]⟩) 5 20 none [sl 0 o n c,uZ,.int .i64 0,v,.int .u32 x] ⟨1,[(l,tR)]⟩ [(Z5 (l[o+(n1 n).toNat*1]?) (.int .u32 x),true),(decide (0≤n1 n∧n1 n<n),true)]:=by and_intros<;>kernel_rfl
theorem ZlX (p:Option Addr) (n c:Nat) (h:Hp):Zg (evC (Zr prog Zf Zn hcV) 100 false (Zs f46) ([.slice p n c]++List.replicate 24 uZ,h,[cmp true]) ⟨[],[],[]⟩) 3 22 (some none) [.slice p n c,uZ,.int .i64 0] h [((n:Int)==0,true)]:=by and_intros<;>kernel_rfl
theorem Zu7 (a:Value) (n x:Int) (h:Hp) (g:Nat→Value):Zg (evC (Zr prog Zf Zn hcV) 100 false (nLp f46) ([a,uZ,.int .i64 0,.int .i64 n,.int .u32 x]++tl 20 g,h,[cmp true]) ⟨[],[],[]⟩) 5 20 none [a,uZ,.int .i64 0,.int .i64 (i64.wrap (n+1)),.int .u32 (u32.wrap (x.tdiv 2))] h [(decide (x>0),true)]:=by and_intros<;>kernel_rfl
theorem ZpU (a:Value) (n x:Int) (h:Hp) (g:Nat→Value):Zg (evC (Zr prog Zf Zn hcV) 100 false (nLp f46) ([a,uZ,.int .i64 0,.int .i64 n,.int .u32 x]++tl 20 g,h,[cmp false]) ⟨[],[],[]⟩) 5 20 (some (some 0)) [a,uZ,.int .i64 0,.int .i64 n,.int .u32 x] h [(decide (x>0),false)]:=by and_intros<;>kernel_rfl
theorem ZpV (a:Value) (n x:Int) (h:Hp) (g:Nat→Value):Zg (evC (Zr prog Zf Zn hcV) 100 false (nEn f46) ([a,uZ,.int .i64 0,.int .i64 n,.int .u32 x]++tl 20 g,h,[]) ⟨[],[],[]⟩) 3 22 (some none) [a,uZ,.int .i64 n] h []:=by and_intros<;>kernel_rfl
theorem ZlY (a:Value) (n x:Nat) (hn:n+32<4611686018427387904) (hx:x<4294967296) (h:Hp) (g:Nat→Value):
  Runs (Zr prog Zf Zn hcV) (.block 0 (.loop (nLp f46))) ([a,uZ,.int .i64 0,.int .i64 (n:Nat),.int .u32 (x:Nat)]++tl 20 g,h,[]) fun e Y=>match e with | none=>(∃ g,Y.1=[a,uZ,.int .i64 0,.int .i64 ((n+bl x:Nat):Int),.int .u32 0]++tl 20 g)∧Y.2.1=h | some none=>False | some (some _)=>False:=by
 refine Runs.forLoop (P:=fun Y=>(∃ g,Y.1=[a,uZ,.int .i64 0,.int .i64 ((n+bl x:Nat):Int),.int .u32 0]++tl 20 g)∧Y.2.1=h) (R:=fun _=>False)
  (fun k Y=>∃ j:Nat,k≤x∧j+bl k=n+bl x∧(∃ g,Y.1=[a,uZ,.int .i64 0,.int .i64 (j:Nat),.int .u32 (k:Nat)]++tl 20 g)∧Y.2.1=h) ?_ (n:=x) ⟨n,Nat.le_refl _,rfl,⟨g,rfl⟩,rfl⟩
 rintro k ⟨t,h',s⟩ ⟨j,hk,hj,⟨g,ht⟩,hh⟩;simp only at ht hh;subst ht hh;have hb:bl x≤32:=ZpS (by show x<2^32;omega);by_cases h0:k=0
 ·subst h0;refine (Zb (Zh Zd Zu) (ZpU a j 0 h' g) (Zt rfl)).mono fun e z hz=> ?_;obtain⟨rfl,⟨g',z1⟩,z2⟩:=hz;rw[Zdf] at hj;exact⟨rfl,⟨g',by rw[z1,show (n+bl x)=j from by omega]⟩,z2⟩
 ·refine (Zb (Zh Zd Zu) (Zu7 a j k h' g) (Zt (dT (by omega)))).mono fun e z hz=> ?_;obtain⟨rfl,⟨g',z1⟩,z2⟩:=hz;have e1:=ZeW h0;have e2:i64.wrap ((j:Int)+1)=((j+1:Nat):Int):=by rw[Zw (by omega) (by omega)];omega
  have e3:u32.wrap ((k:Int).tdiv 2)=((k/2:Nat):Int):=by rw[Int.tdiv_eq_ediv_of_nonneg (by omega),zk (by omega) (by omega)];omega
  exact⟨k/2,by omega,j+1,by omega,by omega,⟨g',by rw[z1,e2,e3]⟩,z2⟩
theorem ZlZ {l:List Value}{o c:Nat}{L:List Int}(hR:Row l o L) (hC:Zbk 65536 L) (h0:0<L.length) (hn:L.length<1073741824):
  Runs (Zr prog Zf Zn hcV) (ZW (nPr f46) (.seq (.seq (nR4 f46) (.block 0 (.loop (nLp f46)))) (nEn f46))) ([sl 0 o L.length c]++List.replicate 24 uZ,⟨1,[(l,tR)]⟩,[]) fun e z=>(e=none∨e=some none)∧ZV prog f46 z.1 z.2.1=some (.int .i64 ((bl (vb 65536 L):Nat):Int)):=by
 have ek:n1 L.length=((L.length-1:Nat):Int):=by
  unfold n1;rw[Zw (by omega) (by omega)];omega
 have e16:n16 L.length=((16*(L.length-1):Nat):Int):=by
  unfold n16;rw[ek,Zw (by omega) (by omega)];omega
 have htop:dgN L (L.length-1)≠0:=by
  rcases Zct L with h | h
  ·rw[hC.2] at h;omega
  ·rw[hC.2] at h;have:=Zed hC.1 (L.length-1);unfold dgN;omega
 have hd:=zy hC.1 (L.length-1);have hval:bl (vb 65536 L)=16*(L.length-1)+bl (dgN L (L.length-1)):=by
  have e:=Zag 65536 L (L.length-1);rw[show L.length-1+1=L.length by omega,List.take_length] at e;rw[e];exact Z0e htop (ZlP hC.1 _)
 refine Zv (Zh Zd Zu) (ZpT o L.length c _) (Zt (beq_eq_false_iff_ne.2 (by omega))) fun g=> ?_;refine Runs.seq (P1:=fun e Y=>match e with | none=>(∃ g,Y.1=[sl 0 o L.length c,uZ,.int .i64 0,.int .i64 ((bl (vb 65536 L):Nat):Int),.int .u32 0]++tl 20 g)∧Y.2.1=⟨1,[(l,tR)]⟩ | some none=>False | some (some _)=>False) (Runs.seq (P1:=fun e Y=>e=none∧(∃ g,Y.1=[sl 0 o L.length c,uZ,.int .i64 0,.int .i64 (n16 L.length),.int .u32 (L.getD (L.length-1) 0)]++tl 20 g)∧Y.2.1=⟨1,[(l,tR)]⟩) (Zb (Zh Zd Zu) (Zu6 o L.length c (L.getD (L.length-1) 0) l _ g) (Zi (by rw[ek,tN,Nat.mul_one,hR.cell (by omega)];simp [Z5]) (Zt (by rw[ek];exact dT (by omega))))) ?_ (fun e y he=>by cases he.1)) ?_ (fun e Y he=>by match e,he with | none,he=>exact he.elim | some id,he=>exact he.elim)
 ·rintro⟨t,h',s⟩ ⟨_,⟨g',ht⟩,hh⟩;simp only at ht hh;subst ht hh;rw[e16,← hd.2];refine Runs.script ((ZlY _ (16*(L.length-1)) (dgN L (L.length-1)) (by omega) (by omega) _ g').mono fun e Y he=> ?_)
  match e,he with
  | none,he=>rw[hval];exact he
 ·rintro⟨t,h',s⟩ ⟨⟨g',ht⟩,hh⟩;simp only at ht hh;subst ht hh;refine (Zb (Zh Zd Zu) (ZpV _ _ _ _ g') (fun x hx=>by cases hx)).mono fun e z hz=> ?_;obtain⟨rfl,⟨g2,z1⟩,z2⟩:=hz;refine⟨.inr rfl,?_⟩;rw[z1,z2];rfl
def Zf5 (L:List Int):Bool:=dgB L && Nat.beq (Zl L) L.length
theorem Zef {L:List Int}(h:Zf5 L=true):Zbk 65536 L:=by
 unfold Zf5 at h;simp only[Bool.and_eq_true] at h;exact⟨Zbw h.1,Nat.eq_of_beq_eq_true h.2⟩
theorem Zdg {L:List Int}(h:Zbk 65536 L):Zf5 L=true:=by
 unfold Zf5;rw[ZbG h.1,h.2,Nat.beq_refl];rfl
def ZpW:Zad:=fun vals h s=>
 match vals with
 | [.slice p n c]=>some (.int .i64 ((bl (vO h p n):Nat):Int),h,s,[(zJ h p n c && Zf5 (Zq h p n) && Nat.blt n 1073741824,true)])
 | _=>none
theorem Ziq:Z8 46 ZpW:=by
 intro vals h s v h' s' lg hg hl m B w E hv;unfold ZpW at hg;split at hg
 ·rename_i p n c;cases hg;have q:=hl _ mS;simp only[Bool.and_eq_true] at q;obtain⟨⟨q1,q2⟩,q3⟩:=q;have q2:=Zef q2;have q3:=Zo.1 q3;have hlen:=zK q1;by_cases hn:n=0
  ·subst hn;have e0:Zq h p 0=[]:=List.length_eq_zero_iff.1 hlen;have ev:vO h p 0=0:=by unfold vO;rw[e0];rfl
   obtain⟨x,p',a,NA,eA,fA⟩:=ZbF 0 q1;have hr:Runs (Zr prog Zf Zn hcV) (Zs f46) ([.slice p' 0 c]++List.replicate 24 uZ,⟨1,[x]⟩,[]) fun e z=>(e=none∨e=some none)∧ZV prog f46 z.1 z.2.1=some (.int .i64 ((bl (vO h p 0):Nat):Int)):=by
    refine (Zb (Zh Zd Zu) (ZlX p' 0 c _) (Zt rfl)).mono fun e z he=> ?_;obtain⟨rfl,⟨g,e2⟩,e3⟩:=he;refine⟨.inr rfl,?_⟩;rw[e2,e3,ev,Zdf];rfl
   have b1:∀ {i:Nat}{z:List Value×TypeId},(⟨1,[x]⟩:Hp).blk? i=some z→i=0∧z=x:=fun {i z} hz=>by
    have:i<1:=Hp.blk_lt hz;have hi:i=0:=by omega
    subst hi;exact⟨rfl,(Option.some.inj hz).symm⟩
   have:=ZB (T:=Zr prog Zf Zn hcV) func46 ZjJ (h0:=⟨1,[x]⟩) ⟨rfl,fun b z hz=>by obtain⟨_,rfl⟩:=b1 hz;exact⟨NA.ros.1,NA.lt0,NA.ros.2⟩⟩ (vals:=[.slice p' 0 c]) (fun v hv=>by rw[List.mem_singleton.1 hv];exact NA.lt (by show 0<1;omega)) (by rfl) hr.w E (s:=fun _=>a) (fun i z hz ht=>by obtain⟨_,rfl⟩:=b1 hz;exact fA ht);simp only[List.map_cons,List.map_nil] at this;rw[eA _ rfl] at this;exact this
  ·rcases ZF q1 with ⟨rfl,rfl,rfl,e0⟩ | ⟨b,o,x,rfl,hx,r1,_,e0⟩
   ·exact absurd rfl hn
   ·rw[e0] at q2 hlen;obtain⟨h1,h2,h3,h4,h5,h6,h7⟩:=zt r1;have r:=ZlZ (c:=c) h1 q2 (by rw[h2];omega) (by rw[h2];exact q3);rw[h2] at r;have ev:vO h (some ⟨b,o,none⟩) n=vb 65536 (Zx x.1 o n):=by unfold vO;rw[e0]
    rw[ev];exact ZB (T:=Zr prog Zf Zn hcV) func46 ZlW (ZaK h7) (vals:=[sl 0 o n c]) (fun v hv=>by rw[List.mem_singleton.1 hv];rfl) (by rfl) r.w E (s:=fun _=>b) (zH hx h5 h6 rfl)
 ·cases hg
end Go.Proofs.YtjlponbdflkbjaaGreatDoor
namespace Go.Proofs.YtjlponbdflkbjaaGreatDoor.Na
open Go.KRun Go.Nt
set_option maxRecDepth 100000
set_option linter.unusedVariables false
section
variable {l : List Value} {o c : Nat} {A : List Int}
def d32 (V:Nat):List Int:=db 4294967296 V
end
end Go.Proofs.YtjlponbdflkbjaaGreatDoor.Na
namespace Go.KRun
open Go.ChangeShapes Go.WideShapes Go.ChangeAt Go.RowKit Go.Joins
theorem Zhl {w w':World}(h:Zal w w') (a:Addr):w'.frozen? a=w.frozen? a:=by
 unfold World.frozen?;by_cases h1:a.block<w.heap.size
 ·rw[h.1.block _ h1]
 ·rw[Array.getElem?_eq_none (by omega:w.heap.size≤a.block)];by_cases h2:a.block<w'.heap.size
  ·have h3:=h.2 a.block (by omega) h2;unfold Zzj at h3;split
   ·rename_i c e lo hi hc;have:=h3 _ _ _ hc;cases this;simp
   ·rfl
  ·rw[Array.getElem?_eq_none (by omega:w'.heap.size≤a.block)]
theorem ZjK {n:Int}(h:(Lit.int .u64 n).wf=true):0≤n∧n<18446744073709551616:=by
 simp [Lit.wf,IntKind.min,IntKind.max,IntKind.signed,IntKind.bits] at h;omega
section
variable {H : Type} {enc : TypeId × Value → H} {P : Program} {w : World}
structure Lain (w:World) (b off:Nat) (cs:Array Value) (zs:List Int):Prop where
 heap:∃ ty z,w.heap[b]? =some (.cells cs ty z)
 room:off+zs.length≤cs.size
 cell:∀ i,i<zs.length→cs[off+i]? =some (.int .u32 (zs.getD i 0))
 wf:∀ n∈zs,(Lit.int .u32 n).wf=true
end
end Go.KRun
namespace Go.Proofs.YtjlponbdflkbjaaGreatDoor.Na
open Go.KRun Go.Nt
set_option maxRecDepth 100000
set_option linter.unusedVariables false
theorem ZsS {x:Bool×Bool}{l:Log}(h:Z3 (x::l)):x.1=x.2∧Z3 l:=⟨h _ mH,fun y hy=>h y (mN _ hy)⟩
end Go.Proofs.YtjlponbdflkbjaaGreatDoor.Na
namespace Go.Nt
theorem Zhm:∀ {L:List Int},wds L→vN L=(vb 4294967296 L:Nat)
 | [],_=>rfl
 | x::r,h=>by
  obtain⟨h1,h2⟩:=Zae h;have:=Zhm h2;show x+4294967296*vN r=((x.toNat+4294967296*vb 4294967296 r:Nat):Int);rw[this];omega
theorem ZjL:∀ (m:Nat) (V:Int),0≤V→V<4294967296^m→vN (dg m V)=V
 | 0,V,h0,h1=>by
  have:V=0:=by rw[Int.pow_zero] at h1;omega
  subst this;rfl
 | m+1,V,h0,h1=>by
  rw[pw] at h1;have h2:=ZjL m (V/4294967296) (by omega) (by omega);simp only[dg,vN];rw[h2];omega
theorem Zu8 {m:Nat}{V:Nat}(h:(V:Int)<4294967296^m):(dg m V).take (Zl (dg m V))=db 4294967296 V:=by
 have hw:=Za2 m V;rw[zj (b:=4294967296) (by omega) _ hw];have h1:=ZjL m V (by omega) h;rw[Zhm hw] at h1;rw[Int.ofNat.inj h1]
theorem Zgv (L M:List Int):∀ k,Zan L M k= -1∨Zan L M k=0∨Zan L M k=1
 | 0=> .inr (.inl rfl)
 | k+1=>by
  unfold Zan;split
  ·exact Zgv L M k
  ·split
   ·exact .inl rfl
   ·exact .inr (.inr rfl)
theorem Zu9 (L M:List Int):Zci L M= -1∨Zci L M=0∨Zci L M=1:=by
 unfold Zci;split
 ·exact Zgv _ _ _
 ·split
  ·exact .inl rfl
  ·exact .inr (.inr rfl)
theorem ZuA {L M:List Int}(hL:Zbi L) (hM:Zbi M):Zci L M=if vb 4294967296 L<vb 4294967296 M then -1 else if vb 4294967296 L=vb 4294967296 M then 0 else 1:=by
 have h:=Zij hL hM;rw[Zhm hL.1,Zhm hM.1] at h;have h3:=Zu9 L M;split
 ·have:=h.1.2 (by omega);omega
 ·split
  ·exact h.2.2 (by omega)
  ·have h1:¬ Zci L M<0:=fun hx=>by have:=h.1.1 hx;omega
   have h2:¬ Zci L M=0:=fun hx=>by have:=h.2.1 hx;omega
   omega
theorem ZeX {b V:Nat}(hb:2≤b):0<(db b V).length↔0<V:=by
 rw[List.length_pos_iff,ne_eq,Zcz hb];omega
theorem Zma:∀ (m:Nat) (V:Int),vN (dg m V)+4294967296^m*(V/4294967296^m)=V
 | 0,V=>by simp [dg,vN]
 | m+1,V=>by
  have h:=Zma m (V/4294967296);simp only[dg,vN];rw[pw,← Int.ediv_ediv_of_nonneg (show (0:Int)≤4294967296 by omega),Int.mul_assoc];omega
theorem ZuB {P a b x y z k d e A B:Int}(he:k+(x*y+z)=d+4294967296*e) (h:a+P*((z+4294967296*A)+x*(y+4294967296*B)+k)=b):a+P*d+4294967296*P*(A+x*B+e)=b:=by
 rw[← h];have e1:(z+4294967296*A)+x*(y+4294967296*B)+k=d+4294967296*(A+x*B+e):=by
  rw[Int.mul_add x y,← Int.mul_assoc x 4294967296 B,Int.mul_comm x 4294967296,Int.mul_assoc 4294967296 x B];omega
 rw[e1];generalize A+x*B+e=Z;rw[Int.mul_add P d,← Int.mul_assoc P 4294967296 Z,Int.mul_comm P 4294967296];omega
theorem Z0f {x y:Int}(hx:0≤x∧x<4294967296) (hy:0≤y∧y<4294967296):0≤x*y∧x*y≤18446744065119617025:=by
 constructor
 ·exact Int.mul_nonneg hx.1 hy.1
 ·have h1:x*y≤4294967295*y:=Int.mul_le_mul_of_nonneg_right (by omega) hy.1;omega
theorem Z5e {M B x Q:Int}(hM:0≤M∧M<Q) (hB:0≤B∧B<Q) (hx:0≤x∧x<4294967296):0≤M+x*B∧M+x*B<Q*4294967296:=by
 have h0:=Int.mul_nonneg hx.1 hB.1;have h1:x*B≤4294967295*B:=Int.mul_le_mul_of_nonneg_right (by omega) hB.1;omega
theorem ZpX {T Q:Int}(hQ:0<Q) (h:0≤T∧T<Q*4294967296):0≤T/Q∧T/Q<4294967296:=
 ⟨Int.ediv_nonneg h.1 (by omega),Int.ediv_lt_of_lt_mul hQ (by rw[Int.mul_comm];exact h.2)⟩
theorem ZpY {M:List Int}{T:Int}(hT:0≤T∧T<4294967296^M.length*4294967296):∃ y m,dg M.length T++[T/4294967296^M.length]=y::m∧m.length=M.length∧wds [y]∧wds m∧y+4294967296*vN m=T:=by
 have hc:=ZpX (Zaw M.length) hT;have hw:wds (dg M.length T++[T/4294967296^M.length]):=Zaf (Za2 _ _) (fun x hx=>by rw[List.mem_singleton.1 hx];exact hc);have hl:(dg M.length T++[T/4294967296^M.length]).length=M.length+1:=by rw[List.length_append,ZS];rfl
 have hv:vN (dg M.length T++[T/4294967296^M.length])=T:=by rw[zo,ZS];exact Zma _ _
 cases h:dg M.length T++[T/4294967296^M.length] with
 | nil=>rw[h] at hl;simp at hl
 | cons y m=>
  rw[h] at hw hl hv;obtain⟨w1,w2⟩:=Zae hw;refine⟨y,m,rfl,by simpa using hl,fun x hx=>by rw[List.mem_singleton.1 hx];exact w1,w2,hv⟩
theorem ZuC {P d m A B x y m':Int}(hT:y+4294967296*m'=m+x*B) (h:d+P*m=A*B):d+P*y+4294967296*P*m'=(A+P*x)*B:=by
 have e1:P*y+4294967296*P*m'=P*(m+x*B):=by
  rw[← hT,Int.mul_add,← Int.mul_assoc P 4294967296 m',Int.mul_comm P 4294967296]
 rw[Int.add_mul,← h,Int.mul_assoc P x B];rw[Int.mul_add] at e1;omega
theorem ZsT:∀ n:Nat,vN (List.replicate n 0)=0
 | 0=>rfl
 | n+1=>by
  rw[List.replicate_succ];simp only[vN];rw[ZsT n];rfl
end Go.Nt
namespace Go.Proofs.YtjlponbdflkbjaaGreatDoor.Na
open Go.Proofs.Tryz
open Go.IntKind
open Go.KRun Go.Nt
set_option maxRecDepth 100000
set_option linter.unusedVariables false
def tK (k x y z:Int):Int:=u64.wrap (k+u64.wrap (u64.wrap (u64.wrap x*u64.wrap y)+u64.wrap z))
def tC (k x y z:Int):Int:=(tK k x y z).fdiv (2^min (Int.toNat 32) 64)
def tD (k x y z:Int):Int:=u32.wrap (tK k x y z)
theorem ZuD {k x y z:Int}(hk:0≤k∧k<4294967296) (hx:0≤x∧x<4294967296) (hy:0≤y∧y<4294967296) (hz:0≤z∧z<4294967296):
  (0≤tD k x y z∧tD k x y z<4294967296)∧(0≤tC k x y z∧tC k x y z<4294967296)∧k+(x*y+z)=tD k x y z+4294967296*tC k x y z:=by
 have hxy:=Z0f hx hy;have e:tK k x y z=k+(x*y+z):=by
  unfold tK;simp only[ZoB];rw[Int.emod_eq_of_lt hx.1 (by omega),Int.emod_eq_of_lt hy.1 (by omega),Int.emod_eq_of_lt hz.1 (by omega),Int.emod_eq_of_lt hxy.1 (by omega),Int.emod_eq_of_lt (by omega) (by omega),Int.emod_eq_of_lt (by omega) (by omega)]
 unfold tD tC;rw[e,ZgS,show ((2:Int)^min (Int.toNat 32) 64)=4294967296 from by decide,Int.fdiv_eq_ediv_of_nonneg _ (by omega)];generalize x*y=W at*;omega
def tmP (F:Func):List Code:=[Z2 (Zs F),Z2 (Zz (Zs F)),Z2 (Zz (Zz (Zs F)))]
def tmB (F:Func):Code:=Z2 (Zz (Zz (Zz (Zs F))))
def tmL (F:Func):Code:=cIn (cIn (Zz (tmB F)))
def tmE (F:Func):Code:=Zz (Zz (Zz (Zz (Zs F))))
def tmF (o n c o' c':Nat) (x k:Int) (v8 v9 u1 u2 u3 u4:Value) (j:Int):List Value:=[sl 2 o n c,sl 1 o' n c',uu x,uZ,uZ,uZ,uu 0,.int .u64 k,v8,v9,u1,u2,u3,u4,sl 1 o' n c',i6' n,i6' j]
theorem ZuE:f132.body=some (ZW (tmP f132) (.seq (.seq (Z2 (tmB f132)) (.block 0 (.loop (tmL f132)))) (tmE f132))):=by kernel_rfl
def tmA (o n c o' c':Nat) (x:Int):List Value:=[sl 2 o n c,sl 1 o' n c',uu x,uZ,uZ,uZ,uu 0,.int .u64 0,uZ,uZ,sl 2 o n c,sl 1 o' n c',i6' n,sl 2 o n c]
theorem Z0g (o n c o' c':Nat) (x:Int) (S la lb:List Value):Zg (evL (Zk prog Zf Zn true) 100 (tmP f132) ([sl 2 o n c,sl 1 o' n c',uu x]++List.replicate 41 uZ,h3 la lb S,[num 0]) ⟨[],[],[]⟩) 14 30 none (tmA o n c o' c' x) (h3 la lb S) [(ZA c,true),(ZQ 0 n c c,true),(decide ((c:Int)=0∧(0:Int)≠0),false)]:=by and_intros<;>kernel_rfl
theorem Z5f (o n c o' c':Nat) (x:Int) (S la lb:List Value) (g:Nat→Value):Zg (evC (Zk prog Zf Zn true) 100 false (Z2 (tmB f132)) (tmA o n c o' c' x++tl 30 g,h3 la lb S,[]) ⟨[],[],[]⟩) 17 27 none (tmF o n c o' c' x 0 uZ uZ (sl 2 o n c) (sl 1 o' n c') (i6' n) (sl 2 o n c) 0) (h3 la lb S) []:=by and_intros<;>kernel_rfl
theorem Z0h (o n c o' c':Nat) (x k j:Int) (v8 v9 u1 u2 u3 u4:Value) (S la lb:List Value) (g:Nat→Value):Zg (evC (Zk prog Zf Zn true) 100 false (tmL f132) (tmF o n c o' c' x k v8 v9 u1 u2 u3 u4 j++tl 27 g,h3 la lb S,[cmp false]) ⟨[],[],[]⟩) 17 27 (some (some 0)) (tmF o n c o' c' x k v8 v9 u1 u2 u3 u4 j) (h3 la lb S) [(decide (j<n),false)]:=by and_intros<;>kernel_rfl
theorem Z5g (o n c o' c':Nat) (x k j y z:Int) (v8 v9 u1 u2 u3 u4:Value) (S la lb:List Value) (g:Nat→Value):Zg (evC (Zk prog Zf Zn true) 100 false (tmL f132) (tmF o n c o' c' x k v8 v9 u1 u2 u3 u4 j++tl 27 g,h3 la lb S,[cmp true,at_,val (uu y),at_,val (uu z),at_,at_]) ⟨[],[],[]⟩) 17 27 none (tmF o n c o' c' x (tC k x y z) (i6' j) (uu y) u1 u2 u3 u4 (i64.wrap (j+1))) (h3 la lb (S.set (o+j.toNat*1) (uu (tD k x y z)))) [(decide ((32:Int)<0),false),(decide (o+j.toNat*1<S.length),true),inR j n,Zdr S o j z,inR j n,Zdr lb o' j y,inR j n,(decide (j<n),true)]:=by and_intros<;>kernel_rfl
theorem Z0i (o n c o' c':Nat) (x k j:Int) (v8 v9 u1 u2 u3 u4:Value) (h:Hp) (g:Nat→Value):Zg (evC (Zk prog Zf Zn true) 100 false (tmE f132) (tmF o n c o' c' x k v8 v9 u1 u2 u3 u4 j++tl 27 g,h,[]) ⟨[],[],[]⟩) 7 37 (some none) [sl 2 o n c,sl 1 o' n c',uu x,uZ,uZ,uZ,uu (u32.wrap k)] h []:=by and_intros<;>kernel_rfl
theorem Zeg {F:List Value}{o:Nat}(hF:F.length=o) (dx:List Int) (x:Int) (px:List Int) (R:List Value):(F++(wU (dx++x::px)++R))[o+dx.length]? =some (uu x):=by
 rw[← List.append_assoc,List.getElem?_append_left (by unfold wU;simp;omega)];exact ZsP hF dx x px
theorem Zeh {F:List Value}{o:Nat}(hF:F.length=o) (dx:List Int) (x d:Int) (px:List Int) (R:List Value):(F++(wU (dx++x::px)++R)).set (o+dx.length) (uu d)=F++(wU ((dx++[d])++px)++R):=by
 rw[← List.append_assoc,List.set_append_left _ _ (by unfold wU;simp;omega),ZsQ hF,List.append_assoc]
def tmR (M B:List Int) (x:Int):List Int:=dg M.length (vN M+x*vN B)
def tmC (M B:List Int) (x:Int):Int:=(vN M+x*vN B)/4294967296^M.length
theorem ZuF {F R la lb:List Value}{o c o' c':Nat}{M LB:List Int}{x:Int}(hF:F.length=o) (hM:wds M) (RB:Row lb o' LB) (hl:M.length=LB.length) (hN:M.length<1099511627776) (hx:0≤x∧x<4294967296) (hc:M.length≤c) (hs:ZA c=true):
  Runs (Zk prog Zf Zn true) (ZW (tmP f132) (.seq (.seq (Z2 (tmB f132)) (.block 0 (.loop (tmL f132)))) (tmE f132))) ([sl 2 o M.length c,sl 1 o' M.length c',uu x]++List.replicate 41 uZ,h3 la lb (F++(wU M++R)),[]) fun e y=>(e=none∨e=some none)∧ZV prog f132 y.1 y.2.1=some (uu (tmC M LB x))∧y.2.1.cut 3=h3 la lb (F++(wU (tmR M LB x)++R)):=by
 have hwB:=RB.rng;have hcs:c<4611686018427387904:=Zo.1 hs;refine Zv (Zj Zd) (Z0g o M.length c o' c' x _ la lb) (Zi hs (Zi (by unfold ZQ;exact dT (by omega)) (Zt (dF (by omega))))) fun g=> ?_;refine Runs.seq (P1:=fun e' y=>e'=none∧∃ (k j:Int) (v8 v9 u1 u2 u3 u4:Value) (g:Nat→Value),y.1=tmF o M.length c o' c' x k v8 v9 u1 u2 u3 u4 j++tl 27 g∧(0≤k∧k<4294967296)∧k=tmC M LB x∧y.2.1=h3 la lb (F++(wU (tmR M LB x)++R))) ?_ ?_ (fun e y he=>by cases he.1)
 ·refine Runs.seq (P1:=fun e' y=>e'=none∧(∃ g,y.1=tmF o M.length c o' c' x 0 uZ uZ (sl 2 o M.length c) (sl 1 o' M.length c') (i6' M.length) (sl 2 o M.length c) 0++tl 27 g)∧y.2.1=h3 la lb (F++(wU M++R))) (Zb (Zj Zd) (Z5f o M.length c o' c' x _ la lb g) (fun x hx=>by cases hx)) ?_ (fun e y he=>by cases he.1);rintro⟨t,h',s'⟩ ⟨_,⟨g1,ht⟩,hh⟩;simp only at ht hh;subst ht hh;refine (Runs.forLoop (R:=fun _=>False) (P:=fun y=>∃ (k j:Int) (v8 v9 u1 u2 u3 u4:Value) (g:Nat→Value),y.1=tmF o M.length c o' c' x k v8 v9 u1 u2 u3 u4 j++tl 27 g∧(0≤k∧k<4294967296)∧k=tmC M LB x∧y.2.1=h3 la lb (F++(wU (tmR M LB x)++R)))
   (fun r y=>∃ (dx px bx:List Int) (k:Int) (v8 v9 u1 u2 u3 u4:Value) (g:Nat→Value),px.length=r∧dx.length+px.length=M.length∧wds dx∧wds px∧bx=LB.drop dx.length∧(0≤k∧k<4294967296)∧y.1=tmF o M.length c o' c' x k v8 v9 u1 u2 u3 u4 dx.length++tl 27 g∧y.2.1=h3 la lb (F++(wU (dx++px)++R))∧vN dx+4294967296^dx.length*(vN px+x*vN bx+k)=vN M+x*vN LB)
   ?_ (n:=M.length) ⟨[],M,LB,0,uZ,uZ,_,_,_,_,g1,rfl,by simp,(fun x hx=>by cases hx),hM,rfl,by omega,rfl,rfl,by simp [vN]⟩).mono fun e' y he=> ?_
  ·rintro r ⟨t,h',s'⟩ ⟨dx,px,bx,k,v8,v9,u1,u2,u3,u4,g,hr,hlen,wd1,wd2,hb,hk,ht,hh,hv⟩;simp only at ht hh;subst ht hh
   match px,hr,hlen,wd2,hv with
   | [],hr,hlen,wd2,hv=>
    have hl':dx.length=M.length:=by simpa using hlen
    refine (Zb (Zj Zd) (Z0h o M.length c o' c' x k dx.length v8 v9 u1 u2 u3 u4 _ la lb g) (Zt (dF (by omega)))).mono fun e' y he=> ?_;obtain⟨rfl,⟨g1,e2⟩,e3⟩:=he;have hbx:bx=[]:=by rw[hb,List.drop_eq_nil_of_le (by omega)]
    subst hbx;simp only[vN] at hv;rw[Int.mul_zero,Int.zero_add,Int.zero_add] at hv;have hbd:=ZaL dx wd1;refine⟨rfl,k,dx.length,v8,v9,u1,u2,u3,u4,g1,e2,hk,?_,?_⟩
    ·unfold tmC;rw[← hv,← hl',Int.add_mul_ediv_left _ _ (by have:=Zaw dx.length;omega),Int.ediv_eq_zero_of_lt hbd.1 hbd.2,Int.zero_add]
    ·unfold tmR;rw[e3,← hv,← hl',Zc2,Zfw dx wd1,List.append_nil]
   | z::px,hr,hlen,wd2,hv=>
    obtain⟨wz,wd2⟩:=Zae wd2;have hl':dx.length<M.length:=by simp at hlen;omega
    have hy:=RB.cell (k:=dx.length) (by omega);have hyr:=hwB (LB.getD dx.length 0) (by
     have hk':dx.length<LB.length:=by omega
     simp [List.getD,List.getElem?_eq_getElem hk'])
    have hbx:bx=LB.getD dx.length 0::LB.drop (dx.length+1):=by
     have hk':dx.length<LB.length:=by omega
     rw[hb,List.drop_eq_getElem_cons hk'];simp [List.getD,List.getElem?_eq_getElem hk']
    generalize LB.getD dx.length 0=yv at*;obtain⟨k1,k2,k3⟩:=ZuD hk hx hyr wz;have cS:=Zeg hF dx z px R;have lS:o+dx.length<(F++(wU (dx++z::px)++R)).length:=(List.getElem?_eq_some_iff.1 cS).1;have l1:decide (o+((dx.length:Int)).toNat*1<(F++(wU (dx++z::px)++R)).length)=true:=by
     rw[tN,Nat.mul_one];exact dT lS
    have l2:(inR dx.length M.length).1=(inR dx.length M.length).2:=dT (by omega);refine (Zb (Zj Zd) (Z5g o M.length c o' c' x k dx.length yv z v8 v9 u1 u2 u3 u4 _ la lb g) (Zi (by decide) (Zi l1 (Zi l2 (Zi (Zav cS) (Zi l2 (Zi (Zav hy) (Zi l2 (Zt (dT (by omega))))))))))).mono fun e' y he=> ?_;obtain⟨rfl,⟨g1,e2⟩,e3⟩:=he;refine⟨px.length,by simp at hr;omega,dx++[tD k x yv z],px,LB.drop (dx.length+1),tC k x yv z,i6' dx.length,uu yv,u1,u2,u3,u4,g1,rfl,by simp at hlen ⊢;omega,Zaf wd1 (fun u hu=>by rw[List.mem_singleton.1 hu];exact k1),wd2,by simp,k2,?_,?_,?_⟩
    ·rw[e2,Zw (by omega) (by omega)];simp
    ·rw[e3,tN,Nat.mul_one,Zeh hF]
    ·rw[hbx] at hv;simp only[vN] at hv;rw[zo,List.length_append,List.length_singleton,pw];exact ZuB k3 hv
  ·match e',he with
   | none,he=>exact⟨rfl,he⟩
   | some none,he=>exact he.elim
   | some (some _),he=>exact he.elim
 ·rintro⟨t,h',s'⟩ ⟨_,k,j,v8,v9,u1,u2,u3,u4,g,ht,hk,hkv,hh⟩;simp only at ht hh;subst ht hh;refine (Zb (Zj Zd) (Z0i o M.length c o' c' x k j v8 v9 u1 u2 u3 u4 _ g) (fun x hx=>by cases hx)).mono fun e' y he=> ?_;obtain⟨rfl,⟨g1,e2⟩,e3⟩:=he;have ek:u32.wrap k=tmC M LB x:=by rw[ZgS,Int.emod_eq_of_lt hk.1 hk.2,hkv]
  rw[ek] at e2;refine⟨.inr rfl,?_,?_⟩
  ·rw[e2,e3];rfl
  ·rw[e3];rfl
def tmS (S:List Value) (o n:Nat) (L:List Int):List Value:=S.take o++(wU L++S.drop (o+n))
def Zhn (S lb la:List Value) (t t' t'':TypeId) (o n c o' n' c':Nat) (x:Int):Bool:=Nat.beq t tU && Nat.beq t' tR && Nat.beq t'' tR && Z6 t S o n c && Z6 t' lb o' n' c' && Nat.beq n n' && Nat.blt n 1099511627776 && la.all still && decide (0≤x∧x<4294967296)
def Z5h:Zad:=fun vals h s=>
 match vals,h with
 | [.slice (some ⟨2,o,none⟩) n c,.slice (some ⟨1,o',none⟩) n' c',.int .u32 x],⟨3,[(S,t),(lb,t'),(la,t'')]⟩=>some (uu (tmC (Zx S o n) (Zx lb o' n') x),⟨3,[(tmS S o n (tmR (Zx S o n) (Zx lb o' n') x),tU),(lb,tR),(la,tR)]⟩,s,[(Zhn S lb la t t' t'' o n c o' n' c' x,true)])
 | _,_=>none
theorem ZuG:Z8 132 Z5h:=by
 intro vals h s v h' s' lg hg hl m B w E hv;unfold Z5h at hg;split at hg
 ·rename_i o n c o' n' c' x S t lb t' la t'';cases hg;have q:=hl _ mS;unfold Zhn at q;simp only[Bool.and_eq_true,decide_eq_true_eq] at q;obtain⟨⟨⟨⟨⟨⟨⟨⟨q1,q2⟩,q3⟩,ra⟩,rb⟩,qn⟩,qN⟩,q5⟩,q6⟩:=q;have q1:=Nat.eq_of_beq_eq_true q1;have q2:=Nat.eq_of_beq_eq_true q2;have q3:=Nat.eq_of_beq_eq_true q3;have qn:=Nat.eq_of_beq_eq_true qn;have qN:n<1099511627776:=Zo.1 qN;subst q1 q2 q3 qn;obtain⟨a1,a2,a3,a4,a5,a6,a7⟩:=ZH ra;obtain⟨b1,b2,b3,b4,b5,b6,b7⟩:=ZH rb;have eS:S=S.take o++(wU (Zx S o n)++S.drop (o+n)):=by
   have h1:=a1.cut;rw[a2] at h1;rw[← h1];unfold Zce;rw[← List.drop_drop,List.take_append_drop,List.take_append_drop]
  have hF:(S.take o).length=o:=by
   have:=a1.len;simp;omega
  have r:=ZuF (R:=S.drop (o+n)) (la:=la) (c:=c) (c':=c') hF a1.rng b1 (by rw[a2,b2]) (by rw[a2];exact qN) q6 (by rw[a2];exact a3) a4;rw[a2,← eS] at r;have ht:(Hp.tight ⟨3,[(tmS S o n (tmR (Zx S o n) (Zx lb o' n) x),tU),(lb,tR),(la,tR)]⟩)=true:=by
   unfold Hp.tight tmS;simp only[List.all_cons,List.all_nil,List.all_append,Bool.and_true,Bool.and_eq_true];refine⟨⟨?_,Zbo _ _,?_⟩,zx (by omega) (List.all_eq_true.2 b7),zx (by omega) q5⟩
   ·rw[List.all_eq_true];exact fun v hv=>zg (by omega) (a7 v (List.mem_of_mem_take hv))
   ·rw[List.all_eq_true];exact fun v hv=>zg (by omega) (a7 v (List.mem_of_mem_drop hv))
  exact zd (T:=Zk prog Zf Zn true) func132 ZuE (vals:=[sl 2 o n c,sl 1 o' n c',uu x]) (v:=uu (tmC (Zx S o n) (Zx lb o' n) x)) (h:=h3 la lb S) (by rfl) ht r m B w E hv
 ·cases hg
end Go.Proofs.YtjlponbdflkbjaaGreatDoor.Na
