/-
  ConV6, ConV7, ConV8, ConV9, ConVA, NumPa, RunP
-/
import Derived.Test.YtekebccjflilnaaGreatG10
namespace Go.Proofs.YtekebccjflilnaaGreat
open Go.Proofs.Tryz
open Go.IntKind
open Go.KRun Go.Nt
set_option maxRecDepth 100000
theorem Zl4:f78.body=some (Zaz (Zi5 f78) (.seq (.seq (aR3 f78) (.block 0 (.loop (Za5 f78)))) (Zu6 f78))):=by kernel_rfl
theorem ZiG:f78.body=some (Zv f78):=by kernel_rfl
theorem Zo3 (a b:Value) (h:Hp):Zm (evL (Zp prog Zh Zo hcV) 100 (Zi5 f78) ([a,b]++List.replicate 33 undef,h,[]) ⟨[],[],[]⟩) 7 28 none [a,b,undef,undef,Zn,Zn,.int .u32 0] h []:=by and_intros<;>kernel_rfl
theorem ZsO (a b:Value) (h:Hp) (g:Nat→Value):Zm (evC (Zp prog Zh Zo hcV) 100 false (aR3 f78) ([a,b,undef,undef,Zn,Zn,.int .u32 0]++tl 28 g,h,[]) ⟨[],[],[]⟩) 8 27 none [a,b,undef,undef,Zn,Zn,.int .u32 0,.int .i64 0] h []:=by and_intros<;>kernel_rfl
def df (A B:List Int) (k i:Int):Int:=u32.wrap (u32.wrap (u32.wrap (65536+atN A i)-atN B i)-k)
theorem Zo4 (p q:Option Addr) (n c n' c':Nat) (k i:Int) (x y:List Value×TypeId) (g:Nat→Value):Zm (evC (Zp prog Zh Zo hcV) 100 false (Za5 f78) ([.slice p n c,.slice q n' c',undef,undef,Zn,Zn,.int .u32 k,.int .i64 i]++tl 27 g,hp2 y x,[cmp true,cmp true]) ⟨[],[],[]⟩) 8 27 none [.slice p n c,.slice q n' c',undef,undef,Zn,sl 3 0 1 grown,.int .u32 (u32.wrap (1-u32.wrap ((df (Zu (hp2 y x) p n) (Zu (hp2 y x) q n') k i).tdiv 65536))),.int .i64 (i64.wrap (i+1))] ⟨4,[([.int .u32 ((df (Zu (hp2 y x) p n) (Zu (hp2 y x) q n') k i).tmod 65536)],tU),([.int .u32 ((df (Zu (hp2 y x) p n) (Zu (hp2 y x) q n') k i).tmod 65536)],tU),y,x]⟩ [(decide ((65536:Int)=0),false),rP (hp2 y x) q n' c',rP (hp2 y x) p n c,(decide (i<n),true)]:=by and_intros<;>kernel_rfl
theorem Zl5 (p q:Option Addr) (n c n' c' z:Nat) (k i:Int) (x y:List Value×TypeId) (lo:List Value) (g:Nat→Value):Zm (evC (Zp prog Zh Zo hcV) 100 false (Za5 f78) ([.slice p n c,.slice q n' c',undef,undef,Zn,sl 2 0 z grown,.int .u32 k,.int .i64 i]++tl 27 g,hu3 lo y x,[cmp true,cmp true,at_]) ⟨[],[],[]⟩) 8 27 none [.slice p n c,.slice q n' c',undef,undef,Zn,sl 4 0 (z+1) grown,.int .u32 (u32.wrap (1-u32.wrap ((df (Zu (hu3 lo y x) p n) (Zu (hu3 lo y x) q n') k i).tdiv 65536))),.int .i64 (i64.wrap (i+1))] ⟨5,[(lo++[.int .u32 ((df (Zu (hu3 lo y x) p n) (Zu (hu3 lo y x) q n') k i).tmod 65536)],tU),([.int .u32 ((df (Zu (hu3 lo y x) p n) (Zu (hu3 lo y x) q n') k i).tmod 65536)],tU),([],2*ZV),y,x]⟩ [(zQ tU (lo,tU) ([.int .u32 ((df (Zu (hu3 lo y x) p n) (Zu (hu3 lo y x) q n') k i).tmod 65536)],tU) z 0 1,true),(decide ((65536:Int)=0),false),rP (hu3 lo y x) q n' c',rP (hu3 lo y x) p n c,(decide (i<n),true)]:=by and_intros<;>kernel_rfl
theorem Zo5 (p q:Option Addr) (n c n' c':Nat) (v:Value) (k i:Int) (h:Hp) (g:Nat→Value):Zm (evC (Zp prog Zh Zo hcV) 100 false (Za5 f78) ([.slice p n c,.slice q n' c',undef,undef,Zn,v,.int .u32 k,.int .i64 i]++tl 27 g,h,[cmp false]) ⟨[],[],[]⟩) 8 27 (some (some 0)) [.slice p n c,.slice q n' c',undef,undef,Zn,v,.int .u32 k,.int .i64 i] h [(decide (i<n),false)]:=by and_intros<;>kernel_rfl
theorem Zo6 (a b:Value) (z:Nat) (k i:Int) (x y:List Value×TypeId) (lo:List Value) (g:Nat→Value):Zm (evC (Zp prog Zh Zo hcV) 100 false (Zu6 f78) ([a,b,undef,undef,Zn,sl 2 0 z grown,.int .u32 k,.int .i64 i]++tl 27 g,hu3 lo y x,[]) ⟨[],[],[]⟩) 5 30 (some none) [a,b,undef,undef,sl 2 0 (Z3 (zu lo 0 z)) (Z3 (zu lo 0 z))] (hu3 lo y x) [(ZaK tU lo 0 z grown,true)]:=by and_intros<;>kernel_rfl
theorem ZiH (p q:Option Addr) (n c n' c':Nat) (h:Hp):Zm (evC (Zp prog Zh Zo hcV) 100 false (Zv f78) ([.slice p n c,.slice q n' c']++List.replicate 33 undef,h,[cmp false]) ⟨[],[],[]⟩) 5 30 (some none) [.slice p n c,.slice q n' c',undef,undef,Zn] h [(decide ((0:Int)<n),false)]:=by and_intros<;>kernel_rfl
def dfN (A B:List Int) (k i:Nat):Nat:=65536+dgN A i-dgN B i-k
theorem ZwW {A B:List Int}(hA:∀ x∈A,Dg 65536 x) (hB:∀ x∈B,Dg 65536 x) {k:Nat}(hk:k≤1) (i:Nat):df A B k i=((dfN A B k i:Nat):Int)∧dfN A B k i<131072∧dfN A B k i+dgN B i+k=65536+dgN A i:=by
 have h1:=zn hA i;have h2:=zn hB i;unfold df dfN;rw[zZ,zZ,← h1.2,← h2.2,ze (n:=65536+_) (by omega) (by omega),ze (n:=65536+_-_) (by omega) (by omega),ze (by omega) (by omega)];omega
theorem ZwX {d:Nat}(h:d<131072):u32.wrap (1-u32.wrap ((d:Int).tdiv 65536))=((1-d/65536:Nat):Int):=by
 rw[ZeS (by omega),ze (by omega) (by omega)];omega
section
variable {x y : List Value × TypeId} {p q : Option Addr} {n c n' c' : Nat} {A B : List Int}
theorem ZiI (NA:Nu 0 x p n c A) (NB:Nu 1 y q n' c' B) (hA:∀ x∈A,Dg 65536 x) (hB:∀ x∈B,Dg 65536 x) {k i:Nat}{O:List Int}(hk:k≤1) (hi:i<1073741823) (hO:O.length=i) (hgo:i<n) {Y:Lf}
  (hY:(i=0∧k=0∧(∃ g,Y.1=[.slice p n c,.slice q n' c',undef,undef,Zn,Zn,.int .u32 (k:Nat),.int .i64 (i:Nat)]++tl 27 g)∧Y.2.1=hp2 y x)∨(0<i∧(∃ g,Y.1=[.slice p n c,.slice q n' c',undef,undef,Zn,sl 2 0 i grown,.int .u32 (k:Nat),.int .i64 (i:Nat)]++tl 27 g)∧Y.2.1=hu3 (wU O) y x)):
  RunsW (Zp prog Zh Zo hcV) (Za5 f78) Y fun e z=>e=none∧(∃ g,z.1=[.slice p n c,.slice q n' c',undef,undef,Zn,sl 2 0 (i+1) grown,.int .u32 ((1-dfN A B k i/65536:Nat):Int),.int .i64 ((i+1:Nat):Int)]++tl 27 g)∧z.2.1=hu3 (wU (O++[((dfN A B k i % 65536:Nat):Int)])) y x:=by
 obtain⟨t,h',s⟩:=Y;obtain⟨es,hlt,_⟩:=ZwW hA hB hk i;have e1:(df A B k i).tmod 65536=((dfN A B k i % 65536:Nat):Int):=by rw[es,ZeR]
 have e2:u32.wrap (1-u32.wrap ((df A B k i).tdiv 65536))=((1-dfN A B k i/65536:Nat):Int):=by rw[es,ZwX hlt]
 have e3:i64.wrap ((i:Int)+1)=((i+1:Nat):Int):=by rw[ZL (by omega) (by omega)];omega
 have hl:decide ((i:Int)<(n:Nat))=true:=Xa (by omega);rcases hY with ⟨h0,k0,⟨g,ht⟩,hh⟩ | ⟨h0,⟨g,ht⟩,hh⟩
 ·simp only at ht hh;subst ht hh;have r0:=NA.row (hp2 y x) rfl;have r1:=NB.row (hp2 y x) rfl;have fin:=Zc (Zg Zd Zs) (s0:=s) (Zo4 p q n c n' c' k i x y g) (okW rfl (okW r1.1 (okW r0.1 (Z2 hl))));have hO':O=[]:=List.length_eq_zero_iff.1 (by omega);rw[r0.2,r1.2,e1,e2,e3] at fin;have:=fin.kept (k:=2) (b:=3) (base:=[y,x]) (y:=([.int .u32 ((dfN A B k i % 65536:Nat):Int)],tU)) (front':=[.slice p n c,.slice q n' c',undef,undef,Zn,sl 2 0 1 grown,.int .u32 ((1-dfN A B k i/65536:Nat):Int),.int .i64 ((i+1:Nat):Int)]) rfl
   (by simp only[List.map_cons,List.map_nil,NA.rn (f:=zv 2 3) rfl,NB.rn (f:=zv 2 3) rfl];kernel_rfl) (Zcd NA NB rfl rfl) rfl (by omega) (fun v hv=>by rw[List.mem_singleton.1 hv];rfl) (fun v hv=>by
    simp only[List.mem_cons,List.not_mem_nil,or_false] at hv;rcases hv with rfl | rfl | rfl | rfl | rfl | rfl | rfl | rfl
    ·exact NA.lt (by omega)
    ·exact NB.lt (by omega)
    all_goals rfl)
  refine this.mono fun e z hz=> ?_;obtain⟨rfl,⟨g',q1⟩,q2⟩:=hz;subst hO' h0;exact⟨rfl,⟨g',q1⟩,q2⟩
 ·simp only at ht hh;subst ht hh;have r0:=NA.row (hu3 (wU O) y x) rfl;have r1:=NB.row (hu3 (wU O) y x) rfl;have hchk:zQ tU (wU O,tU) ([.int .u32 ((df A B k i).tmod 65536)],tU) i 0 1=true:=
   ZaF (L:=O) (M:=[(df A B k i).tmod 65536]) hO.symm (show 0<1 by omega) (by show O.length+1≤_;omega)
  have fin:=Zc (Zg Zd Zs) (s0:=s) (Zl5 p q n c n' c' i k i x y (wU O) g) (by rw[r0.2,r1.2];exact okW hchk (okW rfl (okW r1.1 (okW r0.1 (Z2 hl)))));rw[r0.2,r1.2,e1,e2,e3] at fin;have ew:wU O++[.int .u32 ((dfN A B k i % 65536:Nat):Int)]=wU (O++[((dfN A B k i % 65536:Nat):Int)]):=by rw[ZO];rfl
  rw[ew] at fin;exact fin.kept (k:=2) (b:=4) (base:=[y,x]) (y:=(wU (O++[((dfN A B k i % 65536:Nat):Int)]),tU)) (front':=[.slice p n c,.slice q n' c',undef,undef,Zn,sl 2 0 (i+1) grown,.int .u32 ((1-dfN A B k i/65536:Nat):Int),.int .i64 ((i+1:Nat):Int)]) rfl
   (by simp only[List.map_cons,List.map_nil,NA.rn (f:=zv 2 4) rfl,NB.rn (f:=zv 2 4) rfl];kernel_rfl) (Zcd NA NB rfl rfl) rfl (by omega) (ZP _) (fun v hv=>by
    simp only[List.mem_cons,List.not_mem_nil,or_false] at hv;rcases hv with rfl | rfl | rfl | rfl | rfl | rfl | rfl | rfl
    ·exact NA.lt (by omega)
    ·exact NB.lt (by omega)
    all_goals rfl)
def sSt (x y:List Value×TypeId) (p q:Option Addr) (n c n' c':Nat) (O:List Int) (i k:Nat) (Y:Lf):Prop:=
 (i=0∧k=0∧(∃ g,Y.1=[.slice p n c,.slice q n' c',undef,undef,Zn,Zn,.int .u32 (k:Nat),.int .i64 (i:Nat)]++tl 27 g)∧Y.2.1=hp2 y x)∨(0<i∧(∃ g,Y.1=[.slice p n c,.slice q n' c',undef,undef,Zn,sl 2 0 i grown,.int .u32 (k:Nat),.int .i64 (i:Nat)]++tl 27 g)∧Y.2.1=hu3 (wU O) y x)
def Z2Q (x y:List Value×TypeId) (p q:Option Addr) (n c n' c':Nat) (A B:List Int) (m:Nat) (Y:Lf):Prop:=
 ∃ (i k:Nat) (O:List Int),O.length=i∧m=n-i∧i≤n∧k≤1∧(∀ x∈O,Dg 65536 x)∧vb 65536 O+vb 65536 (B.take i)=vb 65536 (A.take i)+65536^O.length*k∧sSt x y p q n c n' c' O i k Y
def Z0C (x y:List Value×TypeId) (p q:Option Addr) (n c n' c':Nat) (A B:List Int) (Y:Lf):Prop:=
 ∃ (k:Nat) (O:List Int),O.length=n∧(∀ x∈O,Dg 65536 x)∧vb 65536 O+vb 65536 (B.take n)=vb 65536 A+65536^n*k∧sSt x y p q n c n' c' O n k Y
theorem Zl6 (NA:Nu 0 x p n c A) (NB:Nu 1 y q n' c' B) (lA:A.length=n) (hA:∀ x∈A,Dg 65536 x) (hB:∀ x∈B,Dg 65536 x) (hn:n<1073741823) (g:Nat→Value):
  RunsW (Zp prog Zh Zo hcV) (.block 0 (.loop (Za5 f78))) ([.slice p n c,.slice q n' c',undef,undef,Zn,Zn,.int .u32 0,.int .i64 0]++tl 27 g,hp2 y x,[]) fun e Y=>match e with | none=>Z0C x y p q n c n' c' A B Y | some none=>False | some (some _)=>False:=by
 refine RunsW.forLoop (P:=Z0C x y p q n c n' c' A B) (R:=fun _=>False) (Z2Q x y p q n c n' c' A B) ?_ (n:=n) ⟨0,0,[],rfl,by omega,by omega,by omega,(fun x hx=>by cases hx),by simp [vb],.inl ⟨rfl,rfl,⟨g,rfl⟩,rfl⟩⟩;rintro m Y ⟨i,k,O,hO,hm,hi,hk,hOd,hval,hY⟩;by_cases hgo:i<n
 ·have r:=ZiI NA NB hA hB hk (by omega) hO hgo hY;refine r.mono fun e z hz=> ?_;obtain⟨rfl,z1,z2⟩:=hz;obtain⟨_,hlt,hsum⟩:=ZwW hA hB hk i;refine⟨n-(i+1),by omega,i+1,1-dfN A B k i/65536,O++[((dfN A B k i % 65536:Nat):Int)],by simp [hO],rfl,by omega,by omega,fun x hx=> ?_,?_,.inr ⟨by omega,z1,z2⟩⟩
  ·rcases List.mem_append.1 hx with hx | hx
   ·exact hOd x hx
   ·rw[List.mem_singleton.1 hx];exact⟨by omega,by omega⟩
  ·have ha:vb 65536 (A.take (i+1))=vb 65536 (A.take i)+65536^i*dgN A i:=Zaw 65536 A i;have hb:vb 65536 (B.take (i+1))=vb 65536 (B.take i)+65536^i*dgN B i:=Zaw 65536 B i;rw[ha,hb,Zcv,Xg,List.length_append,hO,List.length_singleton,Nat.pow_succ,Nat.mul_assoc];rw[hO] at hval;generalize 65536^i=P at*;have hq:dfN A B k i/65536≤1:=by omega
   have e:dfN A B k i % 65536+dgN B i+k=dgN A i+65536*(1-dfN A B k i/65536):=by omega
   have e':P*(dfN A B k i % 65536)+P*dgN B i+P*k=P*dgN A i+P*(65536*(1-dfN A B k i/65536)):=by rw[← Nat.mul_add,← Nat.mul_add,← Nat.mul_add,e]
   omega
 ·have hin:i=n:=by omega
  subst hin;have hv:vb 65536 O+vb 65536 (B.take i)=vb 65536 A+65536^i*k:=by
   rw[List.take_of_length_le (show A.length≤i by omega),hO] at hval;exact hval
  have out:∀ (v:Value) (h:Hp) (g:Nat→Value) (s:List Dec),RunsW (Zp prog Zh Zo hcV) (Za5 f78) ([.slice p i c,.slice q n' c',undef,undef,Zn,v,.int .u32 (k:Nat),.int .i64 (i:Nat)]++tl 27 g,h,s) fun e z=>e=some (some 0)∧(∃ g,z.1=[.slice p i c,.slice q n' c',undef,undef,Zn,v,.int .u32 (k:Nat),.int .i64 (i:Nat)]++tl 27 g)∧z.2.1=h:=fun v h g s=>
   Zc (Zg Zd Zs) (Zo5 p q i c n' c' v k i h g) (Z2 (Xb (by omega)))
  obtain⟨t,h',s⟩:=Y;rcases hY with ⟨h0,k0,⟨g,ht⟩,hh⟩ | ⟨h0,⟨g,ht⟩,hh⟩
  ·simp only at ht hh;subst ht hh;refine (out Zn _ g s).mono fun e z hz=> ?_;obtain⟨rfl,z1,z2⟩:=hz;exact⟨rfl,k,O,hO,hOd,hv,.inl ⟨h0,k0,z1,z2⟩⟩
  ·simp only at ht hh;subst ht hh;refine (out (sl 2 0 i grown) _ g s).mono fun e z hz=> ?_;obtain⟨rfl,z1,z2⟩:=hz;exact⟨rfl,k,O,hO,hOd,hv,.inr ⟨h0,z1,z2⟩⟩
theorem Zl7 (NA:Nu 0 x p n c A) (NB:Nu 1 y q n' c' B) (lA:A.length=n) (hA:∀ x∈A,Dg 65536 x) (hB:∀ x∈B,Dg 65536 x) (hn:n<1073741823) (h0:0<n) (hle:vb 65536 B≤vb 65536 A) {V:Nat}(hV:V=vb 65536 A-vb 65536 B):
  RunsW (Zp prog Zh Zo hcV) (Zaz (Zi5 f78) (.seq (.seq (aR3 f78) (.block 0 (.loop (Za5 f78)))) (Zu6 f78))) ([.slice p n c,.slice q n' c']++List.replicate 33 undef,hp2 y x,[]) fun e z=>(e=none∨e=some none)∧Zau prog f78 z.1 z.2.1=some (sl 2 0 (d16 V).length (d16 V).length)∧∃ r,z.2.1.blk? 2=some (wU (d16 V)++r,tU):=by
 refine Z0 (Zg Zd Zs) (Zo3 _ _ _) (fun x hx=>by cases hx) fun g=> ?_;refine ZfK (Zc (Zg Zd Zs) (ZsO _ _ _ g) (fun x hx=>by cases hx)) (fun e y he=>by cases he.1) (P2:=fun e Y=>match e with | none=>Z0C x y p q n c n' c' A B Y | some none=>False | some (some _)=>False) ?_ ?_ ?_
 ·rintro⟨t,h',s⟩ ⟨_,⟨g',ht⟩,hh⟩;simp only at ht hh;subst ht hh;exact RunsW.script (Zl6 NA NB lA hA hB hn g')
 ·intro e y he
  match e,he with
  | none,he=>exact he
  | some id,he=>exact he
 ·rintro⟨t,h',s⟩ ⟨k,O,hO,hOd,hval,hY⟩;have hv:vb 65536 O=vb 65536 A-vb 65536 B:=by
   have l1:=Zcu (by omega) A hA;have l2:=Zcu (by omega) O hOd;have hsp:vb 65536 B=vb 65536 (B.take n)+65536^(B.take n).length*vb 65536 (B.drop n):=by rw[← Zav,List.take_append_drop]
   rw[lA] at l1;rw[hO] at l2;have hpos:0<65536^n:=Nat.pow_pos (by omega);have hz:65536^(B.take n).length*vb 65536 (B.drop n)=0:=by
    by_cases hb:B.length≤n
    ·rw[List.drop_eq_nil_of_le hb];simp [vb]
    ·have hl:(B.take n).length=n:=by rw[List.length_take];omega
     rw[hl] at hsp ⊢;rcases Nat.eq_zero_or_pos (vb 65536 (B.drop n)) with h | h
     ·rw[h];rfl
     ·have:=Nat.le_mul_of_pos_right (65536^n) h;omega
   have hk:k=0:=by
    rcases Nat.eq_zero_or_pos k with h | h
    ·exact h
    ·have:=Nat.le_mul_of_pos_right (65536^n) h;omega
   subst hk;omega
  rcases hY with ⟨e0,_⟩ | ⟨_,⟨g',ht⟩,hh⟩
  ·omega
  ·simp only at ht hh;subst ht hh;have hrow:ZaK tU (wU O) 0 n grown=true:=by
    rw[← hO];exact zY (fun x hx=>⟨(hOd x hx).1,by have:=(hOd x hx).2;omega⟩) (by omega) (Zu5 _)
   refine (Zc (Zg Zd Zs) (Zo6 _ _ n k n x y (wU O) g') (Z2 hrow)).mono fun e z he=> ?_;obtain⟨rfl,⟨g2,e1⟩,e2⟩:=he;have et:Z3 (zu (wU O) 0 n)=(d16 V).length:=by
    rw[← hO,ZaE,Zad (by omega) hOd,hv,← hV];rfl
   refine⟨.inr rfl,?_,?_⟩
   ·rw[e1,e2,et];rfl
   ·rw[e2];refine⟨wU (O.drop (Z3 O)),?_⟩;have e3:wU (d16 V)++wU (O.drop (Z3 O))=wU O:=by
     unfold d16;rw[hV,← hv,← zj (by omega) _ hOd,← ZO,List.take_append_drop]
    rw[e3];rfl
end
def Zo7:Zcl:=fun vals h s=>
 match vals,s with
 | [.slice p n c,.slice q n' c'],.inr (.inr (.inr (.inl d)))::s'=>
  match d with
  | true=>Zei (vO h p n-vO h q n') h s' [(Z6 h p q n c n' c' && Nat.ble (vO h q n') (vO h p n),true),(decide (0<n),true)]
  | false=>some (Zn,h,s',[(Z6 h p q n c n' c',true),(decide (0<n),false)])
 | _,_=>none
theorem ZhF:za 78 Zo7:=by
 intro vals h s v h' s' lg hg hl m B w E hv;unfold Zo7 at hg;split at hg
 ·rename_i p n c q n' c' d s2;split at hg
  ·unfold Zei at hg;cases hg;have q1:=hl _ (Xe);have q2:=hl _ (Xd _ Xf);simp only[Xi,Xh] at q1 q2;obtain⟨q1,q3⟩:=q1;have q3:=Nat.le_of_ble_eq_true q3;obtain⟨r1,r2,d1,d2,hn⟩:=Zcg q1;obtain⟨x,p',a,NA,eA,fA⟩:=Zbv 0 r1;obtain⟨y,q',b,NB,eB,fB⟩:=Zbv 1 r2;have r:=Zl7 NA NB (zT r1) d1 d2 (by omega) q2 q3 rfl;have:=zm (T:=Zp prog Zh Zo hcV) func78 Zl4 (Zce NA NB) (vals:=[.slice p' n c,.slice q' n' c']) (fun v hv=>by
    simp only[List.mem_cons,List.not_mem_nil,or_false] at hv;rcases hv with rfl | rfl
    ·exact NA.lt (by show 0<2;omega)
    ·exact NB.lt (by show 1<2;omega)) (k:=2) (cs:=wU (d16 (vO h p n-vO h q n'))) (ty:=tU) (Zbu _) (by kernel_rfl) r (by rfl) E (s:=pair a b) (Zcf fA fB)
   simp only[List.map_cons,List.map_nil] at this;rw[eA _ rfl,eB _ rfl] at this;exact this
  ·cases hg;have q1:=hl _ (Xe);have q2:=hl _ (Xd _ Xf);simp only[decide_eq_false_iff_not] at q1 q2;obtain⟨r1,r2,d1,d2,hn⟩:=Zcg q1;obtain⟨x,p',a,NA,eA,fA⟩:=Zbv 0 r1;obtain⟨y,q',b,NB,eB,fB⟩:=Zbv 1 r2;have hr:Runs (Zp prog Zh Zo hcV) (Zv f78) ([.slice p' n c,.slice q' n' c']++List.replicate 33 undef,hp2 y x,[]) fun e z=>(e=none∨e=some none)∧Zau prog f78 z.1 z.2.1=some Zn:=by
    refine (Zj (Zg Zd Zs) (ZiH p' q' n c n' c' _) (Z2 (Xb (by omega)))).mono fun e z he=> ?_;obtain⟨rfl,⟨g,e2⟩,e3⟩:=he;refine⟨.inr rfl,?_⟩;rw[e2,e3];rfl
   have:=ZH (T:=Zp prog Zh Zo hcV) func78 ZiG (Zce NA NB) (vals:=[.slice p' n c,.slice q' n' c']) (fun v hv=>by
    simp only[List.mem_cons,List.not_mem_nil,or_false] at hv;rcases hv with rfl | rfl
    ·exact NA.lt (by show 0<2;omega)
    ·exact NB.lt (by show 1<2;omega)) (v:=Zn) (by rfl) hr.w E (s:=pair a b) (Zcf fA fB)
   simp only[List.map_cons,List.map_nil] at this;rw[eA _ rfl,eB _ rfl] at this;exact this
 ·cases hg
def Zax (a b:Nat):Int:=if a<b then -1 else if a=b then 0 else 1
theorem ZhG (b:Nat) (L:List Int) (k:Nat):vb b L=vb b (L.take k)+b^k*vb b (L.drop k):=by
 by_cases h:k≤L.length
 ·have e:(L.take k).length=k:=by rw[List.length_take];omega
  have:=Zav b (L.take k) (L.drop k);rw[List.take_append_drop,e] at this;exact this
 ·rw[List.take_of_length_le (by omega),List.drop_eq_nil_of_le (by omega)];simp [vb]
theorem ZbI {L:List Int}(k:Nat):vb 65536 (L.drop k)=dgN L k+65536*vb 65536 (L.drop (k+1)):=by
 by_cases h:k<L.length
 ·rw[List.drop_eq_getElem_cons h];simp only[vb,dgN];rw[Zh9 h]
 ·rw[List.drop_eq_nil_of_le (by omega),List.drop_eq_nil_of_le (by omega),Zd8 (by omega)];rfl
theorem Zl8 {L:List Int}(h:∀ x∈L,Dg 65536 x) (k:Nat):vb 65536 (L.take k)<65536^k:=by
 have h1:=Zcu (b:=65536) (by omega) (L.take k) (fun x hx=>h x (List.mem_of_mem_take hx));have h2:(L.take k).length≤k:=by rw[List.length_take];omega
 exact Nat.lt_of_lt_of_le h1 (Nat.pow_le_pow_right (by omega) h2)
theorem Zl9 {A B:List Int}(hA:∀ x∈A,Dg 65536 x) {k:Nat}(he:vb 65536 (A.drop (k+1))=vb 65536 (B.drop (k+1))) (hd:dgN A k<dgN B k):vb 65536 A<vb 65536 B:=by
 have a1:=ZhG 65536 A k;have b1:=ZhG 65536 B k;have a2:=Zl8 hA k;rw[ZbI,he] at a1;rw[ZbI] at b1;generalize vb 65536 (B.drop (k+1))=D at*;generalize 65536^k=P at*;have h1:P*(dgN A k+65536*D+1)≤P*(dgN B k+65536*D):=Nat.mul_le_mul_left _ (by omega);rw[Nat.mul_add P _ 1,Nat.mul_one] at h1;omega
def Z0D (F:Func):List Code:=[ZB (Zv F)]
def kR1 (F:Func):Code:=ZB (ZB (Z5 (Zv F)))
def Zgz (F:Func):Code:=cIn (cIn (Z5 (ZB (Z5 (Zv F)))))
def Z0E (F:Func):Code:=Z5 (Z5 (Zv F))
theorem ZlA:f75.body=some (Zaz (Z0D f75) (.seq (.seq (kR1 f75) (.block 0 (.loop (Zgz f75)))) (Z0E f75))):=by kernel_rfl
def mxI (n n':Nat):Int:=i64.wrap ((if (n':Int)>n then (n':Int) else n)-1)
theorem Zo8 (a b:Value) (h:Hp):Zm (evL (Zp prog Zh Zo hcV) 100 (Z0D f75) ([a,b]++List.replicate 28 undef,h,[]) ⟨[],[],[]⟩) 5 25 none [a,b,undef,undef,.int .i64 0] h []:=by and_intros<;>kernel_rfl
theorem ZsP (p q:Option Addr) (n c n' c':Nat) (h:Hp) (g:Nat→Value):Zm (evC (Zp prog Zh Zo hcV) 100 false (kR1 f75) ([.slice p n c,.slice q n' c',undef,undef,.int .i64 0]++tl 25 g,h,[]) ⟨[],[],[]⟩) 6 24 none [.slice p n c,.slice q n' c',undef,undef,.int .i64 0,.int .i64 (mxI n n')] h []:=by and_intros<;>kernel_rfl
theorem ZsQ (p q:Option Addr) (n c n' c':Nat) (i:Int) (x y:List Value×TypeId) (g:Nat→Value):Zm (evC (Zp prog Zh Zo hcV) 100 false (Zgz f75) ([.slice p n c,.slice q n' c',undef,undef,.int .i64 0,.int .i64 i]++tl 24 g,hp2 y x,[cmp true,cmp true]) ⟨[],[],[]⟩) 6 24 (some none) [.slice p n c,.slice q n' c',undef,undef,.int .i64 (-1),.int .i64 i] (hp2 y x) [(decide (atN (Zu (hp2 y x) p n) i<atN (Zu (hp2 y x) q n') i),true),rP (hp2 y x) q n' c',rP (hp2 y x) p n c,(decide (i≥0),true)]:=by and_intros<;>kernel_rfl
theorem ZsR (p q:Option Addr) (n c n' c':Nat) (i:Int) (x y:List Value×TypeId) (g:Nat→Value):Zm (evC (Zp prog Zh Zo hcV) 100 false (Zgz f75) ([.slice p n c,.slice q n' c',undef,undef,.int .i64 0,.int .i64 i]++tl 24 g,hp2 y x,[cmp true,cmp false,cmp true]) ⟨[],[],[]⟩) 6 24 (some none) [.slice p n c,.slice q n' c',undef,undef,.int .i64 1,.int .i64 i] (hp2 y x) [(decide (atN (Zu (hp2 y x) p n) i>atN (Zu (hp2 y x) q n') i),true),rP (hp2 y x) q n' c',rP (hp2 y x) p n c,(decide (atN (Zu (hp2 y x) p n) i<atN (Zu (hp2 y x) q n') i),false),rP (hp2 y x) q n' c',rP (hp2 y x) p n c,(decide (i≥0),true)]:=by and_intros<;>kernel_rfl
theorem ZsS (p q:Option Addr) (n c n' c':Nat) (i:Int) (x y:List Value×TypeId) (g:Nat→Value):Zm (evC (Zp prog Zh Zo hcV) 100 false (Zgz f75) ([.slice p n c,.slice q n' c',undef,undef,.int .i64 0,.int .i64 i]++tl 24 g,hp2 y x,[cmp true,cmp false,cmp false]) ⟨[],[],[]⟩) 6 24 none [.slice p n c,.slice q n' c',undef,undef,.int .i64 0,.int .i64 (i1 i)] (hp2 y x) [(decide (atN (Zu (hp2 y x) p n) i>atN (Zu (hp2 y x) q n') i),false),rP (hp2 y x) q n' c',rP (hp2 y x) p n c,(decide (atN (Zu (hp2 y x) p n) i<atN (Zu (hp2 y x) q n') i),false),rP (hp2 y x) q n' c',rP (hp2 y x) p n c,(decide (i≥0),true)]:=by and_intros<;>kernel_rfl
theorem Zo9 (a b:Value) (i:Int) (h:Hp) (g:Nat→Value):Zm (evC (Zp prog Zh Zo hcV) 100 false (Zgz f75) ([a,b,undef,undef,.int .i64 0,.int .i64 i]++tl 24 g,h,[cmp false]) ⟨[],[],[]⟩) 6 24 (some (some 0)) [a,b,undef,undef,.int .i64 0,.int .i64 i] h [(decide (i≥0),false)]:=by and_intros<;>kernel_rfl
theorem ZoA (a b:Value) (i:Int) (h:Hp) (g:Nat→Value):Zm (evC (Zp prog Zh Zo hcV) 100 false (Z0E f75) ([a,b,undef,undef,.int .i64 0,.int .i64 i]++tl 24 g,h,[]) ⟨[],[],[]⟩) 5 25 (some none) [a,b,undef,undef,.int .i64 0] h []:=by and_intros<;>kernel_rfl
section
variable {x y : List Value × TypeId} {p q : Option Addr} {n c n' c' : Nat} {A B : List Int}
def Z0F (p q:Option Addr) (n c n' c':Nat) (A B:List Int) (Y:Lf):Prop:=∃ i g,Y.1=[.slice p n c,.slice q n' c',undef,undef,.int .i64 (Zax (vb 65536 A) (vb 65536 B)),.int .i64 i]++tl 24 g
theorem ZlB (NA:Nu 0 x p n c A) (NB:Nu 1 y q n' c' B) (lA:A.length=n) (lB:B.length=n') (hA:∀ x∈A,Dg 65536 x) (hB:∀ x∈B,Dg 65536 x) (hn:max n n'+2<1073741824) (g:Nat→Value):
  Runs (Zp prog Zh Zo hcV) (.block 0 (.loop (Zgz f75))) ([.slice p n c,.slice q n' c',undef,undef,.int .i64 0,.int .i64 (mxI n n')]++tl 24 g,hp2 y x,[]) fun e Y=>match e with | none=>Zax (vb 65536 A) (vb 65536 B)=0∧∃ i g,Y.1=[.slice p n c,.slice q n' c',undef,undef,.int .i64 0,.int .i64 i]++tl 24 g | some none=>Z0F p q n c n' c' A B Y | some (some _)=>False:=by
 have em:mxI n n'=((max n n':Nat):Int)-1:=by
  unfold mxI;split
  ·rw[ZL (by omega) (by omega)];omega
  ·rw[ZL (by omega) (by omega)];omega
 refine Runs.forLoop (P:=fun Y=>Zax (vb 65536 A) (vb 65536 B)=0∧∃ i g,Y.1=[.slice p n c,.slice q n' c',undef,undef,.int .i64 0,.int .i64 i]++tl 24 g) (R:=Z0F p q n c n' c' A B)
  (fun k Y=>k≤max n n'∧vb 65536 (A.drop k)=vb 65536 (B.drop k)∧(∃ g,Y.1=[.slice p n c,.slice q n' c',undef,undef,.int .i64 0,.int .i64 ((k:Nat)-1:Int)]++tl 24 g)∧Y.2.1=hp2 y x) ?_ (n:=max n n') ⟨Nat.le_refl _,by rw[List.drop_eq_nil_of_le (by omega),List.drop_eq_nil_of_le (by omega)],⟨g,by rw[em]⟩,rfl⟩
 rintro k ⟨t,h',s⟩ ⟨hk,he,⟨g,ht⟩,hh⟩;simp only at ht hh;subst ht hh;cases k with
 | zero=>
  refine (Zj (Zg Zd Zs) (Zo9 _ _ _ _ g) (Z2 (Xb (by omega)))).mono fun e z hz=> ?_;obtain⟨rfl,⟨g',z1⟩,z2⟩:=hz;refine⟨rfl,?_,_,g',z1⟩;simp only[List.drop_zero] at he;unfold Zax;rw[he];simp
 | succ k=>
  have ek:((k+1:Nat):Int)-1=(k:Int):=by omega
  rw[ek];have r0:=NA.row (hp2 y x) rfl;have r1:=NB.row (hp2 y x) rfl;have d1:=zn hA k;have d2:=zn hB k;have hg:decide ((k:Int)≥0)=true:=Xa (by omega);by_cases h1:dgN A k<dgN B k
  ·have hlt:=Zl9 hA he h1;refine (Zj (Zg Zd Zs) (ZsQ p q n c n' c' k x y g) (by
    rw[r0.2,r1.2,zZ,zZ,← d1.2,← d2.2];exact okW (Xa (by omega)) (okW r1.1 (okW r0.1 (Z2 hg))))).mono fun e z hz=> ?_
   obtain⟨rfl,⟨g',z1⟩,z2⟩:=hz;refine⟨k,g',?_⟩;rw[z1];unfold Zax;rw[if_pos hlt]
  ·by_cases h2:dgN B k<dgN A k
   ·have hlt:=Zl9 hB he.symm h2;refine (Zj (Zg Zd Zs) (ZsR p q n c n' c' k x y g) (by
     rw[r0.2,r1.2,zZ,zZ,← d1.2,← d2.2];exact okW (Xa (by omega)) (okW r1.1 (okW r0.1 (okW (Xb (by omega)) (okW r1.1 (okW r0.1 (Z2 hg)))))))).mono fun e z hz=> ?_
    obtain⟨rfl,⟨g',z1⟩,z2⟩:=hz;refine⟨k,g',?_⟩;rw[z1];unfold Zax;rw[if_neg (by omega),if_neg (by omega)]
   ·refine (Zj (Zg Zd Zs) (ZsS p q n c n' c' k x y g) (by
     rw[r0.2,r1.2,zZ,zZ,← d1.2,← d2.2];exact okW (Xb (by omega)) (okW r1.1 (okW r0.1 (okW (Xb (by omega)) (okW r1.1 (okW r0.1 (Z2 hg)))))))).mono fun e z hz=> ?_
    obtain⟨rfl,⟨g',z1⟩,z2⟩:=hz;have e1:i1 (k:Int)=(k:Int)-1:=by unfold i1;rw[ZL (by omega) (by omega)]
    refine⟨k,by omega,by omega,?_,⟨g',by rw[z1,e1]⟩,z2⟩;rw[ZbI,ZbI (L:=B),he];omega
theorem ZlC (NA:Nu 0 x p n c A) (NB:Nu 1 y q n' c' B) (lA:A.length=n) (lB:B.length=n') (hA:∀ x∈A,Dg 65536 x) (hB:∀ x∈B,Dg 65536 x) (hn:max n n'+2<1073741824):
  Runs (Zp prog Zh Zo hcV) (Zaz (Z0D f75) (.seq (.seq (kR1 f75) (.block 0 (.loop (Zgz f75)))) (Z0E f75))) ([.slice p n c,.slice q n' c']++List.replicate 28 undef,hp2 y x,[]) fun e z=>(e=none∨e=some none)∧Zau prog f75 z.1 z.2.1=some (.int .i64 (Zax (vb 65536 A) (vb 65536 B))):=by
 refine zl (Zg Zd Zs) (Zo8 _ _ _) (fun x hx=>by cases hx) fun g=> ?_;refine Runs.seq (P1:=fun e Y=>match e with | none=>Zax (vb 65536 A) (vb 65536 B)=0∧∃ i g,Y.1=[.slice p n c,.slice q n' c',undef,undef,.int .i64 0,.int .i64 i]++tl 24 g | some none=>Z0F p q n c n' c' A B Y | some (some _)=>False) (Runs.seq (P1:=fun e Y=>e=none∧(∃ g,Y.1=[.slice p n c,.slice q n' c',undef,undef,.int .i64 0,.int .i64 (mxI n n')]++tl 24 g)∧Y.2.1=hp2 y x) (Zj (Zg Zd Zs) (ZsP p q n c n' c' _ g) (fun x hx=>by cases hx)) ?_ (fun e y he=>by cases he.1)) ?_ ?_
 ·rintro⟨t,h',s⟩ ⟨_,⟨g',ht⟩,hh⟩;simp only at ht hh;subst ht hh;exact Runs.script (ZlB NA NB lA lB hA hB hn g')
 ·rintro⟨t,h',s⟩ ⟨e0,i,g',ht⟩;simp only at ht;subst ht;refine (Zj (Zg Zd Zs) (ZoA _ _ i h' g') (fun x hx=>by cases hx)).mono fun e z hz=> ?_;obtain⟨rfl,⟨g2,z1⟩,z2⟩:=hz;refine⟨.inr rfl,?_⟩;rw[z1,e0];rfl
 ·intro e Y he
  match e,he with
  | none,⟨i,g',h1⟩=>
   refine⟨.inr rfl,?_⟩;rw[h1];rfl
end
def ZlD:Zcl:=fun vals h s=>
 match vals with
 | [.slice p n c,.slice q n' c']=>some (.int .i64 (Zax (vO h p n) (vO h q n')),h,s,[(Z6 h p q n c n' c',true)])
 | _=>none
theorem ZeU:za 75 ZlD:=by
 intro vals h s v h' s' lg hg hl m B w E hv;unfold ZlD at hg;split at hg
 ·rename_i p n c q n' c';cases hg;have q1:=hl _ Xf;simp only at q1;obtain⟨r1,r2,d1,d2,hn⟩:=Zcg q1;obtain⟨x,p',a,NA,eA,fA⟩:=Zbv 0 r1;obtain⟨y,q',b,NB,eB,fB⟩:=Zbv 1 r2;have r:=ZlC NA NB (zT r1) (zT r2) d1 d2 hn;have:=ZH (T:=Zp prog Zh Zo hcV) func75 ZlA (Zce NA NB) (vals:=[.slice p' n c,.slice q' n' c']) (fun v hv=>by
   simp only[List.mem_cons,List.not_mem_nil,or_false] at hv;rcases hv with rfl | rfl
   ·exact NA.lt (by show 0<2;omega)
   ·exact NB.lt (by show 1<2;omega)) (by rfl) r.w E (s:=pair a b) (Zcf fA fB)
  simp only[List.map_cons,List.map_nil] at this;rw[eA _ rfl,eB _ rfl] at this;exact this
 ·cases hg
def nA (F:Func):Code:=ZB (Z5 (Zv F))
def nR3 (F:Func):Code:=ZB (Z5 (Z5 (Zv F)))
def nR4 (F:Func):Code:=ZB (ZB (Z5 (Z5 (Z5 (Zv F)))))
def nLp (F:Func):Code:=cIn (cIn (Z5 (ZB (Z5 (Z5 (Z5 (Zv F)))))))
def nEn (F:Func):Code:=Z5 (Z5 (Z5 (Z5 (Zv F))))
def nPr (F:Func):List Code:=[ZB (Zv F),nA F,nR3 F]
theorem ZlE:f65.body=some (Zaz (nPr f65) (.seq (.seq (nR4 f65) (.block 0 (.loop (nLp f65)))) (nEn f65))):=by kernel_rfl
theorem ZiJ:f65.body=some (Zv f65):=by kernel_rfl
def n16 (n:Nat):Int:=i64.wrap (16*n1 n)
theorem ZoB (o n c:Nat) (h:Hp):Zm (evL (Zp prog Zh Zo hcV) 100 (nPr f65) ([sl 0 o n c]++List.replicate 24 undef,h,[cmp false]) ⟨[],[],[]⟩) 4 21 none [sl 0 o n c,undef,.int .i64 0,.int .i64 (n16 n)] h [((n:Int)==0,false)]:=by and_intros<;>kernel_rfl
theorem ZsT (o n c:Nat) (x:Int) (l:List Value) (v:Value) (g:Nat→Value):Zm (evC (Zp prog Zh Zo hcV) 100 false (nR4 f65) ([sl 0 o n c,undef,.int .i64 0,v]++tl 21 g,⟨1,[(l,tR)]⟩,[at_,val (.int .u32 x)]) ⟨[],[],[]⟩) 5 20 none [sl 0 o n c,undef,.int .i64 0,v,.int .u32 x] ⟨1,[(l,tR)]⟩ [(ZC (l[o+(n1 n).toNat*1]?) (.int .u32 x),true),(decide (0≤n1 n∧n1 n<n),true)]:=by and_intros<;>kernel_rfl
theorem ZlF (p:Option Addr) (n c:Nat) (h:Hp):Zm (evC (Zp prog Zh Zo hcV) 100 false (Zv f65) ([.slice p n c]++List.replicate 24 undef,h,[cmp true]) ⟨[],[],[]⟩) 3 22 (some none) [.slice p n c,undef,.int .i64 0] h [((n:Int)==0,true)]:=by and_intros<;>kernel_rfl
theorem ZsU (a:Value) (n x:Int) (h:Hp) (g:Nat→Value):Zm (evC (Zp prog Zh Zo hcV) 100 false (nLp f65) ([a,undef,.int .i64 0,.int .i64 n,.int .u32 x]++tl 20 g,h,[cmp true]) ⟨[],[],[]⟩) 5 20 none [a,undef,.int .i64 0,.int .i64 (i64.wrap (n+1)),.int .u32 (u32.wrap (x.tdiv 2))] h [(decide (x>0),true)]:=by and_intros<;>kernel_rfl
theorem ZoC (a:Value) (n x:Int) (h:Hp) (g:Nat→Value):Zm (evC (Zp prog Zh Zo hcV) 100 false (nLp f65) ([a,undef,.int .i64 0,.int .i64 n,.int .u32 x]++tl 20 g,h,[cmp false]) ⟨[],[],[]⟩) 5 20 (some (some 0)) [a,undef,.int .i64 0,.int .i64 n,.int .u32 x] h [(decide (x>0),false)]:=by and_intros<;>kernel_rfl
theorem ZoD (a:Value) (n x:Int) (h:Hp) (g:Nat→Value):Zm (evC (Zp prog Zh Zo hcV) 100 false (nEn f65) ([a,undef,.int .i64 0,.int .i64 n,.int .u32 x]++tl 20 g,h,[]) ⟨[],[],[]⟩) 3 22 (some none) [a,undef,.int .i64 n] h []:=by and_intros<;>kernel_rfl
theorem ZlG (a:Value) (n x:Nat) (hn:n+32<4611686018427387904) (hx:x<4294967296) (h:Hp) (g:Nat→Value):
  Runs (Zp prog Zh Zo hcV) (.block 0 (.loop (nLp f65))) ([a,undef,.int .i64 0,.int .i64 (n:Nat),.int .u32 (x:Nat)]++tl 20 g,h,[]) fun e Y=>match e with | none=>(∃ g,Y.1=[a,undef,.int .i64 0,.int .i64 ((n+bl x:Nat):Int),.int .u32 0]++tl 20 g)∧Y.2.1=h | some none=>False | some (some _)=>False:=by
 refine Runs.forLoop (P:=fun Y=>(∃ g,Y.1=[a,undef,.int .i64 0,.int .i64 ((n+bl x:Nat):Int),.int .u32 0]++tl 20 g)∧Y.2.1=h) (R:=fun _=>False)
  (fun k Y=>∃ j:Nat,k≤x∧j+bl k=n+bl x∧(∃ g,Y.1=[a,undef,.int .i64 0,.int .i64 (j:Nat),.int .u32 (k:Nat)]++tl 20 g)∧Y.2.1=h) ?_ (n:=x) ⟨n,Nat.le_refl _,rfl,⟨g,rfl⟩,rfl⟩
 rintro k ⟨t,h',s⟩ ⟨j,hk,hj,⟨g,ht⟩,hh⟩;simp only at ht hh;subst ht hh;have hb:bl x≤32:=ZnA (by show x<2^32;omega);by_cases h0:k=0
 ·subst h0;refine (Zj (Zg Zd Zs) (ZoC a j 0 h' g) (Z2 rfl)).mono fun e z hz=> ?_;obtain⟨rfl,⟨g',z1⟩,z2⟩:=hz;rw[Zcw] at hj;exact⟨rfl,⟨g',by rw[z1,show (n+bl x)=j from by omega]⟩,z2⟩
 ·refine (Zj (Zg Zd Zs) (ZsU a j k h' g) (Z2 (Xa (by omega)))).mono fun e z hz=> ?_;obtain⟨rfl,⟨g',z1⟩,z2⟩:=hz;have e1:=Zeg h0;have e2:i64.wrap ((j:Int)+1)=((j+1:Nat):Int):=by rw[ZL (by omega) (by omega)];omega
  have e3:u32.wrap ((k:Int).tdiv 2)=((k/2:Nat):Int):=by rw[Int.tdiv_eq_ediv_of_nonneg (by omega),ze (by omega) (by omega)];omega
  exact⟨k/2,by omega,j+1,by omega,by omega,⟨g',by rw[z1,e2,e3]⟩,z2⟩
theorem ZlH {l:List Value}{o c:Nat}{L:List Int}(hR:Row l o L) (hC:Zap 65536 L) (h0:0<L.length) (hn:L.length<1073741824):
  Runs (Zp prog Zh Zo hcV) (Zaz (nPr f65) (.seq (.seq (nR4 f65) (.block 0 (.loop (nLp f65)))) (nEn f65))) ([sl 0 o L.length c]++List.replicate 24 undef,⟨1,[(l,tR)]⟩,[]) fun e z=>(e=none∨e=some none)∧Zau prog f65 z.1 z.2.1=some (.int .i64 ((bl (vb 65536 L):Nat):Int)):=by
 have ek:n1 L.length=((L.length-1:Nat):Int):=by
  unfold n1;rw[ZL (by omega) (by omega)];omega
 have e16:n16 L.length=((16*(L.length-1):Nat):Int):=by
  unfold n16;rw[ek,ZL (by omega) (by omega)];omega
 have htop:dgN L (L.length-1)≠0:=by
  rcases Zdz L with h | h
  ·rw[hC.2] at h;omega
  ·rw[hC.2] at h;have:=Zd7 hC.1 (L.length-1);unfold dgN;omega
 have hd:=zn hC.1 (L.length-1);have hval:bl (vb 65536 L)=16*(L.length-1)+bl (dgN L (L.length-1)):=by
  have e:=Zaw 65536 L (L.length-1);rw[show L.length-1+1=L.length by omega,List.take_length] at e;rw[e];exact Zvz htop (Zl8 hC.1 _)
 refine zl (Zg Zd Zs) (ZoB o L.length c _) (Z2 (beq_eq_false_iff_ne.2 (by omega))) fun g=> ?_;refine Runs.seq (P1:=fun e Y=>match e with | none=>(∃ g,Y.1=[sl 0 o L.length c,undef,.int .i64 0,.int .i64 ((bl (vb 65536 L):Nat):Int),.int .u32 0]++tl 20 g)∧Y.2.1=⟨1,[(l,tR)]⟩ | some none=>False | some (some _)=>False) (Runs.seq (P1:=fun e Y=>e=none∧(∃ g,Y.1=[sl 0 o L.length c,undef,.int .i64 0,.int .i64 (n16 L.length),.int .u32 (L.getD (L.length-1) 0)]++tl 20 g)∧Y.2.1=⟨1,[(l,tR)]⟩) (Zj (Zg Zd Zs) (ZsT o L.length c (L.getD (L.length-1) 0) l _ g) (Zt (by rw[ek,Xg,Nat.mul_one,hR.cell (by omega)];simp [ZC]) (Z2 (by rw[ek];exact Xa (by omega))))) ?_ (fun e y he=>by cases he.1)) ?_ (fun e Y he=>by match e,he with | none,he=>exact he.elim | some id,he=>exact he.elim)
 ·rintro⟨t,h',s⟩ ⟨_,⟨g',ht⟩,hh⟩;simp only at ht hh;subst ht hh;rw[e16,← hd.2];refine Runs.script ((ZlG _ (16*(L.length-1)) (dgN L (L.length-1)) (by omega) (by omega) _ g').mono fun e Y he=> ?_)
  match e,he with
  | none,he=>rw[hval];exact he
 ·rintro⟨t,h',s⟩ ⟨⟨g',ht⟩,hh⟩;simp only at ht hh;subst ht hh;refine (Zj (Zg Zd Zs) (ZoD _ _ _ _ g') (fun x hx=>by cases hx)).mono fun e z hz=> ?_;obtain⟨rfl,⟨g2,z1⟩,z2⟩:=hz;refine⟨.inr rfl,?_⟩;rw[z1,z2];rfl
def Zfg (L:List Int):Bool:=dgB L && Nat.beq (Z3 L) L.length
theorem Zc1 {L:List Int}(h:Zfg L=true):Zap 65536 L:=by
 unfold Zfg at h;simp only[Xh] at h;exact⟨ZaY h.1,Xj h.2⟩
theorem ZaV {L:List Int}(h:Zap 65536 L):Zfg L=true:=by
 unfold Zfg;rw[ZaZ h.1,h.2,Nat.beq_refl];rfl
def ZoE:Zcl:=fun vals h s=>
 match vals with
 | [.slice p n c]=>some (.int .i64 ((bl (vO h p n):Nat):Int),h,s,[(zS h p n c && Zfg (Zu h p n) && Nat.blt n 1073741824,true)])
 | _=>none
theorem ZhH:za 65 ZoE:=by
 intro vals h s v h' s' lg hg hl m B w E hv;unfold ZoE at hg;split at hg
 ·rename_i p n c;cases hg;have q:=hl _ Xf;simp only[Xh] at q;obtain⟨⟨q1,q2⟩,q3⟩:=q;have q2:=Zc1 q2;have q3:=Zk.1 q3;have hlen:=zT q1;by_cases hn:n=0
  ·subst hn;have e0:Zu h p 0=[]:=List.length_eq_zero_iff.1 hlen;have ev:vO h p 0=0:=by unfold vO;rw[e0];rfl
   obtain⟨x,p',a,NA,eA,fA⟩:=Zbv 0 q1;have hr:Runs (Zp prog Zh Zo hcV) (Zv f65) ([.slice p' 0 c]++List.replicate 24 undef,⟨1,[x]⟩,[]) fun e z=>(e=none∨e=some none)∧Zau prog f65 z.1 z.2.1=some (.int .i64 ((bl (vO h p 0):Nat):Int)):=by
    refine (Zj (Zg Zd Zs) (ZlF p' 0 c _) (Z2 rfl)).mono fun e z he=> ?_;obtain⟨rfl,⟨g,e2⟩,e3⟩:=he;refine⟨.inr rfl,?_⟩;rw[e2,e3,ev,Zcw];rfl
   have b1:∀ {i:Nat}{z:List Value×TypeId},(⟨1,[x]⟩:Hp).blk? i=some z→i=0∧z=x:=fun {i z} hz=>by
    have:i<1:=Hp.blk_lt hz;have hi:i=0:=by omega
    subst hi;exact⟨rfl,(Option.some.inj hz).symm⟩
   have:=ZH (T:=Zp prog Zh Zo hcV) func65 ZiJ (h0:=⟨1,[x]⟩) ⟨rfl,fun b z hz=>by obtain⟨_,rfl⟩:=b1 hz;exact⟨NA.ros.1,NA.lt0,NA.ros.2⟩⟩ (vals:=[.slice p' 0 c]) (fun v hv=>by rw[List.mem_singleton.1 hv];exact NA.lt (by show 0<1;omega)) (by rfl) hr.w E (s:=fun _=>a) (fun i z hz ht=>by obtain⟨_,rfl⟩:=b1 hz;exact fA ht);simp only[List.map_cons,List.map_nil] at this;rw[eA _ rfl] at this;exact this
  ·rcases Z8 q1 with ⟨rfl,rfl,rfl,e0⟩ | ⟨b,o,x,rfl,hx,r1,_,e0⟩
   ·exact absurd rfl hn
   ·rw[e0] at q2 hlen;obtain⟨h1,h2,h3,h4,h5,h6,h7⟩:=ZU r1;have r:=ZlH (c:=c) h1 q2 (by rw[h2];omega) (by rw[h2];exact q3);rw[h2] at r;have ev:vO h (some ⟨b,o,none⟩) n=vb 65536 (zu x.1 o n):=by unfold vO;rw[e0]
    rw[ev];exact ZH (T:=Zp prog Zh Zo hcV) func65 ZlE (ZcH h7) (vals:=[sl 0 o n c]) (fun v hv=>by rw[List.mem_singleton.1 hv];rfl) (by rfl) r.w E (s:=fun _=>b) (Zbs hx h5 h6 rfl)
 ·cases hg
def sA (F:Func):Code:=ZB (Z5 (Zv F))
def sR (F:Func):Code:=Z5 (Z5 (Zv F))
def sR3 (F:Func):Code:=ZB (sR F)
def sR4 (F:Func):Code:=ZB (Z5 (sR F))
def sR5 (F:Func):Code:=ZB (ZB (Z5 (Z5 (sR F))))
def sL1 (F:Func):Code:=cIn (cIn (Z5 (ZB (Z5 (Z5 (sR F))))))
def sR9 (F:Func):Code:=ZB (Z5 (Z5 (Z5 (sR F))))
def sT (F:Func):Code:=Z5 (Z5 (Z5 (Z5 (sR F))))
def Z0G (F:Func):Code:=ZB (ZB (sT F))
def sL2 (F:Func):Code:=cIn (cIn (Z5 (ZB (sT F))))
def sEn (F:Func):Code:=Z5 (sT F)
def sPr (F:Func):List Code:=[ZB (Zv F),sA F,sR3 F,sR4 F]
theorem ZlI:f44.body=some (Zaz (sPr f44) (.seq (.seq (sR5 f44) (.block 0 (.loop (sL1 f44)))) (.seq (sR9 f44) (.seq (.seq (Z0G f44) (.block 2 (.loop (sL2 f44)))) (sEn f44))))):=by kernel_rfl
theorem ZiK:f44.body=some (Zv f44):=by kernel_rfl
def k16 (k:Int):Int:=i64.wrap (k.tdiv 16)
def zz (z:Nat):List Value:=List.replicate z (.int .u32 0)
theorem ZlJ (p:Option Addr) (n c:Nat) (k:Value) (h:Hp):Zm (evC (Zp prog Zh Zo hcV) 100 false (Zv f44) ([.slice p n c,k]++List.replicate 48 undef,h,[cmp true]) ⟨[],[],[]⟩) 5 45 (some none) [.slice p n c,k,undef,undef,Zn] h [((n:Int)==0,true)]:=by and_intros<;>kernel_rfl
theorem ZoF (o n c:Nat) (k:Int) (x:List Value×TypeId):Zm (evL (Zp prog Zh Zo hcV) 100 (sPr f44) ([sl 0 o n c,.int .i64 k]++List.replicate 48 undef,⟨1,[x]⟩,[cmp false,at_]) ⟨[],[],[]⟩) 7 43 none [sl 0 o n c,.int .i64 k,undef,undef,Zn,sl 1 0 (k16 k).toNat (k16 k).toNat,.int .u32 1] ⟨2,[(zz (k16 k).toNat,tU),x]⟩ [(zf 4 (k16 k) (k16 k),true),((n:Int)==0,false)]:=by and_intros<;>kernel_rfl
theorem ZsV (a v:Value) (k:Int) (h:Hp) (g:Nat→Value):Zm (evC (Zp prog Zh Zo hcV) 100 false (sR5 f44) ([a,.int .i64 k,undef,undef,Zn,v,.int .u32 1]++tl 43 g,h,[]) ⟨[],[],[]⟩) 8 42 none [a,.int .i64 k,undef,undef,Zn,v,.int .u32 1,.int .i64 0] h []:=by and_intros<;>kernel_rfl
theorem ZsW (a v:Value) (k b i:Int) (h:Hp) (g:Nat→Value):Zm (evC (Zp prog Zh Zo hcV) 100 false (sL1 f44) ([a,.int .i64 k,undef,undef,Zn,v,.int .u32 b,.int .i64 i]++tl 42 g,h,[cmp true,cmp true]) ⟨[],[],[]⟩) 8 42 none [a,.int .i64 k,undef,undef,Zn,v,.int .u32 (u32.wrap (2*b)),.int .i64 (i64.wrap (i+1))] h [(decide (i<k.tmod 16),true),(decide ((16:Int)=0),false)]:=by and_intros<;>kernel_rfl
theorem ZsX (a v:Value) (k b i:Int) (h:Hp) (g:Nat→Value):Zm (evC (Zp prog Zh Zo hcV) 100 false (sL1 f44) ([a,.int .i64 k,undef,undef,Zn,v,.int .u32 b,.int .i64 i]++tl 42 g,h,[cmp true,cmp false]) ⟨[],[],[]⟩) 8 42 (some (some 0)) [a,.int .i64 k,undef,undef,Zn,v,.int .u32 b,.int .i64 i] h [(decide (i<k.tmod 16),false),(decide ((16:Int)=0),false)]:=by and_intros<;>kernel_rfl
theorem ZsY (a v:Value) (k b i:Int) (h:Hp) (g:Nat→Value):Zm (evC (Zp prog Zh Zo hcV) 100 false (sR9 f44) ([a,.int .i64 k,undef,undef,Zn,v,.int .u32 b,.int .i64 i]++tl 42 g,h,[]) ⟨[],[],[]⟩) 9 41 none [a,.int .i64 k,undef,undef,Zn,v,.int .u32 b,.int .i64 i,.int .u32 0] h []:=by and_intros<;>kernel_rfl
theorem ZoG (a v:Value) (k b i:Int) (h:Hp) (g:Nat→Value):Zm (evC (Zp prog Zh Zo hcV) 100 false (Z0G f44) ([a,.int .i64 k,undef,undef,Zn,v,.int .u32 b,.int .i64 i,.int .u32 0]++tl 41 g,h,[]) ⟨[],[],[]⟩) 10 40 none [a,.int .i64 k,undef,undef,Zn,v,.int .u32 b,.int .i64 i,.int .u32 0,.int .i64 0] h []:=by and_intros<;>kernel_rfl
def cy (e x b:Int):Int:=u32.wrap (e+u32.wrap (x*b))
def lAx (l:List Value) (o n:Nat) (i x:Int):Log:=[(decide ((65536:Int)=0),false),(ZC (l[o+i.toNat*1]?) (.int .u32 x),true),(decide (0≤i∧i<n),true),(decide (i<n),true)]
theorem ZoH (o n c z z':Nat) (b e i x:Int) (l lo:List Value) (j1 j7:Value) (g:Nat→Value):Zm (evC (Zp prog Zh Zo hcV) 100 false (sL2 f44) ([sl 0 o n c,j1,undef,undef,Zn,sl 1 0 z z',.int .u32 b,j7,.int .u32 e,.int .i64 i]++tl 40 g,⟨2,[(lo,tU),(l,tR)]⟩,[cmp true,at_,val (.int .u32 x),cmp true,num 0]) ⟨[],[],[]⟩) 10 40 none [sl 0 o n c,j1,undef,undef,Zn,sl 3 0 (z+1) grown,.int .u32 b,j7,.int .u32 (u32.wrap ((cy e x b).tdiv 65536)),.int .i64 (i64.wrap (i+1))] ⟨4,[(lo++[.int .u32 ((cy e x b).tmod 65536)],tU),([.int .u32 ((cy e x b).tmod 65536)],tU),(lo,tU),(l,tR)]⟩ ((Zc7 (lo,tU) ([.int .u32 ((cy e x b).tmod 65536)],tU) z z' 0 1,true)::lAx l o n i x):=by and_intros<;>kernel_rfl
theorem ZoI (o n c z:Nat) (b e i x:Int) (l lo:List Value) (j1 j7:Value) (g:Nat→Value):Zm (evC (Zp prog Zh Zo hcV) 100 false (sL2 f44) ([sl 0 o n c,j1,undef,undef,Zn,sl 1 0 z grown,.int .u32 b,j7,.int .u32 e,.int .i64 i]++tl 40 g,⟨2,[(lo,tU),(l,tR)]⟩,[cmp true,at_,val (.int .u32 x),cmp true,at_]) ⟨[],[],[]⟩) 10 40 none [sl 0 o n c,j1,undef,undef,Zn,sl 3 0 (z+1) grown,.int .u32 b,j7,.int .u32 (u32.wrap ((cy e x b).tdiv 65536)),.int .i64 (i64.wrap (i+1))] ⟨4,[(lo++[.int .u32 ((cy e x b).tmod 65536)],tU),([.int .u32 ((cy e x b).tmod 65536)],tU),([],2*ZV),(l,tR)]⟩ ((zQ tU (lo,tU) ([.int .u32 ((cy e x b).tmod 65536)],tU) z 0 1,true)::lAx l o n i x):=by and_intros<;>kernel_rfl
theorem ZlK (p:Option Addr) (n c:Nat) (v:Value) (b e i:Int) (h:Hp) (j1 j7:Value) (g:Nat→Value):Zm (evC (Zp prog Zh Zo hcV) 100 false (sL2 f44) ([.slice p n c,j1,undef,undef,Zn,v,.int .u32 b,j7,.int .u32 e,.int .i64 i]++tl 40 g,h,[cmp false]) ⟨[],[],[]⟩) 10 40 (some (some 2)) [.slice p n c,j1,undef,undef,Zn,v,.int .u32 b,j7,.int .u32 e,.int .i64 i] h [(decide (i<n),false)]:=by and_intros<;>kernel_rfl
theorem ZoJ (a:Value) (z:Nat) (b e i:Int) (x:List Value×TypeId) (lo:List Value) (j1 j7:Value) (g:Nat→Value):Zm (evC (Zp prog Zh Zo hcV) 100 false (sEn f44) ([a,j1,undef,undef,Zn,sl 1 0 z grown,.int .u32 b,j7,.int .u32 e,.int .i64 i]++tl 40 g,⟨2,[(lo,tU),x]⟩,[at_]) ⟨[],[],[]⟩) 5 45 (some none) [a,j1,undef,undef,sl 3 0 (Z3 (zu (lo++[.int .u32 e]) 0 (z+1))) (Z3 (zu (lo++[.int .u32 e]) 0 (z+1)))] ⟨4,[(lo++[.int .u32 e],tU),([.int .u32 e],tU),([],2*ZV),x]⟩ [(ZaK tU (lo++[.int .u32 e]) 0 (z+1) grown,true),(zQ tU (lo,tU) ([.int .u32 e],tU) z 0 1,true)]:=by and_intros<;>kernel_rfl
theorem ZiL (a v:Value) (k:Nat) (h:Hp) (g:Nat→Value):
  Runs (Zp prog Zh Zo hcV) (.block 0 (.loop (sL1 f44))) ([a,.int .i64 (k:Nat),undef,undef,Zn,v,.int .u32 1,.int .i64 0]++tl 42 g,h,[]) fun e Y=>match e with | none=>(∃ g,Y.1=[a,.int .i64 (k:Nat),undef,undef,Zn,v,.int .u32 ((2^(k % 16):Nat):Int),.int .i64 ((k % 16:Nat):Int)]++tl 42 g)∧Y.2.1=h | some none=>False | some (some _)=>False:=by
 have em:(k:Int).tmod 16=((k % 16:Nat):Int):=by rw[Int.tmod_eq_emod_of_nonneg (by omega)];omega
 refine Runs.forLoop (P:=fun Y=>(∃ g,Y.1=[a,.int .i64 (k:Nat),undef,undef,Zn,v,.int .u32 ((2^(k % 16):Nat):Int),.int .i64 ((k % 16:Nat):Int)]++tl 42 g)∧Y.2.1=h) (R:=fun _=>False)
  (fun m Y=>∃ j:Nat,j≤k % 16∧m=k % 16-j∧(∃ g,Y.1=[a,.int .i64 (k:Nat),undef,undef,Zn,v,.int .u32 ((2^j:Nat):Int),.int .i64 (j:Nat)]++tl 42 g)∧Y.2.1=h) ?_ (n:=k % 16) ⟨0,by omega,by omega,⟨g,rfl⟩,rfl⟩
 rintro m ⟨t,h',s⟩ ⟨j,hj,hm,⟨g,ht⟩,hh⟩;simp only at ht hh;subst ht hh;by_cases hlt:j<k % 16
 ·refine (Zj (Zg Zd Zs) (ZsW a v k _ j h' g) (Zt (by rw[em];exact Xa (by omega)) (Z2 rfl))).mono fun e z hz=> ?_;obtain⟨rfl,⟨g',z1⟩,z2⟩:=hz;have hp:2^j≤32768:=by
   have:=Nat.pow_le_pow_right (show 0<2 by omega) (show j≤15 by omega);omega
  have e1:u32.wrap (2*((2^j:Nat):Int))=((2^(j+1):Nat):Int):=by
   rw[Nat.pow_succ];generalize 2^j=Q at hp ⊢;rw[ze (by omega) (by omega)];omega
  have e2:i64.wrap ((j:Int)+1)=((j+1:Nat):Int):=by rw[ZL (by omega) (by omega)];omega
  exact⟨k % 16-(j+1),by omega,j+1,by omega,rfl,⟨g',by rw[z1,e1,e2]⟩,z2⟩
 ·have hj':j=k % 16:=by omega
  subst hj';refine (Zj (Zg Zd Zs) (ZsX a v k _ _ h' g) (Zt (by rw[em];exact Xb (by omega)) (Z2 rfl))).mono fun e z hz=> ?_;obtain⟨rfl,⟨g',z1⟩,z2⟩:=hz;exact⟨rfl,⟨g',z1⟩,z2⟩
theorem ZfM {L M:List Int}{k c:Nat}(hk:k=L.length) (hc:k=c) (hM:0<M.length) (hb:L.length+M.length≤1073741824):Zc7 (wU L,tU) (wU M,tU) k c 0 M.length=true:=by
 subst hc;subst hk;unfold Zc7;simp only[Xh,Bool.not_eq_true',Zbt];refine⟨⟨⟨⟨⟨⟨⟨⟨Nat.beq_refl _,Nat.ble_eq_true_of_le hb⟩,by kernel_rfl⟩,Zk.2 (by unfold ZV;omega)⟩,?_⟩,by kernel_rfl⟩,Nat.ble_eq_true_of_le (by omega)⟩,Zk.2 hM⟩,?_⟩
 ·cases h:Nat.ble (L.length+M.length) L.length
  ·rfl
  ·have:=Nat.le_of_ble_eq_true h;omega
 ·rw[List.drop_zero,← Zbt,List.take_length];exact Zqp M
theorem ZwY {e x P:Nat}(he:e<P) (hx:x<65536) (hP:P≤32768):cy e x P=((e+x*P:Nat):Int)∧e+x*P<65536*P:=by
 have h1:x*P≤65535*P:=Nat.mul_le_mul_right P (by omega);have e1:(x:Int)*(P:Int)=((x*P:Nat):Int):=by simp
 unfold cy;rw[e1,ze (n:=((x*P:Nat):Int)) (by omega) (by omega),ze (by omega) (by omega)];omega
theorem ZoK {O:List Int}{z i e x P W:Nat}(hO:O.length=z+i) (h:vb 65536 O+65536^(z+i)*e=65536^z*(P*W)):
  vb 65536 (O++[(((e+x*P) % 65536:Nat):Int)])+65536^(z+(i+1))*((e+x*P)/65536)=65536^z*(P*(W+65536^i*x)):=by
 rw[Zcv,Xg,hO,← Nat.add_assoc,Nat.pow_succ,Nat.mul_assoc];have e0:=Nat.mod_add_div (e+x*P) 65536;have e1:65536^(z+i)*((e+x*P) % 65536)+65536^(z+i)*(65536*((e+x*P)/65536))=65536^(z+i)*e+65536^(z+i)*(x*P):=by rw[← Nat.mul_add,e0,Nat.mul_add]
 have e2:65536^z*(P*(W+65536^i*x))=65536^z*(P*W)+65536^(z+i)*(x*P):=by
  rw[Nat.mul_add P,Nat.mul_add (65536^z),Nat.pow_add];congr 1;rw[Nat.mul_assoc (65536^z),Nat.mul_comm x P,Nat.mul_left_comm P]
 omega
section
variable {l : List Value} {o c : Nat} {A : List Int}
def hSt (l:List Value) (o c n z i P e:Nat) (j1 j7:Value) (O:List Int) (Y:Lf):Prop:=
 (i=0∧(∃ g,Y.1=[sl 0 o n c,j1,undef,undef,Zn,sl 1 0 z z,.int .u32 (P:Nat),j7,.int .u32 (e:Nat),.int .i64 (i:Nat)]++tl 40 g)∨(0<i∧∃ g,Y.1=[sl 0 o n c,j1,undef,undef,Zn,sl 1 0 (z+i) grown,.int .u32 (P:Nat),j7,.int .u32 (e:Nat),.int .i64 (i:Nat)]++tl 40 g))∧Y.2.1=⟨2,[(wU O,tU),(l,tR)]⟩
theorem ZiM (hR:Row l o A) (hs:∀ v∈l,still v=true) (hA:∀ x∈A,Dg 65536 x) {z i P e:Nat}{O:List Int}(hO:O.length=z+i) (he:e<P) (hP:P≤32768) (hi:i<A.length) (hz:z+A.length+2<1073741824) {j1 j7:Value}(w1:lt 2 j1=true∧rn (zv 1 3) j1=j1) (w7:lt 2 j7=true∧rn (zv 1 3) j7=j7) {Y:Lf}(hY:hSt l o c A.length z i P e j1 j7 O Y):
  RunsW (Zp prog Zh Zo hcV) (sL2 f44) Y fun ex W=>ex=none∧(∃ g,W.1=[sl 0 o A.length c,j1,undef,undef,Zn,sl 1 0 (z+(i+1)) grown,.int .u32 (P:Nat),j7,.int .u32 (((e+dgN A i*P)/65536:Nat):Int),.int .i64 ((i+1:Nat):Int)]++tl 40 g)∧W.2.1=⟨2,[(wU (O++[(((e+dgN A i*P) % 65536:Nat):Int)]),tU),(l,tR)]⟩:=by
 obtain⟨t,h',s⟩:=Y;have hd:=zn hA i;obtain⟨ec,hlt⟩:=ZwY he hd.1 hP;have e1:(cy e (A.getD i 0) P).tmod 65536=(((e+dgN A i*P) % 65536:Nat):Int):=by rw[← hd.2,ec,ZeR]
 have e2:u32.wrap ((cy e (A.getD i 0) P).tdiv 65536)=(((e+dgN A i*P)/65536:Nat):Int):=by rw[← hd.2,ec,ZeS (by omega)]
 have e3:i64.wrap ((i:Int)+1)=((i+1:Nat):Int):=by rw[ZL (by omega) (by omega)];omega
 have hlog:Zx (lAx l o A.length i (A.getD i 0)):=Zt rfl (Zt (by
  show ZC (l[o+(i:Int).toNat*1]?) _=true;rw[Xg,Nat.mul_one,hR.cell hi];simp [ZC]) (Zt (Xa (by omega)) (Z2 (Xa (by omega)))))
 have ew:wU O++[.int .u32 (((e+dgN A i*P) % 65536:Nat):Int)]=wU (O++[(((e+dgN A i*P) % 65536:Nat):Int)]):=by rw[ZO];rfl
 have key:∀ {X:List Value×TypeId},RunsW (Zp prog Zh Zo hcV) (sL2 f44) (t,h',s) (fun ex W=>ex=none∧(∃ g,W.1=[sl 0 o A.length c,j1,undef,undef,Zn,sl 3 0 (z+i+1) grown,.int .u32 (P:Nat),j7,.int .u32 (((e+dgN A i*P)/65536:Nat):Int),.int .i64 ((i+1:Nat):Int)]++tl 40 g)∧W.2.1=⟨4,[(wU (O++[(((e+dgN A i*P) % 65536:Nat):Int)]),tU),([.int .u32 (((e+dgN A i*P) % 65536:Nat):Int)],tU),X,(l,tR)]⟩)→
   RunsW (Zp prog Zh Zo hcV) (sL2 f44) (t,h',s) fun ex W=>ex=none∧(∃ g,W.1=[sl 0 o A.length c,j1,undef,undef,Zn,sl 1 0 (z+(i+1)) grown,.int .u32 (P:Nat),j7,.int .u32 (((e+dgN A i*P)/65536:Nat):Int),.int .i64 ((i+1:Nat):Int)]++tl 40 g)∧W.2.1=⟨2,[(wU (O++[(((e+dgN A i*P) % 65536:Nat):Int)]),tU),(l,tR)]⟩:=fun {X} fin=>
  fin.kept (k:=1) (b:=3) (base:=[(l,tR)]) (y:=(wU (O++[(((e+dgN A i*P) % 65536:Nat):Int)]),tU)) (front':=[sl 0 o A.length c,j1,undef,undef,Zn,sl 1 0 (z+(i+1)) grown,.int .u32 (P:Nat),j7,.int .u32 (((e+dgN A i*P)/65536:Nat):Int),.int .i64 ((i+1:Nat):Int)]) rfl
   (by simp only[List.map_cons,List.map_nil,w1.2,w7.2];kernel_rfl) (fun j x hx=>by
    have hj:j<1:=Hp.blk_lt hx;have hj0:j=0:=by omega
    subst hj0;have hx':x=(l,tR):=(Option.some.inj hx).symm;subst hx';exact⟨rfl,hs⟩) rfl (by omega) (ZP _) (fun v hv=>by
    simp only[List.mem_cons,List.not_mem_nil,or_false] at hv;rcases hv with rfl | rfl | rfl | rfl | rfl | rfl | rfl | rfl | rfl | rfl
    ·rfl
    ·exact w1.1
    ·rfl
    ·rfl
    ·rfl
    ·rfl
    ·rfl
    ·exact w7.1
    ·rfl
    ·rfl)
 obtain⟨hY,hh⟩:=hY;simp only at hY hh;subst hh;rcases hY with ⟨h0,g,ht⟩ | ⟨h0,g,ht⟩
 ·subst ht;have hchk:Zc7 (wU O,tU) ([.int .u32 ((cy e (A.getD i 0) P).tmod 65536)],tU) z z 0 1=true:=
   ZfM (L:=O) (M:=[(cy e (A.getD i 0) P).tmod 65536]) (by omega) rfl (show 0<1 by omega) (by show O.length+1≤_;omega)
  have fin:=Zc (Zg Zd Zs) (s0:=s) (ZoH o A.length c z z P e i (A.getD i 0) l (wU O) j1 j7 g) (Zt hchk hlog);rw[e1,e2,e3,ew] at fin;refine key (X:=(wU O,tU)) (fin.mono fun ex W hW=> ?_);subst h0;exact hW
 ·subst ht;have hchk:zQ tU (wU O,tU) ([.int .u32 ((cy e (A.getD i 0) P).tmod 65536)],tU) (z+i) 0 1=true:=
   ZaF (L:=O) (M:=[(cy e (A.getD i 0) P).tmod 65536]) hO.symm (show 0<1 by omega) (by show O.length+1≤_;omega)
  have fin:=Zc (Zg Zd Zs) (s0:=s) (ZoI o A.length c (z+i) P e i (A.getD i 0) l (wU O) j1 j7 g) (Zt hchk hlog);rw[e1,e2,e3,ew] at fin;exact key (X:=([],2*ZV)) fin
def Z2R (l:List Value) (o c z P:Nat) (A:List Int) (j1 j7:Value) (m:Nat) (Y:Lf):Prop:=
 ∃ (i e:Nat) (O:List Int),m=A.length-i∧i≤A.length∧O.length=z+i∧e<P∧(∀ x∈O,Dg 65536 x)∧vb 65536 O+65536^(z+i)*e=65536^z*(P*vb 65536 (A.take i))∧hSt l o c A.length z i P e j1 j7 O Y
def Z0H (l:List Value) (o c z P:Nat) (A:List Int) (j1 j7:Value) (Y:Lf):Prop:=
 ∃ (e:Nat) (O:List Int),O.length=z+A.length∧e<P∧(∀ x∈O,Dg 65536 x)∧vb 65536 O+65536^(z+A.length)*e=65536^z*(P*vb 65536 A)∧hSt l o c A.length z A.length P e j1 j7 O Y
theorem ZiN (hR:Row l o A) (hs:∀ v∈l,still v=true) (hA:∀ x∈A,Dg 65536 x) {z P:Nat}(h0:0<P) (hP:P≤32768) (hz:z+A.length+2<1073741824) {j1 j7:Value}(w1:lt 2 j1=true∧rn (zv 1 3) j1=j1) (w7:lt 2 j7=true∧rn (zv 1 3) j7=j7) (g:Nat→Value):
  RunsW (Zp prog Zh Zo hcV) (.block 2 (.loop (sL2 f44))) ([sl 0 o A.length c,j1,undef,undef,Zn,sl 1 0 z z,.int .u32 (P:Nat),j7,.int .u32 0,.int .i64 0]++tl 40 g,⟨2,[(zz z,tU),(l,tR)]⟩,[]) fun e Y=>match e with | none=>Z0H l o c z P A j1 j7 Y | some none=>False | some (some _)=>False:=by
 have ez:zz z=wU (List.replicate z 0):=by unfold zz wU;rw[List.map_replicate]
 have vz:∀ k,vb 65536 (List.replicate k 0)=0:=fun k=>by
  induction k with
  | zero=>rfl
  | succ k ih=>rw[List.replicate_succ];simp [vb,ih]
 refine RunsW.forLoop (P:=Z0H l o c z P A j1 j7) (R:=fun _=>False) (Z2R l o c z P A j1 j7) ?_ (n:=A.length) ⟨0,0,List.replicate z 0,by omega,by omega,by simp,h0,(fun x hx=>by rw[List.eq_of_mem_replicate hx];exact⟨by omega,by omega⟩),by rw[vz];simp [vb],.inl ⟨rfl,g,rfl⟩,by rw[ez]⟩;rintro m Y ⟨i,e,O,hm,hi,hO,he,hOd,hv,hY⟩;by_cases hlt:i<A.length
 ·have r:=ZiM hR hs hA hO he hP hlt hz w1 w7 hY;refine r.mono fun ex W hW=> ?_;obtain⟨rfl,z1,z2⟩:=hW;have hd:=zn hA i;obtain⟨_,hl2⟩:=ZwY he hd.1 hP;refine⟨A.length-(i+1),by omega,i+1,(e+dgN A i*P)/65536,O++[(((e+dgN A i*P) % 65536:Nat):Int)],rfl,by omega,by rw[List.length_append,hO];rfl,Nat.div_lt_of_lt_mul hl2,fun x hx=> ?_,?_,.inr ⟨by omega,z1⟩,z2⟩
  ·rcases List.mem_append.1 hx with hx | hx
   ·exact hOd x hx
   ·rw[List.mem_singleton.1 hx];exact⟨by omega,by omega⟩
  ·have e1:vb 65536 (A.take (i+1))=vb 65536 (A.take i)+65536^i*dgN A i:=Zaw 65536 A i;rw[e1];exact ZoK hO hv
 ·have hil:i=A.length:=by omega
  subst hil;rw[List.take_length] at hv;obtain⟨t,h',s⟩:=Y;obtain⟨hY,hh⟩:=hY;simp only at hY hh;subst hh;rcases hY with ⟨h0,g,ht⟩ | ⟨h0,g,ht⟩
  ·subst ht;refine (Zc (Zg Zd Zs) (ZlK _ _ _ _ _ _ _ _ j1 j7 g) (Z2 (Xb (by omega)))).mono fun ex W hW=> ?_;obtain⟨rfl,⟨g',z1⟩,z2⟩:=hW;exact⟨rfl,e,O,hO,he,hOd,hv,.inl ⟨h0,g',z1⟩,z2⟩
  ·subst ht;refine (Zc (Zg Zd Zs) (ZlK _ _ _ _ _ _ _ _ j1 j7 g) (Z2 (Xb (by omega)))).mono fun ex W hW=> ?_;obtain⟨rfl,⟨g',z1⟩,z2⟩:=hW;exact⟨rfl,e,O,hO,he,hOd,hv,.inr ⟨h0,g',z1⟩,z2⟩
end
theorem ZlL {l:List Value}{o c:Nat}{A:List Int}(hR:Row l o A) (hs:∀ v∈l,still v=true) (hA:∀ x∈A,Dg 65536 x) (h0:0<A.length) {k:Nat}(hk:k/16+A.length+3<1073741824) {V:Nat}(hV:V=vb 65536 A*2^k):
  RunsW (Zp prog Zh Zo hcV) (Zaz (sPr f44) (.seq (.seq (sR5 f44) (.block 0 (.loop (sL1 f44)))) (.seq (sR9 f44) (.seq (.seq (Z0G f44) (.block 2 (.loop (sL2 f44)))) (sEn f44))))) ([sl 0 o A.length c,.int .i64 (k:Nat)]++List.replicate 48 undef,⟨1,[(l,tR)]⟩,[]) fun e z=>(e=none∨e=some none)∧Zau prog f44 z.1 z.2.1=some (sl 3 0 (d16 V).length (d16 V).length)∧∃ r,z.2.1.blk? 3=some (wU (d16 V)++r,tU):=by
 have ek:k16 (k:Int)=((k/16:Nat):Int):=by
  unfold k16;rw[Int.tdiv_eq_ediv_of_nonneg (by omega),ZL (by omega) (by omega)];omega
 have hP:2^(k % 16)≤32768:=by
  have:=Nat.pow_le_pow_right (show 0<2 by omega) (show k % 16≤15 by omega);omega
 have hP0:0<2^(k % 16):=Nat.pow_pos (by omega);have hpk:2^k=65536^(k/16)*2^(k % 16):=by
  rw[ZdH,← Nat.pow_add];congr 1;omega
 refine Z0 (Zg Zd Zs) (ZoF o A.length c k (l,tR)) (Zt (by rw[ek];exact Xa (by omega)) (Z2 (beq_eq_false_iff_ne.2 (by omega)))) fun g=> ?_;rw[ek,Xg];refine ZfK (Zc (Zg Zd Zs) (ZsV _ _ k _ g) (fun x hx=>by cases hx)) (fun e y he=>by cases he.1) (P2:=fun e Y=>match e with | none=>(∃ g,Y.1=[sl 0 o A.length c,.int .i64 (k:Nat),undef,undef,Zn,sl 1 0 (k/16) (k/16),.int .u32 ((2^(k % 16):Nat):Int),.int .i64 ((k % 16:Nat):Int)]++tl 42 g)∧Y.2.1=⟨2,[(zz (k/16),tU),(l,tR)]⟩ | some none=>False | some (some _)=>False) ?_ ?_ ?_
 ·rintro⟨t,h',s⟩ ⟨_,⟨g',ht⟩,hh⟩;simp only at ht hh;subst ht hh;exact RunsW.script (ZiL _ _ k _ g').w
 ·intro e y he
  match e,he with
  | none,he=>exact he
  | some id,he=>exact he
 ·rintro⟨t,h',s⟩ ⟨⟨g',ht⟩,hh⟩;simp only at ht hh;subst ht hh;refine RunsW.seq (P1:=fun e Y=>e=none∧(∃ g,Y.1=[sl 0 o A.length c,.int .i64 (k:Nat),undef,undef,Zn,sl 1 0 (k/16) (k/16),.int .u32 ((2^(k % 16):Nat):Int),.int .i64 ((k % 16:Nat):Int),.int .u32 0]++tl 41 g)∧Y.2.1=⟨2,[(zz (k/16),tU),(l,tR)]⟩) (Zc (Zg Zd Zs) (ZsY _ _ k _ _ _ g') (fun x hx=>by cases hx)) ?_ (fun e y he=>by cases he.1);rintro⟨t,h',s⟩ ⟨_,⟨g',ht⟩,hh⟩;simp only at ht hh;subst ht hh;refine ZfK (Zc (Zg Zd Zs) (ZoG _ _ k _ _ _ g') (fun x hx=>by cases hx)) (fun e y he=>by cases he.1) (P2:=fun e Y=>match e with | none=>Z0H l o c (k/16) (2^(k % 16)) A (.int .i64 (k:Nat)) (.int .i64 ((k % 16:Nat):Int)) Y | some none=>False | some (some _)=>False) ?_ ?_ ?_
  ·rintro⟨t,h',s⟩ ⟨_,⟨g',ht⟩,hh⟩;simp only at ht hh;subst ht hh;exact RunsW.script (ZiN hR hs hA hP0 hP (by omega) ⟨rfl,rfl⟩ ⟨rfl,rfl⟩ g')
  ·intro e y he
   match e,he with
   | none,he=>exact he
   | some id,he=>exact he
  ·rintro⟨t,h',s⟩ ⟨e,O,hO,he,hOd,hv,hY,hh⟩;simp only at hY hh;subst hh;rcases hY with ⟨e0,_⟩ | ⟨_,g',ht⟩
   ·omega
   ·subst ht;have hOd':∀ x∈O++[(e:Int)],Dg 65536 x:=fun x hx=>by
     rcases List.mem_append.1 hx with hx | hx
     ·exact hOd x hx
     ·rw[List.mem_singleton.1 hx];exact⟨by omega,by omega⟩
    have hlen:(O++[(e:Int)]).length=k/16+A.length+1:=by rw[List.length_append,hO];rfl
    have ew:wU O++[.int .u32 (e:Int)]=wU (O++[(e:Int)]):=by rw[ZO];rfl
    have hval:vb 65536 (O++[(e:Int)])=V:=by
     rw[Zcv,hO,Xg,hv,hV,hpk,Nat.mul_comm (vb 65536 A),Nat.mul_assoc]
    have hrow:ZaK tU (wU (O++[(e:Int)])) 0 (k/16+A.length+1) grown=true:=by
     rw[← hlen];exact zY (fun x hx=>⟨(hOd' x hx).1,by have:=(hOd' x hx).2;omega⟩) (by omega) (Zu5 _)
    have hchk:zQ tU (wU O,tU) ([.int .u32 (e:Int)],tU) (k/16+A.length) 0 1=true:=
     ZaF (L:=O) (M:=[(e:Int)]) hO.symm (show 0<1 by omega) (by show O.length+1≤_;omega)
    refine (Zc (Zg Zd Zs) (ZoJ _ (k/16+A.length) _ e _ (l,tR) (wU O) _ _ g') (by rw[ew];exact Zt hrow (Z2 hchk))).mono fun ex W hW=> ?_;rw[ew] at hW;obtain⟨rfl,⟨g2,z1⟩,z2⟩:=hW;have et:Z3 (zu (wU (O++[(e:Int)])) 0 (k/16+A.length+1))=(d16 V).length:=by
     rw[← hlen,ZaE,Zad (by omega) hOd',hval];rfl
    refine⟨.inr rfl,?_,?_⟩
    ·rw[z1,z2,et];rfl
    ·rw[z2];refine⟨wU ((O++[(e:Int)]).drop (Z3 (O++[(e:Int)]))),?_⟩;have e3:wU (d16 V)++wU ((O++[(e:Int)]).drop (Z3 (O++[(e:Int)])))=wU (O++[(e:Int)]):=by
      unfold d16;rw[← hval,← zj (by omega) _ hOd',← ZO,List.take_append_drop]
     rw[e3];rfl
def ZoL:Zcl:=fun vals h s=>
 match vals,s with
 | [.slice p n c,.int .i64 k],.inr (.inr (.inr (.inl d)))::s'=>
  match d with
  | true=>Zei (vO h p n*2^k.toNat) h s' [(zS h p n c && dgB (Zu h p n) && Nat.blt (k.toNat/16+n+3) 1073741824 && decide (0≤k),true),(decide (0<n),true)]
  | false=>some (Zn,h,s',[(zS h p n c,true),(decide (0<n),false)])
 | _,_=>none
theorem ZeV:za 44 ZoL:=by
 intro vals h s v h' s' lg hg hl m B w E hv;unfold ZoL at hg;split at hg
 ·rename_i p n c k d s2;split at hg
  ·unfold Zei at hg;cases hg;have q1:=hl _ (Xe);have q2:=hl _ (Xd _ Xf);simp only[Xh,Xi] at q1 q2;obtain⟨⟨⟨r1,r2⟩,r3⟩,r4⟩:=q1;have r2:=ZaY r2;have r3:=Zk.1 r3;obtain⟨K,rfl⟩:=Int.eq_ofNat_of_zero_le r4;rw[Xg] at r3 ⊢;rcases Z8 r1 with ⟨rfl,rfl,rfl,e0⟩ | ⟨b,o,x,rfl,hx,t1,t2,e0⟩
   ·omega
   ·rw[e0] at r2;obtain⟨h1,h2,h3,h4,h5,h6,h7⟩:=ZU t1;have ev:vO h (some ⟨b,o,none⟩) n=vb 65536 (zu x.1 o n):=by unfold vO;rw[e0]
    have r:=ZlL (c:=c) h1 t2 r2 (by rw[h2];exact q2) (k:=K) (by rw[h2];exact r3) rfl;rw[h2] at r;rw[ev];exact zm (T:=Zp prog Zh Zo hcV) func44 ZlI (ZcH h7) (vals:=[sl 0 o n c,.int .i64 (K:Nat)]) (fun v hv=>by
     simp only[List.mem_cons,List.not_mem_nil,or_false] at hv;rcases hv with rfl | rfl<;>rfl) (k:=3) (cs:=wU (d16 (vb 65536 (zu x.1 o n)*2^K))) (ty:=tU) (Zbu _) (by kernel_rfl) r (by rfl) E (s:=fun _=>b) (Zbs hx h5 h6 rfl)
  ·cases hg;have q1:=hl _ (Xe);have q2:=hl _ (Xd _ Xf);simp only[decide_eq_false_iff_not] at q1 q2;have hn:n=0:=by omega
   subst hn;obtain⟨x,p',a,NA,eA,fA⟩:=Zbv 0 q1;have hr:Runs (Zp prog Zh Zo hcV) (Zv f44) ([.slice p' 0 c,.int .i64 k]++List.replicate 48 undef,⟨1,[x]⟩,[]) fun e z=>(e=none∨e=some none)∧Zau prog f44 z.1 z.2.1=some Zn:=by
    refine (Zj (Zg Zd Zs) (ZlJ p' 0 c _ _) (Z2 rfl)).mono fun e z he=> ?_;obtain⟨rfl,⟨g,e2⟩,e3⟩:=he;refine⟨.inr rfl,?_⟩;rw[e2,e3];rfl
   have b1:∀ {i:Nat}{z:List Value×TypeId},(⟨1,[x]⟩:Hp).blk? i=some z→i=0∧z=x:=fun {i z} hz=>by
    have:i<1:=Hp.blk_lt hz;have hi:i=0:=by omega
    subst hi;exact⟨rfl,(Option.some.inj hz).symm⟩
   have:=ZH (T:=Zp prog Zh Zo hcV) func44 ZiK (h0:=⟨1,[x]⟩) ⟨rfl,fun b z hz=>by obtain⟨_,rfl⟩:=b1 hz;exact⟨NA.ros.1,NA.lt0,NA.ros.2⟩⟩ (vals:=[.slice p' 0 c,.int .i64 k]) (fun v hv=>by
    simp only[List.mem_cons,List.not_mem_nil,or_false] at hv;rcases hv with rfl | rfl
    ·exact NA.lt (by show 0<1;omega)
    ·rfl) (v:=Zn) (by rfl) hr.w E (s:=fun _=>a) (fun i z hz ht=>by obtain⟨_,rfl⟩:=b1 hz;exact fA ht)
   simp only[List.map_cons,List.map_nil] at this;rw[eA _ rfl] at this;exact this
 ·cases hg
end Go.Proofs.YtekebccjflilnaaGreat
namespace Go.Nt
set_option maxRecDepth 100000
theorem Zg0:∀ (i V:Nat),((db 65536 V).getD i 0).toNat=V/65536^i % 65536
 | i,V=>by
  by_cases hV:V=0
  ·rw[hV,zx];simp
  ·rw[ZbX (by omega) hV];cases i with
   | zero=>simp;omega
   | succ i=>
    have:=Zg0 i (V/65536);rw[List.getD_cons_succ,this,Nat.div_div_eq_div_mul,Nat.pow_succ,Nat.mul_comm (65536^i)]
theorem Z0I {c:Nat}(h:c<4294967296):c/65536 % 65536*65536+c % 65536=c:=by omega
theorem ZsZ {v:Nat}(h:v<281474976710656):v/4294967296 % 65536*4294967296+v/65536 % 65536*65536+v % 65536=v:=by
 have h1:v/4294967296<65536:=by omega
 have h2:v/4294967296=v/65536/65536:=by rw[Nat.div_div_eq_div_mul]
 rw[Nat.mod_eq_of_lt h1,h2];omega
theorem Z0J {v:Nat}(h:v<4294967296):v/65536 % 65536*4294967296+v % 65536*65536+0=v*65536:=by omega
def ZoM (V n:Nat):Nat:=(V/65536^n % 65536)*4294967296+(V/65536^(n-1) % 65536)*65536+(if 2≤n then V/65536^(n-2) % 65536 else 0)
def ZmA (B n:Nat):Nat:=(B/65536^(n-1) % 65536)*65536+(if 2≤n then B/65536^(n-2) % 65536 else 0)
theorem ZwZ {V B n:Nat}(hn:1≤n) (h0:65536^(n-1)≤B) (h1:B<65536^n) (hV:V<65536*B):0<ZmA B n∧ZmA B n<4294967296∧ZoM V n<281474976710656∧V/B≤ZoM V n/ZmA B n∧V/B<65536:=by
 have hp:0<65536^(n-1):=Nat.pow_pos (by omega);have hB:0<B:=by omega
 have hd:V/B<65536:=by rw[Nat.div_lt_iff_lt_mul hB];exact hV
 have b1:ZmA B n<4294967296:=by
  have:=Nat.mod_lt (B/65536^(n-1)) (show 0<65536 by omega);have:=Nat.mod_lt (B/65536^(n-2)) (show 0<65536 by omega);unfold ZmA;split<;>omega
 have b2:ZoM V n<281474976710656:=by
  have:=Nat.mod_lt (V/65536^n) (show 0<65536 by omega);have:=Nat.mod_lt (V/65536^(n-1)) (show 0<65536 by omega);have:=Nat.mod_lt (V/65536^(n-2)) (show 0<65536 by omega);unfold ZoM;split<;>omega
 by_cases h2:2≤n
 ·obtain⟨k,rfl⟩:∃ k,n=k+2:=⟨n-2,by omega⟩;have e1:k+2-1=k+1:=by omega
  have e2:k+2-2=k:=by omega
  rw[e1] at h0;unfold ZoM ZmA at*;rw[e1,e2,if_pos h2] at*;rw[if_pos h2] at*;have hw:0<65536^k:=Nat.pow_pos (by omega);have dv:∀ x j:Nat,x/65536^(k+j)=x/65536^k/65536^j:=fun x j=>by rw[Nat.pow_add,Nat.div_div_eq_div_mul]
  rw[dv V 2,dv V 1,dv B 1] at*;have p1:(65536:Nat)^1=65536:=rfl;have p2:(65536:Nat)^2=4294967296:=rfl;rw[p1,p2] at*;have hBw:B/65536^k<4294967296:=by
   rw[Nat.div_lt_iff_lt_mul hw];have:65536^(k+2)=4294967296*65536^k:=by rw[Nat.pow_add,p2,Nat.mul_comm]
   omega
  have hBl:65536≤B/65536^k:=by
   rw[Nat.le_div_iff_mul_le hw];have:65536^(k+1)=65536*65536^k:=by rw[Nat.pow_add,p1,Nat.mul_comm]
   omega
  have hVw:V/65536^k<281474976710656:=by
   rw[Nat.div_lt_iff_lt_mul hw];have:65536^(k+2)=4294967296*65536^k:=by rw[Nat.pow_add,p2,Nat.mul_comm]
   omega
  have hm:V/B*(B/65536^k)≤V/65536^k:=by
   rw[Nat.le_div_iff_mul_le hw,Nat.mul_assoc];have h3:B/65536^k*65536^k≤B:=Nat.div_mul_le_self _ _;have h4:=Nat.mul_le_mul_left (V/B) h3;have h5:=Nat.div_mul_le_self V B;omega
  generalize V/65536^k=v at*;generalize B/65536^k=c at*;have ec:=Z0I hBw;have ev:=ZsZ hVw;rw[ec,ev];have hc:0<c:=Nat.lt_of_lt_of_le (by decide) hBl;refine⟨hc,hBw,hVw,?_,hd⟩;rw[Nat.le_div_iff_mul_le hc];exact hm
 ·have e:n=1:=by omega
  subst e;unfold ZoM ZmA at*;rw[if_neg h2] at*;rw[if_neg h2] at*;have p1:(65536:Nat)^1=65536:=rfl;have p0:(65536:Nat)^(1-1)=1:=rfl;rw[p1] at*;rw[p0] at*;rw[Nat.div_one] at*;rw[Nat.div_one] at*;have hB1:B<65536:=h1;have hV1:V<4294967296:=Nat.lt_of_lt_of_le hV (Nat.mul_le_mul_left 65536 (Nat.le_of_lt hB1));have eB:B % 65536*65536+0=B*65536:=by rw[Nat.mod_eq_of_lt hB1,Nat.add_zero]
  have eV:=Z0J hV1;rw[eB,eV];rw[eB] at b1;rw[eV] at b2;refine⟨Nat.mul_pos hB (by decide),b1,b2,?_,hd⟩;rw[Nat.mul_div_mul_right _ _ (by decide)];exact Nat.le_refl _
theorem Zxa {L:List Int}(hC:Zap 65536 L) (h:1≤L.length):65536^(L.length-1)≤vb 65536 L:=by
 rcases Nat.lt_or_ge (vb 65536 L) (65536^(L.length-1)) with h1 | h1
 ·have:=Zd0 (b:=65536) (by omega) _ _ h1;rw[Zk7 (by omega) hC] at this;omega
 ·exact h1
theorem ZeW {L:List Int}{i:Nat}(h:i<L.length):vb 65536 (L.drop i)=(L.getD i 0).toNat+65536*vb 65536 (L.drop (i+1)):=by
 rw[List.drop_eq_getElem_cons h];simp only[vb];simp [List.getD,List.getElem?_eq_getElem h]
end Go.Nt
namespace Go.KRun
open Go.RowKit
theorem RunsW.keptP {T:Tab}{c:Code}{x0:Lf}{ex:Ex}{front front':List Value}{n k b:Nat}{h:Hp}{base:List (List Value×TypeId)}{y:List Value×TypeId}{r:List Value}(hr:RunsW T c x0 fun e z=>e=ex∧(∃ g,z.1=front++tl n g)∧z.2.1=h)
  (hk:base.length=k) (hf:front'.map (rn (zv k b))=front) (hx:∀ i x,(⟨k,base⟩:Hp).blk? i=some x→h.blk? i=some x∧∀ v∈x.1,still v=true) (hy:h.blk? b=some (y.1++r,y.2)) (hb:k≤b) (sy:∀ v∈y.1,still v=true) (hw:∀ v∈front',lt (k+1) v=true):
  RunsW T c x0 fun e z=>e=ex∧(∃ g,z.1=front'++tl n g)∧z.2.1=⟨k+1,y::base⟩:=by
 refine hr.small fun e z he=> .inr ?_;obtain⟨rfl,⟨g,h1⟩,h2⟩:=he;obtain⟨t,h',s⟩:=z;simp only at h1 h2;subst h1 h2;refine⟨front,front',tl n g,h',⟨k+1,y::base⟩,s,zv k b,rfl,hf,by simp [hk],Nat.succ_pos _,fun i z hz=> ?_,fun i j u v hi hj _ _ hij=> ?_,hw,fun g'=>⟨rfl,⟨g',by rw[Zlh]⟩,rfl⟩⟩
 ·rcases Zi2 hk hz with ⟨hi,hz'⟩ | ⟨rfl,rfl⟩
  ·obtain⟨q1,q2⟩:=hx i z hz';exact⟨q2,z,[],by unfold zv;rw[if_pos (Zk.2 hi)];exact q1,rfl,by simp⟩
  ·exact⟨sy,(z.1++r,z.2),r,by unfold zv;rw[if_neg (by rw[Zk];omega)];exact hy,rfl,rfl⟩
 ·unfold zv at hij;rcases Zi2 hk hi with ⟨h1,_⟩ | ⟨rfl,_⟩<;>rcases Zi2 hk hj with ⟨h2,_⟩ | ⟨rfl,_⟩
  ·rw[if_pos (Zk.2 h1),if_pos (Zk.2 h2)] at hij;exact hij
  ·rw[if_pos (Zk.2 h1),if_neg (by rw[Zk];omega)] at hij;omega
  ·rw[if_pos (Zk.2 h2),if_neg (by rw[Zk];omega)] at hij;omega
  ·rfl
theorem ZiO {T:Tab}{f:Nat}{F:Func}{c:Code}(hF:T.P.funcs[f]? =some F) (hc:F.body=some c) {h0:Hp}(hr:h0.rows) {vals:List Value}(hvals:∀ v∈vals,lt h0.n v=true) {v:Nat→Nat→Value}
  {cs ds:List Value}{ty:TypeId}(hcs:∀ u∈cs,lt1 0 u=true) (hds:∀ u∈ds,lt1 0 u=true) (hty:ro ty=false)
  (hrun:RunsW T c (vals++List.replicate (F.ntmps-vals.length) undef,h0,[]) fun e y=>(e=none∨e=some none)∧∃ k j,k≠j∧Zau T.P F y.1 y.2.1=some (v k j)∧(∃ r,y.2.1.blk? k=some (cs++r,ty))∧∃ r,y.2.1.blk? j=some (ds++r,ty))
  (hv0:∀ k j,oc [k,j] (v k j)=true)
  {m:Mp}{B:Nat}{h:Hp}{w:World}(E:Emb m B h w) {s:Nat→Nat}(hf:h0.fits s h) (hv1:∀ k j,∀ g:Nat→Nat,rn g (v k j)=v (g k) (g j)):
  Calls T.P f ((vals.map (rn s)).map (mv m)).toArray w fun e w'=>∃ m',e= .returned (mv m' (v h.n (h.n+1)))∧Came m B h w (v h.n (h.n+1)) ((h.push cs ty).push ds ty) m' w':=by
 have E0:=E.small hr hf;have ev:(vals.map (rn s)).map (mv m)=vals.map (mv fun i=>m (s i)):=by
  rw[List.map_map];exact List.map_congr_left fun y _=>ZcD m s y
 rw[ev];refine calls_of_wp hF hc ?_;have R:Rel (fun i=>m (s i)) w.heap.size (vals++List.replicate (F.ntmps-vals.length) undef,h0,[]) {tmps:=(vals.map (mv fun i=>m (s i))).toArray++Array.replicate (F.ntmps-(vals.map (mv fun i=>m (s i))).toArray.size) undef,defers:=[]} w:=by
  refine⟨?_,rfl,E0,?_⟩
  ·simp [zO]
  ·intro y hy;rcases List.mem_append.1 hy with hy | hy
   ·exact hvals y hy
   ·rw[List.eq_of_mem_replicate hy];simp [undef,lt]
 refine hrun _ _ _ w R _ fun e y he m1 a' w' k2 k3=> ?_;obtain⟨hex,k,j,hkj,hres,⟨r,hblk⟩,r',hblj⟩:=he;obtain⟨r1,r2⟩:=ZaO k2.emb k2.wf hres;rw[← k2.tmps] at r1;have td:zg w w':=⟨k3,fun k h1 h2=>k2.emb.ice k h1 h2⟩;obtain⟨E',hb⟩:=Zaf E td;have low:∀ {k:Nat}{x:List Value×TypeId},y.2.1.blk? k=some x→ro x.2=false→w.heap.size≤(m1 k).1:=fun h1 h2=>k2.emb.low _ _ h1 h2;have hlie:∀ {k:Nat}{cs r:List Value},(∀ u∈cs,lt1 0 u=true)→y.2.1.blk? k=some (cs++r,ty)→∀ m':Mp,lie w' (m1 k) (cs.map (mv1 m')) ty:=fun {k cs r} hcs hblk m'=>by
  obtain⟨r',z,l0,l1,l2⟩:=k2.emb.lies k _ hblk (zo hty);have e:cs.map (mv1 m1)=cs.map (mv1 m'):=Zbg hcs;simp only[List.map_append] at l0 l1;refine⟨r.map (mv1 m1)++r',z,?_,?_,l2⟩
  ·simp at l0 ⊢;omega
  ·rw[← e,l1,List.append_assoc]
 have lk:=low hblk hty;have lj:=low hblj hty;have Ea:=E'.adopt cs ty hty (fun u hu=>ZI (Nat.zero_le _) (hcs u hu)) (hlie hcs hblk m) (Nat.le_trans E.base lk) (fun b x hbx hx heq=>by
  have:=E.here hbx (zo hx);omega) (fun b x hbx hx hf=>by
  have:=E.at_ hbx hx hf;omega)
 have Eb:=Ea.adopt ds ty hty (fun u hu=>ZI (Nat.zero_le _) (hds u hu)) (hlie hds hblj (upd m h.n (m1 k))) (Nat.le_trans E.base lj) (fun b x hbx hx heq=>by
  rw[Hp.blk_push E.len] at hbx;by_cases h1:b=h.n
  ·subst h1;simp only[upd,if_pos] at heq;exact hkj (k2.emb.inj k j _ _ hblk hblj hty hty heq)
  ·rw[if_neg h1] at hbx;simp only[upd,if_neg h1] at heq;have:=E.here hbx (zo hx);omega) (fun b x hbx hx hf=>by
  rw[Hp.blk_push E.len] at hbx;by_cases h1:b=h.n
  ·rw[if_pos h1] at hbx;cases hbx;rw[ZfV hty] at hx;cases hx
  ·rw[if_neg h1] at hbx;rw[show upd m h.n (m1 k) b=m b by simp only[upd,if_neg h1],zi (Z7 m h.n (m1 k)) (E.wf b x hbx)] at hf;have:=E.at_ hbx hx hf;omega)
 have hn:(h.push cs ty).n=h.n+1:=rfl;rw[hn] at Eb;have e1:mv m1 (v k j)=mv (upd (upd m h.n (m1 k)) (h.n+1) (m1 j)) (v h.n (h.n+1)):=by
  have e2:=hv1 k j (fun b=>if b=k then h.n else h.n+1);simp only[if_pos,if_neg (Ne.symm hkj)] at e2;rw[← e2,ZcD];refine Zoh (fun b hb=> ?_) (hv0 k j);simp only[List.mem_cons,List.not_mem_nil,or_false] at hb;rcases hb with rfl | rfl
  ·simp [upd]
  ·simp [upd,Ne.symm hkj]
 rw[e1] at r1;have hlt:lt (h.n+2) (v h.n (h.n+1))=true:=by
  have e2:=hv1 k j (fun b=>if b=k then h.n else h.n+1);simp only[if_pos,if_neg (Ne.symm hkj)] at e2;rw[← e2];exact Zh6 (bs:=[k,j]) (fun b hb=>by split<;>omega) (hv0 k j)
 have post:a'.defers=[]∧∃ v',(results F a'.tmps).run T.P w'= .ok v' w'∧∃ m',Ending.returned v'= .returned (mv m' (v h.n (h.n+1)))∧Came m B h w (v h.n (h.n+1)) ((h.push cs ty).push ds ty) m' w':=
  ⟨k2.dfr,_,r1,_,rfl,⟨(Z7 m h.n (m1 k)).trans (Z7 _ _ _) (by omega),Eb,hb,by show h.n≤h.n+1+1;omega,hlt⟩⟩
 rcases hex with rfl | rfl<;>exact post
end Go.KRun
