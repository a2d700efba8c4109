/-
  ConV5, RunZ, NumI, ConVG, ConVH, ConVI, ConVJ
-/
import Derived.Test.YtekebccjflilnaaGreatG09
namespace Go.Proofs.YtekebccjflilnaaGreat
open Go.Proofs.Tryz
open Go.IntKind
open Go.KRun Go.Nt
set_option maxRecDepth 100000
theorem ze {n:Int}(h0:0≤n) (h1:n<4294967296):u32.wrap n=n:=by simp [IntKind.wrap,IntKind.bits,IntKind.signed];omega
def dgN (L:List Int) (i:Nat):Nat:=(L.getD i 0).toNat
theorem zn {L:List Int}(h:∀ x∈L,Dg 65536 x) (i:Nat):dgN L i<65536∧((dgN L i:Nat):Int)=L.getD i 0:=by
 have:=Zd7 h i;unfold dgN;omega
theorem Zd8 {L:List Int}{i:Nat}(h:L.length≤i):dgN L i=0:=by unfold dgN;simp [List.getD,List.getElem?_eq_none h]
theorem Z0y {A B:List Int}(hA:∀ x∈A,Dg 65536 x) (hB:∀ x∈B,Dg 65536 x) {k:Nat}(hk:k≤1) (i:Nat):sm A B k i=((k+dgN A i+dgN B i:Nat):Int):=by
 have h1:=zn hA i;have h2:=zn hB i;unfold sm;rw[zZ,zZ,← h1.2,← h2.2,ze (n:=(k:Int)+_) (by omega) (by omega),ze (by omega) (by omega)];omega
theorem ZeR (a:Nat):((a:Int)).tmod 65536=((a % 65536:Nat):Int):=by rw[Int.tmod_eq_emod_of_nonneg (by omega)];omega
theorem ZeS {a:Nat}(h:a<4294967296):u32.wrap ((a:Int).tdiv 65536)=((a/65536:Nat):Int):=by
 rw[Int.tdiv_eq_ediv_of_nonneg (by omega),ze (by omega) (by omega)];omega
theorem okW {p:Bool×Bool}{l:Log}(h:p.1=p.2) (hl:Zx l):Zx (p::l):=Zt h hl
section
variable {x y : List Value × TypeId} {p q : Option Addr} {n c n' c' : Nat} {A B : List Int}
theorem Zcd (NA:Nu 0 x p n c A) (NB:Nu 1 y q n' c' B) {h:Hp}(h0:h.blk? 0=some x) (h1:h.blk? 1=some y):∀ i z,(⟨2,[y,x]⟩:Hp).blk? i=some z→h.blk? i=some z∧∀ v∈z.1,still v=true:=fun i z hz=>by
 rcases Zli hz with ⟨rfl,rfl⟩ | ⟨rfl,rfl⟩
 ·exact⟨h0,NA.st⟩
 ·exact⟨h1,NB.st⟩
theorem ZiA (NA:Nu 0 x p n c A) (NB:Nu 1 y q n' c' B) (hA:∀ x∈A,Dg 65536 x) (hB:∀ x∈B,Dg 65536 x) {k i:Nat}{O:List Int}(hk:k≤1) (hi:i<1073741823) (hO:O.length=i) (hgo:i<n∨i<n'∨0<k) {Y:Lf}
  (hY:(i=0∧k=0∧(∃ g,Y.1=[.slice p n c,.slice q n' c',undef,undef,Zn,Zn,.int .u32 (k:Nat),.int .i64 (i:Nat)]++tl 34 g)∧Y.2.1=hp2 y x)∨(0<i∧(∃ g,Y.1=[.slice p n c,.slice q n' c',undef,undef,Zn,sl 2 0 i grown,.int .u32 (k:Nat),.int .i64 (i:Nat)]++tl 34 g)∧Y.2.1=hu3 (wU O) y x)):
  RunsW (Zp prog Zh Zo hcV) (Za5 f46) Y fun e z=>e=none∧(∃ g,z.1=[.slice p n c,.slice q n' c',undef,undef,Zn,sl 2 0 (i+1) grown,.int .u32 ((k+dgN A i+dgN B i)/65536:Nat),.int .i64 ((i+1:Nat):Int)]++tl 34 g)∧z.2.1=hu3 (wU (O++[(((k+dgN A i+dgN B i) % 65536:Nat):Int)])) y x:=by
 obtain⟨t,h',s⟩:=Y;have hd1:=(zn hA i).1;have hd2:=(zn hB i).1;have es:=Z0y hA hB hk i;have e1:(sm A B k i).tmod 65536=(((k+dgN A i+dgN B i) % 65536:Nat):Int):=by rw[es,ZeR]
 have e2:u32.wrap ((sm A B k i).tdiv 65536)=(((k+dgN A i+dgN B i)/65536:Nat):Int):=by rw[es,ZeS (by omega)]
 have e3:i64.wrap ((i:Int)+1)=((i+1:Nat):Int):=by rw[ZL (by omega) (by omega)];omega
 rcases hY with ⟨h0,k0,⟨g,ht⟩,hh⟩ | ⟨h0,⟨g,ht⟩,hh⟩
 ·simp only at ht hh;subst ht hh;have r0:=NA.row (hp2 y x) rfl;have r1:=NB.row (hp2 y x) rfl;have fin:RunsW (Zp prog Zh Zo hcV) (Za5 f46) ([.slice p n c,.slice q n' c',undef,undef,Zn,Zn,.int .u32 (k:Nat),.int .i64 (i:Nat)]++tl 34 g,hp2 y x,s) fun e z=>e=none∧(∃ g,z.1=[.slice p n c,.slice q n' c',undef,undef,Zn,sl 3 0 1 grown,.int .u32 (u32.wrap ((sm A B k i).tdiv 65536)),.int .i64 (i64.wrap ((i:Int)+1))]++tl 34 g)∧z.2.1=⟨4,[([.int .u32 ((sm A B k i).tmod 65536)],tU),([.int .u32 ((sm A B k i).tmod 65536)],tU),y,x]⟩:=by
   by_cases ha:i<n
   ·have:=Zc (Zg Zd Zs) (s0:=s) (Zlo p q n c n' c' k i x y g) (okW rfl (okW r1.1 (okW r0.1 (Z2 (Xa (by omega))))));rw[r0.2,r1.2] at this;exact this
   ·have:=Zc (Zg Zd Zs) (s0:=s) (Zlp p q n c n' c' k i x y g) (okW rfl (okW r1.1 (okW r0.1 (okW (Xa (by omega)) (Z2 (Xb (by omega)))))));rw[r0.2,r1.2] at this;exact this
  have hO':O=[]:=List.length_eq_zero_iff.1 (by omega);rw[e1,e2,e3] at fin;have:=fin.kept (k:=2) (b:=3) (base:=[y,x]) (y:=([.int .u32 (((k+dgN A i+dgN B i) % 65536:Nat):Int)],tU)) (front':=[.slice p n c,.slice q n' c',undef,undef,Zn,sl 2 0 1 grown,.int .u32 ((k+dgN A i+dgN B i)/65536:Nat),.int .i64 ((i+1:Nat):Int)]) rfl
   (by simp only[List.map_cons,List.map_nil,NA.rn (f:=zv 2 3) rfl,NB.rn (f:=zv 2 3) rfl];kernel_rfl) (Zcd NA NB rfl rfl) rfl (by omega) (fun v hv=>by rw[List.mem_singleton.1 hv];rfl) (fun v hv=>by
    simp only[List.mem_cons,List.not_mem_nil,or_false] at hv;rcases hv with rfl | rfl | rfl | rfl | rfl | rfl | rfl | rfl
    ·exact NA.lt (by omega)
    ·exact NB.lt (by omega)
    all_goals rfl)
  refine this.mono fun e z hz=> ?_;obtain⟨rfl,⟨g',q1⟩,q2⟩:=hz;subst hO' h0;exact⟨rfl,⟨g',q1⟩,q2⟩
 ·simp only at ht hh;subst ht hh;have r0:=NA.row (hu3 (wU O) y x) rfl;have r1:=NB.row (hu3 (wU O) y x) rfl;have hchk:zQ tU (wU O,tU) ([.int .u32 ((sm A B k i).tmod 65536)],tU) i 0 1=true:=
   ZaF (L:=O) (M:=[(sm A B k i).tmod 65536]) hO.symm (show 0<1 by omega) (by show O.length+1≤_;omega)
  have fin:RunsW (Zp prog Zh Zo hcV) (Za5 f46) ([.slice p n c,.slice q n' c',undef,undef,Zn,sl 2 0 i grown,.int .u32 (k:Nat),.int .i64 (i:Nat)]++tl 34 g,hu3 (wU O) y x,s) fun e z=>e=none∧(∃ g,z.1=[.slice p n c,.slice q n' c',undef,undef,Zn,sl 4 0 (i+1) grown,.int .u32 (u32.wrap ((sm A B k i).tdiv 65536)),.int .i64 (i64.wrap ((i:Int)+1))]++tl 34 g)∧z.2.1=⟨5,[(wU O++[.int .u32 ((sm A B k i).tmod 65536)],tU),([.int .u32 ((sm A B k i).tmod 65536)],tU),([],2*ZV),y,x]⟩:=by
   by_cases ha:i<n
   ·have hl:Zx (Zqr 0 n n' k i):=Z2 (Xa (by omega));have:=Zc (Zg Zd Zs) (s0:=s) (Zi6 p q n c n' c' i k i x y (wU O) g) (by rw[r0.2,r1.2];exact okW hchk (okW rfl (okW r1.1 (okW r0.1 hl))));rw[r0.2,r1.2] at this;exact this
   ·by_cases hb:i<n'
    ·have hl:Zx (Zqr 1 n n' k i):=okW (Xa (by omega)) (Z2 (Xb (by omega)));have:=Zc (Zg Zd Zs) (s0:=s) (Zi7 p q n c n' c' i k i x y (wU O) g) (by rw[r0.2,r1.2];exact okW hchk (okW rfl (okW r1.1 (okW r0.1 hl))));rw[r0.2,r1.2] at this;exact this
    ·have hl:Zx (Zqr 2 n n' k i):=okW (Xa (by omega)) (okW (Xb (by omega)) (Z2 (Xb (by omega))));have:=Zc (Zg Zd Zs) (s0:=s) (Zi8 p q n c n' c' i k i x y (wU O) g) (by rw[r0.2,r1.2];exact okW hchk (okW rfl (okW r1.1 (okW r0.1 hl))));rw[r0.2,r1.2] at this;exact this
  rw[e1,e2,e3] at fin;have ew:wU O++[.int .u32 (((k+dgN A i+dgN B i) % 65536:Nat):Int)]=wU (O++[(((k+dgN A i+dgN B i) % 65536:Nat):Int)]):=by rw[ZO];rfl
  rw[ew] at fin;have:=fin.kept (k:=2) (b:=4) (base:=[y,x]) (y:=(wU (O++[(((k+dgN A i+dgN B i) % 65536:Nat):Int)]),tU)) (front':=[.slice p n c,.slice q n' c',undef,undef,Zn,sl 2 0 (i+1) grown,.int .u32 ((k+dgN A i+dgN B i)/65536:Nat),.int .i64 ((i+1:Nat):Int)]) rfl
   (by simp only[List.map_cons,List.map_nil,NA.rn (f:=zv 2 4) rfl,NB.rn (f:=zv 2 4) rfl];kernel_rfl) (Zcd NA NB rfl rfl) rfl (by omega) (ZP _) (fun v hv=>by
    simp only[List.mem_cons,List.not_mem_nil,or_false] at hv;rcases hv with rfl | rfl | rfl | rfl | rfl | rfl | rfl | rfl
    ·exact NA.lt (by omega)
    ·exact NB.lt (by omega)
    all_goals rfl)
  exact this
def aSt (x y:List Value×TypeId) (p q:Option Addr) (n c n' c':Nat) (O:List Int) (i k:Nat) (Y:Lf):Prop:=
 (i=0∧k=0∧(∃ g,Y.1=[.slice p n c,.slice q n' c',undef,undef,Zn,Zn,.int .u32 (k:Nat),.int .i64 (i:Nat)]++tl 34 g)∧Y.2.1=hp2 y x)∨(0<i∧(∃ g,Y.1=[.slice p n c,.slice q n' c',undef,undef,Zn,sl 2 0 i grown,.int .u32 (k:Nat),.int .i64 (i:Nat)]++tl 34 g)∧Y.2.1=hu3 (wU O) y x)
def Z2O (x y:List Value×TypeId) (p q:Option Addr) (n c n' c':Nat) (A B:List Int) (m:Nat) (Y:Lf):Prop:=
 ∃ (i k:Nat) (O:List Int),O.length=i∧m=max n n'+1-i∧i≤max n n'+1∧k≤1∧(i=max n n'+1→k=0)∧(∀ x∈O,Dg 65536 x)∧vb 65536 O+65536^O.length*k=vb 65536 (A.take i)+vb 65536 (B.take i)∧aSt x y p q n c n' c' O i k Y
def ZsF (x y:List Value×TypeId) (p q:Option Addr) (n c n' c':Nat) (A B:List Int) (Y:Lf):Prop:=
 ∃ (i:Nat) (O:List Int),O.length=i∧i≤max n n'+1∧(∀ x∈O,Dg 65536 x)∧vb 65536 O=vb 65536 A+vb 65536 B∧n≤i∧n'≤i∧aSt x y p q n c n' c' O i 0 Y
theorem Zlq (NA:Nu 0 x p n c A) (NB:Nu 1 y q n' c' B) (lA:A.length=n) (lB:B.length=n') (hA:∀ x∈A,Dg 65536 x) (hB:∀ x∈B,Dg 65536 x) (hn:max n n'+2<1073741824) (g:Nat→Value):
  RunsW (Zp prog Zh Zo hcV) (.block 0 (.loop (Za5 f46))) ([.slice p n c,.slice q n' c',undef,undef,Zn,Zn,.int .u32 0,.int .i64 0]++tl 34 g,hp2 y x,[]) fun e Y=>match e with | none=>ZsF x y p q n c n' c' A B Y | some none=>False | some (some _)=>False:=by
 refine RunsW.forLoop (P:=ZsF x y p q n c n' c' A B) (R:=fun _=>False) (Z2O x y p q n c n' c' A B) ?_ (n:=max n n'+1) ⟨0,0,[],rfl,by omega,by omega,by omega,by omega,(fun x hx=>by cases hx),by simp [vb],.inl ⟨rfl,rfl,⟨g,rfl⟩,rfl⟩⟩;rintro m Y ⟨i,k,O,hO,hm,hi,hk,hk0,hOd,hval,hY⟩;by_cases hgo:i<n∨i<n'∨0<k
 ·have hmx:i≤max n n':=by
   rcases Nat.lt_or_ge i (max n n'+1) with h | h
   ·omega
   ·have:k=0:=hk0 (by omega);omega
  have r:=ZiA NA NB hA hB hk (by omega) hO hgo hY;refine r.mono fun e z hz=> ?_;obtain⟨rfl,z1,z2⟩:=hz;have d1:=(zn hA i).1;have d2:=(zn hB i).1;refine⟨max n n'+1-(i+1),by omega,i+1,(k+dgN A i+dgN B i)/65536,O++[(((k+dgN A i+dgN B i) % 65536:Nat):Int)],by simp [hO],rfl,by omega,by omega,fun he=> ?_,fun x hx=> ?_,?_,.inr ⟨by omega,z1,z2⟩⟩
  ·have z1:dgN A i=0:=Zd8 (by omega);have z2:dgN B i=0:=Zd8 (by omega);omega
  ·rcases List.mem_append.1 hx with hx | hx
   ·exact hOd x hx
   ·rw[List.mem_singleton.1 hx];exact⟨by omega,by omega⟩
  ·have:=Zk8 (a:=dgN A i) (c:=dgN B i) hval;rw[Zaw,Zaw,← hO];rw[List.length_append];rw[hO] at this ⊢;exact this
 ·have hk:k=0:=by omega
  subst hk;have ha:n≤i:=by omega
  have hb:n'≤i:=by omega
  have out:∀ (v:Value) (h:Hp) (g:Nat→Value) (s:List Dec),RunsW (Zp prog Zh Zo hcV) (Za5 f46) ([.slice p n c,.slice q n' c',undef,undef,Zn,v,.int .u32 ((0:Nat):Int),.int .i64 (i:Nat)]++tl 34 g,h,s) fun e z=>e=some (some 0)∧(∃ g,z.1=[.slice p n c,.slice q n' c',undef,undef,Zn,v,.int .u32 ((0:Nat):Int),.int .i64 (i:Nat)]++tl 34 g)∧z.2.1=h:=fun v h g s=>
   Zc (Zg Zd Zs) (Zos p q n c n' c' v 0 i h g) (okW rfl (okW (Xb (by omega)) (Z2 (Xb (by omega)))))
  have hv:vb 65536 O=vb 65536 A+vb 65536 B:=by
   rw[List.take_of_length_le (by omega),List.take_of_length_le (by omega)] at hval;omega
  obtain⟨t,h',s⟩:=Y;rcases hY with ⟨h0,k0,⟨g,ht⟩,hh⟩ | ⟨h0,⟨g,ht⟩,hh⟩
  ·simp only at ht hh;subst ht hh;refine (out Zn _ g s).mono fun e z hz=> ?_;obtain⟨rfl,z1,z2⟩:=hz;exact⟨rfl,i,O,hO,hi,hOd,hv,ha,hb,.inl ⟨h0,rfl,z1,z2⟩⟩
  ·simp only at ht hh;subst ht hh;refine (out (sl 2 0 i grown) _ g s).mono fun e z hz=> ?_;obtain⟨rfl,z1,z2⟩:=hz;exact⟨rfl,i,O,hO,hi,hOd,hv,ha,hb,.inr ⟨h0,z1,z2⟩⟩
theorem Zlr (NA:Nu 0 x p n c A) (NB:Nu 1 y q n' c' B) (lA:A.length=n) (lB:B.length=n') (hA:∀ x∈A,Dg 65536 x) (hB:∀ x∈B,Dg 65536 x) (hn:max n n'+2<1073741824) (h0:0<n∨0<n') {V:Nat}(hV:V=vb 65536 A+vb 65536 B):
  RunsW (Zp prog Zh Zo hcV) (Zaz (Zi5 f46) (.seq (.seq (aR3 f46) (.block 0 (.loop (Za5 f46)))) (Zu6 f46))) ([.slice p n c,.slice q n' c']++List.replicate 40 undef,hp2 y x,[]) fun e z=>(e=none∨e=some none)∧Zau prog f46 z.1 z.2.1=some (sl 2 0 (d16 V).length (d16 V).length)∧∃ r,z.2.1.blk? 2=some (wU (d16 V)++r,tU):=by
 refine Z0 (Zg Zd Zs) (Zor _ _ _) (fun x hx=>by cases hx) fun g=> ?_;refine ZfK (Zc (Zg Zd Zs) (ZsE _ _ _ g) (fun x hx=>by cases hx)) (fun e y he=>by cases he.1) (P2:=fun e Y=>match e with | none=>ZsF x y p q n c n' c' A B Y | some none=>False | some (some _)=>False) ?_ ?_ ?_
 ·rintro⟨t,h',s⟩ ⟨_,⟨g',ht⟩,hh⟩;simp only at ht hh;subst ht hh;exact RunsW.script (Zlq NA NB lA lB hA hB hn g')
 ·intro e y he
  match e,he with
  | none,he=>exact he
  | some id,he=>exact he
 ·rintro⟨t,h',s⟩ ⟨i,O,hO,hi,hOd,hv,ha,hb,hY⟩;rcases hY with ⟨e0,_⟩ | ⟨_,⟨g',ht⟩,hh⟩
  ·omega
  ·simp only at ht hh;subst ht hh;have hrow:ZaK tU (wU O) 0 i grown=true:=by
    rw[← hO];exact zY (fun x hx=>⟨(hOd x hx).1,by have:=(hOd x hx).2;omega⟩) (by omega) (Zu5 _)
   refine (Zc (Zg Zd Zs) (Zot _ _ i 0 i x y (wU O) g') (Z2 hrow)).mono fun e z he=> ?_;obtain⟨rfl,⟨g2,e1⟩,e2⟩:=he;have et:Z3 (zu (wU O) 0 i)=(d16 V).length:=by
    rw[← hO,ZaE,Zad (by omega) hOd,hv,← hV];rfl
   refine⟨.inr rfl,?_,?_⟩
   ·rw[e1,e2,et];rfl
   ·rw[e2];refine⟨wU (O.drop (Z3 O)),?_⟩;have e3:wU (d16 V)++wU (O.drop (Z3 O))=wU O:=by
     unfold d16;rw[hV,← hv,← zj (by omega) _ hOd,← ZO,List.take_append_drop]
    rw[e3];rfl
end
theorem Zce {x y:List Value×TypeId}{p q:Option Addr}{n c n' c':Nat}{A B:List Int}(NA:Nu 0 x p n c A) (NB:Nu 1 y q n' c' B):(hp2 y x).rows:=by
 refine⟨rfl,fun b z hz=> ?_⟩;rcases Zli hz with ⟨rfl,rfl⟩ | ⟨rfl,rfl⟩
 ·exact⟨NA.ros.1,NA.lt0,NA.ros.2⟩
 ·exact⟨NB.ros.1,NB.lt0,NB.ros.2⟩
theorem Zcf {x y:List Value×TypeId}{h:Hp}{a b:Nat}(hx:Zam x.2=false→∃ z r,h.blk? a=some z∧Zam z.2=false∧rt z.2=rt x.2∧z.1=x.1++r) (hy:Zam y.2=false→∃ z r,h.blk? b=some z∧Zam z.2=false∧rt z.2=rt y.2∧z.1=y.1++r):(hp2 y x).fits (pair a b) h:=by
 intro i z hz ht;rcases Zli hz with ⟨rfl,rfl⟩ | ⟨rfl,rfl⟩
 ·exact hx ht
 ·exact hy ht
theorem ZiB:f46.body=some (Zv f46):=by kernel_rfl
def Z6 (h:Hp) (p q:Option Addr) (n c n' c':Nat):Bool:=zS h p n c && zS h q n' c' && dgB (Zu h p n) && dgB (Zu h q n') && Nat.blt (max n n'+2) 1073741824
theorem Zcg {h:Hp}{p q:Option Addr}{n c n' c':Nat}(hr:Z6 h p q n c n' c'=true):zS h p n c=true∧zS h q n' c'=true∧(∀ x∈Zu h p n,Dg 65536 x)∧(∀ x∈Zu h q n',Dg 65536 x)∧max n n'+2<1073741824:=by
 unfold Z6 at hr;simp only[Xh] at hr;obtain⟨⟨⟨⟨h1,h2⟩,h3⟩,h4⟩,h5⟩:=hr;exact⟨h1,h2,ZaY h3,ZaY h4,Zk.1 h5⟩
def vO (h:Hp) (p:Option Addr) (n:Nat):Nat:=vb 65536 (Zu h p n)
theorem ZaG (A:Nat):∀ x∈d16 A,Dg 65536 x:=Zvy (by omega) A
def Zei (V:Nat) (h:Hp) (s:List Dec) (lg:Log):Option (Value×Hp×List Dec×Log):=some (sl h.n 0 (d16 V).length (d16 V).length,h.push (wU (d16 V)) tU,s,lg)
def Zou:Zcl:=fun vals h s=>
 match vals,s with
 | [.slice p n c,.slice q n' c'],.inr (.inr (.inr (.inl d)))::s'=>
  match d with
  | true=>Zei (vO h p n+vO h q n') h s' [(Z6 h p q n c n' c',true),(decide (0<n∨0<n'),true)]
  | false=>some (Zn,h,s',[(Z6 h p q n c n' c',true),(decide (0<n∨0<n'),false)])
 | _,_=>none
theorem ZeT:za 46 Zou:=by
 intro vals h s v h' s' lg hg hl m B w E hv;unfold Zou at hg;split at hg
 ·rename_i p n c q n' c' d s2;split at hg
  ·unfold Zei at hg;cases hg;have q1:=hl _ (Xe);have q2:=hl _ (Xd _ Xf);simp only[Xi] at q1 q2;obtain⟨r1,r2,d1,d2,hn⟩:=Zcg q1;obtain⟨x,p',a,NA,eA,fA⟩:=Zbv 0 r1;obtain⟨y,q',b,NB,eB,fB⟩:=Zbv 1 r2;have r:=Zlr NA NB (zT r1) (zT r2) d1 d2 hn q2 rfl;have:=zm (T:=Zp prog Zh Zo hcV) func46 Zln (Zce NA NB) (vals:=[.slice p' n c,.slice q' n' c']) (fun v hv=>by
    simp only[List.mem_cons,List.not_mem_nil,or_false] at hv;rcases hv with rfl | rfl
    ·exact NA.lt (by show 0<2;omega)
    ·exact NB.lt (by show 1<2;omega)) (k:=2) (cs:=wU (d16 (vO h p n+vO h q n'))) (ty:=tU) (Zbu _) (by kernel_rfl) r (by rfl) E (s:=pair a b) (Zcf fA fB)
   simp only[List.map_cons,List.map_nil] at this;rw[eA _ rfl,eB _ rfl] at this;exact this
  ·cases hg;have q1:=hl _ (Xe);have q2:=hl _ (Xd _ Xf);simp only[decide_eq_false_iff_not] at q1 q2;obtain⟨r1,r2,d1,d2,hn⟩:=Zcg q1;obtain⟨x,p',a,NA,eA,fA⟩:=Zbv 0 r1;obtain⟨y,q',b,NB,eB,fB⟩:=Zbv 1 r2;have hr:Runs (Zp prog Zh Zo hcV) (Zv f46) ([.slice p' n c,.slice q' n' c']++List.replicate 40 undef,hp2 y x,[]) fun e z=>(e=none∨e=some none)∧Zau prog f46 z.1 z.2.1=some Zn:=by
    refine (Zj (Zg Zd Zs) (Zi9 p' q' n c n' c' _) (okW rfl (okW (Xb (by omega)) (Z2 (Xb (by omega)))))).mono fun e z he=> ?_;obtain⟨rfl,⟨g,e2⟩,e3⟩:=he;refine⟨.inr rfl,?_⟩;rw[e2,e3];rfl
   have:=ZH (T:=Zp prog Zh Zo hcV) func46 ZiB (Zce NA NB) (vals:=[.slice p' n c,.slice q' n' c']) (fun v hv=>by
    simp only[List.mem_cons,List.not_mem_nil,or_false] at hv;rcases hv with rfl | rfl
    ·exact NA.lt (by show 0<2;omega)
    ·exact NB.lt (by show 1<2;omega)) (v:=Zn) (by rfl) hr.w E (s:=pair a b) (Zcf fA fB)
   simp only[List.map_cons,List.map_nil] at this;rw[eA _ rfl,eB _ rfl] at this;exact this
 ·cases hg
end Go.Proofs.YtekebccjflilnaaGreat
namespace Go.KRun
open Go.RowKit
theorem Zov {k n:Nat}{base l:List (List Value×TypeId)}(hn:n=l.length+k) {i:Nat}(hi:i<k):(⟨n,l++base⟩:Hp).blk? i=(⟨k,base⟩:Hp).blk? i:=by
 unfold Hp.blk?;rw[if_pos (Zk.2 (by show i<n;omega)),if_pos (Zk.2 hi)];show (l++base)[n-1-i]? =base[k-1-i]?;rw[List.getElem?_append_right (by omega)];congr 1;omega
theorem RunsW.pre {T:Tab}{c:Code}{P:Ex→Lf→Prop}{f1 f2:List Value}{u:Value}{n k N:Nat}{extra base:List (List Value×TypeId)}{s s':List Dec}{g:Nat→Value}(h:∀ j g,RunsW T c ((f1++j::f2)++tl n g,⟨k,base⟩,s') P)
  (hk:base.length=k) (hN:N=extra.length+k) (h0:0<k) (hb:∀ x∈base,∀ v∈x.1,lt1 k v=true) (h1:∀ v∈f1,lt k v=true) (h2:∀ v∈f2,lt k v=true):
  RunsW T c ((f1++u::f2)++tl n g,⟨N,extra++base⟩,s) P:=by
 intro m B a w R Q hQ;obtain⟨g',hg'⟩:=Zsc (J:=(tl n g).map (fun v=>Value.iface ZV (mv m v))) (n:=n) (by simp [Zlh]);refine h (Value.iface ZV (mv m u)) g' m B a w ?_ Q hQ;have E:=R.emb;have sub:∀ i x,(⟨k,base⟩:Hp).blk? i=some x→(⟨N,extra++base⟩:Hp).blk? i=some x:=fun i x hx=>by
  rw[Zov hN (Hp.blk_lt hx)];exact hx
 have mem:∀ i x,(⟨k,base⟩:Hp).blk? i=some x→x∈base:=fun i x hx=>by
  unfold Hp.blk? at hx;split at hx
  ·exact List.mem_of_getElem? hx
  ·cases hx
 have ltd:∀ v:Value,lt k (Value.iface ZV v)=true:=fun v=>by simp [lt,lt2,lt1,h0]
 have mvd:∀ v:Value,mv m (Value.iface ZV (mv m v))=mv m v:=fun v=>by simp [mv,mv2,mv1]
 refine⟨?_,R.dfr,⟨hk,fun b x hx ht=>E.lies b x (sub b x hx) ht,fun b x hx hro=>E.low b x (sub b x hx) hro,fun b x hx ht hro=>E.ros b x (sub b x hx) ht hro,fun b b' x x' hx hx' hro hro' he=>E.inj b b' x x' (sub b x hx) (sub b' x' hx') hro hro' he,fun b x hx v hv=>hb x (mem b x hx) v hv,E.base,E.ice,fun b x hx ha=>(E.abs b x (sub b x hx) ha).ren (f:=fun i=>i) (r:=[]) rfl (List.append_nil _).symm (fun c z hz=>⟨z,sub c z hz,rfl⟩) fun c z _ _ _ hc=>hc⟩,?_⟩
 ·rw[R.tmps];simp only[List.map_append,List.map_cons,mvd,← hg',List.map_map];congr 2
 ·intro v hv;rcases List.mem_append.1 hv with hv | hv
  ·rcases List.mem_append.1 hv with hv | hv
   ·exact h1 v hv
   ·rcases List.mem_cons.1 hv with rfl | hv
    ·exact ltd _
    ·exact h2 v hv
  ·rw[← hg'] at hv;obtain⟨y,_,rfl⟩:=List.mem_map.1 hv;exact ltd _
theorem Zb6 {T:Tab}{f:Nat}{F:Func}{c:Code}(hF:T.P.funcs[f]? =some F) (hc:F.body=some c) {h0:Hp}(hr:h0.rows) {vals:List Value}(hvals:∀ v∈vals,lt h0.n v=true) {v:Nat→Value}
  {cs:List Value}{ty:TypeId}(hcs:∀ u∈cs,lt1 0 u=true) (hty:ro ty=false)
  (hrun:RunsW T c (vals++List.replicate (F.ntmps-vals.length) undef,h0,[]) fun e y=>(e=none∨e=some none)∧∃ k,Zau T.P F y.1 y.2.1=some (v k)∧∃ r,y.2.1.blk? k=some (cs++r,ty))
  (hv0:∀ k,oc [k] (v k)=true)
  {m:Mp}{B:Nat}{h:Hp}{w:World}(E:Emb m B h w) {s:Nat→Nat}(hf:h0.fits s h) (hv1:∀ k,rn (fun _=>h.n) (v k)=v h.n):
  Calls T.P f ((vals.map (rn s)).map (mv m)).toArray w fun e w'=>∃ m',e= .returned (mv m' (v h.n))∧Came m B h w (v h.n) (h.push cs ty) m' w':=by
 have E0:=E.small hr hf;have ev:(vals.map (rn s)).map (mv m)=vals.map (mv fun i=>m (s i)):=by
  rw[List.map_map];exact List.map_congr_left fun y _=>ZcD m s y
 rw[ev];refine calls_of_wp hF hc ?_;have R:Rel (fun i=>m (s i)) w.heap.size (vals++List.replicate (F.ntmps-vals.length) undef,h0,[]) {tmps:=(vals.map (mv fun i=>m (s i))).toArray++Array.replicate (F.ntmps-(vals.map (mv fun i=>m (s i))).toArray.size) undef,defers:=[]} w:=by
  refine⟨?_,rfl,E0,?_⟩
  ·simp [zO]
  ·intro y hy;rcases List.mem_append.1 hy with hy | hy
   ·exact hvals y hy
   ·rw[List.eq_of_mem_replicate hy];simp [undef,lt]
 refine hrun _ _ _ w R _ fun e y he m1 a' w' k2 k3=> ?_;obtain⟨hex,k,hres,r,hblk⟩:=he;obtain⟨r1,r2⟩:=ZaO k2.emb k2.wf hres;rw[← k2.tmps] at r1;have td:zg w w':=⟨k3,fun k h1 h2=>k2.emb.ice k h1 h2⟩;obtain⟨E',hb⟩:=Zaf E td;have hlow:w.heap.size≤(m1 k).1:=k2.emb.low k _ hblk hty;have hlie:lie w' (m1 k) (cs.map (mv1 m)) ty:=by
  obtain⟨r',z,l0,l1,l2⟩:=k2.emb.lies k _ hblk (zo hty);have e:cs.map (mv1 m1)=cs.map (mv1 m):=Zbg hcs;simp only[List.map_append] at l0 l1;refine⟨r.map (mv1 m1)++r',z,?_,?_,l2⟩
  ·simp at l0 ⊢;omega
  ·rw[← e,l1,List.append_assoc]
 have Ea:=E'.adopt cs ty hty (fun u hu=>ZI (Nat.zero_le _) (hcs u hu)) hlie (Nat.le_trans E.base hlow) (fun b x hbx hx heq=>by
  have:=E.here hbx (zo hx);omega) (fun b x hbx hx hf=>by
  have:=E.at_ hbx hx hf;omega)
 have e1:mv m1 (v k)=mv (upd m h.n (m1 k)) (v h.n):=by
  rw[← hv1 k,ZcD];refine Zoh (fun b hb=> ?_) (hv0 k);rw[List.mem_singleton.1 hb];simp [upd]
 rw[e1] at r1;have hlt:lt (h.n+1) (v h.n)=true:=by rw[← hv1 k];exact Zh6 (bs:=[k]) (fun b hb=>by show h.n<h.n+1;omega) (hv0 k)
 have post:a'.defers=[]∧∃ v',(results F a'.tmps).run T.P w'= .ok v' w'∧∃ m',Ending.returned v'= .returned (mv m' (v h.n))∧Came m B h w (v h.n) (h.push cs ty) m' w':=
  ⟨k2.dfr,_,r1,upd m h.n (m1 k),rfl,⟨Z7 _ _ _,Ea,hb,Nat.le_succ _,hlt⟩⟩
 rcases hex with rfl | rfl<;>exact post
end Go.KRun
namespace Go.Nt
theorem Zls {b:Nat}:∀ {L:List Int}{j:Nat},j<L.length→∀ v:Int,vb b (L.set j v)+b^j*(L.getD j 0).toNat=vb b L+b^j*v.toNat
 | [],_,h,_=>by simp at h
 | x::L,0,_,v=>by simp [vb];omega
 | x::L,j+1,h,v=>by
  have ih:=Zls (b:=b) (L:=L) (j:=j) (by simpa using h) v;have e:(x::L).getD (j+1) 0=L.getD j 0:=by simp [List.getD]
  simp only[List.set,vb,e];have h2:=congrArg (fun t=>b*t) ih;simp only[Nat.mul_add] at h2;rw[Nat.pow_succ,Nat.mul_comm (b^j) b,Nat.mul_assoc,Nat.mul_assoc];omega
theorem Zlt {L:List Int}(h:∀ x∈L,Dg 65536 x) {v:Int}(hv:Dg 65536 v) (j:Nat):∀ x∈L.set j v,Dg 65536 x:=fun x hx=>by
 rcases List.mem_or_eq_of_mem_set hx with hx | rfl
 ·exact h x hx
 ·exact hv
theorem Zow {L:List Int}{j:Nat}(hj:j<L.length) (hL:∀ x∈L,Dg 65536 x) {c p q:Nat}(hc:c<65536) (hp:p<65536) (hq:q<65536):
  let t:=c+(L.getD j 0).toNat+p*q
  vb 65536 (L.set j ((t % 65536:Nat):Int))+t/65536*65536^(j+1)=vb 65536 L+c*65536^j+p*q*65536^j∧t/65536<65536∧(∀ x∈L.set j ((t % 65536:Nat):Int),Dg 65536 x):=by
 intro t;have hd:(L.getD j 0).toNat<65536:=ZzQ hL j;have hpq:p*q≤65535*65535:=Nat.mul_le_mul (by omega) (by omega);have ht:t=c+(L.getD j 0).toNat+p*q:=rfl;refine⟨?_,by omega,Zlt hL ⟨by omega,by omega⟩ j⟩;have h1:=Zls (b:=65536) hj ((t % 65536:Nat):Int);rw[Xg] at h1;have h2:=Nat.div_add_mod t 65536;have h3:65536^j*t=65536^j*(65536*(t/65536))+65536^j*(t % 65536):=by rw[← Nat.mul_add,h2]
 have h4:65536^j*t=65536^j*c+65536^j*(L.getD j 0).toNat+65536^j*(p*q):=by rw[ht,Nat.mul_add,Nat.mul_add]
 have h5:t/65536*65536^(j+1)=65536^j*(65536*(t/65536)):=by rw[Nat.pow_succ,Nat.mul_comm,Nat.mul_assoc]
 rw[h5,Nat.mul_comm c,Nat.mul_comm (p*q)];omega
end Go.Nt
namespace Go.Proofs.YtekebccjflilnaaGreat
open Go.Proofs.Tryz
open Go.IntKind
open Go.KRun Go.Nt
set_option maxRecDepth 100000
set_option linter.unusedVariables false
def muB (F:Func):Code:=ZB (Z5 (Z5 (Zv F)))
def muO (F:Func):Code:=cIn (cIn (Z5 (muB F)))
def muI (F:Func):Code:=cIn (ZB (Z5 (muO F)))
def muL (F:Func):Code:=cIn (cIn (Z5 (ZB (Z5 (muI F)))))
def Zu7 (F:Func):List Code:=[ZB (Zv F),ZB (Z5 (Zv F))]
def muE (F:Func):Code:=Z5 (Z5 (Z5 (Zv F)))
theorem ZfL:f69.body=some (Zaz (Zu7 f69) (.seq (.seq (ZB (muB f69)) (.block 0 (.loop (muO f69)))) (muE f69))):=by kernel_rfl
theorem ZhA:muO f69= .seq (ZB (muO f69)) (.seq (.block 1 (muI f69)) (Z5 (Z5 (muO f69)))):=by kernel_rfl
theorem Zox:muI f69= .seq (ZB (muI f69)) (.seq (.seq (ZB (ZB (Z5 (muI f69)))) (.block 2 (.loop (muL f69)))) (Z5 (Z5 (muI f69)))):=by kernel_rfl
def mFr (o n c o' n' c' z:Nat) (i v7 v8:Value):List Value:=[sl 0 o n c,sl 1 o' n' c',undef,undef,Zn,sl 2 0 z z,i,v7,v8]
def hM3 (lo lb la:List Value):Hp:=⟨3,[(lo,tU),(lb,tR),(la,tR)]⟩
def zM (n n':Nat):Int:=i64.wrap ((n:Int)+n')
def inM (j:Int) (n:Nat):Bool×Bool:=(decide (0≤j∧j<(n:Int)),true)
def ceM (l:List Value) (o:Nat) (j x:Int):Bool×Bool:=(ZC (l[o+j.toNat*1]?) (.int .u32 x),true)
def stM (l:List Value) (j:Int):Bool×Bool:=(decide (0+j.toNat*1<l.length),true)
def d65:Bool×Bool:=(decide ((65536:Int)=0),false)
def tM (c7 d p q:Int):Int:=u64.wrap (u64.wrap (c7+u64.wrap d)+u64.wrap (u64.wrap p*u64.wrap q))
def ijM (i k:Int):Int:=i64.wrap (i+k)
theorem ZwP (o n c o' n' c':Nat) (la lb:List Value):Zm (evL (Zp prog Zh Zo hcV) 200 (Zu7 f69) ([sl 0 o n c,sl 1 o' n' c']++List.replicate 66 undef,h2 la lb,[at_]) ⟨[],[],[]⟩) 6 62 none [sl 0 o n c,sl 1 o' n' c',undef,undef,Zn,sl 2 0 (zM n n').toNat (zM n n').toNat] (hM3 (List.replicate (zM n n').toNat (.int .u32 0)) lb la) [(zf 4 (zM n n') (zM n n'),true)]:=by and_intros<;>kernel_rfl
theorem ZwQ (v0 v1 v5:Value) (h:Hp) (g:Nat→Value):Zm (evC (Zp prog Zh Zo hcV) 200 false (ZB (muB f69)) ([v0,v1,undef,undef,Zn,v5]++tl 62 g,h,[]) ⟨[],[],[]⟩) 9 59 none [v0,v1,undef,undef,Zn,v5,.int .i64 0,g 1,g 2] h []:=by and_intros<;>kernel_rfl
theorem Z0z (o n c o' n' c' z:Nat) (i c7 k d p q:Int) (v7 v8:Value) (lo lb la:List Value) (g:Nat→Value):Zm (evC (Zp prog Zh Zo hcV) 200 false (ZB (muO f69)) (mFr o n c o' n' c' z (.int .i64 i) v7 v8++tl 59 g,hM3 lo lb la,[cmp true]) ⟨[],[],[]⟩) 9 59 none (mFr o n c o' n' c' z (.int .i64 i) v7 v8) (hM3 lo lb la) [(decide (i<(n:Int)),true)]:=by and_intros<;>kernel_rfl
theorem Z00 (o n c o' n' c' z:Nat) (i c7 k d p q:Int) (v7 v8:Value) (lo lb la:List Value) (g:Nat→Value):Zm (evC (Zp prog Zh Zo hcV) 200 false (ZB (muO f69)) (mFr o n c o' n' c' z (.int .i64 i) v7 v8++tl 59 g,hM3 lo lb la,[cmp false]) ⟨[],[],[]⟩) 9 59 (some (some 0)) (mFr o n c o' n' c' z (.int .i64 i) v7 v8) (hM3 lo lb la) [(decide (i<(n:Int)),false)]:=by and_intros<;>kernel_rfl
theorem Z01 (o n c o' n' c' z:Nat) (i c7 k d p q:Int) (v7 v8:Value) (lo lb la:List Value) (g:Nat→Value):Zm (evC (Zp prog Zh Zo hcV) 200 false (ZB (muI f69)) (mFr o n c o' n' c' z (.int .i64 i) v7 v8++tl 59 g,hM3 lo lb la,[]) ⟨[],[],[]⟩) 9 59 none (mFr o n c o' n' c' z (.int .i64 i) (.int .u64 0) v8) (hM3 lo lb la) []:=by and_intros<;>kernel_rfl
theorem Z02 (o n c o' n' c' z:Nat) (i c7 k d p q:Int) (v7 v8:Value) (lo lb la:List Value) (g:Nat→Value):Zm (evC (Zp prog Zh Zo hcV) 200 false (ZB (ZB (Z5 (muI f69)))) (mFr o n c o' n' c' z (.int .i64 i) v7 v8++tl 59 g,hM3 lo lb la,[]) ⟨[],[],[]⟩) 9 59 none (mFr o n c o' n' c' z (.int .i64 i) v7 (.int .i64 0)) (hM3 lo lb la) []:=by and_intros<;>kernel_rfl
theorem Z03 (o n c o' n' c' z:Nat) (i c7 k d p q:Int) (v7 v8:Value) (lo lb la:List Value) (g:Nat→Value):Zm (evC (Zp prog Zh Zo hcV) 200 false (muL f69) (mFr o n c o' n' c' z (.int .i64 i) (.int .u64 c7) (.int .i64 k)++tl 59 g,hM3 lo lb la,[cmp true,at_,val (.int .u32 d),at_,val (.int .u32 p),at_,val (.int .u32 q),cmp true,at_,at_]) ⟨[],[],[]⟩) 9 59 none (mFr o n c o' n' c' z (.int .i64 i) (.int .u64 (u64.wrap ((tM c7 d p q).tdiv 65536))) (.int .i64 (i64.wrap (k+1)))) (hM3 (lo.set (0+(ijM i k).toNat*1) (.int .u32 (u32.wrap ((tM c7 d p q).tmod 65536)))) lb la) [stM lo (ijM i k),inM (ijM i k) z,d65,ceM lb o' k q,inM k n',ceM la o i p,inM i n,ceM lo 0 (ijM i k) d,inM (ijM i k) z,(decide (k<(n':Int)),true)]:=by and_intros<;>kernel_rfl
theorem ZwR (o n c o' n' c' z:Nat) (i c7 k d p q:Int) (v7 v8:Value) (lo lb la:List Value) (g:Nat→Value):Zm (evC (Zp prog Zh Zo hcV) 200 false (muL f69) (mFr o n c o' n' c' z (.int .i64 i) (.int .u64 c7) (.int .i64 k)++tl 59 g,hM3 lo lb la,[cmp false]) ⟨[],[],[]⟩) 9 59 (some (some 2)) (mFr o n c o' n' c' z (.int .i64 i) (.int .u64 c7) (.int .i64 k)) (hM3 lo lb la) [(decide (k<(n':Int)),false)]:=by and_intros<;>kernel_rfl
theorem ZwS (o n c o' n' c' z:Nat) (i c7 k d p q:Int) (v7 v8:Value) (lo lb la:List Value) (g:Nat→Value):Zm (evC (Zp prog Zh Zo hcV) 200 false (Z5 (Z5 (muI f69))) (mFr o n c o' n' c' z (.int .i64 i) (.int .u64 c7) v8++tl 59 g,hM3 lo lb la,[at_,at_]) ⟨[],[],[]⟩) 9 59 none (mFr o n c o' n' c' z (.int .i64 i) (.int .u64 c7) v8) (hM3 (lo.set (0+(ijM i n').toNat*1) (.int .u32 (u32.wrap c7))) lb la) [stM lo (ijM i n'),inM (ijM i n') z]:=by and_intros<;>kernel_rfl
theorem Z04 (o n c o' n' c' z:Nat) (i c7 k d p q:Int) (v7 v8:Value) (lo lb la:List Value) (g:Nat→Value):Zm (evC (Zp prog Zh Zo hcV) 200 false (Z5 (Z5 (muO f69))) (mFr o n c o' n' c' z (.int .i64 i) v7 v8++tl 59 g,hM3 lo lb la,[]) ⟨[],[],[]⟩) 9 59 none (mFr o n c o' n' c' z (.int .i64 (i64.wrap (i+1))) v7 v8) (hM3 lo lb la) []:=by and_intros<;>kernel_rfl
theorem ZwT (o n c o' n' c' z:Nat) (i c7 k d p q:Int) (v7 v8:Value) (lo lb la:List Value) (g:Nat→Value):Zm (evC (Zp prog Zh Zo hcV) 200 false (muE f69) (mFr o n c o' n' c' z (.int .i64 i) v7 v8++tl 59 g,hM3 lo lb la,[]) ⟨[],[],[]⟩) 5 63 (some none) [sl 0 o n c,sl 1 o' n' c',undef,undef,sl 2 0 (Z3 (zu lo 0 z)) (Z3 (zu lo 0 z))] (hM3 lo lb la) [(ZaK tU lo 0 z z,true)]:=by and_intros<;>kernel_rfl
theorem Runs.next {T:Tab}{c1 c2:Code}{x:Lf}{front:List Value}{n:Nat}{h:Hp}{P:Ex→Lf→Prop}(h1:Runs T c1 x fun e y=>e=none∧(∃ g,y.1=front++tl n g)∧y.2.1=h) (h2:∀ g s,Runs T c2 (front++tl n g,h,s) P):Runs T (.seq c1 c2) x P:=by
 refine Runs.seq h1 (fun y hy=> ?_) (fun e y hy=>by cases hy.1);obtain⟨_,⟨g,e1⟩,e2⟩:=hy;obtain⟨t,hh,s⟩:=y;simp only at e1 e2;subst e1 e2;exact h2 g s
theorem Zlu (O:List Int) (j:Nat) (v:Int):(wU O).set j (.int .u32 v)=wU (O.set j v):=by unfold wU;rw[List.map_set]
theorem ZbL {n:Int}(h0:0≤n) (h1:n<18446744073709551616):u64.wrap n=n:=by simp [IntKind.wrap,IntKind.bits,IntKind.signed];omega
theorem ZsG {O:List Int}{j:Nat}(h:j<O.length):(wU O)[0+j*1]? =some (.int .u32 (O.getD j 0)):=by
 rw[Nat.zero_add,Nat.mul_one];unfold wU;rw[List.getElem?_map,List.getElem?_eq_getElem h];simp [List.getD,List.getElem?_eq_getElem h]
theorem Zlv {n:Nat}(h:n<1000000):ZW n=true:=by
 unfold ZW;exact Zk.2 (by have:ZV=4611686018427387904:=rfl;omega)
theorem Zlw {x:Int}(h:Dg 65536 x):∃ p:Nat,x=(p:Int)∧p<65536:=⟨x.toNat,by have:=h.1;omega,by have:=h.1;have:=h.2;omega⟩
section
variable {la lb : List Value} {o c o' c' : Nat} {A B : List Int}
def mSt (o n c o' n' c' z:Nat) (la lb:List Value) (O:List Int) (i:Nat) (v7 v8:Value) (Y:Lf):Prop:=(∃ g,Y.1=mFr o n c o' n' c' z (.int .i64 ((i:Nat):Int)) v7 v8++tl 59 g)∧Y.2.1=hM3 (wU O) lb la
def mOk (z i n':Nat) (O:List Int):Prop:=O.length=z∧(∀ x∈O,Dg 65536 x)∧∀ j,i+n'≤j→O.getD j 0=0
def mIn (o c o' c':Nat) (la lb:List Value) (A B:List Int) (i V:Nat) (m:Nat) (Y:Lf):Prop:=
 ∃ k O c7,m=B.length-k∧k≤B.length∧mOk (A.length+B.length) i B.length O∧c7<65536∧vb 65536 O+c7*65536^(i+k)=V+(A.getD i 0).toNat*vb 65536 (B.take k)*65536^i∧mSt o A.length c o' B.length c' (A.length+B.length) la lb O i (.int .u64 ((c7:Nat):Int)) (.int .i64 ((k:Nat):Int)) Y
def mFi (o c o' c':Nat) (la lb:List Value) (A B:List Int) (i V:Nat) (Y:Lf):Prop:=
 ∃ O c7 v8,mOk (A.length+B.length) i B.length O∧c7<65536∧vb 65536 O+c7*65536^(i+B.length)=V+(A.getD i 0).toNat*vb 65536 B*65536^i∧mSt o A.length c o' B.length c' (A.length+B.length) la lb O i (.int .u64 ((c7:Nat):Int)) v8 Y
theorem ZsH {z i n':Nat}{O:List Int}(h:mOk z i n' O) {j:Nat}(hj:j<i+n') {v:Int}(hv:∀ x∈O.set j v,Dg 65536 x):mOk z i n' (O.set j v):=by
 refine⟨by rw[List.length_set];exact h.1,hv,fun t ht=> ?_⟩;have:=h.2.2 t ht;simp only[List.getD] at*;rw[List.getElem?_set_ne (by omega)];exact this
theorem ZiC (rA:Row la o A) (rB:Row lb o' B) (dA:∀ x∈A,Dg 65536 x) (dB:∀ x∈B,Dg 65536 x) (hz:A.length+B.length<1000000) {i V:Nat}(hi:i<A.length) {Y0:Lf}(h0:mIn o c o' c' la lb A B i V B.length Y0):
  Runs (Zp prog Zh Zo hcV) (.block 2 (.loop (muL f69))) Y0 fun e Y=>match e with | none=>mFi o c o' c' la lb A B i V Y | some none=>False | some (some _)=>False:=by
 refine Runs.forLoop (P:=mFi o c o' c' la lb A B i V) (R:=fun _=>False) (mIn o c o' c' la lb A B i V) ?_ (n:=B.length) h0;rintro m ⟨t,h',s⟩ ⟨k,O,c7,hm,hk,hO,hc,hval,⟨g,ht⟩,hh⟩;simp only at ht hh;subst ht hh;by_cases hlt:k<B.length
 ·have hj:i+k<O.length:=by rw[hO.1];omega
  obtain⟨p,ep,hp⟩:=Zlw (Zd7 dA i);obtain⟨q,eq,hq⟩:=Zlw (Zd7 dB k);obtain⟨d,ed,hd⟩:=Zlw (Zd7 hO.2.1 (i+k));have eij:ijM i k=((i+k:Nat):Int):=by unfold ijM;rw[ZL (by omega) (by omega)];omega
  have hpq:p*q≤65535*65535:=Nat.mul_le_mul (by omega) (by omega);have epq:(p:Int)*(q:Int)=((p*q:Nat):Int):=by simp
  have eT:tM c7 d p q=((c7+d+p*q:Nat):Int):=by
   unfold tM;rw[ZbL (n:=(d:Int)) (by omega) (by omega),ZbL (n:=(p:Int)) (by omega) (by omega),ZbL (n:=(q:Int)) (by omega) (by omega),epq,ZbL (n:=((p*q:Nat):Int)) (by omega) (by omega),ZbL (n:=(c7:Int)+(d:Int)) (by omega) (by omega),ZbL (by omega) (by omega)];omega
  have e1:u64.wrap ((tM c7 d p q).tdiv 65536)=(((c7+d+p*q)/65536:Nat):Int):=by
   rw[eT,Int.tdiv_eq_ediv_of_nonneg (by omega),ZbL (by omega) (by omega)];omega
  have e2:u32.wrap ((tM c7 d p q).tmod 65536)=(((c7+d+p*q) % 65536:Nat):Int):=by
   rw[eT,Int.tmod_eq_emod_of_nonneg (by omega),ze (by omega) (by omega)];omega
  have e3:i64.wrap ((k:Int)+1)=((k+1:Nat):Int):=by rw[ZL (by omega) (by omega)];omega
  have hstep:=Zow hj hO.2.1 hc hp hq;rw[ed,Xg] at hstep;obtain⟨s1,s2,s3⟩:=hstep;have hw:=Z03 o A.length c o' B.length c' (A.length+B.length) i c7 k d p q undef undef (wU O) lb la g;have lg:Zx [stM (wU O) (ijM i k),inM (ijM i k) (A.length+B.length),d65,ceM lb o' k q,inM k B.length,ceM la o i p,inM i A.length,ceM (wU O) 0 (ijM i k) d,inM (ijM i k) (A.length+B.length),(decide ((k:Int)<((B.length:Nat):Int)),true)]:=by
   have g1:decide (0+(ijM i k).toNat*1<(wU O).length)=true:=Xa (by rw[eij,Xg,Zbt];omega);have g2:decide (0≤ijM i k∧ijM i k<((A.length+B.length:Nat):Int))=true:=Xa (by rw[eij];omega);have g3:ZC (lb[o'+(k:Int).toNat*1]?) (.int .u32 q)=true:=by rw[Xg,Nat.mul_one,rB.cell hlt,eq];simp [ZC]
   have g4:decide (0≤(k:Int)∧(k:Int)<((B.length:Nat):Int))=true:=Xa (by omega);have g5:ZC (la[o+(i:Int).toNat*1]?) (.int .u32 p)=true:=by rw[Xg,Nat.mul_one,rA.cell hi,ep];simp [ZC]
   have g6:decide (0≤(i:Int)∧(i:Int)<((A.length:Nat):Int))=true:=Xa (by omega);have g7:ZC ((wU O)[0+(ijM i k).toNat*1]?) (.int .u32 d)=true:=by rw[eij,Xg,ZsG hj,ed];simp [ZC]
   exact Zt g1 (Zt g2 (Zt rfl (Zt g3 (Zt g4 (Zt g5 (Zt g6 (Zt g7 (Zt g2 (Z2 (Xa (by omega)))))))))))
  rw[e1,e2,e3,eij,Xg,Nat.zero_add,Nat.mul_one,Zlu] at hw;refine (Zj (Zg Zd Zs) hw (by rw[← Xg (i+k),← eij] at*;exact lg)).mono fun e z hz=> ?_;obtain⟨rfl,z1,z2⟩:=hz;refine⟨B.length-(k+1),by omega,k+1,O.set (i+k) (((c7+d+p*q) % 65536:Nat):Int),(c7+d+p*q)/65536,rfl,by omega,ZsH hO (by omega) s3,s2,?_,z1,z2⟩;rw[Zaw,Nat.mul_add,Nat.add_mul,eq,Xg,ep,Xg];rw[ep,Xg] at hval;have x1:p*(65536^k*q)*65536^i=p*q*65536^(i+k):=by rw[Nat.pow_add,Nat.mul_comm (65536^k) q,← Nat.mul_assoc,Nat.mul_assoc (p*q),Nat.mul_comm (65536^k)]
  rw[x1];have x2:i+(k+1)=i+k+1:=by omega
  rw[x2];omega
 ·have hkl:k=B.length:=by omega
  subst hkl;refine (Zj (Zg Zd Zs) (ZwR o A.length c o' B.length c' (A.length+B.length) i c7 ((B.length:Nat):Int) 0 0 0 undef undef (wU O) lb la g) (Z2 (Xb (by omega)))).mono fun e z hz=> ?_;obtain⟨rfl,z1,z2⟩:=hz;rw[List.take_length] at hval;exact⟨rfl,O,c7,_,hO,hc,hval,z1,z2⟩
theorem Z2P {T:Tab}{c:Code}{id:Nat}{x:Lf}{P:Lf→Prop}(h:Runs T c x fun e y=>e=none∧P y):Runs T (.block id c) x fun e y=>e=none∧P y:=
 Runs.block h (fun y hy=>hy) (fun y hy=>by cases hy.1) (fun y hy=>by cases hy.1) (fun id' y _ hy=>by cases hy.1)
def mOu (o c o' c':Nat) (la lb:List Value) (A B:List Int) (i:Nat) (Y:Lf):Prop:=
 ∃ O v7 v8,mOk (A.length+B.length) i B.length O∧vb 65536 O=vb 65536 (A.take i)*vb 65536 B∧mSt o A.length c o' B.length c' (A.length+B.length) la lb O i v7 v8 Y
theorem ZiD (rA:Row la o A) (rB:Row lb o' B) (dA:∀ x∈A,Dg 65536 x) (dB:∀ x∈B,Dg 65536 x) (hz:A.length+B.length<1000000) {i:Nat}(hi:i<A.length) {Y0:Lf}(h0:mOu o c o' c' la lb A B i Y0):
  Runs (Zp prog Zh Zo hcV) (muO f69) Y0 fun e Y=>e=none∧mOu o c o' c' la lb A B (i+1) Y:=by
 obtain⟨O,v7,v8,hO,hval,⟨g,ht⟩,hh⟩:=h0;obtain⟨t,h',s⟩:=Y0;simp only at ht hh;subst ht hh;have hT:=Zg Zd Zs;rw[ZhA];refine Runs.next (Zj hT (Z0z o A.length c o' B.length c' (A.length+B.length) i 0 0 0 0 0 v7 v8 (wU O) lb la g) (Z2 (Xa (by omega)))) fun g s=> ?_;refine Runs.seq (P1:=fun e Y=>e=none∧∃ O v7 v8,mOk (A.length+B.length) (i+1) B.length O∧vb 65536 O=vb 65536 (A.take (i+1))*vb 65536 B∧mSt o A.length c o' B.length c' (A.length+B.length) la lb O i v7 v8 Y) (Z2P ?_) ?_ (fun e y hy=>by cases hy.1)
 ·rw[Zox];refine Runs.next (Zj hT (Z01 o A.length c o' B.length c' (A.length+B.length) i 0 0 0 0 0 v7 v8 (wU O) lb la g) (fun _ h=>by cases h)) fun g s=> ?_;refine Runs.seq (P1:=fun e Y=>e=none∧mFi o c o' c' la lb A B i (vb 65536 O) Y) ?_ ?_ (fun e y hy=>by cases hy.1)
  ·refine Runs.next (Zj hT (Z02 o A.length c o' B.length c' (A.length+B.length) i 0 0 0 0 0 (.int .u64 0) v8 (wU O) lb la g) (fun _ h=>by cases h)) fun g s=> ?_;refine (ZiC rA rB dA dB hz hi (V:=vb 65536 O) ⟨0,O,0,by omega,by omega,hO,by omega,?_,⟨g,rfl⟩,rfl⟩).mono fun e Y hY=> ?_
   ·simp [vb]
   ·match e,hY with
    | none,hY=>exact⟨rfl,hY⟩
    | some none,hY=>exact hY.elim
    | some (some _),hY=>exact hY.elim
  ·rintro⟨t,h',s⟩ ⟨_,O',c7,w8,hO',hc7,hv',⟨g,ht⟩,hh⟩;simp only at ht hh;subst ht hh;have hj:i+B.length<O'.length:=by rw[hO'.1];omega
   have eij:ijM i ((B.length:Nat):Int)=((i+B.length:Nat):Int):=by unfold ijM;rw[ZL (by omega) (by omega)];omega
   have e1:u32.wrap ((c7:Nat):Int)=((c7:Nat):Int):=ze (by omega) (by omega);have hw:=ZwS o A.length c o' B.length c' (A.length+B.length) i c7 0 0 0 0 undef w8 (wU O') lb la g;have g1:decide (0+(ijM i ((B.length:Nat):Int)).toNat*1<(wU O').length)=true:=Xa (by rw[eij,Xg,Zbt];omega);have g2:decide (0≤ijM i ((B.length:Nat):Int)∧ijM i ((B.length:Nat):Int)<((A.length+B.length:Nat):Int))=true:=Xa (by rw[eij];omega);have r:=Zj (s0:=s) hT hw (Zt g1 (Z2 g2));rw[e1,eij,Xg,Nat.zero_add,Nat.mul_one,Zlu] at r;refine r.mono fun e z hz=> ?_;obtain⟨rfl,z1,z2⟩:=hz;have hdg:∀ x∈O'.set (i+B.length) ((c7:Nat):Int),Dg 65536 x:=Zlt hO'.2.1 ⟨by omega,by omega⟩ _;refine⟨rfl,O'.set (i+B.length) ((c7:Nat):Int),_,_,⟨by rw[List.length_set];exact hO'.1,hdg,fun j hj'=> ?_⟩,?_,z1,z2⟩
   ·have:=hO'.2.2 j (by omega);simp only[List.getD] at*;rw[List.getElem?_set_ne (by omega)];exact this
   ·have hs:=Zls (b:=65536) hj ((c7:Nat):Int);rw[hO'.2.2 (i+B.length) (Nat.le_refl _),Xg] at hs;rw[Zaw,Nat.add_mul,← hval];have x1:65536^i*(A.getD i 0).toNat*vb 65536 B=(A.getD i 0).toNat*vb 65536 B*65536^i:=by rw[Nat.mul_assoc,Nat.mul_comm]
    rw[x1];have x2:c7*65536^(i+B.length)=65536^(i+B.length)*c7:=Nat.mul_comm _ _;have x3:(65536:Nat)^(i+B.length)*(0:Int).toNat=0:=by simp
    omega
 ·rintro⟨t,h',s⟩ ⟨_,O',w7,w8,hO',hv',⟨g,ht⟩,hh⟩;simp only at ht hh;subst ht hh;have e3:i64.wrap ((i:Int)+1)=((i+1:Nat):Int):=by rw[ZL (by omega) (by omega)];omega
  have hw:=Z04 o A.length c o' B.length c' (A.length+B.length) i 0 0 0 0 0 w7 w8 (wU O') lb la g;rw[e3] at hw;refine (Zj hT hw (fun _ h=>by cases h)).mono fun e z hz=> ?_;obtain⟨rfl,z1,z2⟩:=hz;exact⟨rfl,O',w7,w8,hO',hv',z1,z2⟩
theorem Zlx (rA:Row la o A) (rB:Row lb o' B) (dA:∀ x∈A,Dg 65536 x) (dB:∀ x∈B,Dg 65536 x) (hz:A.length+B.length<1000000) {Y0:Lf}(h0:mOu o c o' c' la lb A B 0 Y0):
  Runs (Zp prog Zh Zo hcV) (.block 0 (.loop (muO f69))) Y0 fun e Y=>match e with | none=>mOu o c o' c' la lb A B A.length Y | some none=>False | some (some _)=>False:=by
 refine Runs.forLoop (P:=mOu o c o' c' la lb A B A.length) (R:=fun _=>False) (fun m Y=>∃ i,m=A.length-i∧i≤A.length∧mOu o c o' c' la lb A B i Y) ?_ (n:=A.length) ⟨0,by omega,by omega,h0⟩;rintro m Y ⟨i,hm,hi,hY⟩;by_cases hlt:i<A.length
 ·refine (ZiD rA rB dA dB hz hlt hY).mono fun e z hz'=> ?_;obtain⟨rfl,z1⟩:=hz';exact⟨A.length-(i+1),by omega,i+1,rfl,by omega,z1⟩
 ·have hil:i=A.length:=by omega
  subst hil;obtain⟨O,v7,v8,hO,hval,⟨g,ht⟩,hh⟩:=hY;obtain⟨t,h',s⟩:=Y;simp only at ht hh;subst ht hh;rw[ZhA];refine Runs.seq (Zj (Zg Zd Zs) (Z00 o A.length c o' B.length c' (A.length+B.length) ((A.length:Nat):Int) 0 0 0 0 0 v7 v8 (wU O) lb la g) (Z2 (Xb (by omega)))) (fun y hy=>by cases hy.1) (fun e y hy=> ?_);obtain⟨e1,z1,z2⟩:=hy;cases e1;exact⟨rfl,O,v7,v8,hO,hval,z1,z2⟩
theorem Zly (rA:Row la o A) (rB:Row lb o' B) (dA:∀ x∈A,Dg 65536 x) (dB:∀ x∈B,Dg 65536 x) (hz:A.length+B.length<1000000):
  Runs (Zp prog Zh Zo hcV) (Zaz (Zu7 f69) (.seq (.seq (ZB (muB f69)) (.block 0 (.loop (muO f69)))) (muE f69))) ([sl 0 o A.length c,sl 1 o' B.length c']++List.replicate 66 undef,h2 la lb,[]) fun e z=>(e=none∨e=some none)∧Zau prog f69 z.1 z.2.1=some (sl 2 0 (d16 (vb 65536 A*vb 65536 B)).length (d16 (vb 65536 A*vb 65536 B)).length)∧∃ r,z.2.1.blk? 2=some (wU (d16 (vb 65536 A*vb 65536 B))++r,tU):=by
 have hT:=Zg Zd Zs;have ez:zM A.length B.length=((A.length+B.length:Nat):Int):=by unfold zM;rw[ZL (by omega) (by omega)];omega
 have hp:=ZwP o A.length c o' B.length c' la lb;have mk:zf 4 (zM A.length B.length) (zM A.length B.length)=true:=by unfold zf;rw[ez];exact Xa (by omega)
 refine zl hT hp (Z2 mk) fun g=> ?_;rw[ez,Xg];have ew:List.replicate (A.length+B.length) (Value.int .u32 0)=wU (List.replicate (A.length+B.length) 0):=by unfold wU;rw[List.map_replicate]
 rw[ew];have hrep:mOk (A.length+B.length) 0 B.length (List.replicate (A.length+B.length) (0:Int)):=by
  refine⟨by simp,fun x hx=> ?_,fun j _=> ?_⟩
  ·rw[List.eq_of_mem_replicate hx];exact⟨by omega,by omega⟩
  ·simp only[List.getD,List.getElem?_replicate];split<;>rfl
 have hv0:∀ n:Nat,vb 65536 (List.replicate n (0:Int))=0:=fun n=>by
  induction n with
  | zero=>rfl
  | succ n ih=>rw[List.replicate_succ];simp only[vb,ih];rfl
 refine Runs.seq (P1:=fun e Y=>e=none∧mOu o c o' c' la lb A B A.length Y) ?_ ?_ (fun e y hy=>by cases hy.1)
 ·refine Runs.next (Zj hT (ZwQ (sl 0 o A.length c) (sl 1 o' B.length c') (sl 2 0 (A.length+B.length) (A.length+B.length)) _ g) (fun _ h=>by cases h)) fun g s=> ?_;refine (Zlx rA rB dA dB hz ⟨List.replicate (A.length+B.length) 0,_,_,hrep,by rw[hv0];simp [vb],⟨g,rfl⟩,rfl⟩).mono fun e Y hY=> ?_
  match e,hY with
  | none,hY=>exact⟨rfl,hY⟩
  | some none,hY=>exact hY.elim
  | some (some _),hY=>exact hY.elim
 ·rintro⟨t,h',s⟩ ⟨_,O,v7,v8,hO,hval,⟨g,ht⟩,hh⟩;simp only at ht hh;subst ht hh;rw[List.take_length] at hval;have hl:=hO.1;have hrow:ZaK tU (wU O) 0 (A.length+B.length) (A.length+B.length)=true:=by
   have:=zY (L:=O) (fun x hx=>⟨(hO.2.1 x hx).1,by have:=(hO.2.1 x hx).2;omega⟩) (by rw[hl];omega) (c:=A.length+B.length) (by rw[hl];unfold Zd6;simp;exact .inl (Zlv (by omega)));rw[hl] at this;exact this
  have ec:zu (wU O) 0 (A.length+B.length)=O:=by
   have:=ZaE O;rw[hl] at this;exact this
  have et:Z3 O=(d16 (vb 65536 A*vb 65536 B)).length:=by
   rw[Zad (by omega) hO.2.1,hval];rfl
  refine (Zj hT (ZwT o A.length c o' B.length c' (A.length+B.length) ((A.length:Nat):Int) 0 0 0 0 0 v7 v8 (wU O) lb la g) (Z2 hrow)).mono fun e z hz'=> ?_;obtain⟨rfl,⟨g',e1⟩,e2⟩:=hz';refine⟨.inr rfl,?_,?_⟩
  ·rw[e1,e2,ec,et];rfl
  ·rw[e2];refine⟨wU (O.drop (Z3 O)),?_⟩;have e3:wU (d16 (vb 65536 A*vb 65536 B))++wU (O.drop (Z3 O))=wU O:=by
    unfold d16;rw[← hval,← zj (by omega) _ hO.2.1,← ZO,List.take_append_drop]
   rw[e3];rfl
end
def Zqs (h:Hp) (p q:Option Addr) (n c n' c':Nat):Bool:=zS h p n c && dgB (Zu h p n) && (zS h q n' c' && dgB (Zu h q n')) && Nat.blt (n+n') 1000000
def ZsI:Zcl:=fun vals h s=>
 match vals with
 | [.slice (some ⟨b,o,none⟩) n c,.slice (some ⟨b',o',none⟩) n' c']=>Zei (vO h (some ⟨b,o,none⟩) n*vO h (some ⟨b',o',none⟩) n') h s [(Zqs h (some ⟨b,o,none⟩) (some ⟨b',o',none⟩) n c n' c',true)]
 | _=>none
theorem ZhB:za 69 ZsI:=by
 intro vals h s v h' s' lg hg hl m B w E0 hv;unfold ZsI at hg;split at hg
 ·rename_i b o n c b' o' n' c';unfold Zei at hg;cases hg;have l3:=hl _ Xf;simp only[Zqs,Xh] at l3;obtain⟨⟨⟨q1,q2⟩,⟨p1,p2⟩⟩,q4⟩:=l3;have q2:=ZaY q2;have p2:=ZaY p2;have q4:=Zk.1 q4;rcases Z8 q1 with ⟨h0,_⟩ | ⟨b1,o1,x,hp,hx,r1,rs,e0⟩
  ·cases h0
  ·cases hp;rcases Z8 p1 with ⟨h0,_⟩ | ⟨b2,o2,y,hp',hy,t1,ts,f0⟩
   ·cases h0
   ·cases hp';rw[e0] at q2;rw[f0] at p2;obtain⟨h1,h2',h3,h4,h5,h6,h7⟩:=ZU r1;obtain⟨k1,k2,k3,k4,k5,k6,k7⟩:=ZU t1;have ev:vO h (some ⟨b,o,none⟩) n=vb 65536 (zu x.1 o n):=by unfold vO;rw[e0]
    have ev':vO h (some ⟨b',o',none⟩) n'=vb 65536 (zu y.1 o' n'):=by unfold vO;rw[f0]
    have r:=Zly (c:=c) (c':=c') h1 k1 q2 p2 (by rw[h2',k2];exact q4);rw[h2',k2,← ev,← ev'] at r;have evals:List.map (rn (pair b b')) [sl 0 o n c,sl 1 o' n' c']=[.slice (some ⟨b,o,none⟩) n c,.slice (some ⟨b',o',none⟩) n' c']:=by
     simp [rn,rn2,rn1,sl,pair]
    have fin:=zm (T:=Zp prog Zh Zo hcV) func69 ZfL (Zom h7 k7) (vals:=[sl 0 o n c,sl 1 o' n' c']) (fun v hv=>by
     simp only[List.mem_cons,List.not_mem_nil,or_false] at hv;rcases hv with h1 | h1<;>rw[h1]<;>rfl) (k:=2) (cs:=wU (d16 (vO h (some ⟨b,o,none⟩) n*vO h (some ⟨b',o',none⟩) n'))) (ty:=tU) (Zbu _) (by kernel_rfl) r.w (by rfl) E0 (s:=pair b b') (Zlg hx h5 h6 hy k5 k6)
    rw[evals] at fin;exact fin
 ·cases hg
def Z05 (F:Func):List Code:=[ZB (Zv F),ZB (Z5 (Zv F)),ZB (Z5 (Z5 (Zv F)))]
def Z06 (F:Func):Code:=ZB (ZB (Z5 (Z5 (Z5 (Zv F)))))
def ZcI (F:Func):Code:=cIn (cIn (Z5 (ZB (Z5 (Z5 (Z5 (Zv F)))))))
def Z07 (F:Func):Code:=Z5 (Z5 (Z5 (Z5 (Zv F))))
theorem Zoy:f77.body=some (Zaz (Z05 f77) (.seq (.seq (Z06 f77) (.block 0 (.loop (ZcI f77)))) (Z07 f77))):=by kernel_rfl
def sv (A:List Int) (b c i:Int):Int:=u64.wrap (c+u64.wrap (u64.wrap (atN A i)*u64.wrap b))
def Zej (x:List Value×TypeId):Hp:=⟨1,[x]⟩
def Zff (lo:List Value) (x:List Value×TypeId):Hp:=⟨2,[(lo,tU),x]⟩
def ZyY (w:Nat):List Dec:=match w with | 0=>[cmp true] | _=>[cmp false,cmp true]
def ZwU (w:Nat) (n:Nat) (k i:Int):Log:=match w with | 0=>[(decide (i<n),true)] | _=>[(decide (k>0),true),(decide (i<n),false)]
def rP' (h:Hp) (p:Option Addr) (n c:Nat):Bool×Bool:=(zS h p n c,true)
theorem ZsJ (p:Option Addr) (n c:Nat) (b e:Int) (h:Hp):Zm (evL (Zp prog Zh Zo hcV) 100 (Z05 f77) ([.slice p n c,.int .u32 b,.int .u32 e]++List.replicate 38 undef,h,[]) ⟨[],[],[]⟩) 9 32 none [.slice p n c,.int .u32 b,.int .u32 e,undef,undef,undef,Zn,Zn,.int .u64 (u64.wrap e)] h []:=by and_intros<;>kernel_rfl
theorem ZwV (p:Option Addr) (n c:Nat) (b e k:Int) (h:Hp) (g:Nat→Value):Zm (evC (Zp prog Zh Zo hcV) 100 false (Z06 f77) ([.slice p n c,.int .u32 b,.int .u32 e,undef,undef,undef,Zn,Zn,.int .u64 k]++tl 32 g,h,[]) ⟨[],[],[]⟩) 10 31 none [.slice p n c,.int .u32 b,.int .u32 e,undef,undef,undef,Zn,Zn,.int .u64 k,.int .i64 0] h []:=by and_intros<;>kernel_rfl
theorem Zoz (p:Option Addr) (n c:Nat) (b e k i:Int) (x:List Value×TypeId) (g:Nat→Value):Zm (evC (Zp prog Zh Zo hcV) 100 false (ZcI f77) ([.slice p n c,.int .u32 b,.int .u32 e,undef,undef,undef,Zn,Zn,.int .u64 k,.int .i64 i]++tl 31 g,Zej x,ZyY 0++[cmp true]) ⟨[],[],[]⟩) 10 31 none [.slice p n c,.int .u32 b,.int .u32 e,undef,undef,undef,Zn,sl 2 0 1 grown,.int .u64 (u64.wrap ((sv (Zu (Zej x) p n) b k i).tdiv 65536)),.int .i64 (i64.wrap (i+1))] ⟨3,[([.int .u32 (u32.wrap ((sv (Zu (Zej x) p n) b k i).tmod 65536))],tU),([.int .u32 (u32.wrap ((sv (Zu (Zej x) p n) b k i).tmod 65536))],tU),x]⟩ ((decide ((65536:Int)=0),false)::rP' (Zej x) p n c::ZwU 0 n k i):=by and_intros<;>kernel_rfl
theorem Zo0 (p:Option Addr) (n c:Nat) (b e k i:Int) (x:List Value×TypeId) (g:Nat→Value):Zm (evC (Zp prog Zh Zo hcV) 100 false (ZcI f77) ([.slice p n c,.int .u32 b,.int .u32 e,undef,undef,undef,Zn,Zn,.int .u64 k,.int .i64 i]++tl 31 g,Zej x,ZyY 1++[cmp true]) ⟨[],[],[]⟩) 10 31 none [.slice p n c,.int .u32 b,.int .u32 e,undef,undef,undef,Zn,sl 2 0 1 grown,.int .u64 (u64.wrap ((sv (Zu (Zej x) p n) b k i).tdiv 65536)),.int .i64 (i64.wrap (i+1))] ⟨3,[([.int .u32 (u32.wrap ((sv (Zu (Zej x) p n) b k i).tmod 65536))],tU),([.int .u32 (u32.wrap ((sv (Zu (Zej x) p n) b k i).tmod 65536))],tU),x]⟩ ((decide ((65536:Int)=0),false)::rP' (Zej x) p n c::ZwU 1 n k i):=by and_intros<;>kernel_rfl
theorem Zlz (p:Option Addr) (n c z:Nat) (b e k i:Int) (x:List Value×TypeId) (lo:List Value) (g:Nat→Value):Zm (evC (Zp prog Zh Zo hcV) 100 false (ZcI f77) ([.slice p n c,.int .u32 b,.int .u32 e,undef,undef,undef,Zn,sl 1 0 z grown,.int .u64 k,.int .i64 i]++tl 31 g,Zff lo x,ZyY 0++[cmp true,at_]) ⟨[],[],[]⟩) 10 31 none [.slice p n c,.int .u32 b,.int .u32 e,undef,undef,undef,Zn,sl 3 0 (z+1) grown,.int .u64 (u64.wrap ((sv (Zu (Zff lo x) p n) b k i).tdiv 65536)),.int .i64 (i64.wrap (i+1))] ⟨4,[(lo++[.int .u32 (u32.wrap ((sv (Zu (Zff lo x) p n) b k i).tmod 65536))],tU),([.int .u32 (u32.wrap ((sv (Zu (Zff lo x) p n) b k i).tmod 65536))],tU),([],2*ZV),x]⟩ ((zQ tU (lo,tU) ([.int .u32 (u32.wrap ((sv (Zu (Zff lo x) p n) b k i).tmod 65536))],tU) z 0 1,true)::(decide ((65536:Int)=0),false)::rP' (Zff lo x) p n c::ZwU 0 n k i):=by and_intros<;>kernel_rfl
theorem Zl0 (p:Option Addr) (n c z:Nat) (b e k i:Int) (x:List Value×TypeId) (lo:List Value) (g:Nat→Value):Zm (evC (Zp prog Zh Zo hcV) 100 false (ZcI f77) ([.slice p n c,.int .u32 b,.int .u32 e,undef,undef,undef,Zn,sl 1 0 z grown,.int .u64 k,.int .i64 i]++tl 31 g,Zff lo x,ZyY 1++[cmp true,at_]) ⟨[],[],[]⟩) 10 31 none [.slice p n c,.int .u32 b,.int .u32 e,undef,undef,undef,Zn,sl 3 0 (z+1) grown,.int .u64 (u64.wrap ((sv (Zu (Zff lo x) p n) b k i).tdiv 65536)),.int .i64 (i64.wrap (i+1))] ⟨4,[(lo++[.int .u32 (u32.wrap ((sv (Zu (Zff lo x) p n) b k i).tmod 65536))],tU),([.int .u32 (u32.wrap ((sv (Zu (Zff lo x) p n) b k i).tmod 65536))],tU),([],2*ZV),x]⟩ ((zQ tU (lo,tU) ([.int .u32 (u32.wrap ((sv (Zu (Zff lo x) p n) b k i).tmod 65536))],tU) z 0 1,true)::(decide ((65536:Int)=0),false)::rP' (Zff lo x) p n c::ZwU 1 n k i):=by and_intros<;>kernel_rfl
theorem ZsK (p:Option Addr) (n c:Nat) (b e k i:Int) (v:Value) (h:Hp) (g:Nat→Value):Zm (evC (Zp prog Zh Zo hcV) 100 false (ZcI f77) ([.slice p n c,.int .u32 b,.int .u32 e,undef,undef,undef,Zn,v,.int .u64 k,.int .i64 i]++tl 31 g,h,[cmp false,cmp false]) ⟨[],[],[]⟩) 10 31 (some (some 0)) [.slice p n c,.int .u32 b,.int .u32 e,undef,undef,undef,Zn,v,.int .u64 k,.int .i64 i] h [(decide (k>0),false),(decide (i<n),false)]:=by and_intros<;>kernel_rfl
theorem ZsL (p:Option Addr) (n c z:Nat) (b e k i:Int) (x:List Value×TypeId) (lo:List Value) (g:Nat→Value):Zm (evC (Zp prog Zh Zo hcV) 100 false (Z07 f77) ([.slice p n c,.int .u32 b,.int .u32 e,undef,undef,undef,Zn,sl 1 0 z grown,.int .u64 k,.int .i64 i]++tl 31 g,Zff lo x,[]) ⟨[],[],[]⟩) 7 34 (some none) [.slice p n c,.int .u32 b,.int .u32 e,undef,undef,undef,sl 1 0 (Z3 (zu lo 0 z)) (Z3 (zu lo 0 z))] (Zff lo x) [(ZaK tU lo 0 z grown,true)]:=by and_intros<;>kernel_rfl
theorem Zl1 (p:Option Addr) (n c:Nat) (b e:Int) (h:Hp):Zm (evC (Zp prog Zh Zo hcV) 100 false (Zv f77) ([.slice p n c,.int .u32 b,.int .u32 e]++List.replicate 38 undef,h,[cmp false,cmp false]) ⟨[],[],[]⟩) 7 34 (some none) [.slice p n c,.int .u32 b,.int .u32 e,undef,undef,undef,Zn] h [(decide (u64.wrap e>0),false),(decide ((0:Int)<n),false)]:=by and_intros<;>kernel_rfl
theorem ZbM {n:Int}(h0:0≤n) (h1:n<18446744073709551616):u64.wrap n=n:=by simp [IntKind.wrap,IntKind.bits,IntKind.signed];omega
theorem Z08 {A:List Int}(hA:∀ x∈A,Dg 65536 x) {b k:Nat}(hb:b<4294967296) (hk:k<4294967296) (i:Nat):sv A b k i=((k+dgN A i*b:Nat):Int):=by
 have h1:=(zn hA i).1;have h2:=(zn hA i).2;have hp:dgN A i*b≤65535*4294967295:=Nat.mul_le_mul (by omega) (by omega);have e0:atN A (i:Int)=((dgN A i:Nat):Int):=by
  have:=Zd7 hA i;rw[zZ];unfold dgN;have:=this.1;omega
 unfold sv;rw[e0,ZbM (n:=((dgN A i:Nat):Int)) (by omega) (by omega),ZbM (n:=(b:Int)) (by omega) (by omega)];have e1:((dgN A i:Nat):Int)*(b:Int)=((dgN A i*b:Nat):Int):=by simp
 rw[e1,ZbM (n:=((dgN A i*b:Nat):Int)) (by omega) (by omega),ZbM (by omega) (by omega)];omega
theorem ZiE {O:List Int}{A:List Int}{i k b e:Nat}(hO:O.length=i) (h:vb 65536 O+65536^i*k=vb 65536 (A.take i)*b+e):
  vb 65536 (O++[(((k+dgN A i*b) % 65536:Nat):Int)])+65536^(i+1)*((k+dgN A i*b)/65536)=vb 65536 (A.take (i+1))*b+e:=by
 rw[Zcv,hO,Xg,Zaw,Nat.add_mul];have h2:=Nat.div_add_mod (k+dgN A i*b) 65536;have h3:65536^i*(k+dgN A i*b)=65536^i*(65536*((k+dgN A i*b)/65536))+65536^i*((k+dgN A i*b) % 65536):=by rw[← Nat.mul_add,h2]
 have h4:65536^i*(k+dgN A i*b)=65536^i*k+65536^i*(dgN A i*b):=Nat.mul_add _ _ _;have h5:65536^(i+1)*((k+dgN A i*b)/65536)=65536^i*(65536*((k+dgN A i*b)/65536)):=by rw[Nat.pow_succ,Nat.mul_assoc]
 have h6:65536^i*(A.getD i 0).toNat*b=65536^i*(dgN A i*b):=by rw[Nat.mul_assoc];rfl
 rw[h5,h6];omega
section
variable {x : List Value × TypeId} {p : Option Addr} {n c : Nat} {A : List Int}
theorem ZhC (NA:Nu 0 x p n c A) {h:Hp}(h0:h.blk? 0=some x):∀ i z,(⟨1,[x]⟩:Hp).blk? i=some z→h.blk? i=some z∧∀ v∈z.1,still v=true:=fun i z hz=>by
 have hi:i=0:=by have:i<1:=Hp.blk_lt hz;omega
 subst hi;have:z=x:=(Option.some.inj hz).symm;subst this;exact⟨h0,NA.st⟩
def sFr (p:Option Addr) (n c:Nat) (b e:Nat) (out:Value) (k i:Nat):List Value:=[.slice p n c,.int .u32 ((b:Nat):Int),.int .u32 ((e:Nat):Int),undef,undef,undef,Zn,out,.int .u64 ((k:Nat):Int),.int .i64 ((i:Nat):Int)]
def Z09 (x:List Value×TypeId) (p:Option Addr) (n c b e:Nat) (O:List Int) (i k:Nat) (Y:Lf):Prop:=
 (i=0∧(∃ g,Y.1=sFr p n c b e Zn k i++tl 31 g)∧Y.2.1=Zej x)∨(0<i∧(∃ g,Y.1=sFr p n c b e (sl 1 0 i grown) k i++tl 31 g)∧Y.2.1=Zff (wU O) x)
theorem Zl2 (NA:Nu 0 x p n c A) (hA:∀ x∈A,Dg 65536 x) {b e k i:Nat}(hb:b<4294967296) {O:List Int}(hk:k<4294967296) (hi:i<1073741823) (hO:O.length=i) (hgo:i<n∨0<k) {Y:Lf}(hY:Z09 x p n c b e O i k Y):
  RunsW (Zp prog Zh Zo hcV) (ZcI f77) Y fun ex z=>ex=none∧(∃ g,z.1=sFr p n c b e (sl 1 0 (i+1) grown) ((k+dgN A i*b)/65536) (i+1)++tl 31 g)∧z.2.1=Zff (wU (O++[(((k+dgN A i*b) % 65536:Nat):Int)])) x:=by
 obtain⟨t,h',s⟩:=Y;have hd1:=(zn hA i).1;have hp:dgN A i*b≤65535*4294967295:=Nat.mul_le_mul (by omega) (by omega);have es:=Z08 hA hb hk i;have e1:u32.wrap ((sv A b k i).tmod 65536)=(((k+dgN A i*b) % 65536:Nat):Int):=by rw[es,Int.tmod_eq_emod_of_nonneg (by omega),ze (by omega) (by omega)];omega
 have e2:u64.wrap ((sv A b k i).tdiv 65536)=(((k+dgN A i*b)/65536:Nat):Int):=by rw[es,Int.tdiv_eq_ediv_of_nonneg (by omega),ZbM (by omega) (by omega)];omega
 have e3:i64.wrap ((i:Int)+1)=((i+1:Nat):Int):=by rw[ZL (by omega) (by omega)];omega
 have hw:∃ w,w≤1∧Zx (ZwU w n k i):=by
  by_cases ha:i<n
  ·exact⟨0,by omega,Z2 (Xa (by omega))⟩
  ·exact⟨1,by omega,okW (Xa (by omega)) (Z2 (Xb (by omega)))⟩
 obtain⟨w,hw1,hl⟩:=hw;rcases hY with ⟨h0,⟨g,ht⟩,hh⟩ | ⟨h0,⟨g,ht⟩,hh⟩
 ·simp only at ht hh;subst ht hh;have r0:=NA.row (Zej x) rfl;have hO':O=[]:=List.length_eq_zero_iff.1 (by omega);have fin:RunsW (Zp prog Zh Zo hcV) (ZcI f77) (sFr p n c b e Zn k i++tl 31 g,Zej x,s) fun ex z=>ex=none∧(∃ g,z.1=[.slice p n c,.int .u32 ((b:Nat):Int),.int .u32 ((e:Nat):Int),undef,undef,undef,Zn,sl 2 0 1 grown,.int .u64 (u64.wrap ((sv A b k i).tdiv 65536)),.int .i64 (i64.wrap ((i:Int)+1))]++tl 31 g)∧z.2.1=⟨3,[([.int .u32 (u32.wrap ((sv A b k i).tmod 65536))],tU),([.int .u32 (u32.wrap ((sv A b k i).tmod 65536))],tU),x]⟩:=by
   match w,hw1,hl with
   | 0,_,hl=>
    have:=Zc (Zg Zd Zs) (s0:=s) (Zoz p n c b e k i x g) (okW rfl (okW r0.1 hl));rw[r0.2] at this;exact this
   | 1,_,hl=>
    have:=Zc (Zg Zd Zs) (s0:=s) (Zo0 p n c b e k i x g) (okW rfl (okW r0.1 hl));rw[r0.2] at this;exact this
  rw[e1,e2,e3] at fin;have:=fin.kept (k:=1) (b:=2) (base:=[x]) (y:=([.int .u32 (((k+dgN A i*b) % 65536:Nat):Int)],tU)) (front':=sFr p n c b e (sl 1 0 1 grown) ((k+dgN A i*b)/65536) (i+1)) rfl
   (by simp only[sFr,List.map_cons,List.map_nil,NA.rn (f:=zv 1 2) rfl];kernel_rfl) (ZhC NA rfl) rfl (by omega) (fun v hv=>by rw[List.mem_singleton.1 hv];rfl) (fun v hv=>by
    simp only[sFr,List.mem_cons,List.not_mem_nil,or_false] at hv;rcases hv with rfl | rfl | rfl | rfl | rfl | rfl | rfl | rfl | rfl | rfl
    ·exact NA.lt (by omega)
    all_goals rfl)
  refine this.mono fun ex z hz=> ?_;obtain⟨rfl,⟨g',q1⟩,q2⟩:=hz;subst hO' h0;exact⟨rfl,⟨g',q1⟩,q2⟩
 ·simp only at ht hh;subst ht hh;have r0:=NA.row (Zff (wU O) x) rfl;have hchk:zQ tU (wU O,tU) ([.int .u32 (u32.wrap ((sv A b k i).tmod 65536))],tU) i 0 1=true:=
   ZaF (L:=O) (M:=[u32.wrap ((sv A b k i).tmod 65536)]) hO.symm (show 0<1 by omega) (by show O.length+1≤_;omega)
  have fin:RunsW (Zp prog Zh Zo hcV) (ZcI f77) (sFr p n c b e (sl 1 0 i grown) k i++tl 31 g,Zff (wU O) x,s) fun ex z=>ex=none∧(∃ g,z.1=[.slice p n c,.int .u32 ((b:Nat):Int),.int .u32 ((e:Nat):Int),undef,undef,undef,Zn,sl 3 0 (i+1) grown,.int .u64 (u64.wrap ((sv A b k i).tdiv 65536)),.int .i64 (i64.wrap ((i:Int)+1))]++tl 31 g)∧z.2.1=⟨4,[(wU O++[.int .u32 (u32.wrap ((sv A b k i).tmod 65536))],tU),([.int .u32 (u32.wrap ((sv A b k i).tmod 65536))],tU),([],2*ZV),x]⟩:=by
   match w,hw1,hl with
   | 0,_,hl=>
    have:=Zc (Zg Zd Zs) (s0:=s) (Zlz p n c i b e k i x (wU O) g) (by rw[r0.2];exact okW hchk (okW rfl (okW r0.1 hl)));rw[r0.2] at this;exact this
   | 1,_,hl=>
    have:=Zc (Zg Zd Zs) (s0:=s) (Zl0 p n c i b e k i x (wU O) g) (by rw[r0.2];exact okW hchk (okW rfl (okW r0.1 hl)));rw[r0.2] at this;exact this
  rw[e1,e2,e3] at fin;have ew:wU O++[.int .u32 (((k+dgN A i*b) % 65536:Nat):Int)]=wU (O++[(((k+dgN A i*b) % 65536:Nat):Int)]):=by rw[ZO];rfl
  rw[ew] at fin;have:=fin.kept (k:=1) (b:=3) (base:=[x]) (y:=(wU (O++[(((k+dgN A i*b) % 65536:Nat):Int)]),tU)) (front':=sFr p n c b e (sl 1 0 (i+1) grown) ((k+dgN A i*b)/65536) (i+1)) rfl
   (by simp only[sFr,List.map_cons,List.map_nil,NA.rn (f:=zv 1 3) rfl];kernel_rfl) (ZhC NA rfl) rfl (by omega) (ZP _) (fun v hv=>by
    simp only[sFr,List.mem_cons,List.not_mem_nil,or_false] at hv;rcases hv with rfl | rfl | rfl | rfl | rfl | rfl | rfl | rfl | rfl | rfl
    ·exact NA.lt (by omega)
    all_goals rfl)
  exact this
def Z0A (x:List Value×TypeId) (p:Option Addr) (n c:Nat) (A:List Int) (b e m:Nat) (Y:Lf):Prop:=
 ∃ (i k:Nat) (O:List Int),O.length=i∧m=n+2-i∧i≤n+2∧k<4294967296∧((i=n+1→k<65536)∧(i=n+2→k=0))∧(∀ x∈O,Dg 65536 x)∧vb 65536 O+65536^i*k=vb 65536 (A.take i)*b+e∧Z09 x p n c b e O i k Y
def ZsM (x:List Value×TypeId) (p:Option Addr) (n c:Nat) (A:List Int) (b e:Nat) (Y:Lf):Prop:=
 ∃ (i:Nat) (O:List Int),O.length=i∧i≤n+2∧(∀ x∈O,Dg 65536 x)∧vb 65536 O=vb 65536 A*b+e∧n≤i∧Z09 x p n c b e O i 0 Y
theorem Zo1 (NA:Nu 0 x p n c A) (lA:A.length=n) (hA:∀ x∈A,Dg 65536 x) {b e:Nat}(hb:b<4294967296) (he:e<4294967296) (hn:n+3<1073741824) (g:Nat→Value):
  RunsW (Zp prog Zh Zo hcV) (.block 0 (.loop (ZcI f77))) (sFr p n c b e Zn e 0++tl 31 g,Zej x,[]) fun ex Y=>match ex with | none=>ZsM x p n c A b e Y | some none=>False | some (some _)=>False:=by
 refine RunsW.forLoop (P:=ZsM x p n c A b e) (R:=fun _=>False) (Z0A x p n c A b e) ?_ (n:=n+2) ⟨0,e,[],rfl,by omega,by omega,he,⟨by omega,by omega⟩,(fun x hx=>by cases hx),by simp [vb],.inl ⟨rfl,⟨g,rfl⟩,rfl⟩⟩;rintro m Y ⟨i,k,O,hO,hm,hi,hk,⟨hk1,hk0⟩,hOd,hval,hY⟩;by_cases hgo:i<n∨0<k
 ·have hmx:i≤n+1:=by
   rcases Nat.lt_or_ge i (n+2) with h | h
   ·omega
   ·have:k=0:=hk0 (by omega);omega
  have r:=Zl2 NA hA (e:=e) hb hk (by omega) hO hgo hY;refine r.mono fun ex z hz=> ?_;obtain⟨rfl,z1,z2⟩:=hz;have d1:=(zn hA i).1;have hp:dgN A i*b≤65535*4294967295:=Nat.mul_le_mul (by omega) (by omega);refine⟨n+2-(i+1),by omega,i+1,(k+dgN A i*b)/65536,O++[(((k+dgN A i*b) % 65536:Nat):Int)],by simp [hO],rfl,by omega,by omega,⟨fun he'=> ?_,fun he'=> ?_⟩,fun x hx=> ?_,ZiE hO hval,.inr ⟨by omega,z1,z2⟩⟩
  ·have z1:dgN A i=0:=Zd8 (by omega);rw[z1];omega
  ·have z1:dgN A i=0:=Zd8 (by omega);have:=hk1 (by omega);rw[z1];omega
  ·rcases List.mem_append.1 hx with hx | hx
   ·exact hOd x hx
   ·rw[List.mem_singleton.1 hx];exact⟨by omega,by omega⟩
 ·have hk:k=0:=by omega
  subst hk;have ha:n≤i:=by omega
  have out:∀ (v:Value) (h:Hp) (g:Nat→Value) (s:List Dec),RunsW (Zp prog Zh Zo hcV) (ZcI f77) (sFr p n c b e v 0 i++tl 31 g,h,s) fun ex z=>ex=some (some 0)∧(∃ g,z.1=sFr p n c b e v 0 i++tl 31 g)∧z.2.1=h:=fun v h g s=>
   Zc (Zg Zd Zs) (ZsK p n c b e 0 i v h g) (okW rfl (Z2 (Xb (by omega))))
  have hv:vb 65536 O=vb 65536 A*b+e:=by
   rw[List.take_of_length_le (by omega)] at hval;omega
  obtain⟨t,h',s⟩:=Y;rcases hY with ⟨h0,⟨g,ht⟩,hh⟩ | ⟨h0,⟨g,ht⟩,hh⟩
  ·simp only at ht hh;subst ht hh;refine (out Zn _ g s).mono fun ex z hz=> ?_;obtain⟨rfl,z1,z2⟩:=hz;exact⟨rfl,i,O,hO,hi,hOd,hv,ha,.inl ⟨h0,z1,z2⟩⟩
  ·simp only at ht hh;subst ht hh;refine (out (sl 1 0 i grown) _ g s).mono fun ex z hz=> ?_;obtain⟨rfl,z1,z2⟩:=hz;exact⟨rfl,i,O,hO,hi,hOd,hv,ha,.inr ⟨h0,z1,z2⟩⟩
theorem Zo2 (NA:Nu 0 x p n c A) (lA:A.length=n) (hA:∀ x∈A,Dg 65536 x) {b e:Nat}(hb:b<4294967296) (he:e<4294967296) (hn:n+3<1073741824) (h0:0<n∨0<e) {V:Nat}(hV:V=vb 65536 A*b+e):
  RunsW (Zp prog Zh Zo hcV) (Zaz (Z05 f77) (.seq (.seq (Z06 f77) (.block 0 (.loop (ZcI f77)))) (Z07 f77))) ([.slice p n c,.int .u32 ((b:Nat):Int),.int .u32 ((e:Nat):Int)]++List.replicate 38 undef,Zej x,[]) fun ex z=>(ex=none∨ex=some none)∧Zau prog f77 z.1 z.2.1=some (sl 1 0 (d16 V).length (d16 V).length)∧∃ r,z.2.1.blk? 1=some (wU (d16 V)++r,tU):=by
 refine Z0 (Zg Zd Zs) (ZsJ p n c b e (Zej x)) (fun x hx=>by cases hx) fun g=> ?_;have ee:u64.wrap ((e:Nat):Int)=((e:Nat):Int):=ZbM (by omega) (by omega);rw[ee];refine ZfK (Zc (Zg Zd Zs) (ZwV p n c b e e (Zej x) g) (fun x hx=>by cases hx)) (fun ex y he=>by cases he.1) (P2:=fun ex Y=>match ex with | none=>ZsM x p n c A b e Y | some none=>False | some (some _)=>False) ?_ ?_ ?_
 ·rintro⟨t,h',s⟩ ⟨_,⟨g',ht⟩,hh⟩;simp only at ht hh;subst ht hh;exact RunsW.script (Zo1 NA lA hA hb he hn g')
 ·intro ex y hy
  match ex,hy with
  | none,hy=>exact hy
  | some id,hy=>exact hy
 ·rintro⟨t,h',s⟩ ⟨i,O,hO,hi,hOd,hv,ha,hY⟩;rcases hY with ⟨e0,_⟩ | ⟨_,⟨g',ht⟩,hh⟩
  ·exfalso
   have hO':O=[]:=List.length_eq_zero_iff.1 (by omega);rw[hO'] at hv;have:vb 65536 []=0:=rfl;omega
  ·simp only at ht hh;subst ht hh;have hrow:ZaK tU (wU O) 0 i grown=true:=by
    rw[← hO];exact zY (fun x hx=>⟨(hOd x hx).1,by have:=(hOd x hx).2;omega⟩) (by omega) (Zu5 _)
   refine (Zc (Zg Zd Zs) (ZsL p n c i b e 0 i x (wU O) g') (Z2 hrow)).mono fun ex z hz=> ?_;obtain⟨rfl,⟨g2,e1⟩,e2⟩:=hz;have et:Z3 (zu (wU O) 0 i)=(d16 V).length:=by
    rw[← hO,ZaE,Zad (by omega) hOd,hv,← hV];rfl
   refine⟨.inr rfl,?_,?_⟩
   ·rw[e1,e2,et];rfl
   ·rw[e2];refine⟨wU (O.drop (Z3 O)),?_⟩;have e3:wU (d16 V)++wU (O.drop (Z3 O))=wU O:=by
     unfold d16;rw[hV,← hv,← zj (by omega) _ hOd,← ZO,List.take_append_drop]
    rw[e3];rfl
theorem ZhD (NA:Nu 0 x p n c A):(Zej x).rows:=by
 refine⟨rfl,fun b z hz=> ?_⟩;have hb:b=0:=by have:b<1:=Hp.blk_lt hz;omega
 subst hb;have:z=x:=(Option.some.inj hz).symm;subst this;exact⟨NA.ros.1,NA.lt0,NA.ros.2⟩
theorem ZhE {h:Hp}{a:Nat}(hx:Zam x.2=false→∃ z r,h.blk? a=some z∧Zam z.2=false∧rt z.2=rt x.2∧z.1=x.1++r):(Zej x).fits (fun _=>a) h:=by
 intro i z hz ht;have hb:i=0:=by have:i<1:=Hp.blk_lt hz;omega
 subst hb;have:z=x:=(Option.some.inj hz).symm;subst this;exact hx ht
end
theorem Zl3:f77.body=some (Zv f77):=by kernel_rfl
def ZiF (h:Hp) (p:Option Addr) (n c:Nat) (b e:Int):Bool:=zS h p n c && dgB (Zu h p n) && Nat.blt (n+3) 1073741824 && decide ((0≤b∧b<4294967296)∧(0≤e∧e<4294967296))
def Z0B:Zcl:=fun vals h s=>
 match vals,s with
 | [.slice p n c,.int .u32 b,.int .u32 e],.inr (.inr (.inr (.inl d)))::s'=>
  match d with
  | true=>Zei (vO h p n*b.toNat+e.toNat) h s' [(ZiF h p n c b e,true),(decide (0<n∨0<e),true)]
  | false=>some (Zn,h,s',[(ZiF h p n c b e,true),(decide (0<n∨0<e),false)])
 | _,_=>none
theorem ZsN:za 77 Z0B:=by
 intro vals h s v h' s' lg hg hl m B w E hv;unfold Z0B at hg;split at hg
 ·rename_i p n c b e d s2;have key:ZiF h p n c b e=true→∃ b' e':Nat,b=(b':Int)∧e=(e':Int)∧b'<4294967296∧e'<4294967296∧zS h p n c=true∧(∀ x∈Zu h p n,Dg 65536 x)∧n+3<1073741824:=fun hk=>by
   simp only[ZiF,Xh,Xi] at hk;obtain⟨⟨⟨r1,r2⟩,r3⟩,r4⟩:=hk;exact⟨b.toNat,e.toNat,by omega,by omega,by omega,by omega,r1,ZaY r2,Zk.1 r3⟩
  split at hg
  ·unfold Zei at hg;cases hg;have q1:=hl _ (Xe);have q2:=hl _ (Xd _ Xf);simp only[Xi] at q2;obtain⟨b',e',rfl,rfl,hb,he,r1,r2,r3⟩:=key q1;rw[Xg,Xg];obtain⟨x,p',a,NA,eA,fA⟩:=Zbv 0 r1;have r:=Zo2 NA (zT r1) r2 hb he r3 (by omega) rfl;have:=zm (T:=Zp prog Zh Zo hcV) func77 Zoy (ZhD NA) (vals:=[.slice p' n c,.int .u32 ((b':Nat):Int),.int .u32 ((e':Nat):Int)]) (fun v hv=>by
    simp only[List.mem_cons,List.not_mem_nil,or_false] at hv;rcases hv with rfl | rfl | rfl
    ·exact NA.lt (by show 0<1;omega)
    all_goals rfl) (k:=1) (cs:=wU (d16 (vO h p n*b'+e'))) (ty:=tU) (Zbu _) (by kernel_rfl) r (by rfl) E (s:=fun _=>a) (ZhE fA)
   simp only[List.map_cons,List.map_nil] at this;rw[eA _ rfl] at this;exact this
  ·cases hg;have q1:=hl _ (Xe);have q2:=hl _ (Xd _ Xf);simp only[decide_eq_false_iff_not] at q2;obtain⟨b',e',rfl,rfl,hb,he,r1,r2,r3⟩:=key q1;obtain⟨x,p',a,NA,eA,fA⟩:=Zbv 0 r1;have hr:Runs (Zp prog Zh Zo hcV) (Zv f77) ([.slice p' n c,.int .u32 ((b':Nat):Int),.int .u32 ((e':Nat):Int)]++List.replicate 38 undef,Zej x,[]) fun ex z=>(ex=none∨ex=some none)∧Zau prog f77 z.1 z.2.1=some Zn:=by
    refine (Zj (Zg Zd Zs) (Zl1 p' n c b' e' _) (okW (Xb (by rw[ZbM (by omega) (by omega)];omega)) (Z2 (Xb (by omega))))).mono fun ex z he=> ?_;obtain⟨rfl,⟨g,e2⟩,e3⟩:=he;refine⟨.inr rfl,?_⟩;rw[e2,e3];rfl
   have:=ZH (T:=Zp prog Zh Zo hcV) func77 Zl3 (ZhD NA) (vals:=[.slice p' n c,.int .u32 ((b':Nat):Int),.int .u32 ((e':Nat):Int)]) (fun v hv=>by
    simp only[List.mem_cons,List.not_mem_nil,or_false] at hv;rcases hv with rfl | rfl | rfl
    ·exact NA.lt (by show 0<1;omega)
    all_goals rfl) (v:=Zn) (by rfl) hr.w E (s:=fun _=>a) (ZhE fA)
   simp only[List.map_cons,List.map_nil] at this;rw[eA _ rfl] at this;exact this
 ·cases hg
end Go.Proofs.YtekebccjflilnaaGreat
