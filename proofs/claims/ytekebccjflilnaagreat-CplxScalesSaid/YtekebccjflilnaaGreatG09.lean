/-
  ConV4, ConV5, ConV6, ConV7, ConV8, ConV9
-/
import Derived.Test.YtekebccjflilnaaGreatG08
namespace Go.Proofs.YtekebccjflilnaaGreat
open Go.Proofs.Tryz
open Go.IntKind
open Go.KRun Go.Nt
set_option maxRecDepth 100000
structure Nu (i:Nat) (x:List Value×TypeId) (p:Option Addr) (n c:Nat) (A:List Int):Prop where
 row:∀ h:Hp,h.blk? i=some x→zS h p n c=true∧Zu h p n=A
 pos:p=none∨∃ o,p=some ⟨i,o,none⟩
 st:∀ v∈x.1,still v=true
 lt0:∀ v∈x.1,still v=true
 ros:ro x.2=true∧ab x.2=false
theorem Nu.rn {i:Nat}{x:List Value×TypeId}{p:Option Addr}{n c:Nat}{A:List Int}(h:Nu i x p n c A) {f:Nat→Nat}(hf:f i=i):KRun.rn f (.slice p n c)= .slice p n c:=by
 rcases h.pos with rfl | ⟨o,rfl⟩
 ·rfl
 ·show Value.slice (some ⟨f i,o,none⟩) n c=_;rw[hf]
theorem Nu.lt {i:Nat}{x:List Value×TypeId}{p:Option Addr}{n c:Nat}{A:List Int}(h:Nu i x p n c A) {k:Nat}(hk:i<k):KRun.lt k (.slice p n c)=true:=by
 rcases h.pos with rfl | ⟨o,rfl⟩
 ·rfl
 ·exact Zk.2 hk
theorem Zbt {h:Hp}{p:Option Addr}{n c:Nat}(i:Nat) (hr:zS h p n c=true):∃ x p' b,Nu i x p' n c (Zu h p n)∧(∀ s:Nat→Nat,s i=b→rn s (.slice p' n c)= .slice p n c)∧(Zam x.2=false→∃ y r,h.blk? b=some y∧Zam y.2=false∧rt y.2=rt x.2∧y.1=x.1++r):=by
 rcases Z8 hr with ⟨rfl,rfl,rfl,e0⟩ | ⟨b,o,x,rfl,hx,q1,q2,e0⟩
 ·refine⟨([],2*ZV),none,0,⟨fun h' _=>⟨rfl,by rw[e0];rfl⟩,.inl rfl,(fun v hv=>by cases hv),(fun v hv=>by cases hv),(by kernel_rfl),(by kernel_rfl)⟩,fun s _=>rfl,fun ht=> ?_⟩;rw[show Zam (2*ZV)=true from by kernel_rfl] at ht;cases ht
 ·obtain⟨h1,h2,h3,h4,h5,h6,h7⟩:=ZU q1;refine⟨(x.1,tR),some ⟨i,o,none⟩,b,⟨fun h' hb=>⟨?_,?_⟩,.inr ⟨o,rfl⟩,q2,h7,ZnX,ZnY⟩,fun s hs=> ?_,fun _=>⟨x,[],hx,h5,by rw[h6];exact ZnZ.symm,by simp⟩⟩
  ·simp only[zS,hb,Xh];refine⟨?_,List.all_eq_true.2 q2⟩;unfold ZaK at q1 ⊢;simp only[Xh,Bool.not_eq_true'] at q1 ⊢;obtain⟨⟨⟨⟨⟨⟨_,_⟩,p3⟩,p4⟩,p5⟩,p6⟩,p7⟩:=q1;exact⟨⟨⟨⟨⟨⟨ZeO,by kernel_rfl⟩,p3⟩,p4⟩,p5⟩,p6⟩,p7⟩
  ·rw[e0];simp [Zu,hb]
  ·show Value.slice (some ⟨s i,o,none⟩) n c=_;rw[hs]
def dgB (L:List Int):Bool:=L.all fun x=>decide (0≤x∧x<65536)
theorem ZaY {L:List Int}(h:dgB L=true):∀ x∈L,Dg 65536 x:=fun x hx=>Xc (List.all_eq_true.1 h x hx)
theorem ZaZ {L:List Int}(h:∀ x∈L,Dg 65536 x):dgB L=true:=List.all_eq_true.2 fun x hx=>Xa (h x hx)
theorem zT {h:Hp}{p:Option Addr}{n c:Nat}(hr:zS h p n c=true):(Zu h p n).length=n:=by
 rcases Z8 hr with ⟨rfl,rfl,rfl,e0⟩ | ⟨b,o,x,rfl,hx,q1,q2,e0⟩
 ·rw[e0];rfl
 ·rw[e0];exact (ZU q1).2.1
theorem Zd5 {L:List Int}(h:∀ x∈L,Dg 65536 x) (i:Nat):Dg 65536 (L.getD i 0):=by
 by_cases hi:i<L.length
 ·rw[Zh3 hi];exact h _ (List.getElem_mem hi)
 ·rw[show L.getD i 0=0 from by simp [List.getD,List.getElem?_eq_none (show L.length≤i by omega)]];exact⟨by omega,by omega⟩
theorem zZ (L:List Int) (i:Nat):atN L (i:Int)=L.getD i 0:=by unfold atN;rw[if_pos (by omega),Xg]
def Zi4 (F:Func):List Code:=[ZB (Zv F),ZB (Z5 (Zv F)),ZB (Z5 (Z5 (Zv F)))]
def aR3 (F:Func):Code:=ZB (ZB (Z5 (Z5 (Z5 (Zv F)))))
def Za4 (F:Func):Code:=cIn (cIn (Z5 (ZB (Z5 (Z5 (Z5 (Zv F)))))))
def Zu4 (F:Func):Code:=Z5 (Z5 (Z5 (Z5 (Zv F))))
theorem Zle:f46.body=some (Zaz (Zi4 f46) (.seq (.seq (aR3 f46) (.block 0 (.loop (Za4 f46)))) (Zu4 f46))):=by kernel_rfl
theorem Zog (a b:Value) (h:Hp):Zm (evL (Zp prog Zh Zo hcV) 100 (Zi4 f46) ([a,b]++List.replicate 40 undef,h,[]) ⟨[],[],[]⟩) 7 35 none [a,b,undef,undef,Zn,Zn,.int .u32 0] h []:=by and_intros<;>kernel_rfl
theorem Zsu (a b:Value) (h:Hp) (g:Nat→Value):Zm (evC (Zp prog Zh Zo hcV) 100 false (aR3 f46) ([a,b,undef,undef,Zn,Zn,.int .u32 0]++tl 35 g,h,[]) ⟨[],[],[]⟩) 8 34 none [a,b,undef,undef,Zn,Zn,.int .u32 0,.int .i64 0] h []:=by and_intros<;>kernel_rfl
def sm (A B:List Int) (k i:Int):Int:=u32.wrap (u32.wrap (k+atN A i)+atN B i)
def hu3 (lo:List Value) (y x:List Value×TypeId):Hp:=⟨3,[(lo,tU),y,x]⟩
def hp2 (y x:List Value×TypeId):Hp:=⟨2,[y,x]⟩
def Zwq (w:Nat):List Dec:=match w with | 0=>[cmp true] | 1=>[cmp false,cmp true] | _=>[cmp false,cmp false,cmp true]
def Zqm (w:Nat) (n n':Nat) (k i:Int):Log:=match w with | 0=>[(decide (i<n),true)] | 1=>[(decide (i<n'),true),(decide (i<n),false)] | _=>[(decide (k>0),true),(decide (i<n'),false),(decide (i<n),false)]
def rP (h:Hp) (p:Option Addr) (n c:Nat):Bool×Bool:=(zS h p n c,true)
theorem Zlf (p q:Option Addr) (n c n' c':Nat) (k i:Int) (x y:List Value×TypeId) (g:Nat→Value):Zm (evC (Zp prog Zh Zo hcV) 100 false (Za4 f46) ([.slice p n c,.slice q n' c',undef,undef,Zn,Zn,.int .u32 k,.int .i64 i]++tl 34 g,hp2 y x,Zwq 0++[cmp true]) ⟨[],[],[]⟩) 8 34 none [.slice p n c,.slice q n' c',undef,undef,Zn,sl 3 0 1 grown,.int .u32 (u32.wrap ((sm (Zu (hp2 y x) p n) (Zu (hp2 y x) q n') k i).tdiv 65536)),.int .i64 (i64.wrap (i+1))] ⟨4,[([.int .u32 ((sm (Zu (hp2 y x) p n) (Zu (hp2 y x) q n') k i).tmod 65536)],tU),([.int .u32 ((sm (Zu (hp2 y x) p n) (Zu (hp2 y x) q n') k i).tmod 65536)],tU),y,x]⟩ ((decide ((65536:Int)=0),false)::rP (hp2 y x) q n' c'::rP (hp2 y x) p n c::Zqm 0 n n' k i):=by and_intros<;>kernel_rfl
theorem Zlg (p q:Option Addr) (n c n' c':Nat) (k i:Int) (x y:List Value×TypeId) (g:Nat→Value):Zm (evC (Zp prog Zh Zo hcV) 100 false (Za4 f46) ([.slice p n c,.slice q n' c',undef,undef,Zn,Zn,.int .u32 k,.int .i64 i]++tl 34 g,hp2 y x,Zwq 1++[cmp true]) ⟨[],[],[]⟩) 8 34 none [.slice p n c,.slice q n' c',undef,undef,Zn,sl 3 0 1 grown,.int .u32 (u32.wrap ((sm (Zu (hp2 y x) p n) (Zu (hp2 y x) q n') k i).tdiv 65536)),.int .i64 (i64.wrap (i+1))] ⟨4,[([.int .u32 ((sm (Zu (hp2 y x) p n) (Zu (hp2 y x) q n') k i).tmod 65536)],tU),([.int .u32 ((sm (Zu (hp2 y x) p n) (Zu (hp2 y x) q n') k i).tmod 65536)],tU),y,x]⟩ ((decide ((65536:Int)=0),false)::rP (hp2 y x) q n' c'::rP (hp2 y x) p n c::Zqm 1 n n' k i):=by and_intros<;>kernel_rfl
theorem Zi5 (p q:Option Addr) (n c n' c' z:Nat) (k i:Int) (x y:List Value×TypeId) (lo:List Value) (g:Nat→Value):Zm (evC (Zp prog Zh Zo hcV) 100 false (Za4 f46) ([.slice p n c,.slice q n' c',undef,undef,Zn,sl 2 0 z grown,.int .u32 k,.int .i64 i]++tl 34 g,hu3 lo y x,Zwq 0++[cmp true,at_]) ⟨[],[],[]⟩) 8 34 none [.slice p n c,.slice q n' c',undef,undef,Zn,sl 4 0 (z+1) grown,.int .u32 (u32.wrap ((sm (Zu (hu3 lo y x) p n) (Zu (hu3 lo y x) q n') k i).tdiv 65536)),.int .i64 (i64.wrap (i+1))] ⟨5,[(lo++[.int .u32 ((sm (Zu (hu3 lo y x) p n) (Zu (hu3 lo y x) q n') k i).tmod 65536)],tU),([.int .u32 ((sm (Zu (hu3 lo y x) p n) (Zu (hu3 lo y x) q n') k i).tmod 65536)],tU),([],2*ZV),y,x]⟩ ((zQ tU (lo,tU) ([.int .u32 ((sm (Zu (hu3 lo y x) p n) (Zu (hu3 lo y x) q n') k i).tmod 65536)],tU) z 0 1,true)::(decide ((65536:Int)=0),false)::rP (hu3 lo y x) q n' c'::rP (hu3 lo y x) p n c::Zqm 0 n n' k i):=by and_intros<;>kernel_rfl
theorem Zi6 (p q:Option Addr) (n c n' c' z:Nat) (k i:Int) (x y:List Value×TypeId) (lo:List Value) (g:Nat→Value):Zm (evC (Zp prog Zh Zo hcV) 100 false (Za4 f46) ([.slice p n c,.slice q n' c',undef,undef,Zn,sl 2 0 z grown,.int .u32 k,.int .i64 i]++tl 34 g,hu3 lo y x,Zwq 1++[cmp true,at_]) ⟨[],[],[]⟩) 8 34 none [.slice p n c,.slice q n' c',undef,undef,Zn,sl 4 0 (z+1) grown,.int .u32 (u32.wrap ((sm (Zu (hu3 lo y x) p n) (Zu (hu3 lo y x) q n') k i).tdiv 65536)),.int .i64 (i64.wrap (i+1))] ⟨5,[(lo++[.int .u32 ((sm (Zu (hu3 lo y x) p n) (Zu (hu3 lo y x) q n') k i).tmod 65536)],tU),([.int .u32 ((sm (Zu (hu3 lo y x) p n) (Zu (hu3 lo y x) q n') k i).tmod 65536)],tU),([],2*ZV),y,x]⟩ ((zQ tU (lo,tU) ([.int .u32 ((sm (Zu (hu3 lo y x) p n) (Zu (hu3 lo y x) q n') k i).tmod 65536)],tU) z 0 1,true)::(decide ((65536:Int)=0),false)::rP (hu3 lo y x) q n' c'::rP (hu3 lo y x) p n c::Zqm 1 n n' k i):=by and_intros<;>kernel_rfl
theorem Zi7 (p q:Option Addr) (n c n' c' z:Nat) (k i:Int) (x y:List Value×TypeId) (lo:List Value) (g:Nat→Value):Zm (evC (Zp prog Zh Zo hcV) 100 false (Za4 f46) ([.slice p n c,.slice q n' c',undef,undef,Zn,sl 2 0 z grown,.int .u32 k,.int .i64 i]++tl 34 g,hu3 lo y x,Zwq 2++[cmp true,at_]) ⟨[],[],[]⟩) 8 34 none [.slice p n c,.slice q n' c',undef,undef,Zn,sl 4 0 (z+1) grown,.int .u32 (u32.wrap ((sm (Zu (hu3 lo y x) p n) (Zu (hu3 lo y x) q n') k i).tdiv 65536)),.int .i64 (i64.wrap (i+1))] ⟨5,[(lo++[.int .u32 ((sm (Zu (hu3 lo y x) p n) (Zu (hu3 lo y x) q n') k i).tmod 65536)],tU),([.int .u32 ((sm (Zu (hu3 lo y x) p n) (Zu (hu3 lo y x) q n') k i).tmod 65536)],tU),([],2*ZV),y,x]⟩ ((zQ tU (lo,tU) ([.int .u32 ((sm (Zu (hu3 lo y x) p n) (Zu (hu3 lo y x) q n') k i).tmod 65536)],tU) z 0 1,true)::(decide ((65536:Int)=0),false)::rP (hu3 lo y x) q n' c'::rP (hu3 lo y x) p n c::Zqm 2 n n' k i):=by and_intros<;>kernel_rfl
theorem Zoh (p q:Option Addr) (n c n' c':Nat) (v:Value) (k i:Int) (h:Hp) (g:Nat→Value):Zm (evC (Zp prog Zh Zo hcV) 100 false (Za4 f46) ([.slice p n c,.slice q n' c',undef,undef,Zn,v,.int .u32 k,.int .i64 i]++tl 34 g,h,[cmp false,cmp false,cmp false]) ⟨[],[],[]⟩) 8 34 (some (some 0)) [.slice p n c,.slice q n' c',undef,undef,Zn,v,.int .u32 k,.int .i64 i] h [(decide (k>0),false),(decide (i<n'),false),(decide (i<n),false)]:=by and_intros<;>kernel_rfl
theorem Zoi (a b:Value) (z:Nat) (k i:Int) (x y:List Value×TypeId) (lo:List Value) (g:Nat→Value):Zm (evC (Zp prog Zh Zo hcV) 100 false (Zu4 f46) ([a,b,undef,undef,Zn,sl 2 0 z grown,.int .u32 k,.int .i64 i]++tl 34 g,hu3 lo y x,[]) ⟨[],[],[]⟩) 5 37 (some none) [a,b,undef,undef,sl 2 0 (Z3 (zu lo 0 z)) (Z3 (zu lo 0 z))] (hu3 lo y x) [(ZaK tU lo 0 z grown,true)]:=by and_intros<;>kernel_rfl
theorem Zi8 (p q:Option Addr) (n c n' c':Nat) (h:Hp):Zm (evC (Zp prog Zh Zo hcV) 100 false (Zv f46) ([.slice p n c,.slice q n' c']++List.replicate 40 undef,h,[cmp false,cmp false,cmp false]) ⟨[],[],[]⟩) 5 37 (some none) [.slice p n c,.slice q n' c',undef,undef,Zn] h [(decide ((0:Int)>0),false),(decide ((0:Int)<n'),false),(decide ((0:Int)<n),false)]:=by and_intros<;>kernel_rfl
theorem ze {n:Int}(h0:0≤n) (h1:n<4294967296):u32.wrap n=n:=by simp [IntKind.wrap,IntKind.bits,IntKind.signed];omega
def dgN (L:List Int) (i:Nat):Nat:=(L.getD i 0).toNat
theorem zn {L:List Int}(h:∀ x∈L,Dg 65536 x) (i:Nat):dgN L i<65536∧((dgN L i:Nat):Int)=L.getD i 0:=by
 have:=Zd5 h i;unfold dgN;omega
theorem Zd6 {L:List Int}{i:Nat}(h:L.length≤i):dgN L i=0:=by unfold dgN;simp [List.getD,List.getElem?_eq_none h]
theorem Z03 {A B:List Int}(hA:∀ x∈A,Dg 65536 x) (hB:∀ x∈B,Dg 65536 x) {k:Nat}(hk:k≤1) (i:Nat):sm A B k i=((k+dgN A i+dgN B i:Nat):Int):=by
 have h1:=zn hA i;have h2:=zn hB i;unfold sm;rw[zZ,zZ,← h1.2,← h2.2,ze (n:=(k:Int)+_) (by omega) (by omega),ze (by omega) (by omega)];omega
theorem ZeP (a:Nat):((a:Int)).tmod 65536=((a % 65536:Nat):Int):=by rw[Int.tmod_eq_emod_of_nonneg (by omega)];omega
theorem ZeQ {a:Nat}(h:a<4294967296):u32.wrap ((a:Int).tdiv 65536)=((a/65536:Nat):Int):=by
 rw[Int.tdiv_eq_ediv_of_nonneg (by omega),ze (by omega) (by omega)];omega
theorem okW {p:Bool×Bool}{l:Log}(h:p.1=p.2) (hl:Zx l):Zx (p::l):=Zt h hl
section
variable {x y : List Value × TypeId} {p q : Option Addr} {n c n' c' : Nat} {A B : List Int}
theorem ZbZ (NA:Nu 0 x p n c A) (NB:Nu 1 y q n' c' B) {h:Hp}(h0:h.blk? 0=some x) (h1:h.blk? 1=some y):∀ i z,(⟨2,[y,x]⟩:Hp).blk? i=some z→h.blk? i=some z∧∀ v∈z.1,still v=true:=fun i z hz=>by
 rcases ZkZ hz with ⟨rfl,rfl⟩ | ⟨rfl,rfl⟩
 ·exact⟨h0,NA.st⟩
 ·exact⟨h1,NB.st⟩
theorem Zi9 (NA:Nu 0 x p n c A) (NB:Nu 1 y q n' c' B) (hA:∀ x∈A,Dg 65536 x) (hB:∀ x∈B,Dg 65536 x) {k i:Nat}{O:List Int}(hk:k≤1) (hi:i<1073741823) (hO:O.length=i) (hgo:i<n∨i<n'∨0<k) {Y:Lf}
  (hY:(i=0∧k=0∧(∃ g,Y.1=[.slice p n c,.slice q n' c',undef,undef,Zn,Zn,.int .u32 (k:Nat),.int .i64 (i:Nat)]++tl 34 g)∧Y.2.1=hp2 y x)∨(0<i∧(∃ g,Y.1=[.slice p n c,.slice q n' c',undef,undef,Zn,sl 2 0 i grown,.int .u32 (k:Nat),.int .i64 (i:Nat)]++tl 34 g)∧Y.2.1=hu3 (wU O) y x)):
  RunsW (Zp prog Zh Zo hcV) (Za4 f46) Y fun e z=>e=none∧(∃ g,z.1=[.slice p n c,.slice q n' c',undef,undef,Zn,sl 2 0 (i+1) grown,.int .u32 ((k+dgN A i+dgN B i)/65536:Nat),.int .i64 ((i+1:Nat):Int)]++tl 34 g)∧z.2.1=hu3 (wU (O++[(((k+dgN A i+dgN B i) % 65536:Nat):Int)])) y x:=by
 obtain⟨t,h',s⟩:=Y;have hd1:=(zn hA i).1;have hd2:=(zn hB i).1;have es:=Z03 hA hB hk i;have e1:(sm A B k i).tmod 65536=(((k+dgN A i+dgN B i) % 65536:Nat):Int):=by rw[es,ZeP]
 have e2:u32.wrap ((sm A B k i).tdiv 65536)=(((k+dgN A i+dgN B i)/65536:Nat):Int):=by rw[es,ZeQ (by omega)]
 have e3:i64.wrap ((i:Int)+1)=((i+1:Nat):Int):=by rw[ZL (by omega) (by omega)];omega
 rcases hY with ⟨h0,k0,⟨g,ht⟩,hh⟩ | ⟨h0,⟨g,ht⟩,hh⟩
 ·simp only at ht hh;subst ht hh;have r0:=NA.row (hp2 y x) rfl;have r1:=NB.row (hp2 y x) rfl;have fin:RunsW (Zp prog Zh Zo hcV) (Za4 f46) ([.slice p n c,.slice q n' c',undef,undef,Zn,Zn,.int .u32 (k:Nat),.int .i64 (i:Nat)]++tl 34 g,hp2 y x,s) fun e z=>e=none∧(∃ g,z.1=[.slice p n c,.slice q n' c',undef,undef,Zn,sl 3 0 1 grown,.int .u32 (u32.wrap ((sm A B k i).tdiv 65536)),.int .i64 (i64.wrap ((i:Int)+1))]++tl 34 g)∧z.2.1=⟨4,[([.int .u32 ((sm A B k i).tmod 65536)],tU),([.int .u32 ((sm A B k i).tmod 65536)],tU),y,x]⟩:=by
   by_cases ha:i<n
   ·have:=Zc (Zg Zd Zs) (s0:=s) (Zlf p q n c n' c' k i x y g) (okW rfl (okW r1.1 (okW r0.1 (Z2 (Xa (by omega))))));rw[r0.2,r1.2] at this;exact this
   ·have:=Zc (Zg Zd Zs) (s0:=s) (Zlg p q n c n' c' k i x y g) (okW rfl (okW r1.1 (okW r0.1 (okW (Xa (by omega)) (Z2 (Xb (by omega)))))));rw[r0.2,r1.2] at this;exact this
  have hO':O=[]:=List.length_eq_zero_iff.1 (by omega);rw[e1,e2,e3] at fin;have:=fin.kept (k:=2) (b:=3) (base:=[y,x]) (y:=([.int .u32 (((k+dgN A i+dgN B i) % 65536:Nat):Int)],tU)) (front':=[.slice p n c,.slice q n' c',undef,undef,Zn,sl 2 0 1 grown,.int .u32 ((k+dgN A i+dgN B i)/65536:Nat),.int .i64 ((i+1:Nat):Int)]) rfl
   (by simp only[List.map_cons,List.map_nil,NA.rn (f:=zv 2 3) rfl,NB.rn (f:=zv 2 3) rfl];kernel_rfl) (ZbZ NA NB rfl rfl) rfl (by omega) (fun v hv=>by rw[List.mem_singleton.1 hv];rfl) (fun v hv=>by
    simp only[List.mem_cons,List.not_mem_nil,or_false] at hv;rcases hv with rfl | rfl | rfl | rfl | rfl | rfl | rfl | rfl
    ·exact NA.lt (by omega)
    ·exact NB.lt (by omega)
    all_goals rfl)
  refine this.mono fun e z hz=> ?_;obtain⟨rfl,⟨g',q1⟩,q2⟩:=hz;subst hO' h0;exact⟨rfl,⟨g',q1⟩,q2⟩
 ·simp only at ht hh;subst ht hh;have r0:=NA.row (hu3 (wU O) y x) rfl;have r1:=NB.row (hu3 (wU O) y x) rfl;have hchk:zQ tU (wU O,tU) ([.int .u32 ((sm A B k i).tmod 65536)],tU) i 0 1=true:=
   ZaE (L:=O) (M:=[(sm A B k i).tmod 65536]) hO.symm (show 0<1 by omega) (by show O.length+1≤_;omega)
  have fin:RunsW (Zp prog Zh Zo hcV) (Za4 f46) ([.slice p n c,.slice q n' c',undef,undef,Zn,sl 2 0 i grown,.int .u32 (k:Nat),.int .i64 (i:Nat)]++tl 34 g,hu3 (wU O) y x,s) fun e z=>e=none∧(∃ g,z.1=[.slice p n c,.slice q n' c',undef,undef,Zn,sl 4 0 (i+1) grown,.int .u32 (u32.wrap ((sm A B k i).tdiv 65536)),.int .i64 (i64.wrap ((i:Int)+1))]++tl 34 g)∧z.2.1=⟨5,[(wU O++[.int .u32 ((sm A B k i).tmod 65536)],tU),([.int .u32 ((sm A B k i).tmod 65536)],tU),([],2*ZV),y,x]⟩:=by
   by_cases ha:i<n
   ·have hl:Zx (Zqm 0 n n' k i):=Z2 (Xa (by omega));have:=Zc (Zg Zd Zs) (s0:=s) (Zi5 p q n c n' c' i k i x y (wU O) g) (by rw[r0.2,r1.2];exact okW hchk (okW rfl (okW r1.1 (okW r0.1 hl))));rw[r0.2,r1.2] at this;exact this
   ·by_cases hb:i<n'
    ·have hl:Zx (Zqm 1 n n' k i):=okW (Xa (by omega)) (Z2 (Xb (by omega)));have:=Zc (Zg Zd Zs) (s0:=s) (Zi6 p q n c n' c' i k i x y (wU O) g) (by rw[r0.2,r1.2];exact okW hchk (okW rfl (okW r1.1 (okW r0.1 hl))));rw[r0.2,r1.2] at this;exact this
    ·have hl:Zx (Zqm 2 n n' k i):=okW (Xa (by omega)) (okW (Xb (by omega)) (Z2 (Xb (by omega))));have:=Zc (Zg Zd Zs) (s0:=s) (Zi7 p q n c n' c' i k i x y (wU O) g) (by rw[r0.2,r1.2];exact okW hchk (okW rfl (okW r1.1 (okW r0.1 hl))));rw[r0.2,r1.2] at this;exact this
  rw[e1,e2,e3] at fin;have ew:wU O++[.int .u32 (((k+dgN A i+dgN B i) % 65536:Nat):Int)]=wU (O++[(((k+dgN A i+dgN B i) % 65536:Nat):Int)]):=by rw[ZO];rfl
  rw[ew] at fin;have:=fin.kept (k:=2) (b:=4) (base:=[y,x]) (y:=(wU (O++[(((k+dgN A i+dgN B i) % 65536:Nat):Int)]),tU)) (front':=[.slice p n c,.slice q n' c',undef,undef,Zn,sl 2 0 (i+1) grown,.int .u32 ((k+dgN A i+dgN B i)/65536:Nat),.int .i64 ((i+1:Nat):Int)]) rfl
   (by simp only[List.map_cons,List.map_nil,NA.rn (f:=zv 2 4) rfl,NB.rn (f:=zv 2 4) rfl];kernel_rfl) (ZbZ NA NB rfl rfl) rfl (by omega) (ZP _) (fun v hv=>by
    simp only[List.mem_cons,List.not_mem_nil,or_false] at hv;rcases hv with rfl | rfl | rfl | rfl | rfl | rfl | rfl | rfl
    ·exact NA.lt (by omega)
    ·exact NB.lt (by omega)
    all_goals rfl)
  exact this
def aSt (x y:List Value×TypeId) (p q:Option Addr) (n c n' c':Nat) (O:List Int) (i k:Nat) (Y:Lf):Prop:=
 (i=0∧k=0∧(∃ g,Y.1=[.slice p n c,.slice q n' c',undef,undef,Zn,Zn,.int .u32 (k:Nat),.int .i64 (i:Nat)]++tl 34 g)∧Y.2.1=hp2 y x)∨(0<i∧(∃ g,Y.1=[.slice p n c,.slice q n' c',undef,undef,Zn,sl 2 0 i grown,.int .u32 (k:Nat),.int .i64 (i:Nat)]++tl 34 g)∧Y.2.1=hu3 (wU O) y x)
def Z2L (x y:List Value×TypeId) (p q:Option Addr) (n c n' c':Nat) (A B:List Int) (m:Nat) (Y:Lf):Prop:=
 ∃ (i k:Nat) (O:List Int),O.length=i∧m=max n n'+1-i∧i≤max n n'+1∧k≤1∧(i=max n n'+1→k=0)∧(∀ x∈O,Dg 65536 x)∧vb 65536 O+65536^O.length*k=vb 65536 (A.take i)+vb 65536 (B.take i)∧aSt x y p q n c n' c' O i k Y
def Zsv (x y:List Value×TypeId) (p q:Option Addr) (n c n' c':Nat) (A B:List Int) (Y:Lf):Prop:=
 ∃ (i:Nat) (O:List Int),O.length=i∧i≤max n n'+1∧(∀ x∈O,Dg 65536 x)∧vb 65536 O=vb 65536 A+vb 65536 B∧n≤i∧n'≤i∧aSt x y p q n c n' c' O i 0 Y
theorem Zlh (NA:Nu 0 x p n c A) (NB:Nu 1 y q n' c' B) (lA:A.length=n) (lB:B.length=n') (hA:∀ x∈A,Dg 65536 x) (hB:∀ x∈B,Dg 65536 x) (hn:max n n'+2<1073741824) (g:Nat→Value):
  RunsW (Zp prog Zh Zo hcV) (.block 0 (.loop (Za4 f46))) ([.slice p n c,.slice q n' c',undef,undef,Zn,Zn,.int .u32 0,.int .i64 0]++tl 34 g,hp2 y x,[]) fun e Y=>match e with | none=>Zsv x y p q n c n' c' A B Y | some none=>False | some (some _)=>False:=by
 refine RunsW.forLoop (P:=Zsv x y p q n c n' c' A B) (R:=fun _=>False) (Z2L x y p q n c n' c' A B) ?_ (n:=max n n'+1) ⟨0,0,[],rfl,by omega,by omega,by omega,by omega,(fun x hx=>by cases hx),by simp [vb],.inl ⟨rfl,rfl,⟨g,rfl⟩,rfl⟩⟩;rintro m Y ⟨i,k,O,hO,hm,hi,hk,hk0,hOd,hval,hY⟩;by_cases hgo:i<n∨i<n'∨0<k
 ·have hmx:i≤max n n':=by
   rcases Nat.lt_or_ge i (max n n'+1) with h | h
   ·omega
   ·have:k=0:=hk0 (by omega);omega
  have r:=Zi9 NA NB hA hB hk (by omega) hO hgo hY;refine r.mono fun e z hz=> ?_;obtain⟨rfl,z1,z2⟩:=hz;have d1:=(zn hA i).1;have d2:=(zn hB i).1;refine⟨max n n'+1-(i+1),by omega,i+1,(k+dgN A i+dgN B i)/65536,O++[(((k+dgN A i+dgN B i) % 65536:Nat):Int)],by simp [hO],rfl,by omega,by omega,fun he=> ?_,fun x hx=> ?_,?_,.inr ⟨by omega,z1,z2⟩⟩
  ·have z1:dgN A i=0:=Zd6 (by omega);have z2:dgN B i=0:=Zd6 (by omega);omega
  ·rcases List.mem_append.1 hx with hx | hx
   ·exact hOd x hx
   ·rw[List.mem_singleton.1 hx];exact⟨by omega,by omega⟩
  ·have:=Zky (a:=dgN A i) (c:=dgN B i) hval;rw[Zaw,Zaw,← hO];rw[List.length_append];rw[hO] at this ⊢;exact this
 ·have hk:k=0:=by omega
  subst hk;have ha:n≤i:=by omega
  have hb:n'≤i:=by omega
  have out:∀ (v:Value) (h:Hp) (g:Nat→Value) (s:List Dec),RunsW (Zp prog Zh Zo hcV) (Za4 f46) ([.slice p n c,.slice q n' c',undef,undef,Zn,v,.int .u32 ((0:Nat):Int),.int .i64 (i:Nat)]++tl 34 g,h,s) fun e z=>e=some (some 0)∧(∃ g,z.1=[.slice p n c,.slice q n' c',undef,undef,Zn,v,.int .u32 ((0:Nat):Int),.int .i64 (i:Nat)]++tl 34 g)∧z.2.1=h:=fun v h g s=>
   Zc (Zg Zd Zs) (Zoh p q n c n' c' v 0 i h g) (okW rfl (okW (Xb (by omega)) (Z2 (Xb (by omega)))))
  have hv:vb 65536 O=vb 65536 A+vb 65536 B:=by
   rw[List.take_of_length_le (by omega),List.take_of_length_le (by omega)] at hval;omega
  obtain⟨t,h',s⟩:=Y;rcases hY with ⟨h0,k0,⟨g,ht⟩,hh⟩ | ⟨h0,⟨g,ht⟩,hh⟩
  ·simp only at ht hh;subst ht hh;refine (out Zn _ g s).mono fun e z hz=> ?_;obtain⟨rfl,z1,z2⟩:=hz;exact⟨rfl,i,O,hO,hi,hOd,hv,ha,hb,.inl ⟨h0,rfl,z1,z2⟩⟩
  ·simp only at ht hh;subst ht hh;refine (out (sl 2 0 i grown) _ g s).mono fun e z hz=> ?_;obtain⟨rfl,z1,z2⟩:=hz;exact⟨rfl,i,O,hO,hi,hOd,hv,ha,hb,.inr ⟨h0,z1,z2⟩⟩
theorem Zli (NA:Nu 0 x p n c A) (NB:Nu 1 y q n' c' B) (lA:A.length=n) (lB:B.length=n') (hA:∀ x∈A,Dg 65536 x) (hB:∀ x∈B,Dg 65536 x) (hn:max n n'+2<1073741824) (h0:0<n∨0<n') {V:Nat}(hV:V=vb 65536 A+vb 65536 B):
  RunsW (Zp prog Zh Zo hcV) (Zaz (Zi4 f46) (.seq (.seq (aR3 f46) (.block 0 (.loop (Za4 f46)))) (Zu4 f46))) ([.slice p n c,.slice q n' c']++List.replicate 40 undef,hp2 y x,[]) fun e z=>(e=none∨e=some none)∧Zau prog f46 z.1 z.2.1=some (sl 2 0 (d16 V).length (d16 V).length)∧∃ r,z.2.1.blk? 2=some (wU (d16 V)++r,tU):=by
 refine Z0 (Zg Zd Zs) (Zog _ _ _) (fun x hx=>by cases hx) fun g=> ?_;refine ZfF (Zc (Zg Zd Zs) (Zsu _ _ _ g) (fun x hx=>by cases hx)) (fun e y he=>by cases he.1) (P2:=fun e Y=>match e with | none=>Zsv x y p q n c n' c' A B Y | some none=>False | some (some _)=>False) ?_ ?_ ?_
 ·rintro⟨t,h',s⟩ ⟨_,⟨g',ht⟩,hh⟩;simp only at ht hh;subst ht hh;exact RunsW.script (Zlh NA NB lA lB hA hB hn g')
 ·intro e y he
  match e,he with
  | none,he=>exact he
  | some id,he=>exact he
 ·rintro⟨t,h',s⟩ ⟨i,O,hO,hi,hOd,hv,ha,hb,hY⟩;rcases hY with ⟨e0,_⟩ | ⟨_,⟨g',ht⟩,hh⟩
  ·omega
  ·simp only at ht hh;subst ht hh;have hrow:ZaK tU (wU O) 0 i grown=true:=by
    rw[← hO];exact zY (fun x hx=>⟨(hOd x hx).1,by have:=(hOd x hx).2;omega⟩) (by omega) (Zu3 _)
   refine (Zc (Zg Zd Zs) (Zoi _ _ i 0 i x y (wU O) g') (Z2 hrow)).mono fun e z he=> ?_;obtain⟨rfl,⟨g2,e1⟩,e2⟩:=he;have et:Z3 (zu (wU O) 0 i)=(d16 V).length:=by
    rw[← hO,ZaD,Zad (by omega) hOd,hv,← hV];rfl
   refine⟨.inr rfl,?_,?_⟩
   ·rw[e1,e2,et];rfl
   ·rw[e2];refine⟨wU (O.drop (Z3 O)),?_⟩;have e3:wU (d16 V)++wU (O.drop (Z3 O))=wU O:=by
     unfold d16;rw[hV,← hv,← zj (by omega) _ hOd,← ZO,List.take_append_drop]
    rw[e3];rfl
end
theorem Zca {x y:List Value×TypeId}{p q:Option Addr}{n c n' c':Nat}{A B:List Int}(NA:Nu 0 x p n c A) (NB:Nu 1 y q n' c' B):(hp2 y x).rows:=by
 refine⟨rfl,fun b z hz=> ?_⟩;rcases ZkZ hz with ⟨rfl,rfl⟩ | ⟨rfl,rfl⟩
 ·exact⟨NA.ros.1,NA.lt0,NA.ros.2⟩
 ·exact⟨NB.ros.1,NB.lt0,NB.ros.2⟩
theorem Zcb {x y:List Value×TypeId}{h:Hp}{a b:Nat}(hx:Zam x.2=false→∃ z r,h.blk? a=some z∧Zam z.2=false∧rt z.2=rt x.2∧z.1=x.1++r) (hy:Zam y.2=false→∃ z r,h.blk? b=some z∧Zam z.2=false∧rt z.2=rt y.2∧z.1=y.1++r):(hp2 y x).fits (pair a b) h:=by
 intro i z hz ht;rcases ZkZ hz with ⟨rfl,rfl⟩ | ⟨rfl,rfl⟩
 ·exact hx ht
 ·exact hy ht
theorem ZiA:f46.body=some (Zv f46):=by kernel_rfl
def Z6 (h:Hp) (p q:Option Addr) (n c n' c':Nat):Bool:=zS h p n c && zS h q n' c' && dgB (Zu h p n) && dgB (Zu h q n') && Nat.blt (max n n'+2) 1073741824
theorem Zcc {h:Hp}{p q:Option Addr}{n c n' c':Nat}(hr:Z6 h p q n c n' c'=true):zS h p n c=true∧zS h q n' c'=true∧(∀ x∈Zu h p n,Dg 65536 x)∧(∀ x∈Zu h q n',Dg 65536 x)∧max n n'+2<1073741824:=by
 unfold Z6 at hr;simp only[Xh] at hr;obtain⟨⟨⟨⟨h1,h2⟩,h3⟩,h4⟩,h5⟩:=hr;exact⟨h1,h2,ZaY h3,ZaY h4,Zk.1 h5⟩
def vO (h:Hp) (p:Option Addr) (n:Nat):Nat:=vb 65536 (Zu h p n)
theorem ZaF (A:Nat):∀ x∈d16 A,Dg 65536 x:=Zvu (by omega) A
def Zei (V:Nat) (h:Hp) (s:List Dec) (lg:Log):Option (Value×Hp×List Dec×Log):=some (sl h.n 0 (d16 V).length (d16 V).length,h.push (wU (d16 V)) tU,s,lg)
def Zoj:Zcl:=fun vals h s=>
 match vals,s with
 | [.slice p n c,.slice q n' c'],.inr (.inr (.inr (.inl d)))::s'=>
  match d with
  | true=>Zei (vO h p n+vO h q n') h s' [(Z6 h p q n c n' c',true),(decide (0<n∨0<n'),true)]
  | false=>some (Zn,h,s',[(Z6 h p q n c n' c',true),(decide (0<n∨0<n'),false)])
 | _,_=>none
theorem ZeR:za 46 Zoj:=by
 intro vals h s v h' s' lg hg hl m B w E hv;unfold Zoj at hg;split at hg
 ·rename_i p n c q n' c' d s2;split at hg
  ·unfold Zei at hg;cases hg;have q1:=hl _ (Xe);have q2:=hl _ (Xd _ Xf);simp only[Xi] at q1 q2;obtain⟨r1,r2,d1,d2,hn⟩:=Zcc q1;obtain⟨x,p',a,NA,eA,fA⟩:=Zbt 0 r1;obtain⟨y,q',b,NB,eB,fB⟩:=Zbt 1 r2;have r:=Zli NA NB (zT r1) (zT r2) d1 d2 hn q2 rfl;have:=zm (T:=Zp prog Zh Zo hcV) func46 Zle (Zca NA NB) (vals:=[.slice p' n c,.slice q' n' c']) (fun v hv=>by
    simp only[List.mem_cons,List.not_mem_nil,or_false] at hv;rcases hv with rfl | rfl
    ·exact NA.lt (by show 0<2;omega)
    ·exact NB.lt (by show 1<2;omega)) (k:=2) (cs:=wU (d16 (vO h p n+vO h q n'))) (ty:=tU) (Zbs _) (by kernel_rfl) r (by rfl) E (s:=pair a b) (Zcb fA fB)
   simp only[List.map_cons,List.map_nil] at this;rw[eA _ rfl,eB _ rfl] at this;exact this
  ·cases hg;have q1:=hl _ (Xe);have q2:=hl _ (Xd _ Xf);simp only[decide_eq_false_iff_not] at q1 q2;obtain⟨r1,r2,d1,d2,hn⟩:=Zcc q1;obtain⟨x,p',a,NA,eA,fA⟩:=Zbt 0 r1;obtain⟨y,q',b,NB,eB,fB⟩:=Zbt 1 r2;have hr:Runs (Zp prog Zh Zo hcV) (Zv f46) ([.slice p' n c,.slice q' n' c']++List.replicate 40 undef,hp2 y x,[]) fun e z=>(e=none∨e=some none)∧Zau prog f46 z.1 z.2.1=some Zn:=by
    refine (Zj (Zg Zd Zs) (Zi8 p' q' n c n' c' _) (okW rfl (okW (Xb (by omega)) (Z2 (Xb (by omega)))))).mono fun e z he=> ?_;obtain⟨rfl,⟨g,e2⟩,e3⟩:=he;refine⟨.inr rfl,?_⟩;rw[e2,e3];rfl
   have:=ZH (T:=Zp prog Zh Zo hcV) func46 ZiA (Zca NA NB) (vals:=[.slice p' n c,.slice q' n' c']) (fun v hv=>by
    simp only[List.mem_cons,List.not_mem_nil,or_false] at hv;rcases hv with rfl | rfl
    ·exact NA.lt (by show 0<2;omega)
    ·exact NB.lt (by show 1<2;omega)) (v:=Zn) (by rfl) hr.w E (s:=pair a b) (Zcb fA fB)
   simp only[List.map_cons,List.map_nil] at this;rw[eA _ rfl,eB _ rfl] at this;exact this
 ·cases hg
theorem Zlj:f78.body=some (Zaz (Zi4 f78) (.seq (.seq (aR3 f78) (.block 0 (.loop (Za4 f78)))) (Zu4 f78))):=by kernel_rfl
theorem ZiB:f78.body=some (Zv f78):=by kernel_rfl
theorem Zok (a b:Value) (h:Hp):Zm (evL (Zp prog Zh Zo hcV) 100 (Zi4 f78) ([a,b]++List.replicate 33 undef,h,[]) ⟨[],[],[]⟩) 7 28 none [a,b,undef,undef,Zn,Zn,.int .u32 0] h []:=by and_intros<;>kernel_rfl
theorem Zsw (a b:Value) (h:Hp) (g:Nat→Value):Zm (evC (Zp prog Zh Zo hcV) 100 false (aR3 f78) ([a,b,undef,undef,Zn,Zn,.int .u32 0]++tl 28 g,h,[]) ⟨[],[],[]⟩) 8 27 none [a,b,undef,undef,Zn,Zn,.int .u32 0,.int .i64 0] h []:=by and_intros<;>kernel_rfl
def df (A B:List Int) (k i:Int):Int:=u32.wrap (u32.wrap (u32.wrap (65536+atN A i)-atN B i)-k)
theorem Zol (p q:Option Addr) (n c n' c':Nat) (k i:Int) (x y:List Value×TypeId) (g:Nat→Value):Zm (evC (Zp prog Zh Zo hcV) 100 false (Za4 f78) ([.slice p n c,.slice q n' c',undef,undef,Zn,Zn,.int .u32 k,.int .i64 i]++tl 27 g,hp2 y x,[cmp true,cmp true]) ⟨[],[],[]⟩) 8 27 none [.slice p n c,.slice q n' c',undef,undef,Zn,sl 3 0 1 grown,.int .u32 (u32.wrap (1-u32.wrap ((df (Zu (hp2 y x) p n) (Zu (hp2 y x) q n') k i).tdiv 65536))),.int .i64 (i64.wrap (i+1))] ⟨4,[([.int .u32 ((df (Zu (hp2 y x) p n) (Zu (hp2 y x) q n') k i).tmod 65536)],tU),([.int .u32 ((df (Zu (hp2 y x) p n) (Zu (hp2 y x) q n') k i).tmod 65536)],tU),y,x]⟩ [(decide ((65536:Int)=0),false),rP (hp2 y x) q n' c',rP (hp2 y x) p n c,(decide (i<n),true)]:=by and_intros<;>kernel_rfl
theorem Zlk (p q:Option Addr) (n c n' c' z:Nat) (k i:Int) (x y:List Value×TypeId) (lo:List Value) (g:Nat→Value):Zm (evC (Zp prog Zh Zo hcV) 100 false (Za4 f78) ([.slice p n c,.slice q n' c',undef,undef,Zn,sl 2 0 z grown,.int .u32 k,.int .i64 i]++tl 27 g,hu3 lo y x,[cmp true,cmp true,at_]) ⟨[],[],[]⟩) 8 27 none [.slice p n c,.slice q n' c',undef,undef,Zn,sl 4 0 (z+1) grown,.int .u32 (u32.wrap (1-u32.wrap ((df (Zu (hu3 lo y x) p n) (Zu (hu3 lo y x) q n') k i).tdiv 65536))),.int .i64 (i64.wrap (i+1))] ⟨5,[(lo++[.int .u32 ((df (Zu (hu3 lo y x) p n) (Zu (hu3 lo y x) q n') k i).tmod 65536)],tU),([.int .u32 ((df (Zu (hu3 lo y x) p n) (Zu (hu3 lo y x) q n') k i).tmod 65536)],tU),([],2*ZV),y,x]⟩ [(zQ tU (lo,tU) ([.int .u32 ((df (Zu (hu3 lo y x) p n) (Zu (hu3 lo y x) q n') k i).tmod 65536)],tU) z 0 1,true),(decide ((65536:Int)=0),false),rP (hu3 lo y x) q n' c',rP (hu3 lo y x) p n c,(decide (i<n),true)]:=by and_intros<;>kernel_rfl
theorem Zom (p q:Option Addr) (n c n' c':Nat) (v:Value) (k i:Int) (h:Hp) (g:Nat→Value):Zm (evC (Zp prog Zh Zo hcV) 100 false (Za4 f78) ([.slice p n c,.slice q n' c',undef,undef,Zn,v,.int .u32 k,.int .i64 i]++tl 27 g,h,[cmp false]) ⟨[],[],[]⟩) 8 27 (some (some 0)) [.slice p n c,.slice q n' c',undef,undef,Zn,v,.int .u32 k,.int .i64 i] h [(decide (i<n),false)]:=by and_intros<;>kernel_rfl
theorem Zon (a b:Value) (z:Nat) (k i:Int) (x y:List Value×TypeId) (lo:List Value) (g:Nat→Value):Zm (evC (Zp prog Zh Zo hcV) 100 false (Zu4 f78) ([a,b,undef,undef,Zn,sl 2 0 z grown,.int .u32 k,.int .i64 i]++tl 27 g,hu3 lo y x,[]) ⟨[],[],[]⟩) 5 30 (some none) [a,b,undef,undef,sl 2 0 (Z3 (zu lo 0 z)) (Z3 (zu lo 0 z))] (hu3 lo y x) [(ZaK tU lo 0 z grown,true)]:=by and_intros<;>kernel_rfl
theorem ZiC (p q:Option Addr) (n c n' c':Nat) (h:Hp):Zm (evC (Zp prog Zh Zo hcV) 100 false (Zv f78) ([.slice p n c,.slice q n' c']++List.replicate 33 undef,h,[cmp false]) ⟨[],[],[]⟩) 5 30 (some none) [.slice p n c,.slice q n' c',undef,undef,Zn] h [(decide ((0:Int)<n),false)]:=by and_intros<;>kernel_rfl
def dfN (A B:List Int) (k i:Nat):Nat:=65536+dgN A i-dgN B i-k
theorem Zwr {A B:List Int}(hA:∀ x∈A,Dg 65536 x) (hB:∀ x∈B,Dg 65536 x) {k:Nat}(hk:k≤1) (i:Nat):df A B k i=((dfN A B k i:Nat):Int)∧dfN A B k i<131072∧dfN A B k i+dgN B i+k=65536+dgN A i:=by
 have h1:=zn hA i;have h2:=zn hB i;unfold df dfN;rw[zZ,zZ,← h1.2,← h2.2,ze (n:=65536+_) (by omega) (by omega),ze (n:=65536+_-_) (by omega) (by omega),ze (by omega) (by omega)];omega
theorem Zws {d:Nat}(h:d<131072):u32.wrap (1-u32.wrap ((d:Int).tdiv 65536))=((1-d/65536:Nat):Int):=by
 rw[ZeQ (by omega),ze (by omega) (by omega)];omega
section
variable {x y : List Value × TypeId} {p q : Option Addr} {n c n' c' : Nat} {A B : List Int}
theorem ZiD (NA:Nu 0 x p n c A) (NB:Nu 1 y q n' c' B) (hA:∀ x∈A,Dg 65536 x) (hB:∀ x∈B,Dg 65536 x) {k i:Nat}{O:List Int}(hk:k≤1) (hi:i<1073741823) (hO:O.length=i) (hgo:i<n) {Y:Lf}
  (hY:(i=0∧k=0∧(∃ g,Y.1=[.slice p n c,.slice q n' c',undef,undef,Zn,Zn,.int .u32 (k:Nat),.int .i64 (i:Nat)]++tl 27 g)∧Y.2.1=hp2 y x)∨(0<i∧(∃ g,Y.1=[.slice p n c,.slice q n' c',undef,undef,Zn,sl 2 0 i grown,.int .u32 (k:Nat),.int .i64 (i:Nat)]++tl 27 g)∧Y.2.1=hu3 (wU O) y x)):
  RunsW (Zp prog Zh Zo hcV) (Za4 f78) Y fun e z=>e=none∧(∃ g,z.1=[.slice p n c,.slice q n' c',undef,undef,Zn,sl 2 0 (i+1) grown,.int .u32 ((1-dfN A B k i/65536:Nat):Int),.int .i64 ((i+1:Nat):Int)]++tl 27 g)∧z.2.1=hu3 (wU (O++[((dfN A B k i % 65536:Nat):Int)])) y x:=by
 obtain⟨t,h',s⟩:=Y;obtain⟨es,hlt,_⟩:=Zwr hA hB hk i;have e1:(df A B k i).tmod 65536=((dfN A B k i % 65536:Nat):Int):=by rw[es,ZeP]
 have e2:u32.wrap (1-u32.wrap ((df A B k i).tdiv 65536))=((1-dfN A B k i/65536:Nat):Int):=by rw[es,Zws hlt]
 have e3:i64.wrap ((i:Int)+1)=((i+1:Nat):Int):=by rw[ZL (by omega) (by omega)];omega
 have hl:decide ((i:Int)<(n:Nat))=true:=Xa (by omega);rcases hY with ⟨h0,k0,⟨g,ht⟩,hh⟩ | ⟨h0,⟨g,ht⟩,hh⟩
 ·simp only at ht hh;subst ht hh;have r0:=NA.row (hp2 y x) rfl;have r1:=NB.row (hp2 y x) rfl;have fin:=Zc (Zg Zd Zs) (s0:=s) (Zol p q n c n' c' k i x y g) (okW rfl (okW r1.1 (okW r0.1 (Z2 hl))));have hO':O=[]:=List.length_eq_zero_iff.1 (by omega);rw[r0.2,r1.2,e1,e2,e3] at fin;have:=fin.kept (k:=2) (b:=3) (base:=[y,x]) (y:=([.int .u32 ((dfN A B k i % 65536:Nat):Int)],tU)) (front':=[.slice p n c,.slice q n' c',undef,undef,Zn,sl 2 0 1 grown,.int .u32 ((1-dfN A B k i/65536:Nat):Int),.int .i64 ((i+1:Nat):Int)]) rfl
   (by simp only[List.map_cons,List.map_nil,NA.rn (f:=zv 2 3) rfl,NB.rn (f:=zv 2 3) rfl];kernel_rfl) (ZbZ NA NB rfl rfl) rfl (by omega) (fun v hv=>by rw[List.mem_singleton.1 hv];rfl) (fun v hv=>by
    simp only[List.mem_cons,List.not_mem_nil,or_false] at hv;rcases hv with rfl | rfl | rfl | rfl | rfl | rfl | rfl | rfl
    ·exact NA.lt (by omega)
    ·exact NB.lt (by omega)
    all_goals rfl)
  refine this.mono fun e z hz=> ?_;obtain⟨rfl,⟨g',q1⟩,q2⟩:=hz;subst hO' h0;exact⟨rfl,⟨g',q1⟩,q2⟩
 ·simp only at ht hh;subst ht hh;have r0:=NA.row (hu3 (wU O) y x) rfl;have r1:=NB.row (hu3 (wU O) y x) rfl;have hchk:zQ tU (wU O,tU) ([.int .u32 ((df A B k i).tmod 65536)],tU) i 0 1=true:=
   ZaE (L:=O) (M:=[(df A B k i).tmod 65536]) hO.symm (show 0<1 by omega) (by show O.length+1≤_;omega)
  have fin:=Zc (Zg Zd Zs) (s0:=s) (Zlk p q n c n' c' i k i x y (wU O) g) (by rw[r0.2,r1.2];exact okW hchk (okW rfl (okW r1.1 (okW r0.1 (Z2 hl)))));rw[r0.2,r1.2,e1,e2,e3] at fin;have ew:wU O++[.int .u32 ((dfN A B k i % 65536:Nat):Int)]=wU (O++[((dfN A B k i % 65536:Nat):Int)]):=by rw[ZO];rfl
  rw[ew] at fin;exact fin.kept (k:=2) (b:=4) (base:=[y,x]) (y:=(wU (O++[((dfN A B k i % 65536:Nat):Int)]),tU)) (front':=[.slice p n c,.slice q n' c',undef,undef,Zn,sl 2 0 (i+1) grown,.int .u32 ((1-dfN A B k i/65536:Nat):Int),.int .i64 ((i+1:Nat):Int)]) rfl
   (by simp only[List.map_cons,List.map_nil,NA.rn (f:=zv 2 4) rfl,NB.rn (f:=zv 2 4) rfl];kernel_rfl) (ZbZ NA NB rfl rfl) rfl (by omega) (ZP _) (fun v hv=>by
    simp only[List.mem_cons,List.not_mem_nil,or_false] at hv;rcases hv with rfl | rfl | rfl | rfl | rfl | rfl | rfl | rfl
    ·exact NA.lt (by omega)
    ·exact NB.lt (by omega)
    all_goals rfl)
def sSt (x y:List Value×TypeId) (p q:Option Addr) (n c n' c':Nat) (O:List Int) (i k:Nat) (Y:Lf):Prop:=
 (i=0∧k=0∧(∃ g,Y.1=[.slice p n c,.slice q n' c',undef,undef,Zn,Zn,.int .u32 (k:Nat),.int .i64 (i:Nat)]++tl 27 g)∧Y.2.1=hp2 y x)∨(0<i∧(∃ g,Y.1=[.slice p n c,.slice q n' c',undef,undef,Zn,sl 2 0 i grown,.int .u32 (k:Nat),.int .i64 (i:Nat)]++tl 27 g)∧Y.2.1=hu3 (wU O) y x)
def Z2M (x y:List Value×TypeId) (p q:Option Addr) (n c n' c':Nat) (A B:List Int) (m:Nat) (Y:Lf):Prop:=
 ∃ (i k:Nat) (O:List Int),O.length=i∧m=n-i∧i≤n∧k≤1∧(∀ x∈O,Dg 65536 x)∧vb 65536 O+vb 65536 (B.take i)=vb 65536 (A.take i)+65536^O.length*k∧sSt x y p q n c n' c' O i k Y
def Z04 (x y:List Value×TypeId) (p q:Option Addr) (n c n' c':Nat) (A B:List Int) (Y:Lf):Prop:=
 ∃ (k:Nat) (O:List Int),O.length=n∧(∀ x∈O,Dg 65536 x)∧vb 65536 O+vb 65536 (B.take n)=vb 65536 A+65536^n*k∧sSt x y p q n c n' c' O n k Y
theorem Zll (NA:Nu 0 x p n c A) (NB:Nu 1 y q n' c' B) (lA:A.length=n) (hA:∀ x∈A,Dg 65536 x) (hB:∀ x∈B,Dg 65536 x) (hn:n<1073741823) (g:Nat→Value):
  RunsW (Zp prog Zh Zo hcV) (.block 0 (.loop (Za4 f78))) ([.slice p n c,.slice q n' c',undef,undef,Zn,Zn,.int .u32 0,.int .i64 0]++tl 27 g,hp2 y x,[]) fun e Y=>match e with | none=>Z04 x y p q n c n' c' A B Y | some none=>False | some (some _)=>False:=by
 refine RunsW.forLoop (P:=Z04 x y p q n c n' c' A B) (R:=fun _=>False) (Z2M x y p q n c n' c' A B) ?_ (n:=n) ⟨0,0,[],rfl,by omega,by omega,by omega,(fun x hx=>by cases hx),by simp [vb],.inl ⟨rfl,rfl,⟨g,rfl⟩,rfl⟩⟩;rintro m Y ⟨i,k,O,hO,hm,hi,hk,hOd,hval,hY⟩;by_cases hgo:i<n
 ·have r:=ZiD NA NB hA hB hk (by omega) hO hgo hY;refine r.mono fun e z hz=> ?_;obtain⟨rfl,z1,z2⟩:=hz;obtain⟨_,hlt,hsum⟩:=Zwr hA hB hk i;refine⟨n-(i+1),by omega,i+1,1-dfN A B k i/65536,O++[((dfN A B k i % 65536:Nat):Int)],by simp [hO],rfl,by omega,by omega,fun x hx=> ?_,?_,.inr ⟨by omega,z1,z2⟩⟩
  ·rcases List.mem_append.1 hx with hx | hx
   ·exact hOd x hx
   ·rw[List.mem_singleton.1 hx];exact⟨by omega,by omega⟩
  ·have ha:vb 65536 (A.take (i+1))=vb 65536 (A.take i)+65536^i*dgN A i:=Zaw 65536 A i;have hb:vb 65536 (B.take (i+1))=vb 65536 (B.take i)+65536^i*dgN B i:=Zaw 65536 B i;rw[ha,hb,Zcv,Xg,List.length_append,hO,List.length_singleton,Nat.pow_succ,Nat.mul_assoc];rw[hO] at hval;generalize 65536^i=P at*;have hq:dfN A B k i/65536≤1:=by omega
   have e:dfN A B k i % 65536+dgN B i+k=dgN A i+65536*(1-dfN A B k i/65536):=by omega
   have e':P*(dfN A B k i % 65536)+P*dgN B i+P*k=P*dgN A i+P*(65536*(1-dfN A B k i/65536)):=by rw[← Nat.mul_add,← Nat.mul_add,← Nat.mul_add,e]
   omega
 ·have hin:i=n:=by omega
  subst hin;have hv:vb 65536 O+vb 65536 (B.take i)=vb 65536 A+65536^i*k:=by
   rw[List.take_of_length_le (show A.length≤i by omega),hO] at hval;exact hval
  have out:∀ (v:Value) (h:Hp) (g:Nat→Value) (s:List Dec),RunsW (Zp prog Zh Zo hcV) (Za4 f78) ([.slice p i c,.slice q n' c',undef,undef,Zn,v,.int .u32 (k:Nat),.int .i64 (i:Nat)]++tl 27 g,h,s) fun e z=>e=some (some 0)∧(∃ g,z.1=[.slice p i c,.slice q n' c',undef,undef,Zn,v,.int .u32 (k:Nat),.int .i64 (i:Nat)]++tl 27 g)∧z.2.1=h:=fun v h g s=>
   Zc (Zg Zd Zs) (Zom p q i c n' c' v k i h g) (Z2 (Xb (by omega)))
  obtain⟨t,h',s⟩:=Y;rcases hY with ⟨h0,k0,⟨g,ht⟩,hh⟩ | ⟨h0,⟨g,ht⟩,hh⟩
  ·simp only at ht hh;subst ht hh;refine (out Zn _ g s).mono fun e z hz=> ?_;obtain⟨rfl,z1,z2⟩:=hz;exact⟨rfl,k,O,hO,hOd,hv,.inl ⟨h0,k0,z1,z2⟩⟩
  ·simp only at ht hh;subst ht hh;refine (out (sl 2 0 i grown) _ g s).mono fun e z hz=> ?_;obtain⟨rfl,z1,z2⟩:=hz;exact⟨rfl,k,O,hO,hOd,hv,.inr ⟨h0,z1,z2⟩⟩
theorem Zlm (NA:Nu 0 x p n c A) (NB:Nu 1 y q n' c' B) (lA:A.length=n) (hA:∀ x∈A,Dg 65536 x) (hB:∀ x∈B,Dg 65536 x) (hn:n<1073741823) (h0:0<n) (hle:vb 65536 B≤vb 65536 A) {V:Nat}(hV:V=vb 65536 A-vb 65536 B):
  RunsW (Zp prog Zh Zo hcV) (Zaz (Zi4 f78) (.seq (.seq (aR3 f78) (.block 0 (.loop (Za4 f78)))) (Zu4 f78))) ([.slice p n c,.slice q n' c']++List.replicate 33 undef,hp2 y x,[]) fun e z=>(e=none∨e=some none)∧Zau prog f78 z.1 z.2.1=some (sl 2 0 (d16 V).length (d16 V).length)∧∃ r,z.2.1.blk? 2=some (wU (d16 V)++r,tU):=by
 refine Z0 (Zg Zd Zs) (Zok _ _ _) (fun x hx=>by cases hx) fun g=> ?_;refine ZfF (Zc (Zg Zd Zs) (Zsw _ _ _ g) (fun x hx=>by cases hx)) (fun e y he=>by cases he.1) (P2:=fun e Y=>match e with | none=>Z04 x y p q n c n' c' A B Y | some none=>False | some (some _)=>False) ?_ ?_ ?_
 ·rintro⟨t,h',s⟩ ⟨_,⟨g',ht⟩,hh⟩;simp only at ht hh;subst ht hh;exact RunsW.script (Zll NA NB lA hA hB hn g')
 ·intro e y he
  match e,he with
  | none,he=>exact he
  | some id,he=>exact he
 ·rintro⟨t,h',s⟩ ⟨k,O,hO,hOd,hval,hY⟩;have hv:vb 65536 O=vb 65536 A-vb 65536 B:=by
   have l1:=Zcu (by omega) A hA;have l2:=Zcu (by omega) O hOd;have hsp:vb 65536 B=vb 65536 (B.take n)+65536^(B.take n).length*vb 65536 (B.drop n):=by rw[← Zav,List.take_append_drop]
   rw[lA] at l1;rw[hO] at l2;have hpos:0<65536^n:=Nat.pow_pos (by omega);have hz:65536^(B.take n).length*vb 65536 (B.drop n)=0:=by
    by_cases hb:B.length≤n
    ·rw[List.drop_eq_nil_of_le hb];simp [vb]
    ·have hl:(B.take n).length=n:=by rw[List.length_take];omega
     rw[hl] at hsp ⊢;rcases Nat.eq_zero_or_pos (vb 65536 (B.drop n)) with h | h
     ·rw[h];rfl
     ·have:=Nat.le_mul_of_pos_right (65536^n) h;omega
   have hk:k=0:=by
    rcases Nat.eq_zero_or_pos k with h | h
    ·exact h
    ·have:=Nat.le_mul_of_pos_right (65536^n) h;omega
   subst hk;omega
  rcases hY with ⟨e0,_⟩ | ⟨_,⟨g',ht⟩,hh⟩
  ·omega
  ·simp only at ht hh;subst ht hh;have hrow:ZaK tU (wU O) 0 n grown=true:=by
    rw[← hO];exact zY (fun x hx=>⟨(hOd x hx).1,by have:=(hOd x hx).2;omega⟩) (by omega) (Zu3 _)
   refine (Zc (Zg Zd Zs) (Zon _ _ n k n x y (wU O) g') (Z2 hrow)).mono fun e z he=> ?_;obtain⟨rfl,⟨g2,e1⟩,e2⟩:=he;have et:Z3 (zu (wU O) 0 n)=(d16 V).length:=by
    rw[← hO,ZaD,Zad (by omega) hOd,hv,← hV];rfl
   refine⟨.inr rfl,?_,?_⟩
   ·rw[e1,e2,et];rfl
   ·rw[e2];refine⟨wU (O.drop (Z3 O)),?_⟩;have e3:wU (d16 V)++wU (O.drop (Z3 O))=wU O:=by
     unfold d16;rw[hV,← hv,← zj (by omega) _ hOd,← ZO,List.take_append_drop]
    rw[e3];rfl
end
def Zoo:Zcl:=fun vals h s=>
 match vals,s with
 | [.slice p n c,.slice q n' c'],.inr (.inr (.inr (.inl d)))::s'=>
  match d with
  | true=>Zei (vO h p n-vO h q n') h s' [(Z6 h p q n c n' c' && Nat.ble (vO h q n') (vO h p n),true),(decide (0<n),true)]
  | false=>some (Zn,h,s',[(Z6 h p q n c n' c',true),(decide (0<n),false)])
 | _,_=>none
theorem Zh4:za 78 Zoo:=by
 intro vals h s v h' s' lg hg hl m B w E hv;unfold Zoo at hg;split at hg
 ·rename_i p n c q n' c' d s2;split at hg
  ·unfold Zei at hg;cases hg;have q1:=hl _ (Xe);have q2:=hl _ (Xd _ Xf);simp only[Xi,Xh] at q1 q2;obtain⟨q1,q3⟩:=q1;have q3:=Nat.le_of_ble_eq_true q3;obtain⟨r1,r2,d1,d2,hn⟩:=Zcc q1;obtain⟨x,p',a,NA,eA,fA⟩:=Zbt 0 r1;obtain⟨y,q',b,NB,eB,fB⟩:=Zbt 1 r2;have r:=Zlm NA NB (zT r1) d1 d2 (by omega) q2 q3 rfl;have:=zm (T:=Zp prog Zh Zo hcV) func78 Zlj (Zca NA NB) (vals:=[.slice p' n c,.slice q' n' c']) (fun v hv=>by
    simp only[List.mem_cons,List.not_mem_nil,or_false] at hv;rcases hv with rfl | rfl
    ·exact NA.lt (by show 0<2;omega)
    ·exact NB.lt (by show 1<2;omega)) (k:=2) (cs:=wU (d16 (vO h p n-vO h q n'))) (ty:=tU) (Zbs _) (by kernel_rfl) r (by rfl) E (s:=pair a b) (Zcb fA fB)
   simp only[List.map_cons,List.map_nil] at this;rw[eA _ rfl,eB _ rfl] at this;exact this
  ·cases hg;have q1:=hl _ (Xe);have q2:=hl _ (Xd _ Xf);simp only[decide_eq_false_iff_not] at q1 q2;obtain⟨r1,r2,d1,d2,hn⟩:=Zcc q1;obtain⟨x,p',a,NA,eA,fA⟩:=Zbt 0 r1;obtain⟨y,q',b,NB,eB,fB⟩:=Zbt 1 r2;have hr:Runs (Zp prog Zh Zo hcV) (Zv f78) ([.slice p' n c,.slice q' n' c']++List.replicate 33 undef,hp2 y x,[]) fun e z=>(e=none∨e=some none)∧Zau prog f78 z.1 z.2.1=some Zn:=by
    refine (Zj (Zg Zd Zs) (ZiC p' q' n c n' c' _) (Z2 (Xb (by omega)))).mono fun e z he=> ?_;obtain⟨rfl,⟨g,e2⟩,e3⟩:=he;refine⟨.inr rfl,?_⟩;rw[e2,e3];rfl
   have:=ZH (T:=Zp prog Zh Zo hcV) func78 ZiB (Zca NA NB) (vals:=[.slice p' n c,.slice q' n' c']) (fun v hv=>by
    simp only[List.mem_cons,List.not_mem_nil,or_false] at hv;rcases hv with rfl | rfl
    ·exact NA.lt (by show 0<2;omega)
    ·exact NB.lt (by show 1<2;omega)) (v:=Zn) (by rfl) hr.w E (s:=pair a b) (Zcb fA fB)
   simp only[List.map_cons,List.map_nil] at this;rw[eA _ rfl,eB _ rfl] at this;exact this
 ·cases hg
def Zax (a b:Nat):Int:=if a<b then -1 else if a=b then 0 else 1
theorem Zh5 (b:Nat) (L:List Int) (k:Nat):vb b L=vb b (L.take k)+b^k*vb b (L.drop k):=by
 by_cases h:k≤L.length
 ·have e:(L.take k).length=k:=by rw[List.length_take];omega
  have:=Zav b (L.take k) (L.drop k);rw[List.take_append_drop,e] at this;exact this
 ·rw[List.take_of_length_le (by omega),List.drop_eq_nil_of_le (by omega)];simp [vb]
theorem ZbI {L:List Int}(k:Nat):vb 65536 (L.drop k)=dgN L k+65536*vb 65536 (L.drop (k+1)):=by
 by_cases h:k<L.length
 ·rw[List.drop_eq_getElem_cons h];simp only[vb,dgN];rw[Zh3 h]
 ·rw[List.drop_eq_nil_of_le (by omega),List.drop_eq_nil_of_le (by omega),Zd6 (by omega)];rfl
theorem Zln {L:List Int}(h:∀ x∈L,Dg 65536 x) (k:Nat):vb 65536 (L.take k)<65536^k:=by
 have h1:=Zcu (b:=65536) (by omega) (L.take k) (fun x hx=>h x (List.mem_of_mem_take hx));have h2:(L.take k).length≤k:=by rw[List.length_take];omega
 exact Nat.lt_of_lt_of_le h1 (Nat.pow_le_pow_right (by omega) h2)
theorem Zlo {A B:List Int}(hA:∀ x∈A,Dg 65536 x) {k:Nat}(he:vb 65536 (A.drop (k+1))=vb 65536 (B.drop (k+1))) (hd:dgN A k<dgN B k):vb 65536 A<vb 65536 B:=by
 have a1:=Zh5 65536 A k;have b1:=Zh5 65536 B k;have a2:=Zln hA k;rw[ZbI,he] at a1;rw[ZbI] at b1;generalize vb 65536 (B.drop (k+1))=D at*;generalize 65536^k=P at*;have h1:P*(dgN A k+65536*D+1)≤P*(dgN B k+65536*D):=Nat.mul_le_mul_left _ (by omega);rw[Nat.mul_add P _ 1,Nat.mul_one] at h1;omega
def Z05 (F:Func):List Code:=[ZB (Zv F)]
def kR1 (F:Func):Code:=ZB (ZB (Z5 (Zv F)))
def Zgy (F:Func):Code:=cIn (cIn (Z5 (ZB (Z5 (Zv F)))))
def Z06 (F:Func):Code:=Z5 (Z5 (Zv F))
theorem Zlp:f75.body=some (Zaz (Z05 f75) (.seq (.seq (kR1 f75) (.block 0 (.loop (Zgy f75)))) (Z06 f75))):=by kernel_rfl
def mxI (n n':Nat):Int:=i64.wrap ((if (n':Int)>n then (n':Int) else n)-1)
theorem Zop (a b:Value) (h:Hp):Zm (evL (Zp prog Zh Zo hcV) 100 (Z05 f75) ([a,b]++List.replicate 28 undef,h,[]) ⟨[],[],[]⟩) 5 25 none [a,b,undef,undef,.int .i64 0] h []:=by and_intros<;>kernel_rfl
theorem Zsx (p q:Option Addr) (n c n' c':Nat) (h:Hp) (g:Nat→Value):Zm (evC (Zp prog Zh Zo hcV) 100 false (kR1 f75) ([.slice p n c,.slice q n' c',undef,undef,.int .i64 0]++tl 25 g,h,[]) ⟨[],[],[]⟩) 6 24 none [.slice p n c,.slice q n' c',undef,undef,.int .i64 0,.int .i64 (mxI n n')] h []:=by and_intros<;>kernel_rfl
theorem Zsy (p q:Option Addr) (n c n' c':Nat) (i:Int) (x y:List Value×TypeId) (g:Nat→Value):Zm (evC (Zp prog Zh Zo hcV) 100 false (Zgy f75) ([.slice p n c,.slice q n' c',undef,undef,.int .i64 0,.int .i64 i]++tl 24 g,hp2 y x,[cmp true,cmp true]) ⟨[],[],[]⟩) 6 24 (some none) [.slice p n c,.slice q n' c',undef,undef,.int .i64 (-1),.int .i64 i] (hp2 y x) [(decide (atN (Zu (hp2 y x) p n) i<atN (Zu (hp2 y x) q n') i),true),rP (hp2 y x) q n' c',rP (hp2 y x) p n c,(decide (i≥0),true)]:=by and_intros<;>kernel_rfl
theorem Zsz (p q:Option Addr) (n c n' c':Nat) (i:Int) (x y:List Value×TypeId) (g:Nat→Value):Zm (evC (Zp prog Zh Zo hcV) 100 false (Zgy f75) ([.slice p n c,.slice q n' c',undef,undef,.int .i64 0,.int .i64 i]++tl 24 g,hp2 y x,[cmp true,cmp false,cmp true]) ⟨[],[],[]⟩) 6 24 (some none) [.slice p n c,.slice q n' c',undef,undef,.int .i64 1,.int .i64 i] (hp2 y x) [(decide (atN (Zu (hp2 y x) p n) i>atN (Zu (hp2 y x) q n') i),true),rP (hp2 y x) q n' c',rP (hp2 y x) p n c,(decide (atN (Zu (hp2 y x) p n) i<atN (Zu (hp2 y x) q n') i),false),rP (hp2 y x) q n' c',rP (hp2 y x) p n c,(decide (i≥0),true)]:=by and_intros<;>kernel_rfl
theorem Zs0 (p q:Option Addr) (n c n' c':Nat) (i:Int) (x y:List Value×TypeId) (g:Nat→Value):Zm (evC (Zp prog Zh Zo hcV) 100 false (Zgy f75) ([.slice p n c,.slice q n' c',undef,undef,.int .i64 0,.int .i64 i]++tl 24 g,hp2 y x,[cmp true,cmp false,cmp false]) ⟨[],[],[]⟩) 6 24 none [.slice p n c,.slice q n' c',undef,undef,.int .i64 0,.int .i64 (i1 i)] (hp2 y x) [(decide (atN (Zu (hp2 y x) p n) i>atN (Zu (hp2 y x) q n') i),false),rP (hp2 y x) q n' c',rP (hp2 y x) p n c,(decide (atN (Zu (hp2 y x) p n) i<atN (Zu (hp2 y x) q n') i),false),rP (hp2 y x) q n' c',rP (hp2 y x) p n c,(decide (i≥0),true)]:=by and_intros<;>kernel_rfl
theorem Zoq (a b:Value) (i:Int) (h:Hp) (g:Nat→Value):Zm (evC (Zp prog Zh Zo hcV) 100 false (Zgy f75) ([a,b,undef,undef,.int .i64 0,.int .i64 i]++tl 24 g,h,[cmp false]) ⟨[],[],[]⟩) 6 24 (some (some 0)) [a,b,undef,undef,.int .i64 0,.int .i64 i] h [(decide (i≥0),false)]:=by and_intros<;>kernel_rfl
theorem Zor (a b:Value) (i:Int) (h:Hp) (g:Nat→Value):Zm (evC (Zp prog Zh Zo hcV) 100 false (Z06 f75) ([a,b,undef,undef,.int .i64 0,.int .i64 i]++tl 24 g,h,[]) ⟨[],[],[]⟩) 5 25 (some none) [a,b,undef,undef,.int .i64 0] h []:=by and_intros<;>kernel_rfl
section
variable {x y : List Value × TypeId} {p q : Option Addr} {n c n' c' : Nat} {A B : List Int}
def Z07 (p q:Option Addr) (n c n' c':Nat) (A B:List Int) (Y:Lf):Prop:=∃ i g,Y.1=[.slice p n c,.slice q n' c',undef,undef,.int .i64 (Zax (vb 65536 A) (vb 65536 B)),.int .i64 i]++tl 24 g
theorem Zlq (NA:Nu 0 x p n c A) (NB:Nu 1 y q n' c' B) (lA:A.length=n) (lB:B.length=n') (hA:∀ x∈A,Dg 65536 x) (hB:∀ x∈B,Dg 65536 x) (hn:max n n'+2<1073741824) (g:Nat→Value):
  Runs (Zp prog Zh Zo hcV) (.block 0 (.loop (Zgy f75))) ([.slice p n c,.slice q n' c',undef,undef,.int .i64 0,.int .i64 (mxI n n')]++tl 24 g,hp2 y x,[]) fun e Y=>match e with | none=>Zax (vb 65536 A) (vb 65536 B)=0∧∃ i g,Y.1=[.slice p n c,.slice q n' c',undef,undef,.int .i64 0,.int .i64 i]++tl 24 g | some none=>Z07 p q n c n' c' A B Y | some (some _)=>False:=by
 have em:mxI n n'=((max n n':Nat):Int)-1:=by
  unfold mxI;split
  ·rw[ZL (by omega) (by omega)];omega
  ·rw[ZL (by omega) (by omega)];omega
 refine Runs.forLoop (P:=fun Y=>Zax (vb 65536 A) (vb 65536 B)=0∧∃ i g,Y.1=[.slice p n c,.slice q n' c',undef,undef,.int .i64 0,.int .i64 i]++tl 24 g) (R:=Z07 p q n c n' c' A B)
  (fun k Y=>k≤max n n'∧vb 65536 (A.drop k)=vb 65536 (B.drop k)∧(∃ g,Y.1=[.slice p n c,.slice q n' c',undef,undef,.int .i64 0,.int .i64 ((k:Nat)-1:Int)]++tl 24 g)∧Y.2.1=hp2 y x) ?_ (n:=max n n') ⟨Nat.le_refl _,by rw[List.drop_eq_nil_of_le (by omega),List.drop_eq_nil_of_le (by omega)],⟨g,by rw[em]⟩,rfl⟩
 rintro k ⟨t,h',s⟩ ⟨hk,he,⟨g,ht⟩,hh⟩;simp only at ht hh;subst ht hh;cases k with
 | zero=>
  refine (Zj (Zg Zd Zs) (Zoq _ _ _ _ g) (Z2 (Xb (by omega)))).mono fun e z hz=> ?_;obtain⟨rfl,⟨g',z1⟩,z2⟩:=hz;refine⟨rfl,?_,_,g',z1⟩;simp only[List.drop_zero] at he;unfold Zax;rw[he];simp
 | succ k=>
  have ek:((k+1:Nat):Int)-1=(k:Int):=by omega
  rw[ek];have r0:=NA.row (hp2 y x) rfl;have r1:=NB.row (hp2 y x) rfl;have d1:=zn hA k;have d2:=zn hB k;have hg:decide ((k:Int)≥0)=true:=Xa (by omega);by_cases h1:dgN A k<dgN B k
  ·have hlt:=Zlo hA he h1;refine (Zj (Zg Zd Zs) (Zsy p q n c n' c' k x y g) (by
    rw[r0.2,r1.2,zZ,zZ,← d1.2,← d2.2];exact okW (Xa (by omega)) (okW r1.1 (okW r0.1 (Z2 hg))))).mono fun e z hz=> ?_
   obtain⟨rfl,⟨g',z1⟩,z2⟩:=hz;refine⟨k,g',?_⟩;rw[z1];unfold Zax;rw[if_pos hlt]
  ·by_cases h2:dgN B k<dgN A k
   ·have hlt:=Zlo hB he.symm h2;refine (Zj (Zg Zd Zs) (Zsz p q n c n' c' k x y g) (by
     rw[r0.2,r1.2,zZ,zZ,← d1.2,← d2.2];exact okW (Xa (by omega)) (okW r1.1 (okW r0.1 (okW (Xb (by omega)) (okW r1.1 (okW r0.1 (Z2 hg)))))))).mono fun e z hz=> ?_
    obtain⟨rfl,⟨g',z1⟩,z2⟩:=hz;refine⟨k,g',?_⟩;rw[z1];unfold Zax;rw[if_neg (by omega),if_neg (by omega)]
   ·refine (Zj (Zg Zd Zs) (Zs0 p q n c n' c' k x y g) (by
     rw[r0.2,r1.2,zZ,zZ,← d1.2,← d2.2];exact okW (Xb (by omega)) (okW r1.1 (okW r0.1 (okW (Xb (by omega)) (okW r1.1 (okW r0.1 (Z2 hg)))))))).mono fun e z hz=> ?_
    obtain⟨rfl,⟨g',z1⟩,z2⟩:=hz;have e1:i1 (k:Int)=(k:Int)-1:=by unfold i1;rw[ZL (by omega) (by omega)]
    refine⟨k,by omega,by omega,?_,⟨g',by rw[z1,e1]⟩,z2⟩;rw[ZbI,ZbI (L:=B),he];omega
theorem Zlr (NA:Nu 0 x p n c A) (NB:Nu 1 y q n' c' B) (lA:A.length=n) (lB:B.length=n') (hA:∀ x∈A,Dg 65536 x) (hB:∀ x∈B,Dg 65536 x) (hn:max n n'+2<1073741824):
  Runs (Zp prog Zh Zo hcV) (Zaz (Z05 f75) (.seq (.seq (kR1 f75) (.block 0 (.loop (Zgy f75)))) (Z06 f75))) ([.slice p n c,.slice q n' c']++List.replicate 28 undef,hp2 y x,[]) fun e z=>(e=none∨e=some none)∧Zau prog f75 z.1 z.2.1=some (.int .i64 (Zax (vb 65536 A) (vb 65536 B))):=by
 refine zl (Zg Zd Zs) (Zop _ _ _) (fun x hx=>by cases hx) fun g=> ?_;refine Runs.seq (P1:=fun e Y=>match e with | none=>Zax (vb 65536 A) (vb 65536 B)=0∧∃ i g,Y.1=[.slice p n c,.slice q n' c',undef,undef,.int .i64 0,.int .i64 i]++tl 24 g | some none=>Z07 p q n c n' c' A B Y | some (some _)=>False) (Runs.seq (P1:=fun e Y=>e=none∧(∃ g,Y.1=[.slice p n c,.slice q n' c',undef,undef,.int .i64 0,.int .i64 (mxI n n')]++tl 24 g)∧Y.2.1=hp2 y x) (Zj (Zg Zd Zs) (Zsx p q n c n' c' _ g) (fun x hx=>by cases hx)) ?_ (fun e y he=>by cases he.1)) ?_ ?_
 ·rintro⟨t,h',s⟩ ⟨_,⟨g',ht⟩,hh⟩;simp only at ht hh;subst ht hh;exact Runs.script (Zlq NA NB lA lB hA hB hn g')
 ·rintro⟨t,h',s⟩ ⟨e0,i,g',ht⟩;simp only at ht;subst ht;refine (Zj (Zg Zd Zs) (Zor _ _ i h' g') (fun x hx=>by cases hx)).mono fun e z hz=> ?_;obtain⟨rfl,⟨g2,z1⟩,z2⟩:=hz;refine⟨.inr rfl,?_⟩;rw[z1,e0];rfl
 ·intro e Y he
  match e,he with
  | none,⟨i,g',h1⟩=>
   refine⟨.inr rfl,?_⟩;rw[h1];rfl
end
def Zls:Zcl:=fun vals h s=>
 match vals with
 | [.slice p n c,.slice q n' c']=>some (.int .i64 (Zax (vO h p n) (vO h q n')),h,s,[(Z6 h p q n c n' c',true)])
 | _=>none
theorem ZeS:za 75 Zls:=by
 intro vals h s v h' s' lg hg hl m B w E hv;unfold Zls at hg;split at hg
 ·rename_i p n c q n' c';cases hg;have q1:=hl _ Xf;simp only at q1;obtain⟨r1,r2,d1,d2,hn⟩:=Zcc q1;obtain⟨x,p',a,NA,eA,fA⟩:=Zbt 0 r1;obtain⟨y,q',b,NB,eB,fB⟩:=Zbt 1 r2;have r:=Zlr NA NB (zT r1) (zT r2) d1 d2 hn;have:=ZH (T:=Zp prog Zh Zo hcV) func75 Zlp (Zca NA NB) (vals:=[.slice p' n c,.slice q' n' c']) (fun v hv=>by
   simp only[List.mem_cons,List.not_mem_nil,or_false] at hv;rcases hv with rfl | rfl
   ·exact NA.lt (by show 0<2;omega)
   ·exact NB.lt (by show 1<2;omega)) (by rfl) r.w E (s:=pair a b) (Zcb fA fB)
  simp only[List.map_cons,List.map_nil] at this;rw[eA _ rfl,eB _ rfl] at this;exact this
 ·cases hg
def nA (F:Func):Code:=ZB (Z5 (Zv F))
def nR3 (F:Func):Code:=ZB (Z5 (Z5 (Zv F)))
def nR4 (F:Func):Code:=ZB (ZB (Z5 (Z5 (Z5 (Zv F)))))
def nLp (F:Func):Code:=cIn (cIn (Z5 (ZB (Z5 (Z5 (Z5 (Zv F)))))))
def nEn (F:Func):Code:=Z5 (Z5 (Z5 (Z5 (Zv F))))
def nPr (F:Func):List Code:=[ZB (Zv F),nA F,nR3 F]
theorem Zlt:f65.body=some (Zaz (nPr f65) (.seq (.seq (nR4 f65) (.block 0 (.loop (nLp f65)))) (nEn f65))):=by kernel_rfl
theorem ZiE:f65.body=some (Zv f65):=by kernel_rfl
def n16 (n:Nat):Int:=i64.wrap (16*n1 n)
theorem Zos (o n c:Nat) (h:Hp):Zm (evL (Zp prog Zh Zo hcV) 100 (nPr f65) ([sl 0 o n c]++List.replicate 24 undef,h,[cmp false]) ⟨[],[],[]⟩) 4 21 none [sl 0 o n c,undef,.int .i64 0,.int .i64 (n16 n)] h [((n:Int)==0,false)]:=by and_intros<;>kernel_rfl
theorem Zs1 (o n c:Nat) (x:Int) (l:List Value) (v:Value) (g:Nat→Value):Zm (evC (Zp prog Zh Zo hcV) 100 false (nR4 f65) ([sl 0 o n c,undef,.int .i64 0,v]++tl 21 g,⟨1,[(l,tR)]⟩,[at_,val (.int .u32 x)]) ⟨[],[],[]⟩) 5 20 none [sl 0 o n c,undef,.int .i64 0,v,.int .u32 x] ⟨1,[(l,tR)]⟩ [(ZC (l[o+(n1 n).toNat*1]?) (.int .u32 x),true),(decide (0≤n1 n∧n1 n<n),true)]:=by and_intros<;>kernel_rfl
theorem Zlu (p:Option Addr) (n c:Nat) (h:Hp):Zm (evC (Zp prog Zh Zo hcV) 100 false (Zv f65) ([.slice p n c]++List.replicate 24 undef,h,[cmp true]) ⟨[],[],[]⟩) 3 22 (some none) [.slice p n c,undef,.int .i64 0] h [((n:Int)==0,true)]:=by and_intros<;>kernel_rfl
theorem Zs2 (a:Value) (n x:Int) (h:Hp) (g:Nat→Value):Zm (evC (Zp prog Zh Zo hcV) 100 false (nLp f65) ([a,undef,.int .i64 0,.int .i64 n,.int .u32 x]++tl 20 g,h,[cmp true]) ⟨[],[],[]⟩) 5 20 none [a,undef,.int .i64 0,.int .i64 (i64.wrap (n+1)),.int .u32 (u32.wrap (x.tdiv 2))] h [(decide (x>0),true)]:=by and_intros<;>kernel_rfl
theorem Zot (a:Value) (n x:Int) (h:Hp) (g:Nat→Value):Zm (evC (Zp prog Zh Zo hcV) 100 false (nLp f65) ([a,undef,.int .i64 0,.int .i64 n,.int .u32 x]++tl 20 g,h,[cmp false]) ⟨[],[],[]⟩) 5 20 (some (some 0)) [a,undef,.int .i64 0,.int .i64 n,.int .u32 x] h [(decide (x>0),false)]:=by and_intros<;>kernel_rfl
theorem Zou (a:Value) (n x:Int) (h:Hp) (g:Nat→Value):Zm (evC (Zp prog Zh Zo hcV) 100 false (nEn f65) ([a,undef,.int .i64 0,.int .i64 n,.int .u32 x]++tl 20 g,h,[]) ⟨[],[],[]⟩) 3 22 (some none) [a,undef,.int .i64 n] h []:=by and_intros<;>kernel_rfl
theorem Zlv (a:Value) (n x:Nat) (hn:n+32<4611686018427387904) (hx:x<4294967296) (h:Hp) (g:Nat→Value):
  Runs (Zp prog Zh Zo hcV) (.block 0 (.loop (nLp f65))) ([a,undef,.int .i64 0,.int .i64 (n:Nat),.int .u32 (x:Nat)]++tl 20 g,h,[]) fun e Y=>match e with | none=>(∃ g,Y.1=[a,undef,.int .i64 0,.int .i64 ((n+bl x:Nat):Int),.int .u32 0]++tl 20 g)∧Y.2.1=h | some none=>False | some (some _)=>False:=by
 refine Runs.forLoop (P:=fun Y=>(∃ g,Y.1=[a,undef,.int .i64 0,.int .i64 ((n+bl x:Nat):Int),.int .u32 0]++tl 20 g)∧Y.2.1=h) (R:=fun _=>False)
  (fun k Y=>∃ j:Nat,k≤x∧j+bl k=n+bl x∧(∃ g,Y.1=[a,undef,.int .i64 0,.int .i64 (j:Nat),.int .u32 (k:Nat)]++tl 20 g)∧Y.2.1=h) ?_ (n:=x) ⟨n,Nat.le_refl _,rfl,⟨g,rfl⟩,rfl⟩
 rintro k ⟨t,h',s⟩ ⟨j,hk,hj,⟨g,ht⟩,hh⟩;simp only at ht hh;subst ht hh;have hb:bl x≤32:=Zn8 (by show x<2^32;omega);by_cases h0:k=0
 ·subst h0;refine (Zj (Zg Zd Zs) (Zot a j 0 h' g) (Z2 rfl)).mono fun e z hz=> ?_;obtain⟨rfl,⟨g',z1⟩,z2⟩:=hz;rw[Zcw] at hj;exact⟨rfl,⟨g',by rw[z1,show (n+bl x)=j from by omega]⟩,z2⟩
 ·refine (Zj (Zg Zd Zs) (Zs2 a j k h' g) (Z2 (Xa (by omega)))).mono fun e z hz=> ?_;obtain⟨rfl,⟨g',z1⟩,z2⟩:=hz;have e1:=Zeg h0;have e2:i64.wrap ((j:Int)+1)=((j+1:Nat):Int):=by rw[ZL (by omega) (by omega)];omega
  have e3:u32.wrap ((k:Int).tdiv 2)=((k/2:Nat):Int):=by rw[Int.tdiv_eq_ediv_of_nonneg (by omega),ze (by omega) (by omega)];omega
  exact⟨k/2,by omega,j+1,by omega,by omega,⟨g',by rw[z1,e2,e3]⟩,z2⟩
theorem Zlw {l:List Value}{o c:Nat}{L:List Int}(hR:Row l o L) (hC:Zap 65536 L) (h0:0<L.length) (hn:L.length<1073741824):
  Runs (Zp prog Zh Zo hcV) (Zaz (nPr f65) (.seq (.seq (nR4 f65) (.block 0 (.loop (nLp f65)))) (nEn f65))) ([sl 0 o L.length c]++List.replicate 24 undef,⟨1,[(l,tR)]⟩,[]) fun e z=>(e=none∨e=some none)∧Zau prog f65 z.1 z.2.1=some (.int .i64 ((bl (vb 65536 L):Nat):Int)):=by
 have ek:n1 L.length=((L.length-1:Nat):Int):=by
  unfold n1;rw[ZL (by omega) (by omega)];omega
 have e16:n16 L.length=((16*(L.length-1):Nat):Int):=by
  unfold n16;rw[ek,ZL (by omega) (by omega)];omega
 have htop:dgN L (L.length-1)≠0:=by
  rcases Zdw L with h | h
  ·rw[hC.2] at h;omega
  ·rw[hC.2] at h;have:=Zd5 hC.1 (L.length-1);unfold dgN;omega
 have hd:=zn hC.1 (L.length-1);have hval:bl (vb 65536 L)=16*(L.length-1)+bl (dgN L (L.length-1)):=by
  have e:=Zaw 65536 L (L.length-1);rw[show L.length-1+1=L.length by omega,List.take_length] at e;rw[e];exact Zvv htop (Zln hC.1 _)
 refine zl (Zg Zd Zs) (Zos o L.length c _) (Z2 (beq_eq_false_iff_ne.2 (by omega))) fun g=> ?_;refine Runs.seq (P1:=fun e Y=>match e with | none=>(∃ g,Y.1=[sl 0 o L.length c,undef,.int .i64 0,.int .i64 ((bl (vb 65536 L):Nat):Int),.int .u32 0]++tl 20 g)∧Y.2.1=⟨1,[(l,tR)]⟩ | some none=>False | some (some _)=>False) (Runs.seq (P1:=fun e Y=>e=none∧(∃ g,Y.1=[sl 0 o L.length c,undef,.int .i64 0,.int .i64 (n16 L.length),.int .u32 (L.getD (L.length-1) 0)]++tl 20 g)∧Y.2.1=⟨1,[(l,tR)]⟩) (Zj (Zg Zd Zs) (Zs1 o L.length c (L.getD (L.length-1) 0) l _ g) (Zt (by rw[ek,Xg,Nat.mul_one,hR.cell (by omega)];simp [ZC]) (Z2 (by rw[ek];exact Xa (by omega))))) ?_ (fun e y he=>by cases he.1)) ?_ (fun e Y he=>by match e,he with | none,he=>exact he.elim | some id,he=>exact he.elim)
 ·rintro⟨t,h',s⟩ ⟨_,⟨g',ht⟩,hh⟩;simp only at ht hh;subst ht hh;rw[e16,← hd.2];refine Runs.script ((Zlv _ (16*(L.length-1)) (dgN L (L.length-1)) (by omega) (by omega) _ g').mono fun e Y he=> ?_)
  match e,he with
  | none,he=>rw[hval];exact he
 ·rintro⟨t,h',s⟩ ⟨⟨g',ht⟩,hh⟩;simp only at ht hh;subst ht hh;refine (Zj (Zg Zd Zs) (Zou _ _ _ _ g') (fun x hx=>by cases hx)).mono fun e z hz=> ?_;obtain⟨rfl,⟨g2,z1⟩,z2⟩:=hz;refine⟨.inr rfl,?_⟩;rw[z1,z2];rfl
def Zff (L:List Int):Bool:=dgB L && Nat.beq (Z3 L) L.length
theorem Zc1 {L:List Int}(h:Zff L=true):Zap 65536 L:=by
 unfold Zff at h;simp only[Xh] at h;exact⟨ZaY h.1,Xj h.2⟩
theorem ZaV {L:List Int}(h:Zap 65536 L):Zff L=true:=by
 unfold Zff;rw[ZaZ h.1,h.2,Nat.beq_refl];rfl
def Zov:Zcl:=fun vals h s=>
 match vals with
 | [.slice p n c]=>some (.int .i64 ((bl (vO h p n):Nat):Int),h,s,[(zS h p n c && Zff (Zu h p n) && Nat.blt n 1073741824,true)])
 | _=>none
theorem Zh6:za 65 Zov:=by
 intro vals h s v h' s' lg hg hl m B w E hv;unfold Zov at hg;split at hg
 ·rename_i p n c;cases hg;have q:=hl _ Xf;simp only[Xh] at q;obtain⟨⟨q1,q2⟩,q3⟩:=q;have q2:=Zc1 q2;have q3:=Zk.1 q3;have hlen:=zT q1;by_cases hn:n=0
  ·subst hn;have e0:Zu h p 0=[]:=List.length_eq_zero_iff.1 hlen;have ev:vO h p 0=0:=by unfold vO;rw[e0];rfl
   obtain⟨x,p',a,NA,eA,fA⟩:=Zbt 0 q1;have hr:Runs (Zp prog Zh Zo hcV) (Zv f65) ([.slice p' 0 c]++List.replicate 24 undef,⟨1,[x]⟩,[]) fun e z=>(e=none∨e=some none)∧Zau prog f65 z.1 z.2.1=some (.int .i64 ((bl (vO h p 0):Nat):Int)):=by
    refine (Zj (Zg Zd Zs) (Zlu p' 0 c _) (Z2 rfl)).mono fun e z he=> ?_;obtain⟨rfl,⟨g,e2⟩,e3⟩:=he;refine⟨.inr rfl,?_⟩;rw[e2,e3,ev,Zcw];rfl
   have b1:∀ {i:Nat}{z:List Value×TypeId},(⟨1,[x]⟩:Hp).blk? i=some z→i=0∧z=x:=fun {i z} hz=>by
    have:i<1:=Hp.blk_lt hz;have hi:i=0:=by omega
    subst hi;exact⟨rfl,(Option.some.inj hz).symm⟩
   have:=ZH (T:=Zp prog Zh Zo hcV) func65 ZiE (h0:=⟨1,[x]⟩) ⟨rfl,fun b z hz=>by obtain⟨_,rfl⟩:=b1 hz;exact⟨NA.ros.1,NA.lt0,NA.ros.2⟩⟩ (vals:=[.slice p' 0 c]) (fun v hv=>by rw[List.mem_singleton.1 hv];exact NA.lt (by show 0<1;omega)) (by rfl) hr.w E (s:=fun _=>a) (fun i z hz ht=>by obtain⟨_,rfl⟩:=b1 hz;exact fA ht);simp only[List.map_cons,List.map_nil] at this;rw[eA _ rfl] at this;exact this
  ·rcases Z8 q1 with ⟨rfl,rfl,rfl,e0⟩ | ⟨b,o,x,rfl,hx,r1,_,e0⟩
   ·exact absurd rfl hn
   ·rw[e0] at q2 hlen;obtain⟨h1,h2,h3,h4,h5,h6,h7⟩:=ZU r1;have r:=Zlw (c:=c) h1 q2 (by rw[h2];omega) (by rw[h2];exact q3);rw[h2] at r;have ev:vO h (some ⟨b,o,none⟩) n=vb 65536 (zu x.1 o n):=by unfold vO;rw[e0]
    rw[ev];exact ZH (T:=Zp prog Zh Zo hcV) func65 Zlt (ZcH h7) (vals:=[sl 0 o n c]) (fun v hv=>by rw[List.mem_singleton.1 hv];rfl) (by rfl) r.w E (s:=fun _=>b) (Zbq hx h5 h6 rfl)
 ·cases hg
def sA (F:Func):Code:=ZB (Z5 (Zv F))
def sR (F:Func):Code:=Z5 (Z5 (Zv F))
def sR3 (F:Func):Code:=ZB (sR F)
def sR4 (F:Func):Code:=ZB (Z5 (sR F))
def sR5 (F:Func):Code:=ZB (ZB (Z5 (Z5 (sR F))))
def sL1 (F:Func):Code:=cIn (cIn (Z5 (ZB (Z5 (Z5 (sR F))))))
def sR9 (F:Func):Code:=ZB (Z5 (Z5 (Z5 (sR F))))
def sT (F:Func):Code:=Z5 (Z5 (Z5 (Z5 (sR F))))
def Z08 (F:Func):Code:=ZB (ZB (sT F))
def sL2 (F:Func):Code:=cIn (cIn (Z5 (ZB (sT F))))
def sEn (F:Func):Code:=Z5 (sT F)
def sPr (F:Func):List Code:=[ZB (Zv F),sA F,sR3 F,sR4 F]
theorem Zlx:f44.body=some (Zaz (sPr f44) (.seq (.seq (sR5 f44) (.block 0 (.loop (sL1 f44)))) (.seq (sR9 f44) (.seq (.seq (Z08 f44) (.block 2 (.loop (sL2 f44)))) (sEn f44))))):=by kernel_rfl
theorem ZiF:f44.body=some (Zv f44):=by kernel_rfl
def k16 (k:Int):Int:=i64.wrap (k.tdiv 16)
def zz (z:Nat):List Value:=List.replicate z (.int .u32 0)
theorem Zly (p:Option Addr) (n c:Nat) (k:Value) (h:Hp):Zm (evC (Zp prog Zh Zo hcV) 100 false (Zv f44) ([.slice p n c,k]++List.replicate 48 undef,h,[cmp true]) ⟨[],[],[]⟩) 5 45 (some none) [.slice p n c,k,undef,undef,Zn] h [((n:Int)==0,true)]:=by and_intros<;>kernel_rfl
theorem Zow (o n c:Nat) (k:Int) (x:List Value×TypeId):Zm (evL (Zp prog Zh Zo hcV) 100 (sPr f44) ([sl 0 o n c,.int .i64 k]++List.replicate 48 undef,⟨1,[x]⟩,[cmp false,at_]) ⟨[],[],[]⟩) 7 43 none [sl 0 o n c,.int .i64 k,undef,undef,Zn,sl 1 0 (k16 k).toNat (k16 k).toNat,.int .u32 1] ⟨2,[(zz (k16 k).toNat,tU),x]⟩ [(zf 4 (k16 k) (k16 k),true),((n:Int)==0,false)]:=by and_intros<;>kernel_rfl
theorem Zs3 (a v:Value) (k:Int) (h:Hp) (g:Nat→Value):Zm (evC (Zp prog Zh Zo hcV) 100 false (sR5 f44) ([a,.int .i64 k,undef,undef,Zn,v,.int .u32 1]++tl 43 g,h,[]) ⟨[],[],[]⟩) 8 42 none [a,.int .i64 k,undef,undef,Zn,v,.int .u32 1,.int .i64 0] h []:=by and_intros<;>kernel_rfl
theorem Zs4 (a v:Value) (k b i:Int) (h:Hp) (g:Nat→Value):Zm (evC (Zp prog Zh Zo hcV) 100 false (sL1 f44) ([a,.int .i64 k,undef,undef,Zn,v,.int .u32 b,.int .i64 i]++tl 42 g,h,[cmp true,cmp true]) ⟨[],[],[]⟩) 8 42 none [a,.int .i64 k,undef,undef,Zn,v,.int .u32 (u32.wrap (2*b)),.int .i64 (i64.wrap (i+1))] h [(decide (i<k.tmod 16),true),(decide ((16:Int)=0),false)]:=by and_intros<;>kernel_rfl
theorem Zs5 (a v:Value) (k b i:Int) (h:Hp) (g:Nat→Value):Zm (evC (Zp prog Zh Zo hcV) 100 false (sL1 f44) ([a,.int .i64 k,undef,undef,Zn,v,.int .u32 b,.int .i64 i]++tl 42 g,h,[cmp true,cmp false]) ⟨[],[],[]⟩) 8 42 (some (some 0)) [a,.int .i64 k,undef,undef,Zn,v,.int .u32 b,.int .i64 i] h [(decide (i<k.tmod 16),false),(decide ((16:Int)=0),false)]:=by and_intros<;>kernel_rfl
theorem Zs6 (a v:Value) (k b i:Int) (h:Hp) (g:Nat→Value):Zm (evC (Zp prog Zh Zo hcV) 100 false (sR9 f44) ([a,.int .i64 k,undef,undef,Zn,v,.int .u32 b,.int .i64 i]++tl 42 g,h,[]) ⟨[],[],[]⟩) 9 41 none [a,.int .i64 k,undef,undef,Zn,v,.int .u32 b,.int .i64 i,.int .u32 0] h []:=by and_intros<;>kernel_rfl
theorem Zox (a v:Value) (k b i:Int) (h:Hp) (g:Nat→Value):Zm (evC (Zp prog Zh Zo hcV) 100 false (Z08 f44) ([a,.int .i64 k,undef,undef,Zn,v,.int .u32 b,.int .i64 i,.int .u32 0]++tl 41 g,h,[]) ⟨[],[],[]⟩) 10 40 none [a,.int .i64 k,undef,undef,Zn,v,.int .u32 b,.int .i64 i,.int .u32 0,.int .i64 0] h []:=by and_intros<;>kernel_rfl
def cy (e x b:Int):Int:=u32.wrap (e+u32.wrap (x*b))
def lAx (l:List Value) (o n:Nat) (i x:Int):Log:=[(decide ((65536:Int)=0),false),(ZC (l[o+i.toNat*1]?) (.int .u32 x),true),(decide (0≤i∧i<n),true),(decide (i<n),true)]
theorem Zoy (o n c z z':Nat) (b e i x:Int) (l lo:List Value) (j1 j7:Value) (g:Nat→Value):Zm (evC (Zp prog Zh Zo hcV) 100 false (sL2 f44) ([sl 0 o n c,j1,undef,undef,Zn,sl 1 0 z z',.int .u32 b,j7,.int .u32 e,.int .i64 i]++tl 40 g,⟨2,[(lo,tU),(l,tR)]⟩,[cmp true,at_,val (.int .u32 x),cmp true,num 0]) ⟨[],[],[]⟩) 10 40 none [sl 0 o n c,j1,undef,undef,Zn,sl 3 0 (z+1) grown,.int .u32 b,j7,.int .u32 (u32.wrap ((cy e x b).tdiv 65536)),.int .i64 (i64.wrap (i+1))] ⟨4,[(lo++[.int .u32 ((cy e x b).tmod 65536)],tU),([.int .u32 ((cy e x b).tmod 65536)],tU),(lo,tU),(l,tR)]⟩ ((Zc7 (lo,tU) ([.int .u32 ((cy e x b).tmod 65536)],tU) z z' 0 1,true)::lAx l o n i x):=by and_intros<;>kernel_rfl
theorem Zoz (o n c z:Nat) (b e i x:Int) (l lo:List Value) (j1 j7:Value) (g:Nat→Value):Zm (evC (Zp prog Zh Zo hcV) 100 false (sL2 f44) ([sl 0 o n c,j1,undef,undef,Zn,sl 1 0 z grown,.int .u32 b,j7,.int .u32 e,.int .i64 i]++tl 40 g,⟨2,[(lo,tU),(l,tR)]⟩,[cmp true,at_,val (.int .u32 x),cmp true,at_]) ⟨[],[],[]⟩) 10 40 none [sl 0 o n c,j1,undef,undef,Zn,sl 3 0 (z+1) grown,.int .u32 b,j7,.int .u32 (u32.wrap ((cy e x b).tdiv 65536)),.int .i64 (i64.wrap (i+1))] ⟨4,[(lo++[.int .u32 ((cy e x b).tmod 65536)],tU),([.int .u32 ((cy e x b).tmod 65536)],tU),([],2*ZV),(l,tR)]⟩ ((zQ tU (lo,tU) ([.int .u32 ((cy e x b).tmod 65536)],tU) z 0 1,true)::lAx l o n i x):=by and_intros<;>kernel_rfl
theorem Zlz (p:Option Addr) (n c:Nat) (v:Value) (b e i:Int) (h:Hp) (j1 j7:Value) (g:Nat→Value):Zm (evC (Zp prog Zh Zo hcV) 100 false (sL2 f44) ([.slice p n c,j1,undef,undef,Zn,v,.int .u32 b,j7,.int .u32 e,.int .i64 i]++tl 40 g,h,[cmp false]) ⟨[],[],[]⟩) 10 40 (some (some 2)) [.slice p n c,j1,undef,undef,Zn,v,.int .u32 b,j7,.int .u32 e,.int .i64 i] h [(decide (i<n),false)]:=by and_intros<;>kernel_rfl
theorem Zo0 (a:Value) (z:Nat) (b e i:Int) (x:List Value×TypeId) (lo:List Value) (j1 j7:Value) (g:Nat→Value):Zm (evC (Zp prog Zh Zo hcV) 100 false (sEn f44) ([a,j1,undef,undef,Zn,sl 1 0 z grown,.int .u32 b,j7,.int .u32 e,.int .i64 i]++tl 40 g,⟨2,[(lo,tU),x]⟩,[at_]) ⟨[],[],[]⟩) 5 45 (some none) [a,j1,undef,undef,sl 3 0 (Z3 (zu (lo++[.int .u32 e]) 0 (z+1))) (Z3 (zu (lo++[.int .u32 e]) 0 (z+1)))] ⟨4,[(lo++[.int .u32 e],tU),([.int .u32 e],tU),([],2*ZV),x]⟩ [(ZaK tU (lo++[.int .u32 e]) 0 (z+1) grown,true),(zQ tU (lo,tU) ([.int .u32 e],tU) z 0 1,true)]:=by and_intros<;>kernel_rfl
end Go.Proofs.YtekebccjflilnaaGreat
