/-
  ConND, TxT, NumTx, ConV4, ConV5, ConV6, ConV7, NumL, ConV8, ConVK, Row, RowS, SlN, NumSl, NumTm
-/
import Derived.Test.YtjlponbdflkbjaaGreatDoorG06
import Derived.WalkKit
import Derived.ProofKit
import Derived.OpenShut
import Derived.Laws.IdiomArrays
import Derived.Lib.SmallJoins
import Derived.ChangeSlices
import Derived.LaidEql
import Derived.Stop.Asserts
import Derived.RowKitTokens
namespace Go.Proofs.YtjlponbdflkbjaaGreatDoor.Na
open Go.Proofs.Tryz
open Go.IntKind
open Go.KRun Go.Nt
set_option maxRecDepth 100000
theorem ZsP {F:List Value}{o:Nat}(hF:F.length=o) (dx:List Int) (x:Int) (px:List Int):(F++wU (dx++x::px))[o+dx.length]? =some (uu x):=by
 rw[List.getElem?_append_right (by omega),hF,Nat.add_sub_cancel_left];exact ZsF dx x px
theorem ZsQ {F:List Value}{o:Nat}(hF:F.length=o) (dx:List Int) (x d:Int) (px:List Int):(F++wU (dx++x::px)).set (o+dx.length) (uu d)=F++wU ((dx++[d])++px):=by
 rw[List.set_append_right _ _ (by omega),hF,Nat.add_sub_cancel_left,Zig]
theorem ZpF {F la:List Value}{o c k:Nat}{L:List Int}(hF:F.length=o) (hL:wds L) (hk:k<32) (hN:L.length<4611686018427387904):
  Runs (Zk prog Zf Zn true) (ZW (mR0 f119) (.block 0 (.loop (mL f119)))) ([sl 1 o L.length c,i6' k]++List.replicate 25 undef,hU (F++wU L) la,[]) fun e y=>(e=none∨e=some none)∧ZV prog f119 y.1 y.2.1=some (.tuple #[])∧y.2.1.cut 2=hU (F++wU (dg L.length (vN L*2^k))) la:=by
 refine Zv (Zj Zd) (Zl5 1 o L.length c (i6' k) _) (fun x hx=>by cases hx) fun g=> ?_;refine (Runs.forLoop (R:=fun _=>False) (P:=fun y=>∃ (l i x j:Value) (g:Nat→Value),y.1=mF (sl 1 o L.length c) (i6' k) l i x (sl 1 o L.length c) (i6' L.length) j++tl 17 g∧y.2.1=hU (F++wU (dg L.length (vN L*2^k))) la)
  (fun r y=>∃ (dx px:List Int) (l:Int) (i0 x0:Value) (g:Nat→Value),px.length=r∧dx.length+px.length=L.length∧wds dx∧wds px∧(0≤l∧l<2^k)∧y.1=mF (sl 1 o L.length c) (i6' k) (uu l) i0 x0 (sl 1 o L.length c) (i6' L.length) (i6' dx.length)++tl 17 g∧y.2.1=hU (F++wU (dx++px)) la∧vN dx+4294967296^dx.length*(vN px*2^k+l)=vN L*2^k)
  ?_ (n:=L.length) ⟨[],L,0,undef,undef,g,rfl,by simp,(fun x hx=>by cases hx),hL,⟨by omega,Int.pow_pos (by omega)⟩,rfl,rfl,by simp [vN]⟩).mono fun e' y he=> ?_
 ·rintro r ⟨t,h',s'⟩ ⟨dx,px,l,i0,x0,g,hr,hl,wd1,wd2,hlo,ht,hh,hv⟩;simp only at ht hh;subst ht hh
  match px,hr,hl,wd2,hv with
  | [],hr,hl,wd2,hv=>
   have hl':dx.length=L.length:=by simpa using hl
   refine (Zb (Zj Zd) (Zl6 _ _ _ _ _ _ L.length dx.length _ g) (Zt (Xb (by omega)))).mono fun e' y he=> ?_;obtain⟨rfl,⟨g1,e2⟩,e3⟩:=he;refine⟨rfl,_,_,_,_,g1,e2,?_⟩;simp only[vN] at hv;rw[Int.zero_mul,Int.zero_add] at hv;have e5:=Zc2 dx.length (vN dx) l;rw[hv,Zfw dx wd1,hl'] at e5;rw[e3,e5,List.append_nil]
  | x::px,hr,hl,wd2,hv=>
   obtain⟨wx,wd2⟩:=Zae wd2;obtain⟨k1,k2,k3⟩:=Z88 wx hlo hk;have cS:=ZsP hF dx x px;have lS:(F++wU (dx++x::px)).length=o+L.length:=by
    unfold wU;simp at hl ⊢;omega
   have hl':dx.length<L.length:=by simp at hl;omega
   have l1:decide (o+((dx.length:Int)).toNat*1<(F++wU (dx++x::px)).length)=true:=by
    rw[lS,Xg];exact Xa (by omega)
   have l2:(inR dx.length L.length).1=(inR dx.length L.length).2:=Xa (by omega);have l4:(Zdr (F++wU (dx++x::px)) o dx.length x).1=(Zdr (F++wU (dx++x::px)) o dx.length x).2:=Zaw cS;have e32:i64.wrap (32-(k:Int))=32-(k:Int):=Zw (by omega) (by omega);have l5:decide (i64.wrap (32-(k:Int))<0)=false:=by
    rw[e32];exact Xb (by omega)
   have l6:decide ((k:Int)<0)=false:=Xb (by omega);have l7:decide ((dx.length:Int)<(L.length:Nat))=true:=Xa (by omega);refine (Zb (Zj Zd) (ZzV o L.length c k l dx.length x i0 x0 la (F++wU (dx++x::px)) g) (Zi l5 (Zi l1 (Zi l2 (Zi l6 (Zi l4 (Zi l2 (Zt l7)))))))).mono fun e' y he=> ?_;obtain⟨rfl,⟨g1,e2⟩,e3⟩:=he;refine⟨px.length,by simp at hr;omega,dx++[ZpB x k l],px,ZpC x k,i6' dx.length,uu x,g1,rfl,by simp at hl ⊢;omega,Zaf wd1 (fun z hz=>by rw[List.mem_singleton.1 hz];exact k1),wd2,k2,?_,?_,?_⟩
   ·rw[e2,Zw (by omega) (by omega)];simp
   ·rw[e3,Xg,Nat.mul_one,ZsQ hF]
   ·simp only[vN] at hv;rw[zo,List.length_append,List.length_singleton,pw];exact Zl4 k3 hv
 ·match e',he with
  | none,he=>
   obtain⟨l,i,x,j,g,e1,e2⟩:=he;refine⟨.inl rfl,?_,?_⟩
   ·rw[e1];exact Zl7 _ _ _ _ _ _ _ _ _ _
   ·rw[e2];rfl
  | some none,he=>exact he.elim
  | some (some _),he=>exact he.elim
def upS (S:List Value) (o n:Nat) (k:Int):List Value:=S.take o++wU (dg n (vN (Zx S o n)*2^k.toNat))
def Z4Y:Zad:=fun vals h s=>
 match vals,h with
 | [.slice (some ⟨1,o,none⟩) n c,.int .i64 k],⟨2,[(S,t),(la,t')]⟩=>some (.tuple #[],⟨2,[(upS S o n k,tU),(la,tR)]⟩,s,[(Nat.beq t tU,true),(Nat.beq t' tR,true),(Z6 t S o n c,true),(Nat.beq (o+n) S.length,true),(la.all still,true),(decide (0≤k∧k<32),true)])
 | _,_=>none
theorem Zbo (L:List Int) (n:Nat):(wU L).all (lt1 n)=true:=by
 unfold wU;rw[List.all_eq_true];intro v hv;obtain⟨x,_,rfl⟩:=List.mem_map.1 hv;rfl
theorem zx {l:List Value}{n:Nat}(hn:0<n) (h:l.all still=true):l.all (lt1 n)=true:=by
 rw[List.all_eq_true] at*;exact fun v hv=>zg hn (h v hv)
theorem Zuw:Z8 119 Z4Y:=by
 intro vals h s v h' s' lg hg hl m B w E hv;unfold Z4Y at hg;split at hg
 ·rename_i o n c k S t la t';cases hg;have q1:=Xj (hl _ (Xe));have q2:=Xj (hl _ (Xd _ Xe));have ra:=hl _ (Xd _ (Xd _ Xe));have q4:=Xj (hl _ (Xd _ (Xd _ (Xd _ Xe))));have q5:=hl _ (Xd _ (Xd _ (Xd _ (Xd _ Xe))));have q6:=Xc (hl _ (Xd _ (Xd _ (Xd _ (Xd _ (Xd _ Xf))))));simp only at q1 q2 q4 q5;subst q1 q2;obtain⟨a1,a2,a3,a4,a5,a6,a7⟩:=ZH ra;obtain⟨K,rfl⟩:=Int.eq_ofNat_of_zero_le q6.1;have hc:c<4611686018427387904:=Zo.1 a4;have eS:S=S.take o++wU (Zx S o n):=by
   have h1:=a1.cut;rw[a2] at h1;rw[← h1];unfold Zce;rw[show n=(S.drop o).length from by simp;omega,List.take_length,List.take_append_drop]
  have hF:(S.take o).length=o:=by simp;omega
  have r:=ZpF (la:=la) (c:=c) (k:=K) hF a1.rng (by omega) (by omega);rw[a2,← eS] at r;have ht:(Hp.tight ⟨2,[(upS S o n K,tU),(la,tR)]⟩)=true:=by
   unfold Hp.tight upS;simp only[List.all_cons,List.all_nil,List.all_append,Bool.and_true,Xh];refine⟨⟨?_,Zbo _ _⟩,zx (by omega) q5⟩;rw[List.all_eq_true];exact fun v hv=>zg (by omega) (a7 v (List.mem_of_mem_take hv))
  exact zd (T:=Zk prog Zf Zn true) func119 Zin (vals:=[sl 1 o n c,i6' K]) (v:= .tuple #[]) (h:=hU S la) (by rfl) ht r m B w E hv
 ·cases hg
end Go.Proofs.YtjlponbdflkbjaaGreatDoor.Na
namespace Go.Proofs.YtjlponbdflkbjaaGreatDoor.Na
open Go.KRun
set_option maxRecDepth 100000
theorem ZoD {x:Bool×Bool}{l:Log}(h:Z3 (x::l)):x.1=x.2∧Z3 l:=⟨h _ Xe,fun y hy=>h y (Xd _ hy)⟩
end Go.Proofs.YtjlponbdflkbjaaGreatDoor.Na
namespace Go.Nt
def zC (f:Nat→Int):Nat→Nat
 | 0=>0
 | k+1=>10*zC f k+(f k).toNat
theorem ZbV {f:Nat→Int}:∀ k,(∀ j,j<k→0≤f j∧f j<10)→zC f k<10^k
 | 0,_=>by simp [zC]
 | k+1,h=>by
  have ih:=ZbV k (fun j hj=>h j (by omega));have:=h k (by omega);simp only[zC,Nat.pow_succ];omega
theorem Zgu {f:Nat→Int}(i:Nat):∀ k,zC f (i+k)=zC f i*10^k+zC (fun j=>f (i+j)) k
 | 0=>by simp [zC]
 | k+1=>by
  rw[show i+(k+1)=(i+k)+1 by omega];simp only[zC];rw[Zgu i k,Nat.pow_succ];generalize zC (fun j=>f (i+j)) k=A;generalize zC f i=B;generalize 10^k=C;rw[Nat.mul_add,Nat.add_assoc,← Nat.mul_assoc,Nat.mul_comm 10 B,Nat.mul_assoc B 10 C,Nat.mul_comm 10 C]
end Go.Nt
namespace Go.Proofs.YtjlponbdflkbjaaGreatDoor
open Go.Proofs.Tryz
open Go.IntKind
open Go.KRun Go.Nt
set_option maxRecDepth 100000
structure Nu (i:Nat) (x:List Value×TypeId) (p:Option Addr) (n c:Nat) (A:List Int):Prop where
 row:∀ h:Hp,h.blk? i=some x→zJ h p n c=true∧Zq h p n=A
 pos:p=none∨∃ o,p=some ⟨i,o,none⟩
 st:∀ v∈x.1,still v=true
 lt0:∀ v∈x.1,still v=true
 ros:ro x.2=true∧ab x.2=false
theorem Nu.rn {i:Nat}{x:List Value×TypeId}{p:Option Addr}{n c:Nat}{A:List Int}(h:Nu i x p n c A) {f:Nat→Nat}(hf:f i=i):KRun.rn f (.slice p n c)= .slice p n c:=by
 rcases h.pos with rfl | ⟨o,rfl⟩
 ·rfl
 ·show Value.slice (some ⟨f i,o,none⟩) n c=_;rw[hf]
theorem Nu.lt {i:Nat}{x:List Value×TypeId}{p:Option Addr}{n c:Nat}{A:List Int}(h:Nu i x p n c A) {k:Nat}(hk:i<k):KRun.lt k (.slice p n c)=true:=by
 rcases h.pos with rfl | ⟨o,rfl⟩
 ·rfl
 ·exact Zo.2 hk
theorem ZbF {h:Hp}{p:Option Addr}{n c:Nat}(i:Nat) (hr:zJ h p n c=true):∃ x p' b,Nu i x p' n c (Zq h p n)∧(∀ s:Nat→Nat,s i=b→rn s (.slice p' n c)= .slice p n c)∧(Zak x.2=false→∃ y r,h.blk? b=some y∧Zak y.2=false∧rt y.2=rt x.2∧y.1=x.1++r):=by
 rcases ZF hr with ⟨rfl,rfl,rfl,e0⟩ | ⟨b,o,x,rfl,hx,q1,q2,e0⟩
 ·refine⟨([],2*za),none,0,⟨fun h' _=>⟨rfl,by rw[e0];rfl⟩,.inl rfl,(fun v hv=>by cases hv),(fun v hv=>by cases hv),(by kernel_rfl),(by kernel_rfl)⟩,fun s _=>rfl,fun ht=> ?_⟩;rw[show Zak (2*za)=true from by kernel_rfl] at ht;cases ht
 ·obtain⟨h1,h2,h3,h4,h5,h6,h7⟩:=zt q1;refine⟨(x.1,tR),some ⟨i,o,none⟩,b,⟨fun h' hb=>⟨?_,?_⟩,.inr ⟨o,rfl⟩,q2,h7,Zpe,Zpf⟩,fun s hs=> ?_,fun _=>⟨x,[],hx,h5,by rw[h6];exact Zpg.symm,by simp⟩⟩
  ·simp only[zJ,hb,Xh];refine⟨?_,List.all_eq_true.2 q2⟩;unfold Zbm at q1 ⊢;simp only[Xh,Bool.not_eq_true'] at q1 ⊢;obtain⟨⟨⟨⟨⟨⟨_,_⟩,p3⟩,p4⟩,p5⟩,p6⟩,p7⟩:=q1;exact⟨⟨⟨⟨⟨⟨ZbB,by kernel_rfl⟩,p3⟩,p4⟩,p5⟩,p6⟩,p7⟩
  ·rw[e0];simp [Zq,hb]
  ·show Value.slice (some ⟨s i,o,none⟩) n c=_;rw[hs]
def dgB (L:List Int):Bool:=L.all fun x=>decide (0≤x∧x<65536)
theorem Zbw {L:List Int}(h:dgB L=true):∀ x∈L,Dg 65536 x:=fun x hx=>Xc (List.all_eq_true.1 h x hx)
theorem ZbG {L:List Int}(h:∀ x∈L,Dg 65536 x):dgB L=true:=List.all_eq_true.2 fun x hx=>Xa (h x hx)
theorem zK {h:Hp}{p:Option Addr}{n c:Nat}(hr:zJ h p n c=true):(Zq h p n).length=n:=by
 rcases ZF hr with ⟨rfl,rfl,rfl,e0⟩ | ⟨b,o,x,rfl,hx,q1,q2,e0⟩
 ·rw[e0];rfl
 ·rw[e0];exact (zt q1).2.1
theorem Zed {L:List Int}(h:∀ x∈L,Dg 65536 x) (i:Nat):Dg 65536 (L.getD i 0):=by
 by_cases hi:i<L.length
 ·rw[Zil hi];exact h _ (List.getElem_mem hi)
 ·rw[show L.getD i 0=0 from by simp [List.getD,List.getElem?_eq_none (show L.length≤i by omega)]];exact⟨by omega,by omega⟩
theorem Zaq (L:List Int) (i:Nat):atN L (i:Int)=L.getD i 0:=by unfold atN;rw[if_pos (by omega),Xg]
def Zj9 (F:Func):List Code:=[Z2 (Zs F),Z2 (Zz (Zs F)),Z2 (Zz (Zz (Zs F)))]
def aR3 (F:Func):Code:=Z2 (Z2 (Zz (Zz (Zz (Zs F)))))
def ZaU (F:Func):Code:=cIn (cIn (Zz (Z2 (Zz (Zz (Zz (Zs F)))))))
def ZyR (F:Func):Code:=Zz (Zz (Zz (Zz (Zs F))))
theorem ZlF:f56.body=some (ZW (Zj9 f56) (.seq (.seq (aR3 f56) (.block 0 (.loop (ZaU f56)))) (ZyR f56))):=by kernel_rfl
theorem ZpG (a b:Value) (h:Hp):Zg (evL (Zr prog Zf Zn hcV) 100 (Zj9 f56) ([a,b]++List.replicate 40 undef,h,[]) ⟨[],[],[]⟩) 7 35 none [a,b,undef,undef,Zp,Zp,.int .u32 0] h []:=by and_intros<;>kernel_rfl
theorem Zux (a b:Value) (h:Hp) (g:Nat→Value):Zg (evC (Zr prog Zf Zn hcV) 100 false (aR3 f56) ([a,b,undef,undef,Zp,Zp,.int .u32 0]++tl 35 g,h,[]) ⟨[],[],[]⟩) 8 34 none [a,b,undef,undef,Zp,Zp,.int .u32 0,.int .i64 0] h []:=by and_intros<;>kernel_rfl
def sm (A B:List Int) (k i:Int):Int:=u32.wrap (u32.wrap (k+atN A i)+atN B i)
def hu3 (lo:List Value) (y x:List Value×TypeId):Hp:=⟨3,[(lo,tU),y,x]⟩
def hp2 (y x:List Value×TypeId):Hp:=⟨2,[y,x]⟩
def Z0b (w:Nat):List Dec:=match w with | 0=>[cmp true] | 1=>[cmp false,cmp true] | _=>[cmp false,cmp false,cmp true]
def ZsR (w:Nat) (n n':Nat) (k i:Int):Log:=match w with | 0=>[(decide (i<n),true)] | 1=>[(decide (i<n'),true),(decide (i<n),false)] | _=>[(decide (k>0),true),(decide (i<n'),false),(decide (i<n),false)]
def rP (h:Hp) (p:Option Addr) (n c:Nat):Bool×Bool:=(zJ h p n c,true)
theorem ZlG (p q:Option Addr) (n c n' c':Nat) (k i:Int) (x y:List Value×TypeId) (g:Nat→Value):Zg (evC (Zr prog Zf Zn hcV) 100 false (ZaU f56) ([.slice p n c,.slice q n' c',undef,undef,Zp,Zp,.int .u32 k,.int .i64 i]++tl 34 g,hp2 y x,Z0b 0++[cmp true]) ⟨[],[],[]⟩) 8 34 none [.slice p n c,.slice q n' c',undef,undef,Zp,sl 3 0 1 grown,.int .u32 (u32.wrap ((sm (Zq (hp2 y x) p n) (Zq (hp2 y x) q n') k i).tdiv 65536)),.int .i64 (i64.wrap (i+1))] ⟨4,[([.int .u32 ((sm (Zq (hp2 y x) p n) (Zq (hp2 y x) q n') k i).tmod 65536)],tU),([.int .u32 ((sm (Zq (hp2 y x) p n) (Zq (hp2 y x) q n') k i).tmod 65536)],tU),y,x]⟩ ((decide ((65536:Int)=0),false)::rP (hp2 y x) q n' c'::rP (hp2 y x) p n c::ZsR 0 n n' k i):=by and_intros<;>kernel_rfl
theorem ZlH (p q:Option Addr) (n c n' c':Nat) (k i:Int) (x y:List Value×TypeId) (g:Nat→Value):Zg (evC (Zr prog Zf Zn hcV) 100 false (ZaU f56) ([.slice p n c,.slice q n' c',undef,undef,Zp,Zp,.int .u32 k,.int .i64 i]++tl 34 g,hp2 y x,Z0b 1++[cmp true]) ⟨[],[],[]⟩) 8 34 none [.slice p n c,.slice q n' c',undef,undef,Zp,sl 3 0 1 grown,.int .u32 (u32.wrap ((sm (Zq (hp2 y x) p n) (Zq (hp2 y x) q n') k i).tdiv 65536)),.int .i64 (i64.wrap (i+1))] ⟨4,[([.int .u32 ((sm (Zq (hp2 y x) p n) (Zq (hp2 y x) q n') k i).tmod 65536)],tU),([.int .u32 ((sm (Zq (hp2 y x) p n) (Zq (hp2 y x) q n') k i).tmod 65536)],tU),y,x]⟩ ((decide ((65536:Int)=0),false)::rP (hp2 y x) q n' c'::rP (hp2 y x) p n c::ZsR 1 n n' k i):=by and_intros<;>kernel_rfl
theorem ZjA (p q:Option Addr) (n c n' c' z:Nat) (k i:Int) (x y:List Value×TypeId) (lo:List Value) (g:Nat→Value):Zg (evC (Zr prog Zf Zn hcV) 100 false (ZaU f56) ([.slice p n c,.slice q n' c',undef,undef,Zp,sl 2 0 z grown,.int .u32 k,.int .i64 i]++tl 34 g,hu3 lo y x,Z0b 0++[cmp true,at_]) ⟨[],[],[]⟩) 8 34 none [.slice p n c,.slice q n' c',undef,undef,Zp,sl 4 0 (z+1) grown,.int .u32 (u32.wrap ((sm (Zq (hu3 lo y x) p n) (Zq (hu3 lo y x) q n') k i).tdiv 65536)),.int .i64 (i64.wrap (i+1))] ⟨5,[(lo++[.int .u32 ((sm (Zq (hu3 lo y x) p n) (Zq (hu3 lo y x) q n') k i).tmod 65536)],tU),([.int .u32 ((sm (Zq (hu3 lo y x) p n) (Zq (hu3 lo y x) q n') k i).tmod 65536)],tU),([],2*za),y,x]⟩ ((Zab tU (lo,tU) ([.int .u32 ((sm (Zq (hu3 lo y x) p n) (Zq (hu3 lo y x) q n') k i).tmod 65536)],tU) z 0 1,true)::(decide ((65536:Int)=0),false)::rP (hu3 lo y x) q n' c'::rP (hu3 lo y x) p n c::ZsR 0 n n' k i):=by and_intros<;>kernel_rfl
theorem ZjB (p q:Option Addr) (n c n' c' z:Nat) (k i:Int) (x y:List Value×TypeId) (lo:List Value) (g:Nat→Value):Zg (evC (Zr prog Zf Zn hcV) 100 false (ZaU f56) ([.slice p n c,.slice q n' c',undef,undef,Zp,sl 2 0 z grown,.int .u32 k,.int .i64 i]++tl 34 g,hu3 lo y x,Z0b 1++[cmp true,at_]) ⟨[],[],[]⟩) 8 34 none [.slice p n c,.slice q n' c',undef,undef,Zp,sl 4 0 (z+1) grown,.int .u32 (u32.wrap ((sm (Zq (hu3 lo y x) p n) (Zq (hu3 lo y x) q n') k i).tdiv 65536)),.int .i64 (i64.wrap (i+1))] ⟨5,[(lo++[.int .u32 ((sm (Zq (hu3 lo y x) p n) (Zq (hu3 lo y x) q n') k i).tmod 65536)],tU),([.int .u32 ((sm (Zq (hu3 lo y x) p n) (Zq (hu3 lo y x) q n') k i).tmod 65536)],tU),([],2*za),y,x]⟩ ((Zab tU (lo,tU) ([.int .u32 ((sm (Zq (hu3 lo y x) p n) (Zq (hu3 lo y x) q n') k i).tmod 65536)],tU) z 0 1,true)::(decide ((65536:Int)=0),false)::rP (hu3 lo y x) q n' c'::rP (hu3 lo y x) p n c::ZsR 1 n n' k i):=by and_intros<;>kernel_rfl
theorem ZjC (p q:Option Addr) (n c n' c' z:Nat) (k i:Int) (x y:List Value×TypeId) (lo:List Value) (g:Nat→Value):Zg (evC (Zr prog Zf Zn hcV) 100 false (ZaU f56) ([.slice p n c,.slice q n' c',undef,undef,Zp,sl 2 0 z grown,.int .u32 k,.int .i64 i]++tl 34 g,hu3 lo y x,Z0b 2++[cmp true,at_]) ⟨[],[],[]⟩) 8 34 none [.slice p n c,.slice q n' c',undef,undef,Zp,sl 4 0 (z+1) grown,.int .u32 (u32.wrap ((sm (Zq (hu3 lo y x) p n) (Zq (hu3 lo y x) q n') k i).tdiv 65536)),.int .i64 (i64.wrap (i+1))] ⟨5,[(lo++[.int .u32 ((sm (Zq (hu3 lo y x) p n) (Zq (hu3 lo y x) q n') k i).tmod 65536)],tU),([.int .u32 ((sm (Zq (hu3 lo y x) p n) (Zq (hu3 lo y x) q n') k i).tmod 65536)],tU),([],2*za),y,x]⟩ ((Zab tU (lo,tU) ([.int .u32 ((sm (Zq (hu3 lo y x) p n) (Zq (hu3 lo y x) q n') k i).tmod 65536)],tU) z 0 1,true)::(decide ((65536:Int)=0),false)::rP (hu3 lo y x) q n' c'::rP (hu3 lo y x) p n c::ZsR 2 n n' k i):=by and_intros<;>kernel_rfl
theorem ZpH (p q:Option Addr) (n c n' c':Nat) (v:Value) (k i:Int) (h:Hp) (g:Nat→Value):Zg (evC (Zr prog Zf Zn hcV) 100 false (ZaU f56) ([.slice p n c,.slice q n' c',undef,undef,Zp,v,.int .u32 k,.int .i64 i]++tl 34 g,h,[cmp false,cmp false,cmp false]) ⟨[],[],[]⟩) 8 34 (some (some 0)) [.slice p n c,.slice q n' c',undef,undef,Zp,v,.int .u32 k,.int .i64 i] h [(decide (k>0),false),(decide (i<n'),false),(decide (i<n),false)]:=by and_intros<;>kernel_rfl
theorem ZpI (a b:Value) (z:Nat) (k i:Int) (x y:List Value×TypeId) (lo:List Value) (g:Nat→Value):Zg (evC (Zr prog Zf Zn hcV) 100 false (ZyR f56) ([a,b,undef,undef,Zp,sl 2 0 z grown,.int .u32 k,.int .i64 i]++tl 34 g,hu3 lo y x,[]) ⟨[],[],[]⟩) 5 37 (some none) [a,b,undef,undef,sl 2 0 (Zl (Zx lo 0 z)) (Zl (Zx lo 0 z))] (hu3 lo y x) [(Zbm tU lo 0 z grown,true)]:=by and_intros<;>kernel_rfl
theorem ZjD (p q:Option Addr) (n c n' c':Nat) (h:Hp):Zg (evC (Zr prog Zf Zn hcV) 100 false (Zs f56) ([.slice p n c,.slice q n' c']++List.replicate 40 undef,h,[cmp false,cmp false,cmp false]) ⟨[],[],[]⟩) 5 37 (some none) [.slice p n c,.slice q n' c',undef,undef,Zp] h [(decide ((0:Int)>0),false),(decide ((0:Int)<n'),false),(decide ((0:Int)<n),false)]:=by and_intros<;>kernel_rfl
theorem zk {n:Int}(h0:0≤n) (h1:n<4294967296):u32.wrap n=n:=by simp [IntKind.wrap,IntKind.bits,IntKind.signed];omega
def dgN (L:List Int) (i:Nat):Nat:=(L.getD i 0).toNat
theorem zy {L:List Int}(h:∀ x∈L,Dg 65536 x) (i:Nat):dgN L i<65536∧((dgN L i:Nat):Int)=L.getD i 0:=by
 have:=Zed h i;unfold dgN;omega
theorem Zee {L:List Int}{i:Nat}(h:L.length≤i):dgN L i=0:=by unfold dgN;simp [List.getD,List.getElem?_eq_none h]
theorem Z4Z {A B:List Int}(hA:∀ x∈A,Dg 65536 x) (hB:∀ x∈B,Dg 65536 x) {k:Nat}(hk:k≤1) (i:Nat):sm A B k i=((k+dgN A i+dgN B i:Nat):Int):=by
 have h1:=zy hA i;have h2:=zy hB i;unfold sm;rw[Zaq,Zaq,← h1.2,← h2.2,zk (n:=(k:Int)+_) (by omega) (by omega),zk (by omega) (by omega)];omega
theorem Zf0 (a:Nat):((a:Int)).tmod 65536=((a % 65536:Nat):Int):=by rw[Int.tmod_eq_emod_of_nonneg (by omega)];omega
theorem Zf1 {a:Nat}(h:a<4294967296):u32.wrap ((a:Int).tdiv 65536)=((a/65536:Nat):Int):=by
 rw[Int.tdiv_eq_ediv_of_nonneg (by omega),zk (by omega) (by omega)];omega
theorem okW {p:Bool×Bool}{l:Log}(h:p.1=p.2) (hl:Z3 l):Z3 (p::l):=Zi h hl
section
variable {x y : List Value × TypeId} {p q : Option Addr} {n c n' c' : Nat} {A B : List Int}
theorem Zc3 (NA:Nu 0 x p n c A) (NB:Nu 1 y q n' c' B) {h:Hp}(h0:h.blk? 0=some x) (h1:h.blk? 1=some y):∀ i z,(⟨2,[y,x]⟩:Hp).blk? i=some z→h.blk? i=some z∧∀ v∈z.1,still v=true:=fun i z hz=>by
 rcases ZkX hz with ⟨rfl,rfl⟩ | ⟨rfl,rfl⟩
 ·exact⟨h0,NA.st⟩
 ·exact⟨h1,NB.st⟩
theorem ZjE (NA:Nu 0 x p n c A) (NB:Nu 1 y q n' c' B) (hA:∀ x∈A,Dg 65536 x) (hB:∀ x∈B,Dg 65536 x) {k i:Nat}{O:List Int}(hk:k≤1) (hi:i<1073741823) (hO:O.length=i) (hgo:i<n∨i<n'∨0<k) {Y:Lf}
  (hY:(i=0∧k=0∧(∃ g,Y.1=[.slice p n c,.slice q n' c',undef,undef,Zp,Zp,.int .u32 (k:Nat),.int .i64 (i:Nat)]++tl 34 g)∧Y.2.1=hp2 y x)∨(0<i∧(∃ g,Y.1=[.slice p n c,.slice q n' c',undef,undef,Zp,sl 2 0 i grown,.int .u32 (k:Nat),.int .i64 (i:Nat)]++tl 34 g)∧Y.2.1=hu3 (wU O) y x)):
  RunsW (Zr prog Zf Zn hcV) (ZaU f56) Y fun e z=>e=none∧(∃ g,z.1=[.slice p n c,.slice q n' c',undef,undef,Zp,sl 2 0 (i+1) grown,.int .u32 ((k+dgN A i+dgN B i)/65536:Nat),.int .i64 ((i+1:Nat):Int)]++tl 34 g)∧z.2.1=hu3 (wU (O++[(((k+dgN A i+dgN B i) % 65536:Nat):Int)])) y x:=by
 obtain⟨t,h',s⟩:=Y;have hd1:=(zy hA i).1;have hd2:=(zy hB i).1;have es:=Z4Z hA hB hk i;have e1:(sm A B k i).tmod 65536=(((k+dgN A i+dgN B i) % 65536:Nat):Int):=by rw[es,Zf0]
 have e2:u32.wrap ((sm A B k i).tdiv 65536)=(((k+dgN A i+dgN B i)/65536:Nat):Int):=by rw[es,Zf1 (by omega)]
 have e3:i64.wrap ((i:Int)+1)=((i+1:Nat):Int):=by rw[Zw (by omega) (by omega)];omega
 rcases hY with ⟨h0,k0,⟨g,ht⟩,hh⟩ | ⟨h0,⟨g,ht⟩,hh⟩
 ·simp only at ht hh;subst ht hh;have r0:=NA.row (hp2 y x) rfl;have r1:=NB.row (hp2 y x) rfl;have fin:RunsW (Zr prog Zf Zn hcV) (ZaU f56) ([.slice p n c,.slice q n' c',undef,undef,Zp,Zp,.int .u32 (k:Nat),.int .i64 (i:Nat)]++tl 34 g,hp2 y x,s) fun e z=>e=none∧(∃ g,z.1=[.slice p n c,.slice q n' c',undef,undef,Zp,sl 3 0 1 grown,.int .u32 (u32.wrap ((sm A B k i).tdiv 65536)),.int .i64 (i64.wrap ((i:Int)+1))]++tl 34 g)∧z.2.1=⟨4,[([.int .u32 ((sm A B k i).tmod 65536)],tU),([.int .u32 ((sm A B k i).tmod 65536)],tU),y,x]⟩:=by
   by_cases ha:i<n
   ·have:=Ze (Zh Zd Zu) (s0:=s) (ZlG p q n c n' c' k i x y g) (okW rfl (okW r1.1 (okW r0.1 (Zt (Xa (by omega))))));rw[r0.2,r1.2] at this;exact this
   ·have:=Ze (Zh Zd Zu) (s0:=s) (ZlH p q n c n' c' k i x y g) (okW rfl (okW r1.1 (okW r0.1 (okW (Xa (by omega)) (Zt (Xb (by omega)))))));rw[r0.2,r1.2] at this;exact this
  have hO':O=[]:=List.length_eq_zero_iff.1 (by omega);rw[e1,e2,e3] at fin;have:=fin.kept (k:=2) (b:=3) (base:=[y,x]) (y:=([.int .u32 (((k+dgN A i+dgN B i) % 65536:Nat):Int)],tU)) (front':=[.slice p n c,.slice q n' c',undef,undef,Zp,sl 2 0 1 grown,.int .u32 ((k+dgN A i+dgN B i)/65536:Nat),.int .i64 ((i+1:Nat):Int)]) rfl
   (by simp only[List.map_cons,List.map_nil,NA.rn (f:=zA 2 3) rfl,NB.rn (f:=zA 2 3) rfl];kernel_rfl) (Zc3 NA NB rfl rfl) rfl (by omega) (fun v hv=>by rw[List.mem_singleton.1 hv];rfl) (fun v hv=>by
    simp only[List.mem_cons,List.not_mem_nil,or_false] at hv;rcases hv with rfl | rfl | rfl | rfl | rfl | rfl | rfl | rfl
    ·exact NA.lt (by omega)
    ·exact NB.lt (by omega)
    all_goals rfl)
  refine this.mono fun e z hz=> ?_;obtain⟨rfl,⟨g',q1⟩,q2⟩:=hz;subst hO' h0;exact⟨rfl,⟨g',q1⟩,q2⟩
 ·simp only at ht hh;subst ht hh;have r0:=NA.row (hu3 (wU O) y x) rfl;have r1:=NB.row (hu3 (wU O) y x) rfl;have hchk:Zab tU (wU O,tU) ([.int .u32 ((sm A B k i).tmod 65536)],tU) i 0 1=true:=
   Zba (L:=O) (M:=[(sm A B k i).tmod 65536]) hO.symm (show 0<1 by omega) (by show O.length+1≤_;omega)
  have fin:RunsW (Zr prog Zf Zn hcV) (ZaU f56) ([.slice p n c,.slice q n' c',undef,undef,Zp,sl 2 0 i grown,.int .u32 (k:Nat),.int .i64 (i:Nat)]++tl 34 g,hu3 (wU O) y x,s) fun e z=>e=none∧(∃ g,z.1=[.slice p n c,.slice q n' c',undef,undef,Zp,sl 4 0 (i+1) grown,.int .u32 (u32.wrap ((sm A B k i).tdiv 65536)),.int .i64 (i64.wrap ((i:Int)+1))]++tl 34 g)∧z.2.1=⟨5,[(wU O++[.int .u32 ((sm A B k i).tmod 65536)],tU),([.int .u32 ((sm A B k i).tmod 65536)],tU),([],2*za),y,x]⟩:=by
   by_cases ha:i<n
   ·have hl:Z3 (ZsR 0 n n' k i):=Zt (Xa (by omega));have:=Ze (Zh Zd Zu) (s0:=s) (ZjA p q n c n' c' i k i x y (wU O) g) (by rw[r0.2,r1.2];exact okW hchk (okW rfl (okW r1.1 (okW r0.1 hl))));rw[r0.2,r1.2] at this;exact this
   ·by_cases hb:i<n'
    ·have hl:Z3 (ZsR 1 n n' k i):=okW (Xa (by omega)) (Zt (Xb (by omega)));have:=Ze (Zh Zd Zu) (s0:=s) (ZjB p q n c n' c' i k i x y (wU O) g) (by rw[r0.2,r1.2];exact okW hchk (okW rfl (okW r1.1 (okW r0.1 hl))));rw[r0.2,r1.2] at this;exact this
    ·have hl:Z3 (ZsR 2 n n' k i):=okW (Xa (by omega)) (okW (Xb (by omega)) (Zt (Xb (by omega))));have:=Ze (Zh Zd Zu) (s0:=s) (ZjC p q n c n' c' i k i x y (wU O) g) (by rw[r0.2,r1.2];exact okW hchk (okW rfl (okW r1.1 (okW r0.1 hl))));rw[r0.2,r1.2] at this;exact this
  rw[e1,e2,e3] at fin;have ew:wU O++[.int .u32 (((k+dgN A i+dgN B i) % 65536:Nat):Int)]=wU (O++[(((k+dgN A i+dgN B i) % 65536:Nat):Int)]):=by rw[ZX];rfl
  rw[ew] at fin;have:=fin.kept (k:=2) (b:=4) (base:=[y,x]) (y:=(wU (O++[(((k+dgN A i+dgN B i) % 65536:Nat):Int)]),tU)) (front':=[.slice p n c,.slice q n' c',undef,undef,Zp,sl 2 0 (i+1) grown,.int .u32 ((k+dgN A i+dgN B i)/65536:Nat),.int .i64 ((i+1:Nat):Int)]) rfl
   (by simp only[List.map_cons,List.map_nil,NA.rn (f:=zA 2 4) rfl,NB.rn (f:=zA 2 4) rfl];kernel_rfl) (Zc3 NA NB rfl rfl) rfl (by omega) (ZD _) (fun v hv=>by
    simp only[List.mem_cons,List.not_mem_nil,or_false] at hv;rcases hv with rfl | rfl | rfl | rfl | rfl | rfl | rfl | rfl
    ·exact NA.lt (by omega)
    ·exact NB.lt (by omega)
    all_goals rfl)
  exact this
def aSt (x y:List Value×TypeId) (p q:Option Addr) (n c n' c':Nat) (O:List Int) (i k:Nat) (Y:Lf):Prop:=
 (i=0∧k=0∧(∃ g,Y.1=[.slice p n c,.slice q n' c',undef,undef,Zp,Zp,.int .u32 (k:Nat),.int .i64 (i:Nat)]++tl 34 g)∧Y.2.1=hp2 y x)∨(0<i∧(∃ g,Y.1=[.slice p n c,.slice q n' c',undef,undef,Zp,sl 2 0 i grown,.int .u32 (k:Nat),.int .i64 (i:Nat)]++tl 34 g)∧Y.2.1=hu3 (wU O) y x)
def Z8N (x y:List Value×TypeId) (p q:Option Addr) (n c n' c':Nat) (A B:List Int) (m:Nat) (Y:Lf):Prop:=
 ∃ (i k:Nat) (O:List Int),O.length=i∧m=max n n'+1-i∧i≤max n n'+1∧k≤1∧(i=max n n'+1→k=0)∧(∀ x∈O,Dg 65536 x)∧vb 65536 O+65536^O.length*k=vb 65536 (A.take i)+vb 65536 (B.take i)∧aSt x y p q n c n' c' O i k Y
def Zuy (x y:List Value×TypeId) (p q:Option Addr) (n c n' c':Nat) (A B:List Int) (Y:Lf):Prop:=
 ∃ (i:Nat) (O:List Int),O.length=i∧i≤max n n'+1∧(∀ x∈O,Dg 65536 x)∧vb 65536 O=vb 65536 A+vb 65536 B∧n≤i∧n'≤i∧aSt x y p q n c n' c' O i 0 Y
theorem ZlI (NA:Nu 0 x p n c A) (NB:Nu 1 y q n' c' B) (lA:A.length=n) (lB:B.length=n') (hA:∀ x∈A,Dg 65536 x) (hB:∀ x∈B,Dg 65536 x) (hn:max n n'+2<1073741824) (g:Nat→Value):
  RunsW (Zr prog Zf Zn hcV) (.block 0 (.loop (ZaU f56))) ([.slice p n c,.slice q n' c',undef,undef,Zp,Zp,.int .u32 0,.int .i64 0]++tl 34 g,hp2 y x,[]) fun e Y=>match e with | none=>Zuy x y p q n c n' c' A B Y | some none=>False | some (some _)=>False:=by
 refine RunsW.forLoop (P:=Zuy x y p q n c n' c' A B) (R:=fun _=>False) (Z8N x y p q n c n' c' A B) ?_ (n:=max n n'+1) ⟨0,0,[],rfl,by omega,by omega,by omega,by omega,(fun x hx=>by cases hx),by simp [vb],.inl ⟨rfl,rfl,⟨g,rfl⟩,rfl⟩⟩;rintro m Y ⟨i,k,O,hO,hm,hi,hk,hk0,hOd,hval,hY⟩;by_cases hgo:i<n∨i<n'∨0<k
 ·have hmx:i≤max n n':=by
   rcases Nat.lt_or_ge i (max n n'+1) with h | h
   ·omega
   ·have:k=0:=hk0 (by omega);omega
  have r:=ZjE NA NB hA hB hk (by omega) hO hgo hY;refine r.mono fun e z hz=> ?_;obtain⟨rfl,z1,z2⟩:=hz;have d1:=(zy hA i).1;have d2:=(zy hB i).1;refine⟨max n n'+1-(i+1),by omega,i+1,(k+dgN A i+dgN B i)/65536,O++[(((k+dgN A i+dgN B i) % 65536:Nat):Int)],by simp [hO],rfl,by omega,by omega,fun he=> ?_,fun x hx=> ?_,?_,.inr ⟨by omega,z1,z2⟩⟩
  ·have z1:dgN A i=0:=Zee (by omega);have z2:dgN B i=0:=Zee (by omega);omega
  ·rcases List.mem_append.1 hx with hx | hx
   ·exact hOd x hx
   ·rw[List.mem_singleton.1 hx];exact⟨by omega,by omega⟩
  ·have:=Zlv (a:=dgN A i) (c:=dgN B i) hval;rw[Zag,Zag,← hO];rw[List.length_append];rw[hO] at this ⊢;exact this
 ·have hk:k=0:=by omega
  subst hk;have ha:n≤i:=by omega
  have hb:n'≤i:=by omega
  have out:∀ (v:Value) (h:Hp) (g:Nat→Value) (s:List Dec),RunsW (Zr prog Zf Zn hcV) (ZaU f56) ([.slice p n c,.slice q n' c',undef,undef,Zp,v,.int .u32 ((0:Nat):Int),.int .i64 (i:Nat)]++tl 34 g,h,s) fun e z=>e=some (some 0)∧(∃ g,z.1=[.slice p n c,.slice q n' c',undef,undef,Zp,v,.int .u32 ((0:Nat):Int),.int .i64 (i:Nat)]++tl 34 g)∧z.2.1=h:=fun v h g s=>
   Ze (Zh Zd Zu) (ZpH p q n c n' c' v 0 i h g) (okW rfl (okW (Xb (by omega)) (Zt (Xb (by omega)))))
  have hv:vb 65536 O=vb 65536 A+vb 65536 B:=by
   rw[List.take_of_length_le (by omega),List.take_of_length_le (by omega)] at hval;omega
  obtain⟨t,h',s⟩:=Y;rcases hY with ⟨h0,k0,⟨g,ht⟩,hh⟩ | ⟨h0,⟨g,ht⟩,hh⟩
  ·simp only at ht hh;subst ht hh;refine (out Zp _ g s).mono fun e z hz=> ?_;obtain⟨rfl,z1,z2⟩:=hz;exact⟨rfl,i,O,hO,hi,hOd,hv,ha,hb,.inl ⟨h0,rfl,z1,z2⟩⟩
  ·simp only at ht hh;subst ht hh;refine (out (sl 2 0 i grown) _ g s).mono fun e z hz=> ?_;obtain⟨rfl,z1,z2⟩:=hz;exact⟨rfl,i,O,hO,hi,hOd,hv,ha,hb,.inr ⟨h0,z1,z2⟩⟩
theorem ZlJ (NA:Nu 0 x p n c A) (NB:Nu 1 y q n' c' B) (lA:A.length=n) (lB:B.length=n') (hA:∀ x∈A,Dg 65536 x) (hB:∀ x∈B,Dg 65536 x) (hn:max n n'+2<1073741824) (h0:0<n∨0<n') {V:Nat}(hV:V=vb 65536 A+vb 65536 B):
  RunsW (Zr prog Zf Zn hcV) (ZW (Zj9 f56) (.seq (.seq (aR3 f56) (.block 0 (.loop (ZaU f56)))) (ZyR f56))) ([.slice p n c,.slice q n' c']++List.replicate 40 undef,hp2 y x,[]) fun e z=>(e=none∨e=some none)∧ZV prog f56 z.1 z.2.1=some (sl 2 0 (d16 V).length (d16 V).length)∧∃ r,z.2.1.blk? 2=some (wU (d16 V)++r,tU):=by
 refine Z0 (Zh Zd Zu) (ZpG _ _ _) (fun x hx=>by cases hx) fun g=> ?_;refine Zgs (Ze (Zh Zd Zu) (Zux _ _ _ g) (fun x hx=>by cases hx)) (fun e y he=>by cases he.1) (P2:=fun e Y=>match e with | none=>Zuy x y p q n c n' c' A B Y | some none=>False | some (some _)=>False) ?_ ?_ ?_
 ·rintro⟨t,h',s⟩ ⟨_,⟨g',ht⟩,hh⟩;simp only at ht hh;subst ht hh;exact RunsW.script (ZlI NA NB lA lB hA hB hn g')
 ·intro e y he
  match e,he with
  | none,he=>exact he
  | some id,he=>exact he
 ·rintro⟨t,h',s⟩ ⟨i,O,hO,hi,hOd,hv,ha,hb,hY⟩;rcases hY with ⟨e0,_⟩ | ⟨_,⟨g',ht⟩,hh⟩
  ·omega
  ·simp only at ht hh;subst ht hh;have hrow:Zbm tU (wU O) 0 i grown=true:=by
    rw[← hO];exact Zap (fun x hx=>⟨(hOd x hx).1,by have:=(hOd x hx).2;omega⟩) (by omega) (ZyQ _)
   refine (Ze (Zh Zd Zu) (ZpI _ _ i 0 i x y (wU O) g') (Zt hrow)).mono fun e z he=> ?_;obtain⟨rfl,⟨g2,e1⟩,e2⟩:=he;have et:Zl (Zx (wU O) 0 i)=(d16 V).length:=by
    rw[← hO,ZaO,Zat (by omega) hOd,hv,← hV];rfl
   refine⟨.inr rfl,?_,?_⟩
   ·rw[e1,e2,et];rfl
   ·rw[e2];refine⟨wU (O.drop (Zl O)),?_⟩;have e3:wU (d16 V)++wU (O.drop (Zl O))=wU O:=by
     unfold d16;rw[hV,← hv,← zj (by omega) _ hOd,← ZX,List.take_append_drop]
    rw[e3];rfl
end
theorem Zc4 {x y:List Value×TypeId}{p q:Option Addr}{n c n' c':Nat}{A B:List Int}(NA:Nu 0 x p n c A) (NB:Nu 1 y q n' c' B):(hp2 y x).rows:=by
 refine⟨rfl,fun b z hz=> ?_⟩;rcases ZkX hz with ⟨rfl,rfl⟩ | ⟨rfl,rfl⟩
 ·exact⟨NA.ros.1,NA.lt0,NA.ros.2⟩
 ·exact⟨NB.ros.1,NB.lt0,NB.ros.2⟩
theorem Zc5 {x y:List Value×TypeId}{h:Hp}{a b:Nat}(hx:Zak x.2=false→∃ z r,h.blk? a=some z∧Zak z.2=false∧rt z.2=rt x.2∧z.1=x.1++r) (hy:Zak y.2=false→∃ z r,h.blk? b=some z∧Zak z.2=false∧rt z.2=rt y.2∧z.1=y.1++r):(hp2 y x).fits (ZeQ a b) h:=by
 intro i z hz ht;rcases ZkX hz with ⟨rfl,rfl⟩ | ⟨rfl,rfl⟩
 ·exact hx ht
 ·exact hy ht
theorem ZjF:f56.body=some (Zs f56):=by kernel_rfl
def ZT (h:Hp) (p q:Option Addr) (n c n' c':Nat):Bool:=zJ h p n c && zJ h q n' c' && dgB (Zq h p n) && dgB (Zq h q n') && Nat.blt (max n n'+2) 1073741824
theorem Zc6 {h:Hp}{p q:Option Addr}{n c n' c':Nat}(hr:ZT h p q n c n' c'=true):zJ h p n c=true∧zJ h q n' c'=true∧(∀ x∈Zq h p n,Dg 65536 x)∧(∀ x∈Zq h q n',Dg 65536 x)∧max n n'+2<1073741824:=by
 unfold ZT at hr;simp only[Xh] at hr;obtain⟨⟨⟨⟨h1,h2⟩,h3⟩,h4⟩,h5⟩:=hr;exact⟨h1,h2,Zbw h3,Zbw h4,Zo.1 h5⟩
def vO (h:Hp) (p:Option Addr) (n:Nat):Nat:=vb 65536 (Zq h p n)
theorem Zbd (A:Nat):∀ x∈d16 A,Dg 65536 x:=Zfx (by omega) A
def Zde (V:Nat) (h:Hp) (s:List Dec) (lg:Log):Option (Value×Hp×List Dec×Log):=some (sl h.n 0 (d16 V).length (d16 V).length,h.push (wU (d16 V)) tU,s,lg)
def ZpJ:Zad:=fun vals h s=>
 match vals,s with
 | [.slice p n c,.slice q n' c'],.inr (.inr (.inr (.inl d)))::s'=>
  match d with
  | true=>Zde (vO h p n+vO h q n') h s' [(ZT h p q n c n' c',true),(decide (0<n∨0<n'),true)]
  | false=>some (Zp,h,s',[(ZT h p q n c n' c',true),(decide (0<n∨0<n'),false)])
 | _,_=>none
theorem Zf2:Z8 56 ZpJ:=by
 intro vals h s v h' s' lg hg hl m B w E hv;unfold ZpJ at hg;split at hg
 ·rename_i p n c q n' c' d s2;split at hg
  ·unfold Zde at hg;cases hg;have q1:=hl _ (Xe);have q2:=hl _ (Xd _ Xf);simp only[Xi] at q1 q2;obtain⟨r1,r2,d1,d2,hn⟩:=Zc6 q1;obtain⟨x,p',a,NA,eA,fA⟩:=ZbF 0 r1;obtain⟨y,q',b,NB,eB,fB⟩:=ZbF 1 r2;have r:=ZlJ NA NB (zK r1) (zK r2) d1 d2 hn q2 rfl;have:=ZE (T:=Zr prog Zf Zn hcV) func56 ZlF (Zc4 NA NB) (vals:=[.slice p' n c,.slice q' n' c']) (fun v hv=>by
    simp only[List.mem_cons,List.not_mem_nil,or_false] at hv;rcases hv with rfl | rfl
    ·exact NA.lt (by show 0<2;omega)
    ·exact NB.lt (by show 1<2;omega)) (k:=2) (cs:=wU (d16 (vO h p n+vO h q n'))) (ty:=tU) (Zbb _) (by kernel_rfl) r (by rfl) E (s:=ZeQ a b) (Zc5 fA fB)
   simp only[List.map_cons,List.map_nil] at this;rw[eA _ rfl,eB _ rfl] at this;exact this
  ·cases hg;have q1:=hl _ (Xe);have q2:=hl _ (Xd _ Xf);simp only[decide_eq_false_iff_not] at q1 q2;obtain⟨r1,r2,d1,d2,hn⟩:=Zc6 q1;obtain⟨x,p',a,NA,eA,fA⟩:=ZbF 0 r1;obtain⟨y,q',b,NB,eB,fB⟩:=ZbF 1 r2;have hr:Runs (Zr prog Zf Zn hcV) (Zs f56) ([.slice p' n c,.slice q' n' c']++List.replicate 40 undef,hp2 y x,[]) fun e z=>(e=none∨e=some none)∧ZV prog f56 z.1 z.2.1=some Zp:=by
    refine (Zb (Zh Zd Zu) (ZjD p' q' n c n' c' _) (okW rfl (okW (Xb (by omega)) (Zt (Xb (by omega)))))).mono fun e z he=> ?_;obtain⟨rfl,⟨g,e2⟩,e3⟩:=he;refine⟨.inr rfl,?_⟩;rw[e2,e3];rfl
   have:=ZB (T:=Zr prog Zf Zn hcV) func56 ZjF (Zc4 NA NB) (vals:=[.slice p' n c,.slice q' n' c']) (fun v hv=>by
    simp only[List.mem_cons,List.not_mem_nil,or_false] at hv;rcases hv with rfl | rfl
    ·exact NA.lt (by show 0<2;omega)
    ·exact NB.lt (by show 1<2;omega)) (v:=Zp) (by rfl) hr.w E (s:=ZeQ a b) (Zc5 fA fB)
   simp only[List.map_cons,List.map_nil] at this;rw[eA _ rfl,eB _ rfl] at this;exact this
 ·cases hg
theorem ZlK:f91.body=some (ZW (Zj9 f91) (.seq (.seq (aR3 f91) (.block 0 (.loop (ZaU f91)))) (ZyR f91))):=by kernel_rfl
theorem ZjG:f91.body=some (Zs f91):=by kernel_rfl
theorem ZpK (a b:Value) (h:Hp):Zg (evL (Zr prog Zf Zn hcV) 100 (Zj9 f91) ([a,b]++List.replicate 33 undef,h,[]) ⟨[],[],[]⟩) 7 28 none [a,b,undef,undef,Zp,Zp,.int .u32 0] h []:=by and_intros<;>kernel_rfl
theorem Zuz (a b:Value) (h:Hp) (g:Nat→Value):Zg (evC (Zr prog Zf Zn hcV) 100 false (aR3 f91) ([a,b,undef,undef,Zp,Zp,.int .u32 0]++tl 28 g,h,[]) ⟨[],[],[]⟩) 8 27 none [a,b,undef,undef,Zp,Zp,.int .u32 0,.int .i64 0] h []:=by and_intros<;>kernel_rfl
def df (A B:List Int) (k i:Int):Int:=u32.wrap (u32.wrap (u32.wrap (65536+atN A i)-atN B i)-k)
theorem ZpL (p q:Option Addr) (n c n' c':Nat) (k i:Int) (x y:List Value×TypeId) (g:Nat→Value):Zg (evC (Zr prog Zf Zn hcV) 100 false (ZaU f91) ([.slice p n c,.slice q n' c',undef,undef,Zp,Zp,.int .u32 k,.int .i64 i]++tl 27 g,hp2 y x,[cmp true,cmp true]) ⟨[],[],[]⟩) 8 27 none [.slice p n c,.slice q n' c',undef,undef,Zp,sl 3 0 1 grown,.int .u32 (u32.wrap (1-u32.wrap ((df (Zq (hp2 y x) p n) (Zq (hp2 y x) q n') k i).tdiv 65536))),.int .i64 (i64.wrap (i+1))] ⟨4,[([.int .u32 ((df (Zq (hp2 y x) p n) (Zq (hp2 y x) q n') k i).tmod 65536)],tU),([.int .u32 ((df (Zq (hp2 y x) p n) (Zq (hp2 y x) q n') k i).tmod 65536)],tU),y,x]⟩ [(decide ((65536:Int)=0),false),rP (hp2 y x) q n' c',rP (hp2 y x) p n c,(decide (i<n),true)]:=by and_intros<;>kernel_rfl
theorem ZlL (p q:Option Addr) (n c n' c' z:Nat) (k i:Int) (x y:List Value×TypeId) (lo:List Value) (g:Nat→Value):Zg (evC (Zr prog Zf Zn hcV) 100 false (ZaU f91) ([.slice p n c,.slice q n' c',undef,undef,Zp,sl 2 0 z grown,.int .u32 k,.int .i64 i]++tl 27 g,hu3 lo y x,[cmp true,cmp true,at_]) ⟨[],[],[]⟩) 8 27 none [.slice p n c,.slice q n' c',undef,undef,Zp,sl 4 0 (z+1) grown,.int .u32 (u32.wrap (1-u32.wrap ((df (Zq (hu3 lo y x) p n) (Zq (hu3 lo y x) q n') k i).tdiv 65536))),.int .i64 (i64.wrap (i+1))] ⟨5,[(lo++[.int .u32 ((df (Zq (hu3 lo y x) p n) (Zq (hu3 lo y x) q n') k i).tmod 65536)],tU),([.int .u32 ((df (Zq (hu3 lo y x) p n) (Zq (hu3 lo y x) q n') k i).tmod 65536)],tU),([],2*za),y,x]⟩ [(Zab tU (lo,tU) ([.int .u32 ((df (Zq (hu3 lo y x) p n) (Zq (hu3 lo y x) q n') k i).tmod 65536)],tU) z 0 1,true),(decide ((65536:Int)=0),false),rP (hu3 lo y x) q n' c',rP (hu3 lo y x) p n c,(decide (i<n),true)]:=by and_intros<;>kernel_rfl
theorem ZpM (p q:Option Addr) (n c n' c':Nat) (v:Value) (k i:Int) (h:Hp) (g:Nat→Value):Zg (evC (Zr prog Zf Zn hcV) 100 false (ZaU f91) ([.slice p n c,.slice q n' c',undef,undef,Zp,v,.int .u32 k,.int .i64 i]++tl 27 g,h,[cmp false]) ⟨[],[],[]⟩) 8 27 (some (some 0)) [.slice p n c,.slice q n' c',undef,undef,Zp,v,.int .u32 k,.int .i64 i] h [(decide (i<n),false)]:=by and_intros<;>kernel_rfl
theorem ZpN (a b:Value) (z:Nat) (k i:Int) (x y:List Value×TypeId) (lo:List Value) (g:Nat→Value):Zg (evC (Zr prog Zf Zn hcV) 100 false (ZyR f91) ([a,b,undef,undef,Zp,sl 2 0 z grown,.int .u32 k,.int .i64 i]++tl 27 g,hu3 lo y x,[]) ⟨[],[],[]⟩) 5 30 (some none) [a,b,undef,undef,sl 2 0 (Zl (Zx lo 0 z)) (Zl (Zx lo 0 z))] (hu3 lo y x) [(Zbm tU lo 0 z grown,true)]:=by and_intros<;>kernel_rfl
theorem ZjH (p q:Option Addr) (n c n' c':Nat) (h:Hp):Zg (evC (Zr prog Zf Zn hcV) 100 false (Zs f91) ([.slice p n c,.slice q n' c']++List.replicate 33 undef,h,[cmp false]) ⟨[],[],[]⟩) 5 30 (some none) [.slice p n c,.slice q n' c',undef,undef,Zp] h [(decide ((0:Int)<n),false)]:=by and_intros<;>kernel_rfl
def dfN (A B:List Int) (k i:Nat):Nat:=65536+dgN A i-dgN B i-k
theorem Z0c {A B:List Int}(hA:∀ x∈A,Dg 65536 x) (hB:∀ x∈B,Dg 65536 x) {k:Nat}(hk:k≤1) (i:Nat):df A B k i=((dfN A B k i:Nat):Int)∧dfN A B k i<131072∧dfN A B k i+dgN B i+k=65536+dgN A i:=by
 have h1:=zy hA i;have h2:=zy hB i;unfold df dfN;rw[Zaq,Zaq,← h1.2,← h2.2,zk (n:=65536+_) (by omega) (by omega),zk (n:=65536+_-_) (by omega) (by omega),zk (by omega) (by omega)];omega
theorem Z0d {d:Nat}(h:d<131072):u32.wrap (1-u32.wrap ((d:Int).tdiv 65536))=((1-d/65536:Nat):Int):=by
 rw[Zf1 (by omega),zk (by omega) (by omega)];omega
section
variable {x y : List Value × TypeId} {p q : Option Addr} {n c n' c' : Nat} {A B : List Int}
theorem ZjI (NA:Nu 0 x p n c A) (NB:Nu 1 y q n' c' B) (hA:∀ x∈A,Dg 65536 x) (hB:∀ x∈B,Dg 65536 x) {k i:Nat}{O:List Int}(hk:k≤1) (hi:i<1073741823) (hO:O.length=i) (hgo:i<n) {Y:Lf}
  (hY:(i=0∧k=0∧(∃ g,Y.1=[.slice p n c,.slice q n' c',undef,undef,Zp,Zp,.int .u32 (k:Nat),.int .i64 (i:Nat)]++tl 27 g)∧Y.2.1=hp2 y x)∨(0<i∧(∃ g,Y.1=[.slice p n c,.slice q n' c',undef,undef,Zp,sl 2 0 i grown,.int .u32 (k:Nat),.int .i64 (i:Nat)]++tl 27 g)∧Y.2.1=hu3 (wU O) y x)):
  RunsW (Zr prog Zf Zn hcV) (ZaU f91) Y fun e z=>e=none∧(∃ g,z.1=[.slice p n c,.slice q n' c',undef,undef,Zp,sl 2 0 (i+1) grown,.int .u32 ((1-dfN A B k i/65536:Nat):Int),.int .i64 ((i+1:Nat):Int)]++tl 27 g)∧z.2.1=hu3 (wU (O++[((dfN A B k i % 65536:Nat):Int)])) y x:=by
 obtain⟨t,h',s⟩:=Y;obtain⟨es,hlt,_⟩:=Z0c hA hB hk i;have e1:(df A B k i).tmod 65536=((dfN A B k i % 65536:Nat):Int):=by rw[es,Zf0]
 have e2:u32.wrap (1-u32.wrap ((df A B k i).tdiv 65536))=((1-dfN A B k i/65536:Nat):Int):=by rw[es,Z0d hlt]
 have e3:i64.wrap ((i:Int)+1)=((i+1:Nat):Int):=by rw[Zw (by omega) (by omega)];omega
 have hl:decide ((i:Int)<(n:Nat))=true:=Xa (by omega);rcases hY with ⟨h0,k0,⟨g,ht⟩,hh⟩ | ⟨h0,⟨g,ht⟩,hh⟩
 ·simp only at ht hh;subst ht hh;have r0:=NA.row (hp2 y x) rfl;have r1:=NB.row (hp2 y x) rfl;have fin:=Ze (Zh Zd Zu) (s0:=s) (ZpL p q n c n' c' k i x y g) (okW rfl (okW r1.1 (okW r0.1 (Zt hl))));have hO':O=[]:=List.length_eq_zero_iff.1 (by omega);rw[r0.2,r1.2,e1,e2,e3] at fin;have:=fin.kept (k:=2) (b:=3) (base:=[y,x]) (y:=([.int .u32 ((dfN A B k i % 65536:Nat):Int)],tU)) (front':=[.slice p n c,.slice q n' c',undef,undef,Zp,sl 2 0 1 grown,.int .u32 ((1-dfN A B k i/65536:Nat):Int),.int .i64 ((i+1:Nat):Int)]) rfl
   (by simp only[List.map_cons,List.map_nil,NA.rn (f:=zA 2 3) rfl,NB.rn (f:=zA 2 3) rfl];kernel_rfl) (Zc3 NA NB rfl rfl) rfl (by omega) (fun v hv=>by rw[List.mem_singleton.1 hv];rfl) (fun v hv=>by
    simp only[List.mem_cons,List.not_mem_nil,or_false] at hv;rcases hv with rfl | rfl | rfl | rfl | rfl | rfl | rfl | rfl
    ·exact NA.lt (by omega)
    ·exact NB.lt (by omega)
    all_goals rfl)
  refine this.mono fun e z hz=> ?_;obtain⟨rfl,⟨g',q1⟩,q2⟩:=hz;subst hO' h0;exact⟨rfl,⟨g',q1⟩,q2⟩
 ·simp only at ht hh;subst ht hh;have r0:=NA.row (hu3 (wU O) y x) rfl;have r1:=NB.row (hu3 (wU O) y x) rfl;have hchk:Zab tU (wU O,tU) ([.int .u32 ((df A B k i).tmod 65536)],tU) i 0 1=true:=
   Zba (L:=O) (M:=[(df A B k i).tmod 65536]) hO.symm (show 0<1 by omega) (by show O.length+1≤_;omega)
  have fin:=Ze (Zh Zd Zu) (s0:=s) (ZlL p q n c n' c' i k i x y (wU O) g) (by rw[r0.2,r1.2];exact okW hchk (okW rfl (okW r1.1 (okW r0.1 (Zt hl)))));rw[r0.2,r1.2,e1,e2,e3] at fin;have ew:wU O++[.int .u32 ((dfN A B k i % 65536:Nat):Int)]=wU (O++[((dfN A B k i % 65536:Nat):Int)]):=by rw[ZX];rfl
  rw[ew] at fin;exact fin.kept (k:=2) (b:=4) (base:=[y,x]) (y:=(wU (O++[((dfN A B k i % 65536:Nat):Int)]),tU)) (front':=[.slice p n c,.slice q n' c',undef,undef,Zp,sl 2 0 (i+1) grown,.int .u32 ((1-dfN A B k i/65536:Nat):Int),.int .i64 ((i+1:Nat):Int)]) rfl
   (by simp only[List.map_cons,List.map_nil,NA.rn (f:=zA 2 4) rfl,NB.rn (f:=zA 2 4) rfl];kernel_rfl) (Zc3 NA NB rfl rfl) rfl (by omega) (ZD _) (fun v hv=>by
    simp only[List.mem_cons,List.not_mem_nil,or_false] at hv;rcases hv with rfl | rfl | rfl | rfl | rfl | rfl | rfl | rfl
    ·exact NA.lt (by omega)
    ·exact NB.lt (by omega)
    all_goals rfl)
def sSt (x y:List Value×TypeId) (p q:Option Addr) (n c n' c':Nat) (O:List Int) (i k:Nat) (Y:Lf):Prop:=
 (i=0∧k=0∧(∃ g,Y.1=[.slice p n c,.slice q n' c',undef,undef,Zp,Zp,.int .u32 (k:Nat),.int .i64 (i:Nat)]++tl 27 g)∧Y.2.1=hp2 y x)∨(0<i∧(∃ g,Y.1=[.slice p n c,.slice q n' c',undef,undef,Zp,sl 2 0 i grown,.int .u32 (k:Nat),.int .i64 (i:Nat)]++tl 27 g)∧Y.2.1=hu3 (wU O) y x)
def Z8O (x y:List Value×TypeId) (p q:Option Addr) (n c n' c':Nat) (A B:List Int) (m:Nat) (Y:Lf):Prop:=
 ∃ (i k:Nat) (O:List Int),O.length=i∧m=n-i∧i≤n∧k≤1∧(∀ x∈O,Dg 65536 x)∧vb 65536 O+vb 65536 (B.take i)=vb 65536 (A.take i)+65536^O.length*k∧sSt x y p q n c n' c' O i k Y
def Z5a (x y:List Value×TypeId) (p q:Option Addr) (n c n' c':Nat) (A B:List Int) (Y:Lf):Prop:=
 ∃ (k:Nat) (O:List Int),O.length=n∧(∀ x∈O,Dg 65536 x)∧vb 65536 O+vb 65536 (B.take n)=vb 65536 A+65536^n*k∧sSt x y p q n c n' c' O n k Y
theorem ZlM (NA:Nu 0 x p n c A) (NB:Nu 1 y q n' c' B) (lA:A.length=n) (hA:∀ x∈A,Dg 65536 x) (hB:∀ x∈B,Dg 65536 x) (hn:n<1073741823) (g:Nat→Value):
  RunsW (Zr prog Zf Zn hcV) (.block 0 (.loop (ZaU f91))) ([.slice p n c,.slice q n' c',undef,undef,Zp,Zp,.int .u32 0,.int .i64 0]++tl 27 g,hp2 y x,[]) fun e Y=>match e with | none=>Z5a x y p q n c n' c' A B Y | some none=>False | some (some _)=>False:=by
 refine RunsW.forLoop (P:=Z5a x y p q n c n' c' A B) (R:=fun _=>False) (Z8O x y p q n c n' c' A B) ?_ (n:=n) ⟨0,0,[],rfl,by omega,by omega,by omega,(fun x hx=>by cases hx),by simp [vb],.inl ⟨rfl,rfl,⟨g,rfl⟩,rfl⟩⟩;rintro m Y ⟨i,k,O,hO,hm,hi,hk,hOd,hval,hY⟩;by_cases hgo:i<n
 ·have r:=ZjI NA NB hA hB hk (by omega) hO hgo hY;refine r.mono fun e z hz=> ?_;obtain⟨rfl,z1,z2⟩:=hz;obtain⟨_,hlt,hsum⟩:=Z0c hA hB hk i;refine⟨n-(i+1),by omega,i+1,1-dfN A B k i/65536,O++[((dfN A B k i % 65536:Nat):Int)],by simp [hO],rfl,by omega,by omega,fun x hx=> ?_,?_,.inr ⟨by omega,z1,z2⟩⟩
  ·rcases List.mem_append.1 hx with hx | hx
   ·exact hOd x hx
   ·rw[List.mem_singleton.1 hx];exact⟨by omega,by omega⟩
  ·have ha:vb 65536 (A.take (i+1))=vb 65536 (A.take i)+65536^i*dgN A i:=Zag 65536 A i;have hb:vb 65536 (B.take (i+1))=vb 65536 (B.take i)+65536^i*dgN B i:=Zag 65536 B i;rw[ha,hb,Zda,Xg,List.length_append,hO,List.length_singleton,Nat.pow_succ,Nat.mul_assoc];rw[hO] at hval;generalize 65536^i=P at*;have hq:dfN A B k i/65536≤1:=by omega
   have e:dfN A B k i % 65536+dgN B i+k=dgN A i+65536*(1-dfN A B k i/65536):=by omega
   have e':P*(dfN A B k i % 65536)+P*dgN B i+P*k=P*dgN A i+P*(65536*(1-dfN A B k i/65536)):=by rw[← Nat.mul_add,← Nat.mul_add,← Nat.mul_add,e]
   omega
 ·have hin:i=n:=by omega
  subst hin;have hv:vb 65536 O+vb 65536 (B.take i)=vb 65536 A+65536^i*k:=by
   rw[List.take_of_length_le (show A.length≤i by omega),hO] at hval;exact hval
  have out:∀ (v:Value) (h:Hp) (g:Nat→Value) (s:List Dec),RunsW (Zr prog Zf Zn hcV) (ZaU f91) ([.slice p i c,.slice q n' c',undef,undef,Zp,v,.int .u32 (k:Nat),.int .i64 (i:Nat)]++tl 27 g,h,s) fun e z=>e=some (some 0)∧(∃ g,z.1=[.slice p i c,.slice q n' c',undef,undef,Zp,v,.int .u32 (k:Nat),.int .i64 (i:Nat)]++tl 27 g)∧z.2.1=h:=fun v h g s=>
   Ze (Zh Zd Zu) (ZpM p q i c n' c' v k i h g) (Zt (Xb (by omega)))
  obtain⟨t,h',s⟩:=Y;rcases hY with ⟨h0,k0,⟨g,ht⟩,hh⟩ | ⟨h0,⟨g,ht⟩,hh⟩
  ·simp only at ht hh;subst ht hh;refine (out Zp _ g s).mono fun e z hz=> ?_;obtain⟨rfl,z1,z2⟩:=hz;exact⟨rfl,k,O,hO,hOd,hv,.inl ⟨h0,k0,z1,z2⟩⟩
  ·simp only at ht hh;subst ht hh;refine (out (sl 2 0 i grown) _ g s).mono fun e z hz=> ?_;obtain⟨rfl,z1,z2⟩:=hz;exact⟨rfl,k,O,hO,hOd,hv,.inr ⟨h0,z1,z2⟩⟩
theorem ZlN (NA:Nu 0 x p n c A) (NB:Nu 1 y q n' c' B) (lA:A.length=n) (hA:∀ x∈A,Dg 65536 x) (hB:∀ x∈B,Dg 65536 x) (hn:n<1073741823) (h0:0<n) (hle:vb 65536 B≤vb 65536 A) {V:Nat}(hV:V=vb 65536 A-vb 65536 B):
  RunsW (Zr prog Zf Zn hcV) (ZW (Zj9 f91) (.seq (.seq (aR3 f91) (.block 0 (.loop (ZaU f91)))) (ZyR f91))) ([.slice p n c,.slice q n' c']++List.replicate 33 undef,hp2 y x,[]) fun e z=>(e=none∨e=some none)∧ZV prog f91 z.1 z.2.1=some (sl 2 0 (d16 V).length (d16 V).length)∧∃ r,z.2.1.blk? 2=some (wU (d16 V)++r,tU):=by
 refine Z0 (Zh Zd Zu) (ZpK _ _ _) (fun x hx=>by cases hx) fun g=> ?_;refine Zgs (Ze (Zh Zd Zu) (Zuz _ _ _ g) (fun x hx=>by cases hx)) (fun e y he=>by cases he.1) (P2:=fun e Y=>match e with | none=>Z5a x y p q n c n' c' A B Y | some none=>False | some (some _)=>False) ?_ ?_ ?_
 ·rintro⟨t,h',s⟩ ⟨_,⟨g',ht⟩,hh⟩;simp only at ht hh;subst ht hh;exact RunsW.script (ZlM NA NB lA hA hB hn g')
 ·intro e y he
  match e,he with
  | none,he=>exact he
  | some id,he=>exact he
 ·rintro⟨t,h',s⟩ ⟨k,O,hO,hOd,hval,hY⟩;have hv:vb 65536 O=vb 65536 A-vb 65536 B:=by
   have l1:=Zbl (by omega) A hA;have l2:=Zbl (by omega) O hOd;have hsp:vb 65536 B=vb 65536 (B.take n)+65536^(B.take n).length*vb 65536 (B.drop n):=by rw[← Zay,List.take_append_drop]
   rw[lA] at l1;rw[hO] at l2;have hpos:0<65536^n:=Nat.pow_pos (by omega);have hz:65536^(B.take n).length*vb 65536 (B.drop n)=0:=by
    by_cases hb:B.length≤n
    ·rw[List.drop_eq_nil_of_le hb];simp [vb]
    ·have hl:(B.take n).length=n:=by rw[List.length_take];omega
     rw[hl] at hsp ⊢;rcases Nat.eq_zero_or_pos (vb 65536 (B.drop n)) with h | h
     ·rw[h];rfl
     ·have:=Nat.le_mul_of_pos_right (65536^n) h;omega
   have hk:k=0:=by
    rcases Nat.eq_zero_or_pos k with h | h
    ·exact h
    ·have:=Nat.le_mul_of_pos_right (65536^n) h;omega
   subst hk;omega
  rcases hY with ⟨e0,_⟩ | ⟨_,⟨g',ht⟩,hh⟩
  ·omega
  ·simp only at ht hh;subst ht hh;have hrow:Zbm tU (wU O) 0 n grown=true:=by
    rw[← hO];exact Zap (fun x hx=>⟨(hOd x hx).1,by have:=(hOd x hx).2;omega⟩) (by omega) (ZyQ _)
   refine (Ze (Zh Zd Zu) (ZpN _ _ n k n x y (wU O) g') (Zt hrow)).mono fun e z he=> ?_;obtain⟨rfl,⟨g2,e1⟩,e2⟩:=he;have et:Zl (Zx (wU O) 0 n)=(d16 V).length:=by
    rw[← hO,ZaO,Zat (by omega) hOd,hv,← hV];rfl
   refine⟨.inr rfl,?_,?_⟩
   ·rw[e1,e2,et];rfl
   ·rw[e2];refine⟨wU (O.drop (Zl O)),?_⟩;have e3:wU (d16 V)++wU (O.drop (Zl O))=wU O:=by
     unfold d16;rw[hV,← hv,← zj (by omega) _ hOd,← ZX,List.take_append_drop]
    rw[e3];rfl
end
def ZpO:Zad:=fun vals h s=>
 match vals,s with
 | [.slice p n c,.slice q n' c'],.inr (.inr (.inr (.inl d)))::s'=>
  match d with
  | true=>Zde (vO h p n-vO h q n') h s' [(ZT h p q n c n' c' && Nat.ble (vO h q n') (vO h p n),true),(decide (0<n),true)]
  | false=>some (Zp,h,s',[(ZT h p q n c n' c',true),(decide (0<n),false)])
 | _,_=>none
theorem Zio:Z8 91 ZpO:=by
 intro vals h s v h' s' lg hg hl m B w E hv;unfold ZpO at hg;split at hg
 ·rename_i p n c q n' c' d s2;split at hg
  ·unfold Zde at hg;cases hg;have q1:=hl _ (Xe);have q2:=hl _ (Xd _ Xf);simp only[Xi,Xh] at q1 q2;obtain⟨q1,q3⟩:=q1;have q3:=Nat.le_of_ble_eq_true q3;obtain⟨r1,r2,d1,d2,hn⟩:=Zc6 q1;obtain⟨x,p',a,NA,eA,fA⟩:=ZbF 0 r1;obtain⟨y,q',b,NB,eB,fB⟩:=ZbF 1 r2;have r:=ZlN NA NB (zK r1) d1 d2 (by omega) q2 q3 rfl;have:=ZE (T:=Zr prog Zf Zn hcV) func91 ZlK (Zc4 NA NB) (vals:=[.slice p' n c,.slice q' n' c']) (fun v hv=>by
    simp only[List.mem_cons,List.not_mem_nil,or_false] at hv;rcases hv with rfl | rfl
    ·exact NA.lt (by show 0<2;omega)
    ·exact NB.lt (by show 1<2;omega)) (k:=2) (cs:=wU (d16 (vO h p n-vO h q n'))) (ty:=tU) (Zbb _) (by kernel_rfl) r (by rfl) E (s:=ZeQ a b) (Zc5 fA fB)
   simp only[List.map_cons,List.map_nil] at this;rw[eA _ rfl,eB _ rfl] at this;exact this
  ·cases hg;have q1:=hl _ (Xe);have q2:=hl _ (Xd _ Xf);simp only[decide_eq_false_iff_not] at q1 q2;obtain⟨r1,r2,d1,d2,hn⟩:=Zc6 q1;obtain⟨x,p',a,NA,eA,fA⟩:=ZbF 0 r1;obtain⟨y,q',b,NB,eB,fB⟩:=ZbF 1 r2;have hr:Runs (Zr prog Zf Zn hcV) (Zs f91) ([.slice p' n c,.slice q' n' c']++List.replicate 33 undef,hp2 y x,[]) fun e z=>(e=none∨e=some none)∧ZV prog f91 z.1 z.2.1=some Zp:=by
    refine (Zb (Zh Zd Zu) (ZjH p' q' n c n' c' _) (Zt (Xb (by omega)))).mono fun e z he=> ?_;obtain⟨rfl,⟨g,e2⟩,e3⟩:=he;refine⟨.inr rfl,?_⟩;rw[e2,e3];rfl
   have:=ZB (T:=Zr prog Zf Zn hcV) func91 ZjG (Zc4 NA NB) (vals:=[.slice p' n c,.slice q' n' c']) (fun v hv=>by
    simp only[List.mem_cons,List.not_mem_nil,or_false] at hv;rcases hv with rfl | rfl
    ·exact NA.lt (by show 0<2;omega)
    ·exact NB.lt (by show 1<2;omega)) (v:=Zp) (by rfl) hr.w E (s:=ZeQ a b) (Zc5 fA fB)
   simp only[List.map_cons,List.map_nil] at this;rw[eA _ rfl,eB _ rfl] at this;exact this
 ·cases hg
def ZcR (a b:Nat):Int:=if a<b then -1 else if a=b then 0 else 1
theorem Zip (b:Nat) (L:List Int) (k:Nat):vb b L=vb b (L.take k)+b^k*vb b (L.drop k):=by
 by_cases h:k≤L.length
 ·have e:(L.take k).length=k:=by rw[List.length_take];omega
  have:=Zay b (L.take k) (L.drop k);rw[List.take_append_drop,e] at this;exact this
 ·rw[List.take_of_length_le (by omega),List.drop_eq_nil_of_le (by omega)];simp [vb]
theorem Zcj {L:List Int}(k:Nat):vb 65536 (L.drop k)=dgN L k+65536*vb 65536 (L.drop (k+1)):=by
 by_cases h:k<L.length
 ·rw[List.drop_eq_getElem_cons h];simp only[vb,dgN];rw[Zil h]
 ·rw[List.drop_eq_nil_of_le (by omega),List.drop_eq_nil_of_le (by omega),Zee (by omega)];rfl
theorem ZlO {L:List Int}(h:∀ x∈L,Dg 65536 x) (k:Nat):vb 65536 (L.take k)<65536^k:=by
 have h1:=Zbl (b:=65536) (by omega) (L.take k) (fun x hx=>h x (List.mem_of_mem_take hx));have h2:(L.take k).length≤k:=by rw[List.length_take];omega
 exact Nat.lt_of_lt_of_le h1 (Nat.pow_le_pow_right (by omega) h2)
theorem ZlP {A B:List Int}(hA:∀ x∈A,Dg 65536 x) {k:Nat}(he:vb 65536 (A.drop (k+1))=vb 65536 (B.drop (k+1))) (hd:dgN A k<dgN B k):vb 65536 A<vb 65536 B:=by
 have a1:=Zip 65536 A k;have b1:=Zip 65536 B k;have a2:=ZlO hA k;rw[Zcj,he] at a1;rw[Zcj] at b1;generalize vb 65536 (B.drop (k+1))=D at*;generalize 65536^k=P at*;have h1:P*(dgN A k+65536*D+1)≤P*(dgN B k+65536*D):=Nat.mul_le_mul_left _ (by omega);rw[Nat.mul_add P _ 1,Nat.mul_one] at h1;omega
def Z5b (F:Func):List Code:=[Z2 (Zs F)]
def kR1 (F:Func):Code:=Z2 (Z2 (Zz (Zs F)))
def Zhk (F:Func):Code:=cIn (cIn (Zz (Z2 (Zz (Zs F)))))
def Z5c (F:Func):Code:=Zz (Zz (Zs F))
theorem ZlQ:f92.body=some (ZW (Z5b f92) (.seq (.seq (kR1 f92) (.block 0 (.loop (Zhk f92)))) (Z5c f92))):=by kernel_rfl
def mxI (n n':Nat):Int:=i64.wrap ((if (n':Int)>n then (n':Int) else n)-1)
theorem ZpP (a b:Value) (h:Hp):Zg (evL (Zr prog Zf Zn hcV) 100 (Z5b f92) ([a,b]++List.replicate 28 undef,h,[]) ⟨[],[],[]⟩) 5 25 none [a,b,undef,undef,.int .i64 0] h []:=by and_intros<;>kernel_rfl
theorem Zu0 (p q:Option Addr) (n c n' c':Nat) (h:Hp) (g:Nat→Value):Zg (evC (Zr prog Zf Zn hcV) 100 false (kR1 f92) ([.slice p n c,.slice q n' c',undef,undef,.int .i64 0]++tl 25 g,h,[]) ⟨[],[],[]⟩) 6 24 none [.slice p n c,.slice q n' c',undef,undef,.int .i64 0,.int .i64 (mxI n n')] h []:=by and_intros<;>kernel_rfl
theorem Zu1 (p q:Option Addr) (n c n' c':Nat) (i:Int) (x y:List Value×TypeId) (g:Nat→Value):Zg (evC (Zr prog Zf Zn hcV) 100 false (Zhk f92) ([.slice p n c,.slice q n' c',undef,undef,.int .i64 0,.int .i64 i]++tl 24 g,hp2 y x,[cmp true,cmp true]) ⟨[],[],[]⟩) 6 24 (some none) [.slice p n c,.slice q n' c',undef,undef,.int .i64 (-1),.int .i64 i] (hp2 y x) [(decide (atN (Zq (hp2 y x) p n) i<atN (Zq (hp2 y x) q n') i),true),rP (hp2 y x) q n' c',rP (hp2 y x) p n c,(decide (i≥0),true)]:=by and_intros<;>kernel_rfl
theorem Zu2 (p q:Option Addr) (n c n' c':Nat) (i:Int) (x y:List Value×TypeId) (g:Nat→Value):Zg (evC (Zr prog Zf Zn hcV) 100 false (Zhk f92) ([.slice p n c,.slice q n' c',undef,undef,.int .i64 0,.int .i64 i]++tl 24 g,hp2 y x,[cmp true,cmp false,cmp true]) ⟨[],[],[]⟩) 6 24 (some none) [.slice p n c,.slice q n' c',undef,undef,.int .i64 1,.int .i64 i] (hp2 y x) [(decide (atN (Zq (hp2 y x) p n) i>atN (Zq (hp2 y x) q n') i),true),rP (hp2 y x) q n' c',rP (hp2 y x) p n c,(decide (atN (Zq (hp2 y x) p n) i<atN (Zq (hp2 y x) q n') i),false),rP (hp2 y x) q n' c',rP (hp2 y x) p n c,(decide (i≥0),true)]:=by and_intros<;>kernel_rfl
theorem Zu3 (p q:Option Addr) (n c n' c':Nat) (i:Int) (x y:List Value×TypeId) (g:Nat→Value):Zg (evC (Zr prog Zf Zn hcV) 100 false (Zhk f92) ([.slice p n c,.slice q n' c',undef,undef,.int .i64 0,.int .i64 i]++tl 24 g,hp2 y x,[cmp true,cmp false,cmp false]) ⟨[],[],[]⟩) 6 24 none [.slice p n c,.slice q n' c',undef,undef,.int .i64 0,.int .i64 (i1 i)] (hp2 y x) [(decide (atN (Zq (hp2 y x) p n) i>atN (Zq (hp2 y x) q n') i),false),rP (hp2 y x) q n' c',rP (hp2 y x) p n c,(decide (atN (Zq (hp2 y x) p n) i<atN (Zq (hp2 y x) q n') i),false),rP (hp2 y x) q n' c',rP (hp2 y x) p n c,(decide (i≥0),true)]:=by and_intros<;>kernel_rfl
theorem ZpQ (a b:Value) (i:Int) (h:Hp) (g:Nat→Value):Zg (evC (Zr prog Zf Zn hcV) 100 false (Zhk f92) ([a,b,undef,undef,.int .i64 0,.int .i64 i]++tl 24 g,h,[cmp false]) ⟨[],[],[]⟩) 6 24 (some (some 0)) [a,b,undef,undef,.int .i64 0,.int .i64 i] h [(decide (i≥0),false)]:=by and_intros<;>kernel_rfl
theorem ZpR (a b:Value) (i:Int) (h:Hp) (g:Nat→Value):Zg (evC (Zr prog Zf Zn hcV) 100 false (Z5c f92) ([a,b,undef,undef,.int .i64 0,.int .i64 i]++tl 24 g,h,[]) ⟨[],[],[]⟩) 5 25 (some none) [a,b,undef,undef,.int .i64 0] h []:=by and_intros<;>kernel_rfl
section
variable {x y : List Value × TypeId} {p q : Option Addr} {n c n' c' : Nat} {A B : List Int}
def Z5d (p q:Option Addr) (n c n' c':Nat) (A B:List Int) (Y:Lf):Prop:=∃ i g,Y.1=[.slice p n c,.slice q n' c',undef,undef,.int .i64 (ZcR (vb 65536 A) (vb 65536 B)),.int .i64 i]++tl 24 g
theorem ZlR (NA:Nu 0 x p n c A) (NB:Nu 1 y q n' c' B) (lA:A.length=n) (lB:B.length=n') (hA:∀ x∈A,Dg 65536 x) (hB:∀ x∈B,Dg 65536 x) (hn:max n n'+2<1073741824) (g:Nat→Value):
  Runs (Zr prog Zf Zn hcV) (.block 0 (.loop (Zhk f92))) ([.slice p n c,.slice q n' c',undef,undef,.int .i64 0,.int .i64 (mxI n n')]++tl 24 g,hp2 y x,[]) fun e Y=>match e with | none=>ZcR (vb 65536 A) (vb 65536 B)=0∧∃ i g,Y.1=[.slice p n c,.slice q n' c',undef,undef,.int .i64 0,.int .i64 i]++tl 24 g | some none=>Z5d p q n c n' c' A B Y | some (some _)=>False:=by
 have em:mxI n n'=((max n n':Nat):Int)-1:=by
  unfold mxI;split
  ·rw[Zw (by omega) (by omega)];omega
  ·rw[Zw (by omega) (by omega)];omega
 refine Runs.forLoop (P:=fun Y=>ZcR (vb 65536 A) (vb 65536 B)=0∧∃ i g,Y.1=[.slice p n c,.slice q n' c',undef,undef,.int .i64 0,.int .i64 i]++tl 24 g) (R:=Z5d p q n c n' c' A B)
  (fun k Y=>k≤max n n'∧vb 65536 (A.drop k)=vb 65536 (B.drop k)∧(∃ g,Y.1=[.slice p n c,.slice q n' c',undef,undef,.int .i64 0,.int .i64 ((k:Nat)-1:Int)]++tl 24 g)∧Y.2.1=hp2 y x) ?_ (n:=max n n') ⟨Nat.le_refl _,by rw[List.drop_eq_nil_of_le (by omega),List.drop_eq_nil_of_le (by omega)],⟨g,by rw[em]⟩,rfl⟩
 rintro k ⟨t,h',s⟩ ⟨hk,he,⟨g,ht⟩,hh⟩;simp only at ht hh;subst ht hh;cases k with
 | zero=>
  refine (Zb (Zh Zd Zu) (ZpQ _ _ _ _ g) (Zt (Xb (by omega)))).mono fun e z hz=> ?_;obtain⟨rfl,⟨g',z1⟩,z2⟩:=hz;refine⟨rfl,?_,_,g',z1⟩;simp only[List.drop_zero] at he;unfold ZcR;rw[he];simp
 | succ k=>
  have ek:((k+1:Nat):Int)-1=(k:Int):=by omega
  rw[ek];have r0:=NA.row (hp2 y x) rfl;have r1:=NB.row (hp2 y x) rfl;have d1:=zy hA k;have d2:=zy hB k;have hg:decide ((k:Int)≥0)=true:=Xa (by omega);by_cases h1:dgN A k<dgN B k
  ·have hlt:=ZlP hA he h1;refine (Zb (Zh Zd Zu) (Zu1 p q n c n' c' k x y g) (by
    rw[r0.2,r1.2,Zaq,Zaq,← d1.2,← d2.2];exact okW (Xa (by omega)) (okW r1.1 (okW r0.1 (Zt hg))))).mono fun e z hz=> ?_
   obtain⟨rfl,⟨g',z1⟩,z2⟩:=hz;refine⟨k,g',?_⟩;rw[z1];unfold ZcR;rw[if_pos hlt]
  ·by_cases h2:dgN B k<dgN A k
   ·have hlt:=ZlP hB he.symm h2;refine (Zb (Zh Zd Zu) (Zu2 p q n c n' c' k x y g) (by
     rw[r0.2,r1.2,Zaq,Zaq,← d1.2,← d2.2];exact okW (Xa (by omega)) (okW r1.1 (okW r0.1 (okW (Xb (by omega)) (okW r1.1 (okW r0.1 (Zt hg)))))))).mono fun e z hz=> ?_
    obtain⟨rfl,⟨g',z1⟩,z2⟩:=hz;refine⟨k,g',?_⟩;rw[z1];unfold ZcR;rw[if_neg (by omega),if_neg (by omega)]
   ·refine (Zb (Zh Zd Zu) (Zu3 p q n c n' c' k x y g) (by
     rw[r0.2,r1.2,Zaq,Zaq,← d1.2,← d2.2];exact okW (Xb (by omega)) (okW r1.1 (okW r0.1 (okW (Xb (by omega)) (okW r1.1 (okW r0.1 (Zt hg)))))))).mono fun e z hz=> ?_
    obtain⟨rfl,⟨g',z1⟩,z2⟩:=hz;have e1:i1 (k:Int)=(k:Int)-1:=by unfold i1;rw[Zw (by omega) (by omega)]
    refine⟨k,by omega,by omega,?_,⟨g',by rw[z1,e1]⟩,z2⟩;rw[Zcj,Zcj (L:=B),he];omega
theorem ZlS (NA:Nu 0 x p n c A) (NB:Nu 1 y q n' c' B) (lA:A.length=n) (lB:B.length=n') (hA:∀ x∈A,Dg 65536 x) (hB:∀ x∈B,Dg 65536 x) (hn:max n n'+2<1073741824):
  Runs (Zr prog Zf Zn hcV) (ZW (Z5b f92) (.seq (.seq (kR1 f92) (.block 0 (.loop (Zhk f92)))) (Z5c f92))) ([.slice p n c,.slice q n' c']++List.replicate 28 undef,hp2 y x,[]) fun e z=>(e=none∨e=some none)∧ZV prog f92 z.1 z.2.1=some (.int .i64 (ZcR (vb 65536 A) (vb 65536 B))):=by
 refine Zv (Zh Zd Zu) (ZpP _ _ _) (fun x hx=>by cases hx) fun g=> ?_;refine Runs.seq (P1:=fun e Y=>match e with | none=>ZcR (vb 65536 A) (vb 65536 B)=0∧∃ i g,Y.1=[.slice p n c,.slice q n' c',undef,undef,.int .i64 0,.int .i64 i]++tl 24 g | some none=>Z5d p q n c n' c' A B Y | some (some _)=>False) (Runs.seq (P1:=fun e Y=>e=none∧(∃ g,Y.1=[.slice p n c,.slice q n' c',undef,undef,.int .i64 0,.int .i64 (mxI n n')]++tl 24 g)∧Y.2.1=hp2 y x) (Zb (Zh Zd Zu) (Zu0 p q n c n' c' _ g) (fun x hx=>by cases hx)) ?_ (fun e y he=>by cases he.1)) ?_ ?_
 ·rintro⟨t,h',s⟩ ⟨_,⟨g',ht⟩,hh⟩;simp only at ht hh;subst ht hh;exact Runs.script (ZlR NA NB lA lB hA hB hn g')
 ·rintro⟨t,h',s⟩ ⟨e0,i,g',ht⟩;simp only at ht;subst ht;refine (Zb (Zh Zd Zu) (ZpR _ _ i h' g') (fun x hx=>by cases hx)).mono fun e z hz=> ?_;obtain⟨rfl,⟨g2,z1⟩,z2⟩:=hz;refine⟨.inr rfl,?_⟩;rw[z1,e0];rfl
 ·intro e Y he
  match e,he with
  | none,⟨i,g',h1⟩=>
   refine⟨.inr rfl,?_⟩;rw[h1];rfl
end
def ZlT:Zad:=fun vals h s=>
 match vals with
 | [.slice p n c,.slice q n' c']=>some (.int .i64 (ZcR (vO h p n) (vO h q n')),h,s,[(ZT h p q n c n' c',true)])
 | _=>none
theorem Zf3:Z8 92 ZlT:=by
 intro vals h s v h' s' lg hg hl m B w E hv;unfold ZlT at hg;split at hg
 ·rename_i p n c q n' c';cases hg;have q1:=hl _ Xf;simp only at q1;obtain⟨r1,r2,d1,d2,hn⟩:=Zc6 q1;obtain⟨x,p',a,NA,eA,fA⟩:=ZbF 0 r1;obtain⟨y,q',b,NB,eB,fB⟩:=ZbF 1 r2;have r:=ZlS NA NB (zK r1) (zK r2) d1 d2 hn;have:=ZB (T:=Zr prog Zf Zn hcV) func92 ZlQ (Zc4 NA NB) (vals:=[.slice p' n c,.slice q' n' c']) (fun v hv=>by
   simp only[List.mem_cons,List.not_mem_nil,or_false] at hv;rcases hv with rfl | rfl
   ·exact NA.lt (by show 0<2;omega)
   ·exact NB.lt (by show 1<2;omega)) (by rfl) r.w E (s:=ZeQ a b) (Zc5 fA fB)
  simp only[List.map_cons,List.map_nil] at this;rw[eA _ rfl,eB _ rfl] at this;exact this
 ·cases hg
end Go.Proofs.YtjlponbdflkbjaaGreatDoor
namespace Go.Nt
def bl (V:Nat):Nat:=if _h:V=0 then 0 else bl (V/2)+1
 termination_by V
 decreasing_by omega
theorem Zdf:bl 0=0:=by rw[bl];simp
theorem ZeW {V:Nat}(h:V≠0):bl V=bl (V/2)+1:=by rw[bl];rw[dif_neg h]
theorem Zu4 (V:Nat):V<2^bl V:=by
 induction V using Nat.strongRecOn with
 | ind V ih=>
  by_cases h:V=0
  ·subst h;rw[Zdf];decide
  ·rw[ZeW h,Nat.pow_succ];have:=ih (V/2) (by omega);omega
theorem Zu5 {V:Nat}(h:V≠0):2^(bl V-1)≤V:=by
 induction V using Nat.strongRecOn with
 | ind V ih=>
  rw[ZeW h,Nat.add_sub_cancel];by_cases h2:V/2=0
  ·rw[h2,Zdf];omega
  ·have i:=ih (V/2) (by omega) h2;have e:bl (V/2)=(bl (V/2)-1)+1:=by
    have:=ZeW h2;omega
   rw[e,Nat.pow_succ];omega
theorem ZlU {V k:Nat}(h0:2^k≤V) (h1:V<2^(k+1)):bl V=k+1:=by
 have hp:0<2^k:=Nat.pow_pos (by omega);have hV:V≠0:=by omega
 have a1:=Zu4 V;have a2:=Zu5 hV;have a3:bl V≠0:=by have:=ZeW hV;omega
 rcases Nat.lt_or_ge (bl V) (k+1) with h | h
 ·have:=Nat.pow_le_pow_right (show 0<2 by omega) (show bl V≤k by omega);omega
 ·rcases Nat.lt_or_ge (k+1) (bl V) with h' | h'
  ·have:=Nat.pow_le_pow_right (show 0<2 by omega) (show k+1≤bl V-1 by omega);omega
  ·omega
theorem ZpS {V k:Nat}(h:V<2^k):bl V≤k:=by
 by_cases hV:V=0
 ·subst hV;rw[Zdf];omega
 ·have a:=Zu5 hV;rcases Nat.lt_or_ge k (bl V) with h' | h'
  ·have:=Nat.pow_le_pow_right (show 0<2 by omega) (show k≤bl V-1 by omega);omega
  ·exact h'
theorem Zf4 (k:Nat):65536^k=2^(16*k):=by rw[show (65536:Nat)=2^16 from rfl,← Nat.pow_mul]
theorem Z0e {t lo k:Nat}(ht:t≠0) (hlo:lo<65536^k):bl (lo+65536^k*t)=16*k+bl t:=by
 have a1:=Zu4 t;have a2:=Zu5 ht;have a3:bl t≠0:=by have:=ZeW ht;omega
 rw[Zf4] at*;have e:16*k+bl t=(16*k+(bl t-1))+1:=by omega
 rw[e];refine ZlU ?_ ?_
 ·rw[Nat.pow_add];have:=Nat.mul_le_mul_left (2^(16*k)) a2;omega
 ·rw[Nat.add_assoc,show bl t-1+1=bl t by omega,Nat.pow_add];have:=Nat.mul_le_mul_left (2^(16*k)) (show t+1≤2^bl t by omega);rw[Nat.mul_add,Nat.mul_one] at this;omega
end Go.Nt
namespace Go.Proofs.YtjlponbdflkbjaaGreatDoor
open Go.Proofs.Tryz
open Go.IntKind
open Go.KRun Go.Nt
set_option maxRecDepth 100000
def nA (F:Func):Code:=Z2 (Zz (Zs F))
def nR3 (F:Func):Code:=Z2 (Zz (Zz (Zs F)))
def nR4 (F:Func):Code:=Z2 (Z2 (Zz (Zz (Zz (Zs F)))))
def nLp (F:Func):Code:=cIn (cIn (Zz (Z2 (Zz (Zz (Zz (Zs F)))))))
def nEn (F:Func):Code:=Zz (Zz (Zz (Zz (Zs F))))
def nPr (F:Func):List Code:=[Z2 (Zs F),nA F,nR3 F]
theorem ZlV:f46.body=some (ZW (nPr f46) (.seq (.seq (nR4 f46) (.block 0 (.loop (nLp f46)))) (nEn f46))):=by kernel_rfl
theorem ZjJ:f46.body=some (Zs f46):=by kernel_rfl
def n16 (n:Nat):Int:=i64.wrap (16*n1 n)
theorem ZpT (o n c:Nat) (h:Hp):Zg (evL (Zr prog Zf Zn hcV) 100 (nPr f46) ([sl 0 o n c]++List.replicate 24 undef,h,[cmp false]) ⟨[],[],[]⟩) 4 21 none [sl 0 o n c,undef,.int .i64 0,.int .i64 (n16 n)] h [((n:Int)==0,false)]:=by and_intros<;>kernel_rfl
theorem Zu6 (o n c:Nat) (x:Int) (l:List Value) (v:Value) (g:Nat→Value):Zg (evC (Zr prog Zf Zn hcV) 100 false (nR4 f46) ([sl 0 o n c,undef,.int .i64 0,v]++tl 21 g,⟨1,[(l,tR)]⟩,[at_,val (.int .u32 x)]) ⟨[],[],[]⟩) 5 20 none [sl 0 o n c,undef,.int .i64 0,v,.int .u32 x] ⟨1,[(l,tR)]⟩ [(Z5 (l[o+(n1 n).toNat*1]?) (.int .u32 x),true),(decide (0≤n1 n∧n1 n<n),true)]:=by and_intros<;>kernel_rfl
theorem ZlW (p:Option Addr) (n c:Nat) (h:Hp):Zg (evC (Zr prog Zf Zn hcV) 100 false (Zs f46) ([.slice p n c]++List.replicate 24 undef,h,[cmp true]) ⟨[],[],[]⟩) 3 22 (some none) [.slice p n c,undef,.int .i64 0] h [((n:Int)==0,true)]:=by and_intros<;>kernel_rfl
theorem Zu7 (a:Value) (n x:Int) (h:Hp) (g:Nat→Value):Zg (evC (Zr prog Zf Zn hcV) 100 false (nLp f46) ([a,undef,.int .i64 0,.int .i64 n,.int .u32 x]++tl 20 g,h,[cmp true]) ⟨[],[],[]⟩) 5 20 none [a,undef,.int .i64 0,.int .i64 (i64.wrap (n+1)),.int .u32 (u32.wrap (x.tdiv 2))] h [(decide (x>0),true)]:=by and_intros<;>kernel_rfl
theorem ZpU (a:Value) (n x:Int) (h:Hp) (g:Nat→Value):Zg (evC (Zr prog Zf Zn hcV) 100 false (nLp f46) ([a,undef,.int .i64 0,.int .i64 n,.int .u32 x]++tl 20 g,h,[cmp false]) ⟨[],[],[]⟩) 5 20 (some (some 0)) [a,undef,.int .i64 0,.int .i64 n,.int .u32 x] h [(decide (x>0),false)]:=by and_intros<;>kernel_rfl
theorem ZpV (a:Value) (n x:Int) (h:Hp) (g:Nat→Value):Zg (evC (Zr prog Zf Zn hcV) 100 false (nEn f46) ([a,undef,.int .i64 0,.int .i64 n,.int .u32 x]++tl 20 g,h,[]) ⟨[],[],[]⟩) 3 22 (some none) [a,undef,.int .i64 n] h []:=by and_intros<;>kernel_rfl
theorem ZlX (a:Value) (n x:Nat) (hn:n+32<4611686018427387904) (hx:x<4294967296) (h:Hp) (g:Nat→Value):
  Runs (Zr prog Zf Zn hcV) (.block 0 (.loop (nLp f46))) ([a,undef,.int .i64 0,.int .i64 (n:Nat),.int .u32 (x:Nat)]++tl 20 g,h,[]) fun e Y=>match e with | none=>(∃ g,Y.1=[a,undef,.int .i64 0,.int .i64 ((n+bl x:Nat):Int),.int .u32 0]++tl 20 g)∧Y.2.1=h | some none=>False | some (some _)=>False:=by
 refine Runs.forLoop (P:=fun Y=>(∃ g,Y.1=[a,undef,.int .i64 0,.int .i64 ((n+bl x:Nat):Int),.int .u32 0]++tl 20 g)∧Y.2.1=h) (R:=fun _=>False)
  (fun k Y=>∃ j:Nat,k≤x∧j+bl k=n+bl x∧(∃ g,Y.1=[a,undef,.int .i64 0,.int .i64 (j:Nat),.int .u32 (k:Nat)]++tl 20 g)∧Y.2.1=h) ?_ (n:=x) ⟨n,Nat.le_refl _,rfl,⟨g,rfl⟩,rfl⟩
 rintro k ⟨t,h',s⟩ ⟨j,hk,hj,⟨g,ht⟩,hh⟩;simp only at ht hh;subst ht hh;have hb:bl x≤32:=ZpS (by show x<2^32;omega);by_cases h0:k=0
 ·subst h0;refine (Zb (Zh Zd Zu) (ZpU a j 0 h' g) (Zt rfl)).mono fun e z hz=> ?_;obtain⟨rfl,⟨g',z1⟩,z2⟩:=hz;rw[Zdf] at hj;exact⟨rfl,⟨g',by rw[z1,show (n+bl x)=j from by omega]⟩,z2⟩
 ·refine (Zb (Zh Zd Zu) (Zu7 a j k h' g) (Zt (Xa (by omega)))).mono fun e z hz=> ?_;obtain⟨rfl,⟨g',z1⟩,z2⟩:=hz;have e1:=ZeW h0;have e2:i64.wrap ((j:Int)+1)=((j+1:Nat):Int):=by rw[Zw (by omega) (by omega)];omega
  have e3:u32.wrap ((k:Int).tdiv 2)=((k/2:Nat):Int):=by rw[Int.tdiv_eq_ediv_of_nonneg (by omega),zk (by omega) (by omega)];omega
  exact⟨k/2,by omega,j+1,by omega,by omega,⟨g',by rw[z1,e2,e3]⟩,z2⟩
theorem ZlY {l:List Value}{o c:Nat}{L:List Int}(hR:Row l o L) (hC:Zbk 65536 L) (h0:0<L.length) (hn:L.length<1073741824):
  Runs (Zr prog Zf Zn hcV) (ZW (nPr f46) (.seq (.seq (nR4 f46) (.block 0 (.loop (nLp f46)))) (nEn f46))) ([sl 0 o L.length c]++List.replicate 24 undef,⟨1,[(l,tR)]⟩,[]) fun e z=>(e=none∨e=some none)∧ZV prog f46 z.1 z.2.1=some (.int .i64 ((bl (vb 65536 L):Nat):Int)):=by
 have ek:n1 L.length=((L.length-1:Nat):Int):=by
  unfold n1;rw[Zw (by omega) (by omega)];omega
 have e16:n16 L.length=((16*(L.length-1):Nat):Int):=by
  unfold n16;rw[ek,Zw (by omega) (by omega)];omega
 have htop:dgN L (L.length-1)≠0:=by
  rcases Zct L with h | h
  ·rw[hC.2] at h;omega
  ·rw[hC.2] at h;have:=Zed hC.1 (L.length-1);unfold dgN;omega
 have hd:=zy hC.1 (L.length-1);have hval:bl (vb 65536 L)=16*(L.length-1)+bl (dgN L (L.length-1)):=by
  have e:=Zag 65536 L (L.length-1);rw[show L.length-1+1=L.length by omega,List.take_length] at e;rw[e];exact Z0e htop (ZlO hC.1 _)
 refine Zv (Zh Zd Zu) (ZpT o L.length c _) (Zt (beq_eq_false_iff_ne.2 (by omega))) fun g=> ?_;refine Runs.seq (P1:=fun e Y=>match e with | none=>(∃ g,Y.1=[sl 0 o L.length c,undef,.int .i64 0,.int .i64 ((bl (vb 65536 L):Nat):Int),.int .u32 0]++tl 20 g)∧Y.2.1=⟨1,[(l,tR)]⟩ | some none=>False | some (some _)=>False) (Runs.seq (P1:=fun e Y=>e=none∧(∃ g,Y.1=[sl 0 o L.length c,undef,.int .i64 0,.int .i64 (n16 L.length),.int .u32 (L.getD (L.length-1) 0)]++tl 20 g)∧Y.2.1=⟨1,[(l,tR)]⟩) (Zb (Zh Zd Zu) (Zu6 o L.length c (L.getD (L.length-1) 0) l _ g) (Zi (by rw[ek,Xg,Nat.mul_one,hR.cell (by omega)];simp [Z5]) (Zt (by rw[ek];exact Xa (by omega))))) ?_ (fun e y he=>by cases he.1)) ?_ (fun e Y he=>by match e,he with | none,he=>exact he.elim | some id,he=>exact he.elim)
 ·rintro⟨t,h',s⟩ ⟨_,⟨g',ht⟩,hh⟩;simp only at ht hh;subst ht hh;rw[e16,← hd.2];refine Runs.script ((ZlX _ (16*(L.length-1)) (dgN L (L.length-1)) (by omega) (by omega) _ g').mono fun e Y he=> ?_)
  match e,he with
  | none,he=>rw[hval];exact he
 ·rintro⟨t,h',s⟩ ⟨⟨g',ht⟩,hh⟩;simp only at ht hh;subst ht hh;refine (Zb (Zh Zd Zu) (ZpV _ _ _ _ g') (fun x hx=>by cases hx)).mono fun e z hz=> ?_;obtain⟨rfl,⟨g2,z1⟩,z2⟩:=hz;refine⟨.inr rfl,?_⟩;rw[z1,z2];rfl
def Zf5 (L:List Int):Bool:=dgB L && Nat.beq (Zl L) L.length
theorem Zef {L:List Int}(h:Zf5 L=true):Zbk 65536 L:=by
 unfold Zf5 at h;simp only[Xh] at h;exact⟨Zbw h.1,Xj h.2⟩
theorem Zdg {L:List Int}(h:Zbk 65536 L):Zf5 L=true:=by
 unfold Zf5;rw[ZbG h.1,h.2,Nat.beq_refl];rfl
def ZpW:Zad:=fun vals h s=>
 match vals with
 | [.slice p n c]=>some (.int .i64 ((bl (vO h p n):Nat):Int),h,s,[(zJ h p n c && Zf5 (Zq h p n) && Nat.blt n 1073741824,true)])
 | _=>none
theorem Ziq:Z8 46 ZpW:=by
 intro vals h s v h' s' lg hg hl m B w E hv;unfold ZpW at hg;split at hg
 ·rename_i p n c;cases hg;have q:=hl _ Xf;simp only[Xh] at q;obtain⟨⟨q1,q2⟩,q3⟩:=q;have q2:=Zef q2;have q3:=Zo.1 q3;have hlen:=zK q1;by_cases hn:n=0
  ·subst hn;have e0:Zq h p 0=[]:=List.length_eq_zero_iff.1 hlen;have ev:vO h p 0=0:=by unfold vO;rw[e0];rfl
   obtain⟨x,p',a,NA,eA,fA⟩:=ZbF 0 q1;have hr:Runs (Zr prog Zf Zn hcV) (Zs f46) ([.slice p' 0 c]++List.replicate 24 undef,⟨1,[x]⟩,[]) fun e z=>(e=none∨e=some none)∧ZV prog f46 z.1 z.2.1=some (.int .i64 ((bl (vO h p 0):Nat):Int)):=by
    refine (Zb (Zh Zd Zu) (ZlW p' 0 c _) (Zt rfl)).mono fun e z he=> ?_;obtain⟨rfl,⟨g,e2⟩,e3⟩:=he;refine⟨.inr rfl,?_⟩;rw[e2,e3,ev,Zdf];rfl
   have b1:∀ {i:Nat}{z:List Value×TypeId},(⟨1,[x]⟩:Hp).blk? i=some z→i=0∧z=x:=fun {i z} hz=>by
    have:i<1:=Hp.blk_lt hz;have hi:i=0:=by omega
    subst hi;exact⟨rfl,(Option.some.inj hz).symm⟩
   have:=ZB (T:=Zr prog Zf Zn hcV) func46 ZjJ (h0:=⟨1,[x]⟩) ⟨rfl,fun b z hz=>by obtain⟨_,rfl⟩:=b1 hz;exact⟨NA.ros.1,NA.lt0,NA.ros.2⟩⟩ (vals:=[.slice p' 0 c]) (fun v hv=>by rw[List.mem_singleton.1 hv];exact NA.lt (by show 0<1;omega)) (by rfl) hr.w E (s:=fun _=>a) (fun i z hz ht=>by obtain⟨_,rfl⟩:=b1 hz;exact fA ht);simp only[List.map_cons,List.map_nil] at this;rw[eA _ rfl] at this;exact this
  ·rcases ZF q1 with ⟨rfl,rfl,rfl,e0⟩ | ⟨b,o,x,rfl,hx,r1,_,e0⟩
   ·exact absurd rfl hn
   ·rw[e0] at q2 hlen;obtain⟨h1,h2,h3,h4,h5,h6,h7⟩:=zt r1;have r:=ZlY (c:=c) h1 q2 (by rw[h2];omega) (by rw[h2];exact q3);rw[h2] at r;have ev:vO h (some ⟨b,o,none⟩) n=vb 65536 (Zx x.1 o n):=by unfold vO;rw[e0]
    rw[ev];exact ZB (T:=Zr prog Zf Zn hcV) func46 ZlV (ZaK h7) (vals:=[sl 0 o n c]) (fun v hv=>by rw[List.mem_singleton.1 hv];rfl) (by rfl) r.w E (s:=fun _=>b) (zH hx h5 h6 rfl)
 ·cases hg
end Go.Proofs.YtjlponbdflkbjaaGreatDoor
namespace Go.Proofs.YtjlponbdflkbjaaGreatDoor.Na
open Go.KRun Go.Nt
set_option maxRecDepth 100000
set_option linter.unusedVariables false
section
variable {l : List Value} {o c : Nat} {A : List Int}
def d32 (V:Nat):List Int:=db 4294967296 V
end
end Go.Proofs.YtjlponbdflkbjaaGreatDoor.Na
namespace Go.KRun
open Go.ChangeShapes Go.WideShapes Go.ChangeAt Go.RowKit Go.Joins
theorem Zhl {w w':World}(h:Zal w w') (a:Addr):w'.frozen? a=w.frozen? a:=by
 unfold World.frozen?;by_cases h1:a.block<w.heap.size
 ·rw[h.1.block _ h1]
 ·rw[Array.getElem?_eq_none (by omega:w.heap.size≤a.block)];by_cases h2:a.block<w'.heap.size
  ·have h3:=h.2 a.block (by omega) h2;unfold Zzj at h3;split
   ·rename_i c e lo hi hc;have:=h3 _ _ _ hc;cases this;simp
   ·rfl
  ·rw[Array.getElem?_eq_none (by omega:w'.heap.size≤a.block)]
theorem ZjK {n:Int}(h:(Lit.int .u64 n).wf=true):0≤n∧n<18446744073709551616:=by
 simp [Lit.wf,IntKind.min,IntKind.max,IntKind.signed,IntKind.bits] at h;omega
section
variable {H : Type} {enc : TypeId × Value → H} {P : Program} {w : World}
structure Lain (w:World) (b off:Nat) (cs:Array Value) (zs:List Int):Prop where
 heap:∃ ty z,w.heap[b]? =some (.cells cs ty z)
 room:off+zs.length≤cs.size
 cell:∀ i,i<zs.length→cs[off+i]? =some (.int .u32 (zs.getD i 0))
 wf:∀ n∈zs,(Lit.int .u32 n).wf=true
end
end Go.KRun
namespace Go.Proofs.YtjlponbdflkbjaaGreatDoor.Na
open Go.KRun Go.Nt
set_option maxRecDepth 100000
set_option linter.unusedVariables false
theorem ZsS {x:Bool×Bool}{l:Log}(h:Z3 (x::l)):x.1=x.2∧Z3 l:=⟨h _ Xe,fun y hy=>h y (Xd _ hy)⟩
end Go.Proofs.YtjlponbdflkbjaaGreatDoor.Na
namespace Go.Nt
theorem Zhm:∀ {L:List Int},wds L→vN L=(vb 4294967296 L:Nat)
 | [],_=>rfl
 | x::r,h=>by
  obtain⟨h1,h2⟩:=Zae h;have:=Zhm h2;show x+4294967296*vN r=((x.toNat+4294967296*vb 4294967296 r:Nat):Int);rw[this];omega
theorem ZjL:∀ (m:Nat) (V:Int),0≤V→V<4294967296^m→vN (dg m V)=V
 | 0,V,h0,h1=>by
  have:V=0:=by rw[Int.pow_zero] at h1;omega
  subst this;rfl
 | m+1,V,h0,h1=>by
  rw[pw] at h1;have h2:=ZjL m (V/4294967296) (by omega) (by omega);simp only[dg,vN];rw[h2];omega
theorem Zu8 {m:Nat}{V:Nat}(h:(V:Int)<4294967296^m):(dg m V).take (Zl (dg m V))=db 4294967296 V:=by
 have hw:=Za2 m V;rw[zj (b:=4294967296) (by omega) _ hw];have h1:=ZjL m V (by omega) h;rw[Zhm hw] at h1;rw[Int.ofNat.inj h1]
theorem Zgv (L M:List Int):∀ k,Zan L M k= -1∨Zan L M k=0∨Zan L M k=1
 | 0=> .inr (.inl rfl)
 | k+1=>by
  unfold Zan;split
  ·exact Zgv L M k
  ·split
   ·exact .inl rfl
   ·exact .inr (.inr rfl)
theorem Zu9 (L M:List Int):Zci L M= -1∨Zci L M=0∨Zci L M=1:=by
 unfold Zci;split
 ·exact Zgv _ _ _
 ·split
  ·exact .inl rfl
  ·exact .inr (.inr rfl)
theorem ZuA {L M:List Int}(hL:Zbi L) (hM:Zbi M):Zci L M=if vb 4294967296 L<vb 4294967296 M then -1 else if vb 4294967296 L=vb 4294967296 M then 0 else 1:=by
 have h:=Zij hL hM;rw[Zhm hL.1,Zhm hM.1] at h;have h3:=Zu9 L M;split
 ·have:=h.1.2 (by omega);omega
 ·split
  ·exact h.2.2 (by omega)
  ·have h1:¬ Zci L M<0:=fun hx=>by have:=h.1.1 hx;omega
   have h2:¬ Zci L M=0:=fun hx=>by have:=h.2.1 hx;omega
   omega
theorem ZeX {b V:Nat}(hb:2≤b):0<(db b V).length↔0<V:=by
 rw[List.length_pos_iff,ne_eq,Zcz hb];omega
theorem ZlZ:∀ (m:Nat) (V:Int),vN (dg m V)+4294967296^m*(V/4294967296^m)=V
 | 0,V=>by simp [dg,vN]
 | m+1,V=>by
  have h:=ZlZ m (V/4294967296);simp only[dg,vN];rw[pw,← Int.ediv_ediv_of_nonneg (show (0:Int)≤4294967296 by omega),Int.mul_assoc];omega
theorem ZuB {P a b x y z k d e A B:Int}(he:k+(x*y+z)=d+4294967296*e) (h:a+P*((z+4294967296*A)+x*(y+4294967296*B)+k)=b):a+P*d+4294967296*P*(A+x*B+e)=b:=by
 rw[← h];have e1:(z+4294967296*A)+x*(y+4294967296*B)+k=d+4294967296*(A+x*B+e):=by
  rw[Int.mul_add x y,← Int.mul_assoc x 4294967296 B,Int.mul_comm x 4294967296,Int.mul_assoc 4294967296 x B];omega
 rw[e1];generalize A+x*B+e=Z;rw[Int.mul_add P d,← Int.mul_assoc P 4294967296 Z,Int.mul_comm P 4294967296];omega
theorem Z0f {x y:Int}(hx:0≤x∧x<4294967296) (hy:0≤y∧y<4294967296):0≤x*y∧x*y≤18446744065119617025:=by
 constructor
 ·exact Int.mul_nonneg hx.1 hy.1
 ·have h1:x*y≤4294967295*y:=Int.mul_le_mul_of_nonneg_right (by omega) hy.1;omega
theorem Z5e {M B x Q:Int}(hM:0≤M∧M<Q) (hB:0≤B∧B<Q) (hx:0≤x∧x<4294967296):0≤M+x*B∧M+x*B<Q*4294967296:=by
 have h0:=Int.mul_nonneg hx.1 hB.1;have h1:x*B≤4294967295*B:=Int.mul_le_mul_of_nonneg_right (by omega) hB.1;omega
theorem ZpX {T Q:Int}(hQ:0<Q) (h:0≤T∧T<Q*4294967296):0≤T/Q∧T/Q<4294967296:=
 ⟨Int.ediv_nonneg h.1 (by omega),Int.ediv_lt_of_lt_mul hQ (by rw[Int.mul_comm];exact h.2)⟩
theorem ZpY {M:List Int}{T:Int}(hT:0≤T∧T<4294967296^M.length*4294967296):∃ y m,dg M.length T++[T/4294967296^M.length]=y::m∧m.length=M.length∧wds [y]∧wds m∧y+4294967296*vN m=T:=by
 have hc:=ZpX (Zav M.length) hT;have hw:wds (dg M.length T++[T/4294967296^M.length]):=Zaf (Za2 _ _) (fun x hx=>by rw[List.mem_singleton.1 hx];exact hc);have hl:(dg M.length T++[T/4294967296^M.length]).length=M.length+1:=by rw[List.length_append,ZS];rfl
 have hv:vN (dg M.length T++[T/4294967296^M.length])=T:=by rw[zo,ZS];exact ZlZ _ _
 cases h:dg M.length T++[T/4294967296^M.length] with
 | nil=>rw[h] at hl;simp at hl
 | cons y m=>
  rw[h] at hw hl hv;obtain⟨w1,w2⟩:=Zae hw;refine⟨y,m,rfl,by simpa using hl,fun x hx=>by rw[List.mem_singleton.1 hx];exact w1,w2,hv⟩
theorem ZuC {P d m A B x y m':Int}(hT:y+4294967296*m'=m+x*B) (h:d+P*m=A*B):d+P*y+4294967296*P*m'=(A+P*x)*B:=by
 have e1:P*y+4294967296*P*m'=P*(m+x*B):=by
  rw[← hT,Int.mul_add,← Int.mul_assoc P 4294967296 m',Int.mul_comm P 4294967296]
 rw[Int.add_mul,← h,Int.mul_assoc P x B];rw[Int.mul_add] at e1;omega
theorem ZsT:∀ n:Nat,vN (List.replicate n 0)=0
 | 0=>rfl
 | n+1=>by
  rw[List.replicate_succ];simp only[vN];rw[ZsT n];rfl
end Go.Nt
