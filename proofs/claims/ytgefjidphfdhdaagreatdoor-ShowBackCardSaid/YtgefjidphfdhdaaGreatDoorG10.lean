/-
  TxE, TxI, TxJ, TxK, NumTy, TxL, NumZ, NumY, Num, Num2
-/
import Derived.Test.YtgefjidphfdhdaaGreatDoorG09
namespace Go.Proofs.YtgefjidphfdhdaaGreatDoor.Na
open Go.IntKind
open Go.KRun Go.Nt
set_option maxRecDepth 100000
theorem Zmf {p:Nat}(hp:p<4294967296):∀ j,pNx (p:Nat) j=((p/10^j:Nat):Int)
 | 0=>by simp [pNx]
 | j+1=>by
  have h1:p/10^j≤p:=Nat.div_le_self _ _;rw[show pNx (p:Nat) (j+1)=u32.wrap ((pNx (p:Nat) j).tdiv 10) from rfl,Zmf hp j,Nat.pow_succ,← Nat.div_div_eq_div_mul];generalize p/10^j=q at*;rw[Int.tdiv_eq_ediv_of_nonneg (by omega)];simp [IntKind.wrap,IntKind.bits,IntKind.signed];omega
theorem Zs2 {p:Nat}:dgV (p:Nat)=ub (asc ((p % 10:Nat):Int)):=by
 have e:((p:Nat):Int).tmod 10=((p % 10:Nat):Int):=by rw[Int.tmod_eq_emod_of_nonneg (by omega)];omega
 unfold dgV asc;rw[e];congr 1;simp [IntKind.wrap,IntKind.bits,IntKind.signed];omega
theorem Zmg {p:Nat}(hp:p<4294967296) (D:List Int):∀ j,apB (wB (D.map asc)) (p:Nat) j=wB ((D++ld j p).map asc)
 | 0=>by simp [apB,ld]
 | j+1=>by
  rw[show apB (wB (D.map asc)) (p:Nat) (j+1)=apB (wB (D.map asc)) (p:Nat) j++[dgV (pNx (p:Nat) j)] from rfl,Zmg hp D j,Zmf hp j,Zs2,Zmd];simp [wB]
theorem Zqb {L:List Int}{x:Int}{k:Nat}(hk:k=L.length) (hb:k<1073741824):ZfJ tBy (wB L,tBy) ([ub x],tBy) k 0 1=true:=by
 subst hk;unfold ZfJ;simp only[Xh,Bool.not_eq_true',Zgi];refine⟨⟨⟨⟨⟨⟨⟨⟨Nat.beq_refl _,Nat.ble_eq_true_of_le (by omega)⟩,by kernel_rfl⟩,by kernel_rfl⟩,by kernel_rfl⟩,by kernel_rfl⟩,by rfl⟩,by rfl⟩,by rfl⟩
theorem Zs3 {p:Nat}(hp:p<4294967296) (D:List Int) {m j:Nat}(hm:m=D.length+j) (hb:m<1073741824):(apL (wB (D.map asc)) (p:Nat) m j).1=(apL (wB (D.map asc)) (p:Nat) m j).2:=by
 unfold apL;simp only;rw[Zmg hp D j,Zmf hp j,Zs2];exact Zqb (by simp [Zi2,hm]) hb
theorem Zfb (L:List Int):(wB L).all still=true:=by
 unfold wB;rw[List.all_eq_true];intro v hv;obtain⟨x,_,rfl⟩:=List.mem_map.1 hv;rfl
theorem Z4x {k V:Nat}(h:10^(9*k)≤V) {e:Nat}(he:e=262144) (hV:V<2^e):k<9040:=by
 have h1:(2:Nat)^(29*k)≤10^(9*k):=by
  rw[Nat.pow_mul,Nat.pow_mul];exact Nat.pow_le_pow_left (by decide) k
 rcases Nat.lt_or_ge k 9040 with h2 | h2
 ·exact h2
 ·exfalso
  have h3:(2:Nat)^e≤2^(29*k):=Nat.pow_le_pow_right (by omega) (by omega);omega
def dX (k:Nat) (D:List Int):List (List Value×TypeId):=if k=0 then [] else [(wB (D.map asc),tBy)]
def dS (k:Nat) (D:List Int):Value:=if k=0 then ZD else .slice (some ⟨2,0,none⟩) D.length grown
def Z3f (a:Value) (la:List Value) (N V:Nat) (r:Nat) (y:Lf):Prop:=∃ (k:Nat) (D W Z:List Int) (w:Value) (g:Nat→Value),y.1=dF a (sl 1 0 W.length N) (dS k D) w++tl 38 g∧y.2.1=hX (dX k D) (wU (W++Z)) la∧D.length=9*k∧(∀ x∈D,Dg 10 x)∧wds (W++Z)∧Zg W=W.length∧(W++Z).length=N∧vb 10 D+10^(9*k)*vb 4294967296 W=V∧r=vb 4294967296 W∧k≤9040
theorem Zi3 {W:List Int}(hw:wds W) (ht:Zg W=W.length):0<vb 4294967296 W↔0<W.length:=by
 have hd:db 4294967296 (vb 4294967296 W)=W:=ZyX (by omega) ⟨fun x hx=>⟨(hw x hx).1,by have:=(hw x hx).2;omega⟩,ht⟩;constructor
 ·intro h;rcases Nat.eq_zero_or_pos W.length with h0 | h0
  ·rw[List.length_eq_zero_iff.1 h0] at h;exact absurd h (by decide)
  ·exact h0
 ·intro h;rcases Nat.eq_zero_or_pos (vb 4294967296 W) with h0 | h0
  ·rw[h0,zp] at hd;rw[← hd] at h;exact absurd h (by decide)
  ·exact h0
theorem Z4y {W:List Int}(h:wds W):∀ x∈W,Dg 4294967296 x:=fun x hx=>⟨(h x hx).1,by have:=(h x hx).2;omega⟩
theorem Z0q (V:Nat):wds (db 4294967296 V):=fun x hx=>by
 have:=ZeM (b:=4294967296) (by omega) V x hx;exact⟨this.1,by have:=this.2;omega⟩
theorem Zqc {W Z:List Int}(h:wds (W++Z)):tpP (wU (W++Z)) W.length=((vb 4294967296 W % 1000000000:Nat):Int)∧∃ Z',tpS (wU (W++Z)) W.length=wU (db 4294967296 (vb 4294967296 W/1000000000)++Z')∧trS (wU (W++Z)) W.length=(db 4294967296 (vb 4294967296 W/1000000000)).length∧wds (db 4294967296 (vb 4294967296 W/1000000000)++Z')∧(db 4294967296 (vb 4294967296 W/1000000000)++Z').length=(W++Z).length:=by
 have hW:wds W:=fun x hx=>h x (List.mem_append_left _ hx);have hZ:wds Z:=fun x hx=>h x (List.mem_append_right _ hx);have ec:Zt (wU (W++Z)) 0 W.length=W:=by rw[Zfa,List.take_left]
 have ev:=ZfZ hW;have e1:vN W/1000000000=((vb 4294967296 W/1000000000:Nat):Int):=by rw[ev];omega
 have lt:vb 4294967296 W<4294967296^W.length:=Zd6 (by omega) W (Z4y hW);have hq:vb 4294967296 W/1000000000<4294967296^W.length:=Nat.lt_of_le_of_lt (Nat.div_le_self _ _) lt;have hqi:((vb 4294967296 W/1000000000:Nat):Int)<(4294967296:Int)^W.length:=by
  have h1:=Int.ofNat_lt.2 hq;rw[Int.natCast_pow] at h1;exact h1
 have eS:tpS (wU (W++Z)) W.length=wU (dg W.length ((vb 4294967296 W/1000000000:Nat):Int)++Z):=by
  unfold tpS;rw[ec,e1];have:(wU (W++Z)).drop W.length=wU Z:=by unfold wU;rw[List.map_append,List.drop_left' (by simp)]
  rw[this];unfold wU;rw[List.map_append]
 have hdg:wds (dg W.length ((vb 4294967296 W/1000000000:Nat):Int)):=Zac _ _;have htk:=Zll (m:=W.length) (V:=vb 4294967296 W/1000000000) hqi;have eT:trS (wU (W++Z)) W.length=(db 4294967296 (vb 4294967296 W/1000000000)).length:=by
  unfold trS;rw[eS,Zfa,List.take_left' (ZB _ _),← htk,List.length_take,ZB];have:=za (dg W.length ((vb 4294967296 W/1000000000:Nat):Int));rw[ZB] at this;omega
 have eD:dg W.length ((vb 4294967296 W/1000000000:Nat):Int)=db 4294967296 (vb 4294967296 W/1000000000)++(dg W.length ((vb 4294967296 W/1000000000:Nat):Int)).drop (Zg (dg W.length ((vb 4294967296 W/1000000000:Nat):Int))):=by
  conv=>lhs;rw[← List.take_append_drop (Zg (dg W.length ((vb 4294967296 W/1000000000:Nat):Int))) (dg W.length ((vb 4294967296 W/1000000000:Nat):Int))]
  rw[htk]
 refine⟨?_,(dg W.length ((vb 4294967296 W/1000000000:Nat):Int)).drop (Zg (dg W.length ((vb 4294967296 W/1000000000:Nat):Int)))++Z,?_,eT,?_,?_⟩
 ·unfold tpP;rw[ec,ev];omega
 ·rw[eS,← List.append_assoc,← eD]
 ·rw[← List.append_assoc,← eD];exact z8 hdg hZ
 ·rw[← List.append_assoc,← eD];simp [ZB]
end Go.Proofs.YtgefjidphfdhdaaGreatDoor.Na
namespace Go.Proofs.YtgefjidphfdhdaaGreatDoor.Na
open Go.Proofs.Tryz
open Go.IntKind
open Go.KRun Go.Nt
set_option maxRecDepth 100000
def uP (F:Func):List Code:=[ZA (Zw F),ZA (ZV (Zw F))]
def uC2 (F:Func):Code:=ZV (ZV (Zw F))
def uR2 (F:Func):Code:=ZA (ZA (uC2 F))
def uL1 (F:Func):Code:=cIn (cIn (ZV (ZA (uC2 F))))
def uR7 (F:Func):Code:=ZA (ZA (ZV (uC2 F)))
def uL2 (F:Func):Code:=cIn (cIn (ZV (ZA (ZV (uC2 F)))))
def uE (F:Func):Code:=ZV (ZV (uC2 F))
theorem Zi4:f186.body=some (Zaj (uP f186) (.seq (.seq (uR2 f186) (.block 0 (.loop (uL1 f186)))) (.seq (.seq (uR7 f186) (.block 2 (.loop (uL2 f186)))) (uE f186)))):=by kernel_rfl
def hW1 (S:List Value):Hp:=⟨1,[(S,tU)]⟩
def u1F (w:Value) (s:ByteArray) (c:Int) (i:Value) (k:Int):List Value:=[w,.string s,undef,undef,ZD,.int .u64 c,i,undef,undef,.string s,.int .i64 s.size,.int .i64 k]
def upC (c b:Int):Int:=u64.wrap (u64.wrap (c*10)+u64.wrap (u8.wrap (b-48)))
theorem Z4z (w:Value) (s:ByteArray) (h:Hp):Zk (evL (Ze prog Zi Zn true) 100 (uP f186) ([w,.string s]++List.replicate 49 undef,h,[]) ⟨[],[],[]⟩) 9 42 none [w,.string s,undef,undef,ZD,.int .u64 0,undef,undef,undef] h []:=by and_intros<;>kernel_rfl
theorem Z7k (w:Value) (s:ByteArray) (h:Hp) (g:Nat→Value):Zk (evC (Ze prog Zi Zn true) 100 false (uR2 f186) ([w,.string s,undef,undef,ZD,.int .u64 0,undef,undef,undef]++tl 42 g,h,[]) ⟨[],[],[]⟩) 12 39 none (u1F w s 0 undef 0) h []:=by and_intros<;>kernel_rfl
theorem Z7l (w:Value) (s:ByteArray) (c:Int) (i:Value) (k:Int) (h:Hp) (g:Nat→Value):Zk (evC (Ze prog Zi Zn true) 100 false (uL1 f186) (u1F w s c i k++tl 39 g,h,[cmp false]) ⟨[],[],[]⟩) 12 39 (some (some 0)) (u1F w s c i k) h [(decide (k<s.size),false)]:=by and_intros<;>kernel_rfl
theorem Z7m (w:Value) (s:ByteArray) (c:Int) (i:Value) (k:Int) (h:Hp) (g:Nat→Value):Zk (evC (Ze prog Zi Zn true) 100 false (uL1 f186) (u1F w s c i k++tl 39 g,h,[cmp true]) ⟨[],[],[]⟩) 12 39 none (u1F w s (upC c ((s.data.toList.getD k.toNat 0).toNat:Nat)) (.int .i64 k) (i64.wrap (k+1))) h [(decide (0≤k∧k.toNat<s.data.toList.length),true),(decide (k<s.size),true)]:=by and_intros<;>kernel_rfl
def u2A (w:Value) (s:ByteArray) (c:Int) (i v x:Value):List Value:=[w,.string s,undef,undef,ZD,.int .u64 c,i,v,x]
def u2M (w:Value) (n:Nat) (j:Int):List Value:=[w,.int .i64 n,.int .i64 j]
theorem Z7n (n C:Nat) (s:ByteArray) (c:Int) (i:Value) (k:Int) (h:Hp) (g:Nat→Value):Zd4 (evC (Ze prog Zi Zn true) 100 false (uR7 f186) (u1F (sl 0 0 n C) s c i k++tl 39 g,h,[]) ⟨[],[],[]⟩) 9 14 3 25 none (u2A (sl 0 0 n C) s c i undef undef) (u2M (sl 0 0 n C) n 0) h []:=by and_intros<;>kernel_rfl
theorem Z7o (n C:Nat) (s:ByteArray) (c:Int) (i v x:Value) (j:Int) (h:Hp) (g g':Nat→Value):Zd4 (evC (Ze prog Zi Zn true) 100 false (uL2 f186) (ml (u2A (sl 0 0 n C) s c i v x) 14 g (u2M (sl 0 0 n C) n j) 25 g',h,[cmp false]) ⟨[],[],[]⟩) 9 14 3 25 (some (some 2)) (u2A (sl 0 0 n C) s c i v x) (u2M (sl 0 0 n C) n j) h [(decide (j<n),false)]:=by and_intros<;>kernel_rfl
def Zyl (c x:Int):Int:=u64.wrap (c+u64.wrap (u64.wrap x*1000000000))
theorem Z7p (n C:Nat) (s:ByteArray) (c:Int) (i v x0:Value) (j x:Int) (S:List Value) (g g':Nat→Value):Zd4 (evC (Ze prog Zi Zn true) 100 false (uL2 f186) (ml (u2A (sl 0 0 n C) s c i v x0) 14 g (u2M (sl 0 0 n C) n j) 25 g',hW1 S,[cmp true,at_,val (uu x),at_,at_]) ⟨[],[],[]⟩) 9 14 3 25 none (u2A (sl 0 0 n C) s ((Zyl c x).fdiv (2^min (Int.toNat 32) 64)) i (.int .i64 j) (uu x)) (u2M (sl 0 0 n C) n (i64.wrap (j+1))) (hW1 (S.set (0+j.toNat*1) (uu (u32.wrap (Zyl c x))))) [(decide ((32:Int)<0),false),(decide (0+j.toNat*1<S.length),true),inR j n,ZbO S 0 j x,inR j n,(decide (j<n),true)]:=by and_intros<;>kernel_rfl
theorem Z7q (n C:Nat) (s:ByteArray) (c:Int) (i v x:Value) (j:Int) (h:Hp) (g g':Nat→Value):Zk (evC (Ze prog Zi Zn true) 100 false (uE f186) (ml (u2A (sl 0 0 n C) s c i v x) 14 g (u2M (sl 0 0 n C) n j) 25 g',h,[cmp false]) ⟨[],[],[]⟩) 5 46 (some none) [sl 0 0 n C,.string s,undef,undef,sl 0 0 n C] h [(c !=0,false)]:=by and_intros<;>kernel_rfl
theorem Z7r (n C:Nat) (s:ByteArray) (c:Int) (i v x:Value) (j:Int) (S:List Value) (g g':Nat→Value):Zk (evC (Ze prog Zi Zn true) 100 false (uE f186) (ml (u2A (sl 0 0 n C) s c i v x) 14 g (u2M (sl 0 0 n C) n j) 25 g',hW1 S,[cmp true,sam true]) ⟨[],[],[]⟩) 5 46 (some none) [sl 0 0 (n+1) C,.string s,undef,undef,sl 0 0 (n+1) C] ⟨2,[([uu (u32.wrap c)],tU),(S.take n++[uu (u32.wrap c)]++S.drop (n+1),tU)]⟩ [(ZfK tU (S,tU) ([uu (u32.wrap c)],tU) n C 0 1,true),(c !=0,true)]:=by and_intros<;>kernel_rfl
def dgF (s:ByteArray) (j:Nat):Int:=byT s j-48
theorem Zez {s:ByteArray}(h:Zo5 s) {j:Nat}(hj:j<s.size):(48≤byT s j∧byT s j≤57)∧0≤dgF s j∧dgF s j<10:=by
 have h1:=h j hj;unfold ZfC at h1;simp only[Bool.or_eq_false_iff,decide_eq_false_iff_not] at h1;unfold dgF;omega
theorem Z7s {c b:Int}(hc:0≤c∧c<1000000000) (hb:48≤b∧b≤57):upC c b=c*10+(b-48):=by
 unfold upC;simp [IntKind.wrap,IntKind.bits,IntKind.signed];omega
theorem Z7t {c x:Int}(hc:0≤c∧c<1000000000) (hx:0≤x∧x<4294967296):u32.wrap (Zyl c x)=(c+x*1000000000) % 4294967296∧(Zyl c x).fdiv (2^min (Int.toNat 32) 64)=(c+x*1000000000)/4294967296:=by
 have e:Zyl c x=c+x*1000000000:=by
  unfold Zyl;simp [IntKind.wrap,IntKind.bits,IntKind.signed];omega
 have e2:((2:Int)^min (Int.toNat 32) 64)=4294967296:=rfl;rw[e,e2,Int.fdiv_eq_ediv_of_nonneg _ (by omega)];refine⟨?_,rfl⟩;simp [IntKind.wrap,IntKind.bits,IntKind.signed]
theorem Z40 {k:Nat}(h:k≤9):(10:Nat)^k≤1000000000:=by
 have:=Nat.pow_le_pow_right (show 0<10 by omega) h;exact this
theorem Z41 {w:Value}{s:ByteArray}(hs:Zo5 s) (h9:s.size≤9) (h:Hp) (g:Nat→Value) (sc:List Dec):
  Runs (Ze prog Zi Zn true) (.block 0 (.loop (uL1 f186))) (u1F w s 0 undef 0++tl 39 g,h,sc) fun e z=>e=none∧∃ (i:Value) (k:Int) (g:Nat→Value),z.1=u1F w s ((zn (dgF s) s.size:Nat):Int) i k++tl 39 g∧z.2.1=h:=by
 have hT:=Zd Zh;refine (Runs.forLoop (R:=fun _=>False) (P:=fun z=>∃ (i:Value) (k:Int) (g:Nat→Value),z.1=u1F w s ((zn (dgF s) s.size:Nat):Int) i k++tl 39 g∧z.2.1=h)
  (fun r z=>∃ (k:Nat) (i:Value) (g:Nat→Value),z.1=u1F w s ((zn (dgF s) k:Nat):Int) i k++tl 39 g∧z.2.1=h∧k≤s.size∧r=s.size-k)
  ?_ (n:=s.size) ⟨0,undef,g,rfl,rfl,by omega,by omega⟩).mono fun e z hz=> ?_
 ·rintro r ⟨t,h',sc'⟩ ⟨k,i,g,ht,hh,hk,hr⟩;simp only at ht hh;subst ht hh;by_cases hc:k<s.size
  ·obtain⟨b1,b2⟩:=Zez hs hc;have hlt:=Zb4 (f:=dgF s) k (fun j hj=>(Zez hs (show j<s.size by omega)).2);have hp:=Z40 (show k≤9 by omega);have eC:=Z7s (c:=((zn (dgF s) k:Nat):Int)) ⟨by omega,by omega⟩ b1;have l1:decide ((0:Int)≤(k:Nat)∧((k:Nat):Int).toNat<s.data.toList.length)=true:=Xa ⟨by omega,by rw[Xg];exact hc⟩;refine (Zc hT (Z7m w s _ i (k:Nat) h' g) (Za l1 (Zy (Xa (by omega))))).mono fun e z he=> ?_;obtain⟨rfl,⟨g',z1⟩,z2⟩:=he;refine⟨s.size-(k+1),by omega,k+1,.int .i64 (k:Nat),g',?_,z2,by omega,rfl⟩;rw[z1,Xg];have eb:(((s.data.toList.getD k 0).toNat:Nat):Int)=byT s k:=rfl;rw[eb,eC,Zv (by omega) (by omega)];congr 2;simp only[zn];have:((dgF s k).toNat:Int)=byT s k-48:=by unfold dgF at*;omega
   omega
  ·refine (Zc hT (Z7l w s _ i (k:Nat) h' g) (Zy (Xb (by omega)))).mono fun e z he=> ?_;obtain⟨rfl,⟨g',z1⟩,z2⟩:=he;rw[show k=s.size by omega] at z1;exact⟨rfl,i,_,g',z1,z2⟩
 ·match e,hz with
  | none,hz=>exact⟨rfl,hz⟩
theorem Z42 {n C:Nat}{s:ByteArray}{P:Int}(hP:0≤P∧P<1000000000) {L:List Int}(hL:wds L) (hn:L.length=n) (hN:n<4611686018427387904) {Z:List Value}(i v x:Value) (g g':Nat→Value) (sc:List Dec):
  Runs (Ze prog Zi Zn true) (.block 2 (.loop (uL2 f186))) (ml (u2A (sl 0 0 n C) s P i v x) 14 g (u2M (sl 0 0 n C) n 0) 25 g',hW1 (wU L++Z),sc) fun e z=>e=none∧∃ (i v x:Value) (j:Int) (g g':Nat→Value),z.1=ml (u2A (sl 0 0 n C) s ((vN L*1000000000+P)/4294967296^n) i v x) 14 g (u2M (sl 0 0 n C) n j) 25 g'∧z.2.1=hW1 (wU (dg n (vN L*1000000000+P))++Z):=by
 have hT:=Zd Zh;refine (Runs.forLoop (R:=fun _=>False) (P:=fun z=>∃ (i v x:Value) (j:Int) (g g':Nat→Value),z.1=ml (u2A (sl 0 0 n C) s ((vN L*1000000000+P)/4294967296^n) i v x) 14 g (u2M (sl 0 0 n C) n j) 25 g'∧z.2.1=hW1 (wU (dg n (vN L*1000000000+P))++Z))
  (fun r z=>∃ (dx px:List Int) (c:Int) (i v x:Value) (g g':Nat→Value),z.1=ml (u2A (sl 0 0 n C) s c i v x) 14 g (u2M (sl 0 0 n C) n dx.length) 25 g'∧z.2.1=hW1 (wU (dx++px)++Z)∧px.length=r∧dx.length+px.length=n∧wds dx∧wds px∧(0≤c∧c<1000000000)∧vN dx+4294967296^dx.length*(vN px*1000000000+c)=vN L*1000000000+P)
  ?_ (n:=n) ⟨[],L,P,i,v,x,g,g',rfl,rfl,hn,by simpa using hn,(fun x hx=>by cases hx),hL,hP,by simp [vN]⟩).mono fun e z hz=> ?_
 ·rintro r ⟨t,h',sc'⟩ ⟨dx,px,c,i,v,x0,g,g',ht,hh,hr,hl,wd1,wd2,hc,hv⟩;simp only at ht hh;subst ht hh
  match px,hr,hl,wd2,hv with
  | [],hr,hl,wd2,hv=>
   have hl':dx.length=n:=by simpa using hl
   refine (zm hT (Z7o n C s c i v x0 (dx.length:Nat) _ g g') (Zy (Xb (by omega)))).mono fun e z he=> ?_;obtain⟨rfl,⟨g1,g2,z1⟩,z2⟩:=he;simp only[vN] at hv;rw[Int.zero_mul,Int.zero_add] at hv;have e5:=Zch dx.length (vN dx) c;rw[hv,ZdY dx wd1,hl'] at e5;have hb:=Zax dx wd1;have e6:(vN L*1000000000+P)/4294967296^n=c:=by
    rw[← hv,← hl',Int.add_mul_ediv_left _ _ (by have:=Zad dx.length;omega),Int.ediv_eq_zero_of_lt hb.1 hb.2,Int.zero_add]
   rw[e6,e5];rw[List.append_nil] at z2;exact⟨rfl,i,v,x0,_,g1,g2,z1,z2⟩
  | x::px,hr,hl,wd2,hv=>
   obtain⟨wx,wd2⟩:=zL wd2;obtain⟨t1,t2⟩:=Z7t hc wx;have hl':dx.length<n:=by simp at hl;omega
   have cS:(wU (dx++x::px)++Z)[0+dx.length]? =some (uu x):=by
    rw[Nat.zero_add,List.getElem?_append_left (by unfold wU;simp)];exact Zlc dx x px
   have l1:decide (0+((dx.length:Nat):Int).toNat*1<(wU (dx++x::px)++Z).length)=true:=Xa (by unfold wU;simp);have l2:(inR (dx.length:Nat) n).1=(inR (dx.length:Nat) n).2:=Xa (by omega);have l3:(ZbO (wU (dx++x::px)++Z) 0 (dx.length:Nat) x).1=(ZbO (wU (dx++x::px)++Z) 0 (dx.length:Nat) x).2:=zT cS;refine (zm hT (Z7p n C s c i v x0 (dx.length:Nat) x _ g g') (Za (by decide) (Za l1 (Za l2 (Za l3 (Za l2 (Zy (Xa (by omega))))))))).mono fun e z he=> ?_;obtain⟨rfl,⟨g1,g2,z1⟩,z2⟩:=he;rw[t2] at z1;rw[t1] at z2;refine⟨px.length,by simp at hr;omega,dx++[(c+x*1000000000) % 4294967296],px,(c+x*1000000000)/4294967296,i,.int .i64 (dx.length:Nat),uu x,g1,g2,?_,?_,rfl,by simp at hl ⊢;omega,z8 wd1 (fun z hz=>by rw[List.mem_singleton.1 hz];omega),wd2,by omega,?_⟩
   ·rw[z1,Zv (by omega) (by omega),List.length_append,List.length_singleton];rfl
   ·rw[z2,Xg,Nat.mul_one,Nat.zero_add,List.set_append_left _ _ (by unfold wU;simp),ZfU]
   ·rw[zd,List.length_append,List.length_singleton,Int.pow_succ,← hv];simp only[vN];generalize vN px=A;generalize (4294967296:Int)^dx.length=Q;have e:(c+x*1000000000)=4294967296*((c+x*1000000000)/4294967296)+(c+x*1000000000) % 4294967296:=by omega
    generalize (c+x*1000000000)/4294967296=d at*;generalize (c+x*1000000000) % 4294967296=m at*;have e':(x+4294967296*A)*1000000000+c=4294967296*d+m+4294967296*A*1000000000:=by omega
    rw[e'];have d1:Q*(4294967296*d+m+4294967296*A*1000000000)=Q*4294967296*d+Q*m+Q*4294967296*(A*1000000000):=by
     rw[Int.mul_add,Int.mul_add,← Int.mul_assoc,Int.mul_assoc 4294967296 A,← Int.mul_assoc Q]
    rw[d1,Int.mul_add];omega
 ·match e,hz with
  | none,hz=>exact⟨rfl,hz⟩
def ppT (L:List Int) (s:ByteArray):Int:=vN L*1000000000+((zn (dgF s) s.size:Nat):Int)
theorem Zmh {C:Nat}{s:ByteArray}(hs:Zo5 s) (h9:s.size≤9) {L:List Int}(hL:wds L) (hN:L.length<1073741824) {Z:List Value}:
  (ppT L s/4294967296^L.length=0→Runs (Ze prog Zi Zn true) (Zaj (uP f186) (.seq (.seq (uR2 f186) (.block 0 (.loop (uL1 f186)))) (.seq (.seq (uR7 f186) (.block 2 (.loop (uL2 f186)))) (uE f186)))) ([sl 0 0 L.length C,.string s]++List.replicate 49 undef,hW1 (wU L++Z),[]) fun e y=>(e=none∨e=some none)∧zE prog f186 y.1 y.2.1=some (sl 0 0 L.length C)∧y.2.1.cut 1=hW1 (wU (dg L.length (ppT L s))++Z))∧
  (ppT L s/4294967296^L.length≠0→L.length<C→Z8 C=true→0<Z.length→Runs (Ze prog Zi Zn true) (Zaj (uP f186) (.seq (.seq (uR2 f186) (.block 0 (.loop (uL1 f186)))) (.seq (.seq (uR7 f186) (.block 2 (.loop (uL2 f186)))) (uE f186)))) ([sl 0 0 L.length C,.string s]++List.replicate 49 undef,hW1 (wU L++Z),[]) fun e y=>(e=none∨e=some none)∧zE prog f186 y.1 y.2.1=some (sl 0 0 (L.length+1) C)∧y.2.1.cut 1=hW1 (wU (dg L.length (ppT L s))++[uu (ppT L s/4294967296^L.length)]++Z.drop 1)):=by
 have hT:=Zd Zh;have hlt:=Zb4 (f:=dgF s) s.size (fun j hj=>(Zez hs hj).2);have hp:=Z40 h9;have hP:(0:Int)≤((zn (dgF s) s.size:Nat):Int)∧((zn (dgF s) s.size:Nat):Int)<1000000000:=by omega
 have key:∀ {Q:Ex→Lf→Prop},(∀ (i v x:Value) (j:Int) (g g':Nat→Value) (sc:List Dec),Runs (Ze prog Zi Zn true) (uE f186) (ml (u2A (sl 0 0 L.length C) s (ppT L s/4294967296^L.length) i v x) 14 g (u2M (sl 0 0 L.length C) L.length j) 25 g',hW1 (wU (dg L.length (ppT L s))++Z),sc) Q)→Runs (Ze prog Zi Zn true) (Zaj (uP f186) (.seq (.seq (uR2 f186) (.block 0 (.loop (uL1 f186)))) (.seq (.seq (uR7 f186) (.block 2 (.loop (uL2 f186)))) (uE f186)))) ([sl 0 0 L.length C,.string s]++List.replicate 49 undef,hW1 (wU L++Z),[]) Q:=by
  intro Q hQ;refine Zz hT (Z4z (sl 0 0 L.length C) s _) Zo4 fun g=> ?_;refine Runs.seq (P1:=fun e z=>e=none∧∃ (i:Value) (k:Int) (g:Nat→Value),z.1=u1F (sl 0 0 L.length C) s ((zn (dgF s) s.size:Nat):Int) i k++tl 39 g∧z.2.1=hW1 (wU L++Z)) ?_ ?_ (fun e y he=>by cases he.1)
  ·refine Runs.seq (Zc hT (Z7k (sl 0 0 L.length C) s _ g) Zo4) ?_ (fun e y he=>by cases he.1);rintro⟨t,hh,sc⟩ ⟨_,⟨g',e1⟩,e2⟩;simp only at e1 e2;subst e1 e2;exact Z41 hs h9 _ g' sc
  ·rintro⟨t,hh,sc⟩ ⟨_,i,k,g',e1,e2⟩;simp only at e1 e2;subst e1 e2;refine Runs.seq (P1:=fun e z=>e=none∧∃ (i v x:Value) (j:Int) (g g':Nat→Value),z.1=ml (u2A (sl 0 0 L.length C) s (ppT L s/4294967296^L.length) i v x) 14 g (u2M (sl 0 0 L.length C) L.length j) 25 g'∧z.2.1=hW1 (wU (dg L.length (ppT L s))++Z)) ?_ ?_ (fun e y he=>by cases he.1)
   ·refine Runs.seq (zm hT (Z7n L.length C s _ i k _ g') Zo4) ?_ (fun e y he=>by cases he.1);rintro⟨t,hh,sc⟩ ⟨_,⟨g1,g2,e1⟩,e2⟩;simp only at e1 e2;subst e1 e2;exact Z42 hP hL rfl (by omega) _ _ _ g1 g2 sc
   ·rintro⟨t,hh,sc⟩ ⟨_,i,v,x,j,g1,g2,e1,e2⟩;simp only at e1 e2;subst e1 e2;exact hQ i v x j g1 g2 sc
 refine⟨fun hz=>key fun i v x j g g' sc=> ?_,fun hz hC hsm hZ=>key fun i v x j g g' sc=> ?_⟩
 ·refine (Zc hT (Z7q L.length C s _ i v x j _ g g') (Zy (by rw[hz];rfl))).mono fun e z he=> ?_;obtain⟨rfl,⟨g1,z1⟩,z2⟩:=he;exact⟨.inr rfl,by rw[z1,z2];rfl,by rw[z2];rfl⟩
 ·have hQ:=Zad L.length;have hvb:=Zax L hL;have hTb:0≤ppT L s/4294967296^L.length∧ppT L s/4294967296^L.length<4294967296:=by
   have h0:0≤ppT L s:=by unfold ppT;omega
   have h1:ppT L s<4294967296*4294967296^L.length:=by unfold ppT;omega
   exact⟨Int.ediv_nonneg h0 (by omega),Int.ediv_lt_of_lt_mul (by omega) h1⟩
  have ew:u32.wrap (ppT L s/4294967296^L.length)=ppT L s/4294967296^L.length:=by
   generalize ppT L s/4294967296^L.length=y at*;simp [IntKind.wrap,IntKind.bits,IntKind.signed];omega
  have hlen:(wU (dg L.length (ppT L s))).length=L.length:=by unfold wU;simp [ZB]
  have l1:ZfK tU (wU (dg L.length (ppT L s))++Z,tU) ([uu (u32.wrap (ppT L s/4294967296^L.length))],tU) L.length C 0 1=true:=by
   unfold ZfK;simp only[Xh,Bool.not_eq_true'];refine⟨⟨⟨⟨⟨⟨⟨⟨⟨⟨Nat.ble_eq_true_of_le (by rw[List.length_append,hlen];omega),Nat.ble_eq_true_of_le (by omega)⟩,by kernel_rfl⟩,hsm⟩,Nat.ble_eq_true_of_le (by omega)⟩,by kernel_rfl⟩,by kernel_rfl⟩,by kernel_rfl⟩,by rfl⟩,by rfl⟩,by rfl⟩
  refine (Zc hT (Z7r L.length C s _ i v x j _ g g') (Za l1 (Zy (by simpa using hz)))).mono fun e z he=> ?_;obtain⟨rfl,⟨g1,z1⟩,z2⟩:=he;have e1:(wU (dg L.length (ppT L s))++Z).take L.length=wU (dg L.length (ppT L s)):=List.take_left' hlen;have e2:(wU (dg L.length (ppT L s))++Z).drop (L.length+1)=Z.drop 1:=by
   rw[← List.drop_drop,List.drop_left' hlen]
  rw[e1,e2,ew] at z2;exact⟨.inr rfl,by rw[z1,z2];rfl,by rw[z2];rfl⟩
theorem Zbm {T:Tab}{f:Nat}{F:Func}{c:Code}(hF:T.P.funcs[f]? =some F) (hc:F.body=some c) {vals:List Value}{v:Value}{h h':Hp}(hv:lt h.n v=true) (ht:h'.tight=true)
  (hr:Runs T c (vals++List.replicate (F.ntmps-vals.length) undef,h,[]) fun e y=>(e=none∨e=some none)∧zE T.P F y.1 y.2.1=some v∧y.2.1.cut h.n=h') (m:Mp) (B:Nat) (w:World) (E:Emb m B h w) (hvals:∀ v∈vals,lt h.n v=true):
  Calls T.P f (vals.map (mv m)).toArray w fun e w'=>∃ m',e= .returned (mv m' v)∧Came m B h w v h' m' w':=by
 refine calls_of_wp hF hc ?_;have R:Rel m B (vals++List.replicate (F.ntmps-vals.length) undef,h,[]) {tmps:=(vals.map (mv m)).toArray++Array.replicate (F.ntmps-(vals.map (mv m)).toArray.size) undef,defers:=[]} w:=by
  refine⟨?_,rfl,E,?_⟩
  ·simp [ZS]
  ·intro y hy;rcases List.mem_append.1 hy with hy | hy
   ·exact hvals y hy
   ·rw[List.eq_of_mem_replicate hy];simp [undef,lt]
 refine hr _ _ _ w R _ fun e y he a' w' hR=> ?_;obtain⟨hex,hres,hcut⟩:=he;obtain⟨m',k1,k2,k3,k4⟩:=hR;obtain⟨r1,r2⟩:=zx k2.emb k2.wf hres;rw[← k2.tmps,ZhO k1 hv] at r1;have k4':h.n≤y.2.1.n:=k4;have C:Came m B h w v h' m w':=by
  subst hcut;exact⟨Agree.refl _ _,k2.emb.cut k1 k4' ht,k3,by simp [Hp.cut],by simpa [Hp.cut] using hv⟩
 have post:a'.defers=[]∧∃ v',(results F a'.tmps).run T.P w'= .ok v' w'∧∃ m',Ending.returned v'= .returned (mv m' v)∧Came m B h w v h' m' w':=
  ⟨k2.dfr,_,r1,m,rfl,C⟩
 rcases hex with rfl | rfl<;>exact post
def ppQ (S:List Value) (n:Nat) (b:ByteArray):Int:=ppT (Zt S 0 n) b/4294967296^n
def Zym (S:List Value) (t:TypeId) (n c:Nat) (b:ByteArray):Log:=[(Nat.beq t tU,true),(Zu t S 0 n c,true),(decide (¬ ixV b≥0),true),(Nat.ble b.size 9 && Nat.blt n 1073741824,true)]
def gPp:Zba:=fun vals h s=>
 match vals,h,s with
 | [.slice (some ⟨0,0,none⟩) n c,.string b],⟨1,[(S,t)]⟩,.inr (.inr (.inr (.inl d)))::s'=>
  match d with
  | false=>some (sl 0 0 n c,⟨1,[(wU (dg n (ppT (Zt S 0 n) b))++S.drop n,tU)]⟩,s',(decide (ppQ S n b=0),true)::Zym S t n c b)
  | true=>some (sl 0 0 (n+1) c,⟨1,[(wU (dg n (ppT (Zt S 0 n) b))++[uu (ppQ S n b)]++S.drop (n+1),tU)]⟩,s',(decide (ppQ S n b≠0),true)::(Nat.blt n c && Nat.blt n S.length,true)::Zym S t n c b)
 | _,_,_=>none
theorem Zmi {S:List Value}{t:TypeId}{n c:Nat}{b:ByteArray}(h:Zo (Zym S t n c b)):t=tU∧Row S 0 (Zt S 0 n)∧(Zt S 0 n).length=n∧Z8 c=true∧(∀ v∈S,still v=true)∧Zo5 b∧b.size≤9∧n<1073741824∧S=wU (Zt S 0 n)++S.drop n:=by
 obtain⟨l1,q⟩:=Zct h;obtain⟨l2,q⟩:=Zct q;obtain⟨l3,q⟩:=Zct q;obtain⟨l4,_⟩:=Zct q;have l1:=Xj l1;obtain⟨a1,a2,a3,a4,a5,a6,a7⟩:=Z4 l2;simp only[Xh] at l4;refine⟨l1,a1,a2,a4,a7,(Zbl b).1 (Xc l3),Nat.le_of_ble_eq_true l4.1,Zl.1 l4.2,?_⟩;have h1:=a1.cut;rw[a2] at h1;rw[← h1];unfold ZbE;simp
theorem Z0r:ZJ 186 gPp:=by
 intro vals h s v h' s' lg hg hl m B w E hv;unfold gPp at hg;split at hg
 ·rename_i n c b S t d s2;split at hg
  ·cases hg;obtain⟨l1,q⟩:=Zct hl;obtain⟨rfl,a1,a2,a4,a7,hd,h9,hn,eS⟩:=Zmi q;have hz:=Xc l1;have hst:∀ v∈S.drop n,lt1 1 v=true:=fun v hv=>ZY (by omega) (a7 v (List.mem_of_mem_drop hv));have r:=(Zmh (C:=c) hd h9 (L:=Zt S 0 n) a1.rng (by omega) (Z:=S.drop n)).1 (by rw[a2];exact hz);rw[a2,← eS] at r;have ht:(hW1 (wU (dg n (ppT (Zt S 0 n) b))++S.drop n)).tight=true:=by
    unfold Hp.tight hW1;simp only[List.all_cons,List.all_nil,List.all_append,Bool.and_true,Xh];exact⟨Za1 _ _,List.all_eq_true.2 hst⟩
   exact Zbm (T:=Ze prog Zi Zn true) func186 Zi4 (vals:=[sl 0 0 n c,.string b]) (h:=hW1 S) (by rfl) ht r m B w E hv
  ·cases hg;obtain⟨l1,q⟩:=Zct hl;obtain⟨l0,q⟩:=Zct q;obtain⟨rfl,a1,a2,a4,a7,hd,h9,hn,eS⟩:=Zmi q;simp only[Xh] at l0;have hc:=Zl.1 l0.1;have hS:=Zl.1 l0.2;have hz:=Xc l1;have r:=(Zmh (C:=c) hd h9 (L:=Zt S 0 n) a1.rng (by omega) (Z:=S.drop n)).2 (by rw[a2];exact hz) (by omega) a4 (by rw[List.length_drop];omega);rw[a2,← eS,List.drop_drop] at r;have ht:(hW1 (wU (dg n (ppT (Zt S 0 n) b))++[uu (ppQ S n b)]++S.drop (n+1))).tight=true:=by
    unfold Hp.tight hW1;simp only[List.all_cons,List.all_nil,List.all_append,Bool.and_true,Xh];exact⟨⟨Za1 _ _,rfl⟩,List.all_eq_true.2 fun v hv=>ZY (by omega) (a7 v (List.mem_of_mem_drop hv))⟩
   exact Zbm (T:=Ze prog Zi Zn true) func186 Zi4 (vals:=[sl 0 0 n c,.string b]) (h:=hW1 S) (by rfl) ht r m B w E hv
 ·cases hg
def ZdE:Con:=alt 185 gCf Zn
theorem Zqd:ConOk ZdE:=Zr func185 rfl ZzX Zh
def Zmj:Hc:=zJ 186 gPp (zJ 131 ZeK hcN)
theorem Zvu:HcOk Zmj:=Zq func186 rfl Z0r (Zq func131 rfl ZaD zo)
theorem Zhl:TabOk (Zx prog Zi ZdE Zmj):=Z3 Zqd Zvu
def qC9 (F:Func):Nat→Code
 | 0=>Zw F
 | n+1=>ZV (qC9 F n)
def qP9 (F:Func):List Code:=[ZA (qC9 F 0),ZA (qC9 F 1),ZA (qC9 F 2),ZA (qC9 F 3),ZA (qC9 F 4)]
def qL9 (F:Func):Code:=cIn (cIn (ZA (qC9 F 5)))
def qE9 (F:Func):Code:=qC9 F 6
theorem Zvv:f150.body=some (Zaj (qP9 f150) (.seq (.block 0 (.loop (qL9 f150))) (qE9 f150))):=by kernel_rfl
def Zvw (s:ByteArray):Int:=(i64.wrap (i64.wrap ((s.size:Int).tdiv 9)+1))
def qF9 (s:Value) (w v:Value):List Value:=[s,undef,ZD,.nilIface,fO,w,v]
def eqN (s:ByteArray):Bool:=s==(⟨⟨[]⟩⟩:ByteArray)
theorem Z0s (s:ByteArray):Zk (evL (Zx prog Zi ZdE Zmj) 100 (qP9 f150) ([.string s]++List.replicate 40 undef,⟨0,[]⟩,[sam false,cmp false,cmp false,at_]) ⟨[],[],[]⟩) 7 34 none (qF9 (.string s) (sl 0 0 0 (Zvw s).toNat) undef) (hW1 (List.replicate (Zvw s).toNat (.int .u32 0))) [(ZO 4 0 (Zvw s),true),(decide ((s.size:Int)>20000),false),(decide (ixV s≥0),false),(true,true),(eqN s,false)]:=by and_intros<;>kernel_rfl
theorem Z7u (s:ByteArray):Zs (Zf (Zx prog Zi ZdE Zmj) 100 150 [.string s] [sam true]) (.tuple #[ZD,ZbH 3]) [(eqN s,true)]:=by and_intros<;>kernel_rfl
theorem Z7v (s:ByteArray):Zs (Zf (Zx prog Zi ZdE Zmj) 100 150 [.string s] [sam false,cmp true]) (.tuple #[ZD,ZbH 3]) [(decide (ixV s≥0),true),(true,true),(eqN s,false)]:=by and_intros<;>kernel_rfl
def enP (l:List UInt8):Int:=i64.wrap ((i64.wrap ((l.length:Int)-1)).tmod 9+1)
theorem Z43 (l:List UInt8) (d:Bool) (n C:Nat) (v:Value) (S:List Value) (g:Nat→Value):Zk (evC (Zx prog Zi ZdE Zmj) 100 false (qL9 f150) (qF9 (bS l) (sl 0 0 n C) v++tl 34 g,hW1 S,[sam true,sam true,cmp d,sam true]) ⟨[],[],[]⟩) 7 34 none (qF9 (bS (l.drop (enP l).toNat)) (sl 0 0 (match d with | true=>n+1 | false=>n) C) (.int .i64 (enP l))) (match d with | true=>hW1 (wU (dg n (ppT (Zt S 0 n) ⟨⟨l.take (enP l).toNat⟩⟩))++[uu (ppQ S n ⟨⟨l.take (enP l).toNat⟩⟩)]++S.drop (n+1)) | false=>hW1 (wU (dg n (ppT (Zt S 0 n) ⟨⟨l.take (enP l).toNat⟩⟩))++S.drop n))
  ((decide (0≤enP l∧enP l≤(l.length:Nat)),true)::(match d with | true=>(decide (ppQ S n ⟨⟨l.take (enP l).toNat⟩⟩≠0),true)::(Nat.blt n C && Nat.blt n S.length,true)::Zym S tU n C ⟨⟨l.take (enP l).toNat⟩⟩ | false=>(decide (ppQ S n ⟨⟨l.take (enP l).toNat⟩⟩=0),true)::Zym S tU n C ⟨⟨l.take (enP l).toNat⟩⟩)++[(decide (0≤enP l∧enP l≤(l.length:Nat)),true),(!(eqN ⟨⟨l⟩⟩),true)]):=by
 cases d<;>exact by and_intros<;>kernel_rfl
theorem Z0t (w v:Value) (h:Hp) (g:Nat→Value):Zk (evC (Zx prog Zi ZdE Zmj) 100 false (qL9 f150) (qF9 (bS []) w v++tl 34 g,h,[sam false]) ⟨[],[],[]⟩) 7 34 (some (some 0)) (qF9 (bS []) w v) h [(!(eqN ⟨⟨[]⟩⟩),false)]:=by and_intros<;>kernel_rfl
theorem Z0u (s v:Value) (n C:Nat) (S:List Value) (g:Nat→Value):Zk (evC (Zx prog Zi ZdE Zmj) 100 false (qE9 f150) (qF9 s (sl 0 0 n C) v++tl 34 g,hW1 S,[]) ⟨[],[],[]⟩) 4 37 (some none) [s,undef,sl 0 0 (Zg (Zt S 0 n)) C,.nilIface] (hW1 S) [(Zu tU S 0 n C,true)]:=by and_intros<;>kernel_rfl
end Go.Proofs.YtgefjidphfdhdaaGreatDoor.Na
namespace Go.Nt
theorem Zc9:∀ (m k:Nat) (V:Int),dg (m+k) V=dg m V++dg k (V/4294967296^m)
 | 0,k,V=>by simp [dg]
 | m+1,k,V=>by
  rw[show m+1+k=(m+k)+1 by omega];show V % 4294967296::dg (m+k) (V/4294967296)=(V % 4294967296::dg m (V/4294967296))++dg k (V/4294967296^(m+1));rw[Zc9 m k,List.cons_append,Int.ediv_ediv_of_nonneg (by omega),pw]
theorem Zmk (m k:Nat) (V:Int):(dg (m+k) V).drop m=dg k (V/4294967296^m):=by
 rw[Zc9,List.drop_left' (ZB _ _)]
theorem Zml (m k:Nat) (V:Int):(dg (m+k) V).take m=dg m V:=by
 rw[Zc9,List.take_left' (ZB _ _)]
theorem Zi5 (m:Nat):(4294967296:Int)^m=((4294967296^m:Nat):Int):=by rw[Int.natCast_pow];rfl
theorem Z0v (V:Nat):dg (db 4294967296 V).length (V:Int)=db 4294967296 V:=by
 have hw:wds (db 4294967296 V):=fun x hx=>by
  have:=ZeM (b:=4294967296) (by omega) V x hx;exact⟨this.1,by have:=this.2;omega⟩
 have h:=ZdY (db 4294967296 V) hw;rw[ZfZ hw,Zbi (by omega)] at h;exact h
theorem Zs4 (V:Nat):V<4294967296^(db 4294967296 V).length:=by
 have h:=Zd6 (b:=4294967296) (by omega) (db 4294967296 V) (ZeM (by omega) V)
 rwa [Zbi (by omega)] at h
theorem ZbR {V k:Nat}:(db 4294967296 V).length≤k↔V<4294967296^k:=
 ⟨fun h=>Nat.lt_of_lt_of_le (Zs4 V) (Nat.pow_le_pow_right (by omega) h),fun h=>ZcL (by omega) k V h⟩
theorem Z0w {V P C:Nat}(hP:P<1000000000) (hC:V*1000000000+P<4294967296^C):
  let n:=(db 4294967296 V).length
  let V':=V*1000000000+P
  (dg C (V:Int)).take n=db 4294967296 V∧n≤C∧
  (((V':Nat):Int)/4294967296^n=0→dg n ((V':Nat):Int)++(dg C (V:Int)).drop n=dg C ((V':Nat):Int)∧(db 4294967296 V').length=n)∧
  (((V':Nat):Int)/4294967296^n≠0→n<C∧dg n ((V':Nat):Int)++[((V':Nat):Int)/4294967296^n]++(dg C (V:Int)).drop (n+1)=dg C ((V':Nat):Int)∧(db 4294967296 V').length=n+1):=by
 intro n V';have hV:=Zs4 V;have hVC:V<4294967296^C:=Nat.lt_of_le_of_lt (by omega) hC;have hn:n≤C:=ZbR.2 hVC;obtain⟨k,hk⟩:∃ k,C=n+k:=⟨C-n,by omega⟩;have hz:(V:Int)/4294967296^n=0:=by
  rw[Zi5];exact Int.ediv_eq_zero_of_lt (by omega) (by exact_mod_cast hV)
 have hq:((V':Nat):Int)/4294967296^n=((V'/4294967296^n:Nat):Int):=by rw[Zi5];rfl
 have h0:n=0→V=0:=fun h=>by
  rw[show (db 4294967296 V).length=0 from h,Nat.pow_zero] at hV;omega
 have ge:n≤(db 4294967296 V').length:=by
  rcases Nat.lt_or_ge (db 4294967296 V').length n with h | h
  ·exfalso
   have h1:V'<4294967296^(n-1):=ZbR.1 (by omega);have h2:(db 4294967296 V).length≤n-1:=ZbR.2 (by omega);have:n≤n-1:=h2;omega
  ·exact h
 refine⟨?_,hn,fun h=> ?_,fun h=> ?_⟩
 ·rw[hk,Zml];exact Z0v V
 ·rw[hk,Zmk,hz,Zc9,h];refine⟨rfl,?_⟩;rw[hq] at h;have h1:V'/4294967296^n=0:=Int.ofNat.inj h;have h2:V'<4294967296^n:=by
   rcases Nat.lt_or_ge V' (4294967296^n) with h3 | h3
   ·exact h3
   ·have:=Nat.div_pos h3 (Nat.pow_pos (by omega));omega
  have:=ZbR.2 h2;omega
 ·rw[hq] at h;have hqp:0<V'/4294967296^n:=Nat.pos_of_ne_zero fun h'=>h (by rw[h'];rfl);have hge:4294967296^n≤V':=by
   rcases Nat.lt_or_ge V' (4294967296^n) with h3 | h3
   ·rw[Nat.div_eq_of_lt h3] at hqp;omega
   ·exact h3
  have hlt:V'<4294967296^(n+1):=by
   rw[Nat.pow_succ];have:V<4294967296^n:=hV;show V*1000000000+P<_;omega
  have hnC:n<C:=by
   rcases Nat.lt_or_ge n C with h3 | h3
   ·exact h3
   ·have:(4294967296:Nat)^C≤4294967296^n:=Nat.pow_le_pow_right (by omega) h3;have hC':V'<4294967296^C:=hC;omega
  obtain⟨j,hj⟩:∃ j,k=j+1:=⟨k-1,by omega⟩;have hqB:V'/4294967296^n<4294967296:=by
   rw[Nat.pow_succ] at hlt;exact Nat.div_lt_of_lt_mul hlt
  refine⟨hnC,?_,?_⟩
  ·have hz1:(V:Int)/4294967296^(n+1)=0:=by
    rw[Zi5];have:V<4294967296^(n+1):=Nat.lt_of_lt_of_le hV (Nat.pow_le_pow_right (by omega) (by omega));exact Int.ediv_eq_zero_of_lt (by omega) (by exact_mod_cast this)
   have hz2:((V':Nat):Int)/4294967296^(n+1)=0:=by
    rw[Zi5];exact Int.ediv_eq_zero_of_lt (by omega) (by exact_mod_cast hlt)
   rw[hk,hj,show n+(j+1)=(n+1)+j by omega,Zmk,hz1,Zc9 (n+1) j,hz2,Zc9 n 1,hq];show dg n _++[_]++dg j 0=dg n _++[((V'/4294967296^n:Nat):Int) % 4294967296]++dg j 0;rw[Int.emod_eq_of_lt (by omega) (by omega)]
  ·have h1:=ZbR.2 hlt;rcases Nat.lt_or_ge n (db 4294967296 V').length with h3 | h3
   ·omega
   ·have:=ZbR.1 h3;omega
theorem ZdF {f g:Nat→Int}:∀ k,(∀ j,j<k→f j=g j)→zn f k=zn g k
 | 0,_=>rfl
 | k+1,h=>by
  simp only[zn];rw[ZdF k (fun j hj=>h j (by omega)),h k (by omega)]
theorem Zmm {m C:Nat}(h:m≤9*C):(10:Nat)^m≤4294967296^C:=by
 have h1:(10:Nat)^m≤10^(9*C):=Nat.pow_le_pow_right (by omega) h;have h2:(10:Nat)^(9*C)≤4294967296^C:=by
  rw[Nat.pow_mul];exact Nat.pow_le_pow_left (by decide) C
 omega
end Go.Nt
namespace Go.Proofs.YtgefjidphfdhdaaGreatDoor.Na
open Go.Proofs.Tryz
open Go.IntKind
open Go.KRun Go.Nt
set_option maxRecDepth 100000
def psN (s:ByteArray):Nat:=s.size/9+1
def psV (s:ByteArray):Nat:=zn (dgF s) s.size
theorem Zvx {s:ByteArray}(h:s.size≤20000):Zvw s=(psN s:Nat):=by
 have e1:i64.wrap ((s.size:Int)/9)=(s.size:Int)/9:=Zv (by omega) (by omega);unfold Zvw psN;rw[Int.tdiv_eq_ediv_of_nonneg (by omega),e1,Zv (by omega) (by omega)];omega
theorem Z0x {l:List UInt8}(h0:0<l.length) (h:l.length≤20000):enP l=(((l.length-1) % 9+1:Nat):Int):=by
 have e1:i64.wrap ((l.length:Int)-1)=(l.length:Int)-1:=Zv (by omega) (by omega);unfold enP;rw[e1,Int.tmod_eq_emod_of_nonneg (by omega),Zv (by omega) (by omega)];omega
theorem Z0y {a b:Log}(h1:Zo a) (h2:Zo b):Zo (a++b):=fun x hx=>(List.mem_append.1 hx).elim (h1 x) (h2 x)
def Zbn (s:ByteArray) (m e:Nat):ByteArray:=⟨⟨(s.data.toList.drop m).take e⟩⟩
theorem ZjM {s:ByteArray}{m e:Nat}(h:m+e≤s.size):(Zbn s m e).size=e:=by
 show ((s.data.toList.drop m).take e).length=e;have:s.data.toList.length=s.size:=rfl;rw[List.length_take,List.length_drop];omega
theorem Zi6 {s:ByteArray}{m e j:Nat}(hj:j<e):byT (Zbn s m e) j=byT s (m+j):=by
 unfold byT Zbn;have:((s.data.toList.drop m).take e).getD j 0=s.data.toList.getD (m+j) 0:=by
  simp only[List.getD,List.getElem?_take,List.getElem?_drop,if_pos hj]
 show ((((s.data.toList.drop m).take e).getD j 0).toNat:Int)=_;rw[this]
def Zqe (s:ByteArray) (r:Nat) (y:Lf):Prop:=∃ (m:Nat) (v:Value) (g:Nat→Value),y.1=qF9 (bS (s.data.toList.drop m)) (sl 0 0 (db 4294967296 (zn (dgF s) m)).length (psN s)) v++tl 34 g∧y.2.1=hW1 (wU (dg (psN s) ((zn (dgF s) m:Nat):Int)))∧m≤s.size∧(m=0∨(s.size-m) % 9=0)∧r=s.size-m
def Z44 (s:ByteArray) (y:Lf):Prop:=∃ (v:Value) (g:Nat→Value),y.1=qF9 (bS []) (sl 0 0 (db 4294967296 (psV s)).length (psN s)) v++tl 34 g∧y.2.1=hW1 (wU (dg (psN s) ((psV s:Nat):Int)))
theorem Zvy {s:ByteArray}(hs:Zo5 s) (h2:s.size≤20000) (r:Nat) (y:Lf) (h:Zqe s r y):
  Runs (Zx prog Zi ZdE Zmj) (qL9 f150) y fun e z=>match e with | none=>∃ r',r'<r∧Zqe s r' z | some none=>False | some (some id')=>id'=0∧Z44 s z:=by
 obtain⟨m,v,g,ht,hh,hm,hm9,hr⟩:=h;obtain⟨t,h',sc⟩:=y;simp only at ht hh;subst ht hh;have hsz:s.data.toList.length=s.size:=rfl;by_cases hc:m<s.size
 ·obtain⟨l,hl⟩:∃ l,l=s.data.toList.drop m:=⟨_,rfl⟩;have ll:l.length=s.size-m:=by rw[hl,List.length_drop,hsz]
  have eE:=Z0x (l:=l) (by omega) (by omega);obtain⟨e,he⟩:∃ e:Nat,e=(l.length-1) % 9+1:=⟨_,rfl⟩;rw[← he] at eE;have e1:m+e≤s.size:=by omega
  have e9:e≤9:=by omega
  have hps:=ZjM e1;have eT:(enP l).toNat=e:=by rw[eE,Xg]
  have hdig:∀ j,j<e→dgF (Zbn s m e) j=dgF s (m+j):=fun j hj=>by unfold dgF;rw[Zi6 hj]
  have hall:Zo5 (Zbn s m e):=fun j hj=>by
   rw[hps] at hj;rw[Zi6 hj];exact hs (m+j) (by omega)
  have eP:zn (dgF (Zbn s m e)) (Zbn s m e).size=zn (fun j=>dgF s (m+j)) e:=by
   rw[hps];exact ZdF e hdig
  obtain⟨V,hV⟩:∃ V,V=zn (dgF s) m:=⟨_,rfl⟩;obtain⟨P,hP⟩:∃ P,P=zn (fun j=>dgF s (m+j)) e:=⟨_,rfl⟩;have hadd:=Zgj (f:=dgF s) m e;rw[← hV,← hP] at hadd;have hPlt:P<10^e:=by
   rw[hP];exact Zb4 e fun j hj=>(Zez hs (show m+j<s.size by omega)).2
  have hP9:P<1000000000:=Nat.lt_of_lt_of_le hPlt (Z40 e9);have hVe:V*10^e=V*1000000000:=by
   rcases hm9 with h0 | h9
   ·have:V=0:=by rw[hV,h0];rfl
    rw[this,Nat.zero_mul,Nat.zero_mul]
   ·have:e=9:=by omega
    rw[this]
  rw[hVe] at hadd;have hVlt:V*1000000000+P<4294967296^psN s:=by
   rw[← hadd];have h3:=Zb4 (f:=dgF s) (m+e) fun j hj=>(Zez hs (show j<s.size by omega)).2;exact Nat.lt_of_lt_of_le h3 (Zmm (by unfold psN;omega))
  obtain⟨n1,n2,n3,n4⟩:=Z0w hP9 hVlt;have hC:psN s<10000:=by unfold psN;omega
  have hsm:Z8 (psN s)=true:=Zl.2 (by unfold ZX;omega);have ec:Zt (wU (dg (psN s) (V:Int))) 0 (db 4294967296 V).length=db 4294967296 V:=by rw[Zfa,n1]
  have eV:vN (db 4294967296 V)=(V:Int):=by rw[ZfZ (Z0q V),Zbi (by omega)]
  have hpT:ppT (Zt (wU (dg (psN s) (V:Int))) 0 (db 4294967296 V).length) (Zbn s m e)=((V*1000000000+P:Nat):Int):=by
   unfold ppT;rw[ec,eV,eP,← hP];omega
  have hpQ:ppQ (wU (dg (psN s) (V:Int))) (db 4294967296 V).length (Zbn s m e)=((V*1000000000+P:Nat):Int)/4294967296^(db 4294967296 V).length:=by
   unfold ppQ;rw[hpT]
  have hlog:Zo (Zym (wU (dg (psN s) (V:Int))) tU (db 4294967296 V).length (psN s) (Zbn s m e)):=by
   refine Za (Nat.beq_refl _) (Za ?_ (Za (Xa ((Zbl _).2 hall)) (Zy ?_)))
   ·exact ZT (Zac _ _) (by rw[ZB];omega) n2 hsm
   ·rw[hps,Nat.ble_eq_true_of_le e9,Zl.2 (by omega)];rfl
  have l1:decide (0≤enP l∧enP l≤(l.length:Nat))=true:=Xa ⟨by rw[eE];omega,by rw[eE];omega⟩;have l2:(!(eqN ⟨⟨l⟩⟩))=true:=by
   unfold eqN;rw[ZjH,Xb (by intro hn;rw[hn] at ll;simp at ll;omega)];rfl
  have hdr:l.drop e=s.data.toList.drop (m+e):=by rw[hl,List.drop_drop]
  have htk:(⟨⟨l.take e⟩⟩:ByteArray)=Zbn s m e:=by rw[hl];rfl
  have hstep:∀ z:Lf,(∃ g,z.1=qF9 (bS (l.drop (enP l).toNat)) (sl 0 0 (db 4294967296 (V*1000000000+P)).length (psN s)) (.int .i64 (enP l))++tl 34 g)→z.2.1=hW1 (wU (dg (psN s) ((V*1000000000+P:Nat):Int)))→∃ r',r'<r∧Zqe s r' z:=fun z hz1 hz2=>by
   obtain⟨g',hz1⟩:=hz1;refine⟨s.size-(m+e),by omega,m+e,.int .i64 (enP l),g',?_,?_,e1,.inr (by omega),rfl⟩
   ·rw[hz1,eT,hdr,hadd]
   ·rw[hz2,hadd]
  rw[← hV];rw[← hl];have hG:=fun d=>Z43 l d (db 4294967296 V).length (psN s) v (wU (dg (psN s) (V:Int))) g;rw[eT,htk] at hG;by_cases hq:((V*1000000000+P:Nat):Int)/4294967296^(db 4294967296 V).length=0
  ·obtain⟨q1,q2⟩:=n3 hq;have hG:=hG false;simp only[hpT] at hG;have eM:wU (dg (db 4294967296 V).length ((V*1000000000+P:Nat):Int))++(wU (dg (psN s) (V:Int))).drop (db 4294967296 V).length=wU (dg (psN s) ((V*1000000000+P:Nat):Int)):=by
    rw[← q1];unfold wU;rw[List.map_append,List.map_drop]
   rw[eM] at hG;refine (Zc Zhl hG (Z0y (Za l1 (Za (Xa (hpQ.trans hq)) hlog)) (Za l1 (Zy l2)))).mono fun e z he=> ?_;obtain⟨rfl,hz1,hz2⟩:=he;refine hstep z ?_ hz2;rw[q2,eT];exact hz1
  ·obtain⟨q0,q1,q2⟩:=n4 hq;have hG:=hG true;simp only[hpT,hpQ] at hG;have eM:wU (dg (db 4294967296 V).length ((V*1000000000+P:Nat):Int))++[uu (((V*1000000000+P:Nat):Int)/4294967296^(db 4294967296 V).length)]++(wU (dg (psN s) (V:Int))).drop ((db 4294967296 V).length+1)=wU (dg (psN s) ((V*1000000000+P:Nat):Int)):=by
    rw[← q1];unfold wU;rw[List.map_append,List.map_append,List.map_drop];rfl
   rw[eM] at hG;have l3:(Nat.blt (db 4294967296 V).length (psN s) && Nat.blt (db 4294967296 V).length (wU (dg (psN s) (V:Int))).length)=true:=by
    rw[Zl.2 q0,Zl.2 (by unfold wU;rw[List.length_map,ZB];exact q0)];rfl
   refine (Zc Zhl hG (Z0y (Za l1 (Za (Xa hq) (Za l3 hlog))) (Za l1 (Zy l2)))).mono fun e z he=> ?_;obtain⟨rfl,hz1,hz2⟩:=he;refine hstep z ?_ hz2;rw[q2,eT];exact hz1
 ·have hms:m=s.size:=by omega
  have hd:s.data.toList.drop m=[]:=List.drop_eq_nil_of_le (by rw[hsz];omega);rw[hd];refine (Zc Zhl (Z0t _ v _ g) (Zy rfl)).mono fun e z he=> ?_;obtain⟨rfl,⟨g',hz1⟩,hz2⟩:=he;rw[hms] at hz1 hz2;exact⟨rfl,v,g',hz1,hz2⟩
theorem ZjN {s:ByteArray}(h0:0<s.size) (hs:Zo5 s) (h2:s.size≤20000):
  Runs (Zx prog Zi ZdE Zmj) (Zaj (qP9 f150) (.seq (.block 0 (.loop (qL9 f150))) (qE9 f150))) ([.string s]++List.replicate 40 undef,⟨0,[]⟩,[]) fun e z=>(e=none∨e=some none)∧zE prog f150 z.1 z.2.1=some (.tuple #[sl 0 0 (db 4294967296 (psV s)).length (psN s),.nilIface])∧∃ r,z.2.1.blk? 0=some (wU (dg (psN s) ((psV s:Nat):Int))++r,tU):=by
 have hcp:=Zvx h2;have hC:psN s<10000:=by unfold psN;omega
 have eN:(Zvw s).toNat=psN s:=by rw[hcp,Xg]
 have hix:decide (ixV s≥0)=false:=Xb ((Zbl s).2 hs);have hne:eqN s=false:=by
  show ((⟨⟨s.data.toList⟩⟩:ByteArray)==⟨⟨[]⟩⟩)=false;rw[ZjH];refine Xb fun h=> ?_;have:s.size=0:=by show s.data.toList.length=0;rw[h];rfl
  omega
 have hpre:=Z0s s;rw[eN] at hpre;have lm:ZO 4 0 (Zvw s)=true:=by rw[hcp];unfold ZO;exact Xa ⟨by omega,by omega,by omega,by omega⟩
 refine Zz Zhl hpre (Za lm (Za (Xb (by omega)) (Za hix (Za rfl (Zy hne))))) fun g=> ?_;have z0:∀ n,wU (dg n 0)=List.replicate n (.int .u32 0):=by
  intro n
  induction n with
  | zero=>rfl
  | succ n ih=>
   rw[List.replicate_succ,← ih];rfl
 refine Runs.seq (P1:=fun e y=>e=none∧Z44 s y) ?_ ?_ (fun e y he=>by cases he.1)
 ·refine (Runs.forLoop (R:=fun _=>False) (P:=Z44 s) (Zqe s) (Zvy hs h2) (n:=s.size) ⟨0,undef,g,?_,?_,by omega,.inl rfl,rfl⟩).mono fun e z hz=> ?_
  ·rw[show zn (dgF s) 0=0 from rfl,zp];rfl
  ·show hW1 _=_;rw[show zn (dgF s) 0=0 from rfl,show (((0:Nat):Nat):Int)=0 from rfl,z0]
  ·match e,hz with
   | none,hz=>exact⟨rfl,hz⟩
 ·rintro⟨t,hh,sc⟩ ⟨_,v,g',e1,e2⟩;simp only at e1 e2;subst e1 e2;have hlt:psV s<4294967296^psN s:=Nat.lt_of_lt_of_le (Zb4 (f:=dgF s) s.size fun j hj=>(Zez hs hj).2) (Zmm (by unfold psN;omega));have hle:=ZbR.2 hlt;obtain⟨k,hk⟩:∃ k,psN s=(db 4294967296 (psV s)).length+k:=⟨psN s-(db 4294967296 (psV s)).length,by omega⟩;have ec:Zt (wU (dg (psN s) ((psV s:Nat):Int))) 0 (db 4294967296 (psV s)).length=db 4294967296 (psV s):=by
   rw[Zfa,hk,Zml];exact Z0v _
  have etr:Zg (Zt (wU (dg (psN s) ((psV s:Nat):Int))) 0 (db 4294967296 (psV s)).length)=(db 4294967296 (psV s)).length:=by
   rw[ec];exact (Zlj (by omega) _).2
  have hsm:Z8 (psN s)=true:=Zl.2 (by unfold ZX;omega);refine (Zc Zhl (Z0u _ v _ _ _ g') (Zy (ZT (Zac _ _) (by rw[ZB];omega) hle hsm))).mono fun e z he=> ?_;obtain⟨rfl,⟨g2,z1⟩,z2⟩:=he;rw[etr] at z1;refine⟨.inr rfl,by rw[z1,z2];rfl,[],by rw[z2,List.append_nil];rfl⟩
def okP (s:ByteArray):Bool:=decide (0<s.size) && decide (¬ ixV s≥0)
theorem Zhm (s:ByteArray):okP s=true↔0<s.size∧Zo5 s:=by
 unfold okP;rw[Xh,Xi,Xi,Zbl]
def gPs:Zba:=fun vals h s=>
 match vals,s with
 | [.string b],.inr (.inr (.inr (.inl false)))::s'=>some (.tuple #[ZD,ZbH 3],h,s',[(okP b,false)])
 | [.string b],.inr (.inr (.inr (.inl true))):: .inr (.inl V)::s'=>some (.tuple #[sl h.n 0 (db 4294967296 V.toNat).length (psN b),.nilIface],h.push (wU (dg (psN b) (V.toNat:Nat))) tU,s',[(decide (psV b=V.toNat),true),(okP b,true),(Nat.ble b.size 20000,true)])
 | _,_=>none
theorem Z45:(⟨0,[]⟩:Hp).rows:=⟨rfl,fun b x hx=>by have:b<0:=Hp.blk_lt hx;omega⟩
theorem Z0z:ZJ 150 gPs:=by
 intro vals h s v h' s' lg hg hl m B w E hv;unfold gPs at hg;split at hg
 ·rename_i b s2;cases hg;have l1:=hl _ Xf;have hw:∀ w,Calls prog 150 #[.string b] w fun r w'=>r= .returned (.tuple #[ZD,ZbH 3])∧zi w w':=fun w=>by
   by_cases h0:b.data.toList=[]
   ·refine Zb Zhl (Z7u b) (Zy ?_) (by rfl) (by rfl) w;show ((⟨⟨b.data.toList⟩⟩:ByteArray)==⟨⟨[]⟩⟩)=true;rw[ZjH];exact Xa h0
   ·have hne:eqN b=false:=by
     show ((⟨⟨b.data.toList⟩⟩:ByteArray)==⟨⟨[]⟩⟩)=false;rw[ZjH];exact Xb h0
    have hsz:0<b.size:=List.length_pos_iff.2 h0;have hix:ixV b≥0:=by
     rcases Classical.em (ixV b≥0) with h1 | h1
     ·exact h1
     ·exfalso
      have:okP b=true:=(Zhm b).2 ⟨hsz,(Zbl b).1 h1⟩;rw[this] at l1;cases l1
    exact Zb Zhl (Z7v b) (Za (Xa hix) (Za rfl (Zy hne))) (by rfl) (by rfl) w
  refine (hw w).mono fun r w' hr=> ?_;obtain⟨rfl,hc⟩:=hr;obtain⟨E',hb⟩:=ZQ E hc;exact⟨m,by rw[Z2 (by rfl)],Agree.refl _ _,E',hb,Nat.le_refl _,by rfl⟩
 ·rename_i b V s2;cases hg;obtain⟨l1,q⟩:=Zct hl;obtain⟨l2,q⟩:=Zct q;obtain⟨l3,_⟩:=Zct q;have l1:=Xc l1;obtain⟨h0,hd⟩:=(Zhm b).1 l2;have h2:=Nat.le_of_ble_eq_true l3;rw[← l1];have e:rn (fun _=>h.n) (Value.tuple #[sl 0 0 (db 4294967296 (psV b)).length (psN b),.nilIface])= .tuple #[sl h.n 0 (db 4294967296 (psV b)).length (psN b),.nilIface]:=by kernel_rfl
  have:=Zao (T:=Zx prog Zi ZdE Zmj) func150 Zvv (h0:=⟨0,[]⟩) Z45 (vals:=[.string b]) (fun v hv=>by rw[List.mem_singleton.1 hv];rfl) (k:=0) (cs:=wU (dg (psN b) ((psV b:Nat):Int))) (ty:=tU) (ZtY _) (by kernel_rfl) (ZjN h0 hd h2).w (by rfl) E (s:=fun i=>i) (fun i x hx=>by have:i<0:=Hp.blk_lt hx;omega);rw[e] at this;exact this
 ·cases hg
end Go.Proofs.YtgefjidphfdhdaaGreatDoor.Na
namespace Go.Rn
def upR (m:Int) (neg odd:Bool) (c:Int):Bool:=
 if c=0 then false else if m=2 then false else if m=3 then !neg else if m=4 then neg else if m=1 then decide (2≤c) else decide (2<c) || (decide (c=2) && odd)
def ze (r P:Nat):Int:=if r=0 then 0 else if 2*r<P then 1 else if 2*r=P then 2 else 3
def odd (q:Nat):Bool:=decide (q % 2=1)
def rq (m:Int) (neg:Bool) (T k:Nat):Nat:=T/2^k+(if upR m neg (odd (T/2^k)) (ze (T % 2^k) (2^k))=true then 1 else 0)
def toQ (m:Int) (neg:Bool) (T:Nat) (E e:Int):Nat:=if e≤E then T*2^(E-e).toNat else rq m neg T (e-E).toNat
def toL (T:Nat) (E e:Int):Bool:=if e≤E then false else decide (T % 2^(e-E).toNat≠0)
def lgN (T:Nat) (E:Int):Int:=E+(bitLen T:Nat)-1
def Zak (T:Nat) (E:Int):Int:=if lgN T E-52≤ -1074 then -1074 else lgN T E-52
def p0 (m:Int) (neg:Bool) (T:Nat) (E:Int):Int:=(Zak T E+1074)*4503599627370496+(toQ m neg T E (Zak T E):Nat)
def Ze0 (m:Int) (neg:Bool) (T:Nat) (E:Int):Bool:=if lgN T E= -1023 then decide (toQ m neg T E (-1075)<9007199254740992) else decide (lgN T E< -1022)
def bey (m:Int) (neg:Bool):Int:=if upR m neg true 3=true then 9218868437227405312 else 9218868437227405311
def rnP (m:Int) (neg:Bool) (T:Nat) (E:Int):Int:=if T=0 then 0 else if 9218868437227405312≤p0 m neg T E then bey m neg else p0 m neg T E
def rnF (m:Int) (neg:Bool) (T:Nat) (E:Int):Int:=if T=0 then 0 else if 9218868437227405312≤p0 m neg T E then 20 else if toL T E (Zak T E)=true then (if Ze0 m neg T E=true then 24 else 16) else 0
def swM (m:Int):Int:=if m=3 then 4 else if m=4 then 3 else m
theorem Zmn (m:Int) (neg o:Bool) (c:Int):upR (swM m) (!neg) o c=upR m neg o c:=by
 unfold upR swM;by_cases h3:m=3
 ·subst h3;simp
 ·by_cases h4:m=4
  ·subst h4;simp
  ·simp [h3,h4]
theorem Zmo (m:Int) (neg:Bool) (T:Nat) (E e:Int):toQ (swM m) (!neg) T E e=toQ m neg T E e:=by
 unfold toQ rq;simp only[Zmn]
theorem Zvz (m:Int) (neg:Bool) (T:Nat) (E:Int):rnP (swM m) (!neg) T E=rnP m neg T E:=by
 unfold rnP p0 bey;simp only[Zmn,Zmo]
theorem Zv0 (m:Int) (neg:Bool) (T:Nat) (E:Int):rnF (swM m) (!neg) T E=rnF m neg T E:=by
 unfold rnF p0 Ze0;simp only[Zmo]
theorem zB {T:Nat}(h:T≠0):1≤bitLen T:=by unfold bitLen;rw[if_neg h];omega
theorem ZaH {T k:Nat}(h0:2^k≤T) (h1:T<2^(k+1)):bitLen T=k+1:=by
 have hp:0<2^k:=Nat.pow_pos (by omega);obtain⟨a1,a2⟩:=bitLen_spec T;have a2:=a2 (by omega);have a3:=zB (show T≠0 by omega);rcases Nat.lt_or_ge (bitLen T) (k+1) with h | h
 ·have:=Nat.pow_le_pow_right (show 0<2 by omega) (show bitLen T≤k by omega);omega
 ·rcases Nat.lt_or_ge (k+1) (bitLen T) with h' | h'
  ·have:=Nat.pow_le_pow_right (show 0<2 by omega) (show k+1≤bitLen T-1 by omega);omega
  ·omega
theorem len_le {T k:Nat}(h:T<2^k):bitLen T≤k:=by
 by_cases h0:T=0
 ·subst h0;simp [bitLen]
 ·have a2:=(bitLen_spec T).2 h0;rcases Nat.lt_or_ge k (bitLen T) with h' | h'
  ·have:=Nat.pow_le_pow_right (show 0<2 by omega) (show k≤bitLen T-1 by omega);omega
  ·exact h'
theorem Za3 {T k:Nat}(h:2^k≤T):k+1≤bitLen T:=by
 have a1:=(bitLen_spec T).1;rcases Nat.lt_or_ge (bitLen T) (k+1) with h' | h'
 ·have:=Nat.pow_le_pow_right (show 0<2 by omega) (show bitLen T≤k by omega);omega
 ·exact h'
theorem Zv1 {T:Nat}(h:T≠0) (j:Nat):bitLen (T*2^j)=bitLen T+j:=by
 have hp:0<2^j:=Nat.pow_pos (by omega);obtain⟨a1,a2⟩:=bitLen_spec T;have a2:=a2 h;have a3:=zB h;have e:bitLen T+j=(bitLen T-1+j)+1:=by omega
 rw[e];apply ZaH
 ·rw[Nat.pow_add];exact Nat.mul_le_mul_right _ a2
 ·rw[show bitLen T-1+j+1=bitLen T+j by omega,Nat.pow_add];exact Nat.mul_lt_mul_of_pos_right a1 hp
theorem Zqf {T U:Nat}(h:T≤U):bitLen T≤bitLen U:=len_le (Nat.lt_of_le_of_lt h (bitLen_spec U).1)
theorem Zqg (m:Int) (neg o:Bool):upR m neg o 0=false:=by simp [upR]
theorem ZjO (P:Nat):ze 0 P=0:=by simp [ze]
theorem Zqh (r P:Nat):0≤ze r P∧ze r P≤3:=by unfold ze;split<;>(try split)<;>(try split)<;>omega
theorem Zmp {r P:Nat}:ze r P=0↔r=0:=by
 unfold ze;split
 ·simp_all
 ·rename_i h;simp only[h,iff_false];split<;>(try split)<;>omega
theorem ZjP {r s P:Nat}(h:r≤s):ze r P≤ze s P:=by
 unfold ze;by_cases h0:r=0
 ·rw[if_pos h0];split<;>(try split)<;>(try split)<;>omega
 ·rw[if_neg h0,if_neg (show ¬ s=0 by omega)];split<;>(try split)<;>(try split)<;>(try split)<;>omega
theorem Zhn (r P j:Nat):ze (r*2^j) (P*2^j)=ze r P:=by
 have hp:0<2^j:=Nat.pow_pos (by omega);unfold ze;have e0:(r*2^j=0)↔r=0:=by rw[Nat.mul_eq_zero];omega
 have e1:(2*(r*2^j)<P*2^j)↔2*r<P:=by rw[← Nat.mul_assoc];exact Nat.mul_lt_mul_right hp
 have e2:(2*(r*2^j)=P*2^j)↔2*r=P:=by rw[← Nat.mul_assoc];exact Nat.mul_left_inj (by omega)
 simp only[e0,e1,e2]
theorem Zqi {m:Int}{neg o:Bool}{c d:Int}(h0:0≤c) (h:c≤d) (hu:upR m neg o c=true):upR m neg o d=true:=by
 unfold upR at*;by_cases hc:c=0
 ·rw[if_pos hc] at hu;cases hu
 ·rw[if_neg hc] at hu;rw[if_neg (show ¬ d=0 by omega)];by_cases h2:m=2
  ·rw[if_pos h2] at hu;cases hu
  ·rw[if_neg h2] at hu ⊢;by_cases h3:m=3
   ·rw[if_pos h3] at hu ⊢;exact hu
   ·rw[if_neg h3] at hu ⊢;by_cases h4:m=4
    ·rw[if_pos h4] at hu ⊢;exact hu
    ·rw[if_neg h4] at hu ⊢;by_cases h1:m=1
     ·rw[if_pos h1] at hu ⊢;simp only[Xi] at*;omega
     ·rw[if_neg h1] at hu ⊢;simp only[Bool.or_eq_true,Xh,Xi] at*;rcases hu with hu | ⟨hu,ho⟩
      ·left;omega
      ·by_cases hd:d=2
       ·right;exact⟨hd,ho⟩
       ·left;omega
theorem Zqj (m:Int) (neg:Bool) (T k:Nat):T/2^k≤rq m neg T k∧rq m neg T k≤T/2^k+1:=by unfold rq;split<;>omega
theorem Zqk {m:Int}{neg:Bool}{T k:Nat}(h:T % 2^k=0):rq m neg T k=T/2^k:=by
 unfold rq;rw[h,ZjO,Zqg];simp
theorem Zql (m:Int) (neg:Bool) (T k j:Nat):rq m neg (T*2^j) (k+j)=rq m neg T k:=by
 have hp:0<2^j:=Nat.pow_pos (by omega);unfold rq;rw[Nat.pow_add,Nat.mul_div_mul_right _ _ hp,Nat.mul_mod_mul_right,Zhn]
theorem Zv2 {m:Int}{neg:Bool}{T U:Nat}(k:Nat) (h:T≤U):rq m neg T k≤rq m neg U k:=by
 have hp:0<2^k:=Nat.pow_pos (by omega);have hd:T/2^k≤U/2^k:=Nat.div_le_div_right h;have b1:=Zqj m neg T k;have b2:=Zqj m neg U k;by_cases he:T/2^k=U/2^k
 ·have m1:=Nat.div_add_mod T (2^k);have m2:=Nat.div_add_mod U (2^k);have hr:T % 2^k≤U % 2^k:=by rw[he] at m1;omega
  unfold rq;rw[he];by_cases hu:upR m neg (odd (U/2^k)) (ze (T % 2^k) (2^k))=true
  ·rw[if_pos hu,if_pos (Zqi (Zqh _ _).1 (ZjP hr) hu)];omega
  ·rw[if_neg hu];split<;>omega
 ·omega
theorem Zgl (m:Int) (neg:Bool) (T j:Nat) (E e:Int):toQ m neg (T*2^j) (E-j) e=toQ m neg T E e:=by
 unfold toQ;by_cases h1:e≤E
 ·rw[if_pos h1];by_cases h2:e≤E-j
  ·rw[if_pos h2,Nat.mul_assoc,← Nat.pow_add];congr 2;omega
  ·rw[if_neg h2];have ej:j=(E-e).toNat+(e-(E-j)).toNat:=by omega
   have e1:T*2^j=T*2^(E-e).toNat*2^(e-(E-j)).toNat:=by rw[Nat.mul_assoc,← Nat.pow_add,← ej]
   have hp:0<2^(e-(E-j)).toNat:=Nat.pow_pos (by omega);rw[e1,Zqk (Nat.mul_mod_left _ _),Nat.mul_div_cancel _ hp]
 ·rw[if_neg h1,if_neg (by omega),show (e-(E-j)).toNat=(e-E).toNat+j by omega,Zql]
theorem Zmq (T j:Nat) (E e:Int):toL (T*2^j) (E-j) e=toL T E e:=by
 have hp:0<2^j:=Nat.pow_pos (by omega);unfold toL;by_cases h1:e≤E
 ·rw[if_pos h1];by_cases h2:e≤E-j
  ·rw[if_pos h2]
  ·rw[if_neg h2];have ej:j=(E-e).toNat+(e-(E-j)).toNat:=by omega
   have e1:T*2^j=T*2^(E-e).toNat*2^(e-(E-j)).toNat:=by rw[Nat.mul_assoc,← Nat.pow_add,← ej]
   rw[e1,Nat.mul_mod_left];simp
 ·rw[if_neg h1,if_neg (by omega),show (e-(E-j)).toNat=(e-E).toNat+j by omega,Nat.pow_add,Nat.mul_mod_mul_right];congr 1;rw[ne_eq,ne_eq,Nat.mul_eq_zero];simp only[eq_iff_iff];omega
theorem Zgm {T:Nat}(h:T≠0) (j:Nat) (E:Int):lgN (T*2^j) (E-j)=lgN T E:=by
 unfold lgN;rw[Zv1 h];omega
theorem Ze1 {T:Nat}(h:T≠0) (j:Nat) (E:Int):Zak (T*2^j) (E-j)=Zak T E:=by unfold Zak;rw[Zgm h]
theorem Zi7 {T:Nat}(h:T≠0) (m:Int) (neg:Bool) (j:Nat) (E:Int):p0 m neg (T*2^j) (E-j)=p0 m neg T E:=by unfold p0;rw[Ze1 h,Zgl]
theorem ZjQ {T:Nat}(h:T≠0) (m:Int) (neg:Bool) (j:Nat) (E:Int):Ze0 m neg (T*2^j) (E-j)=Ze0 m neg T E:=by unfold Ze0;rw[Zgm h,Zgl]
theorem Zi8 {T:Nat}(j:Nat):(T*2^j=0)=(T=0):=by
 have hp:0<2^j:=Nat.pow_pos (by omega);rw[Nat.mul_eq_zero];simp only[eq_iff_iff];omega
theorem zu (m:Int) (neg:Bool) (T j:Nat) (E:Int):rnP m neg (T*2^j) (E-j)=rnP m neg T E:=by
 unfold rnP;simp only[Zi8];by_cases h:T=0
 ·rw[if_pos h,if_pos h]
 ·rw[if_neg h,if_neg h,Zi7 h]
theorem Zaf (m:Int) (neg:Bool) (T j:Nat) (E:Int):rnF m neg (T*2^j) (E-j)=rnF m neg T E:=by
 unfold rnF;simp only[Zi8];by_cases h:T=0
 ·rw[if_pos h,if_pos h]
 ·rw[if_neg h,if_neg h,Zi7 h,ZjQ h,Ze1 h,Zmq]
end Go.Rn
namespace Go.Rn
open Go.Pt
theorem Zs5 {m:Int}{neg:Bool}{T:Nat}{E e:Int}{n:Nat}(h:(bitLen T:Int)+(E-e)≤n):toQ m neg T E e≤2^n:=by
 have a1:=(bitLen_spec T).1;unfold toQ;by_cases he:e≤E
 ·rw[if_pos he];have hp:0<2^(E-e).toNat:=Nat.pow_pos (by omega);have:=Nat.mul_le_mul_right (2^(E-e).toNat) (Nat.le_of_lt a1);rw[← Nat.pow_add] at this;have h2:=Nat.pow_le_pow_right (show 0<2 by omega) (show bitLen T+(E-e).toNat≤n by omega);omega
 ·rw[if_neg he];have b:=(Zqj m neg T (e-E).toNat).2;have h2:=Nat.pow_le_pow_right (show 0<2 by omega) (show bitLen T≤n+(e-E).toNat by omega);have h3:T/2^(e-E).toNat<2^n:=by
   apply Nat.div_lt_of_lt_mul;rw[Nat.pow_add,Nat.mul_comm] at h2;omega
  omega
theorem Z00 {m:Int}{neg:Bool}{T:Nat}{E e:Int}{n:Nat}(hT:T≠0) (h:(n:Int)+1≤(bitLen T:Int)+(E-e)):2^n≤toQ m neg T E e:=by
 have a2:=(bitLen_spec T).2 hT;have a3:=zB hT;unfold toQ;by_cases he:e≤E
 ·rw[if_pos he];have:=Nat.mul_le_mul_right (2^(E-e).toNat) a2;rw[← Nat.pow_add] at this;have h2:=Nat.pow_le_pow_right (show 0<2 by omega) (show n≤bitLen T-1+(E-e).toNat by omega);omega
 ·rw[if_neg he];have b:=(Zqj m neg T (e-E).toNat).1;have hp:0<2^(e-E).toNat:=Nat.pow_pos (by omega);have h2:=Nat.pow_le_pow_right (show 0<2 by omega) (show n+(e-E).toNat≤bitLen T-1 by omega);have h3:2^n≤T/2^(e-E).toNat:=by
   rw[Nat.le_div_iff_mul_le hp,← Nat.pow_add];omega
  omega
theorem Zmr (m:Int) (neg:Bool) (T:Nat) (E:Int):toQ m neg T E (Zak T E)≤9007199254740992:=by
 refine Zs5 (n:=53) ?_;unfold Zak lgN;split<;>omega
theorem Zs6 {m:Int}{neg:Bool}{T:Nat}{E:Int}(hT:T≠0) (h: -1074≤lgN T E-52):4503599627370496≤toQ m neg T E (Zak T E):=by
 refine Z00 (n:=52) hT ?_;unfold Zak lgN at*;split<;>omega
theorem Zqm {m:Int}{neg:Bool}{T U:Nat}{E:Int}(e:Int) (h:T≤U):toQ m neg T E e≤toQ m neg U E e:=by
 unfold toQ;split
 ·exact Nat.mul_le_mul_right _ h
 ·exact Zv2 _ h
theorem Zqn {T U:Nat}(E:Int) (h:T≤U):lgN T E≤lgN U E:=by
 have:=Zqf h;unfold lgN;omega
theorem Zv3 {m:Int}{neg:Bool}{T U:Nat}{E:Int}(hT:T≠0) (h:T≤U):p0 m neg T E≤p0 m neg U E:=by
 have hl:=Zqn E h;unfold p0;by_cases he:Zak T E=Zak U E
 ·rw[he];have:=Zqm (m:=m) (neg:=neg) (E:=E) (Zak U E) h;omega
 ·have h1:=Zmr m neg T E;have h3: -1074≤lgN U E-52∧Zak T E+1≤Zak U E:=by
   unfold Zak at he ⊢;split at he<;>split at he<;>(try split)<;>(try split)<;>omega
  have h2:=Zs6 (m:=m) (neg:=neg) (T:=U) (E:=E) (by omega) h3.1;omega
theorem Zv4 (T:Nat) (E:Int): -1074≤Zak T E:=by unfold Zak;split<;>omega
theorem Zgn (m:Int) (neg:Bool) (T:Nat) (E:Int):0≤p0 m neg T E:=by
 have:=Zv4 T E;unfold p0;omega
theorem Zms (m:Int) (neg:Bool):bey m neg=9218868437227405312∨bey m neg=9218868437227405311:=by unfold bey;split<;>simp
theorem Z01 (m:Int) (neg:Bool) (T:Nat) (E:Int):0≤rnP m neg T E∧rnP m neg T E≤9218868437227405312:=by
 have h:=Zgn m neg T E;have hb:=Zms m neg;unfold rnP;split
 ·omega
 ·split<;>omega
theorem zZ {m:Int}{neg:Bool}{T U:Nat}{E:Int}(h:T≤U):rnP m neg T E≤rnP m neg U E:=by
 have hU:=Z01 m neg U E;by_cases hT:T=0
 ·unfold rnP at*;rw[if_pos hT];exact hU.1
 ·have hp:=Zv3 (m:=m) (neg:=neg) (E:=E) hT h;have hb:=Zms m neg;unfold rnP;rw[if_neg hT,if_neg (show ¬ U=0 by omega)];split<;>split<;>omega
theorem Zs7 {m:Int}{neg:Bool}{S:Nat}{x:Int}(hx: -1074≤x) (hS:S<9007199254740992) (h:x= -1074∨4503599627370496≤S) (hb:(x+1074)*4503599627370496+(S:Int)<9218868437227405312) (h0:S=0→x= -1074):
  rnP m neg S x=(x+1074)*4503599627370496+(S:Int)∧rnF m neg S x=0:=by
 by_cases hz:S=0
 ·have:=h0 hz;subst hz;subst this;simp [rnP,rnF]
 ·have hl:bitLen S≤53:=len_le hS;have he:Zak S x=x:=by
   unfold Zak lgN;rcases h with h | h
   ·rw[if_pos (by omega)];omega
   ·have:=Za3 (T:=S) (k:=52) h;split<;>omega
  have hq:∀ n,toQ n neg S x x=S:=fun n=>by unfold toQ;rw[if_pos (by omega),Int.sub_self];simp
  have ht:toL S x x=false:=by unfold toL;rw[if_pos (by omega)]
  unfold rnP rnF p0;rw[he,hq,ht,if_neg hz,if_neg hz,if_neg (by omega),if_neg (by omega)];simp
theorem own_pat {m:Int}{neg:Bool}{p:Int}(h:ex p≠2047):rnP m neg (sg p).toNat (xp p)=mag p∧rnF m neg (sg p).toNat (xp p)=0:=by
 have h1:=Zhh p;have h2:=ZdD p;have h3:=Zsu p;have h4:mag p=4503599627370496*ex p+fr p:=by unfold mag ex fr;omega
 unfold sg xp;by_cases h0:ex p=0
 ·simp only[if_pos h0];obtain⟨a,b⟩:=Zs7 (m:=m) (neg:=neg) (S:=(fr p).toNat) (x:= -1074) (by omega) (by omega) (by omega) (by omega) (by omega);refine⟨?_,b⟩;rw[a];omega
 ·simp only[if_neg h0,if_neg h];obtain⟨a,b⟩:=Zs7 (m:=m) (neg:=neg) (S:=(fr p+4503599627370496).toNat) (x:=ex p-1075) (by omega) (by omega) (by omega) (by omega) (by omega);refine⟨?_,b⟩;rw[a];omega
end Go.Rn
namespace Go.Wd
structure W4 where
 a:Int
 b:Int
 c:Int
 d:Int
def W4.val (x:W4):Int:=x.a+18446744073709551616*x.b+340282366920938463463374607431768211456*x.c+6277101735386680763835789423207666416102355444464034512896*x.d
abbrev W4.ok (x:W4):Prop:=(0≤x.a∧x.a<18446744073709551616)∧(0≤x.b∧x.b<18446744073709551616)∧(0≤x.c∧x.c<18446744073709551616)∧(0≤x.d∧x.d<18446744073709551616)
def W4.of (n:Int):W4:=
 ⟨n % 18446744073709551616,n/18446744073709551616 % 18446744073709551616,n/340282366920938463463374607431768211456 % 18446744073709551616,n/6277101735386680763835789423207666416102355444464034512896 % 18446744073709551616⟩
def eqW (x y:W4):Bool:=x.a==y.a && (x.b==y.b && (x.c==y.c && (x.d==y.d && true)))
theorem Zfc {x y:W4}:eqW x y=true↔x=y:=by
 cases x;cases y;simp [eqW]
theorem W4.ext' {x y:W4}(h1:x.a=y.a) (h2:x.b=y.b) (h3:x.c=y.c) (h4:x.d=y.d):x=y:=by
 cases x;cases y;simp_all
theorem W4.ok_of (n:Int):(W4.of n).ok:=by
 unfold W4.of W4.ok;refine⟨⟨?_,?_⟩,⟨?_,?_⟩,⟨?_,?_⟩,⟨?_,?_⟩⟩<;>dsimp only<;>omega
theorem W4.of_val {x:W4}(h:x.ok):W4.of x.val=x:=by
 obtain⟨a,b,c,d⟩:=x;unfold W4.ok at h;unfold W4.val W4.of;dsimp only at*;refine W4.ext' ?_ ?_ ?_ ?_<;>dsimp only<;>omega
theorem W4.val_of (n:Int):(W4.of n).val=n % 115792089237316195423570985008687907853269984665640564039457584007913129639936:=by
 unfold W4.val W4.of;dsimp only;omega
theorem W4.val_bd {x:W4}(h:x.ok):0≤x.val∧x.val<115792089237316195423570985008687907853269984665640564039457584007913129639936:=by
 obtain⟨a,b,c,d⟩:=x;unfold W4.ok at h;unfold W4.val;dsimp only at*;omega
theorem W4.val_inj {x y:W4}(hx:x.ok) (hy:y.ok) (h:x.val=y.val):x=y:=by
 rw[← W4.of_val hx,← W4.of_val hy,h]
def ad (x y c:Int):Int:=(x+y+c) % 18446744073709551616
def ca (x y c:Int):Int:=(x+y+c)/18446744073709551616
def Z46 (x y:W4):W4:=⟨ad x.a y.a 0,ad x.b y.b (ca x.a y.a 0),ad x.c y.c (ca x.b y.b (ca x.a y.a 0)),ad x.d y.d (ca x.c y.c (ca x.b y.b (ca x.a y.a 0)))⟩
def Z47 (x y:W4):Int:=ca x.d y.d (ca x.c y.c (ca x.b y.b (ca x.a y.a 0)))
theorem Zv5 {x y:W4}(hx:x.ok) (hy:y.ok):Z46 x y=W4.of (x.val+y.val):=by
 obtain⟨a,b,c,d⟩:=x;obtain⟨a',b',c',d'⟩:=y;unfold W4.ok at hx hy;unfold W4.val W4.of Z46 ad ca;dsimp only at*;refine W4.ext' ?_ ?_ ?_ ?_<;>dsimp only<;>omega
theorem Zv6 {x y:W4}(hx:x.ok) (hy:y.ok):(Z47 x y !=0)=decide (115792089237316195423570985008687907853269984665640564039457584007913129639936≤x.val+y.val):=by
 obtain⟨a,b,c,d⟩:=x;obtain⟨a',b',c',d'⟩:=y;unfold W4.ok at hx hy;unfold W4.val Z47 ca;dsimp only at*;rw[Bool.eq_iff_iff];simp only[bne_iff_ne,ne_eq,Xi];omega
end Go.Wd
namespace Go.Wd
open Go.IntKind
theorem Zb5 (n:Int):u64.wrap n=n % 18446744073709551616:=by simp [IntKind.wrap,IntKind.bits,IntKind.signed]
theorem Zbo {n:Int}(h0: -9223372036854775808≤n) (h1:n≤9223372036854775807):i64.wrap n=n:=by
 simp [IntKind.wrap,IntKind.bits,IntKind.signed];omega
def prt (n:Int):Int:=u64.wrap (n.tmod 64)
def rem (n:Int):Int:=u64.wrap (64-prt n)
def up (a n:Int):Int:=u64.wrap (a*2^min (prt n).toNat 64)
def dn (a n:Int):Int:=a.fdiv (2^min (rem n).toNat 64)
def dn' (a n:Int):Int:=a.fdiv (2^min (prt n).toNat 64)
def up' (a n:Int):Int:=u64.wrap (a*2^min (rem n).toNat 64)
def orr (x y:Int):Int:=u64.wrap ((BitVec.ofInt 64 x ||| BitVec.ofInt 64 y).toNat:Nat)
theorem Zmt {n:Int}(h:0≤n):prt n=n % 64:=by
 unfold prt;rw[Int.tmod_eq_emod_of_nonneg h,Zb5];omega
theorem Zs8 {n:Int}(h:0≤n):rem n=64-n % 64:=by
 unfold rem;rw[Zmt h,Zb5];omega
structure Parts (n q r:Int):Prop where
 q1:1≤q
 r1:1<r
 qr:q*r=18446744073709551616
 eq:q=2^(n % 64).toNat
 er:r=2^(64-n % 64).toNat
theorem zC (n:Int):Parts n (2^(n % 64).toNat) (2^(64-n % 64).toNat):=by
 have h1:0≤n % 64:=by omega
 have h2:n % 64<64:=by omega
 refine⟨?_,?_,?_,rfl,rfl⟩
 ·have:(0:Int)<2^(n % 64).toNat:=Int.pow_pos (by omega);omega
 ·obtain⟨k,hk⟩:∃ k,(64-n % 64).toNat=k+1:=⟨(64-n % 64).toNat-1,by omega⟩;rw[hk,Int.pow_succ];have:(0:Int)<2^k:=Int.pow_pos (by omega);omega
 ·rw[← Int.pow_add];have:(n % 64).toNat+(64-n % 64).toNat=64:=by omega
  rw[this];rfl
theorem Zmu {n:Int}(h:0≤n):min (prt n).toNat 64=(n % 64).toNat:=by rw[Zmt h];omega
theorem Zmv {n:Int}(h:0≤n):min (rem n).toNat 64=(64-n % 64).toNat:=by rw[Zs8 h];omega
structure Cut (a q r hi lo:Int):Prop where
 sum:a=r*hi+lo
 lo0:0≤lo
 lo1:lo<r
 hi0:0≤hi
 hi1:hi<q
theorem cut {a n q r:Int}(P:Parts n q r) (h0:0≤a) (h1:a<18446744073709551616):Cut a q r (a/r) (a % r):=by
 have hr:0<r:=by have:=P.r1;omega
 refine⟨(Int.mul_ediv_add_emod a r).symm,Int.emod_nonneg _ (by omega),Int.emod_lt_of_pos _ hr,Int.ediv_nonneg h0 (by omega),?_⟩;apply Int.ediv_lt_of_lt_mul hr;rw[P.qr];exact h1
theorem Zck (x y c:Int) (hc:0≤c) (h:x≤y):c*x≤c*y:=Int.mul_le_mul_of_nonneg_left h hc
theorem Z02 {a n q r hi lo:Int}(hn:0≤n) (P:Parts n q r) (C:Cut a q r hi lo):up a n=q*lo∧0≤q*lo∧q*lo+q≤18446744073709551616∧a*q=18446744073709551616*hi+q*lo:=by
 have e:a*q=18446744073709551616*hi+q*lo:=by
  rw[C.sum,Int.add_mul,← P.qr,Int.mul_comm r hi,Int.mul_assoc hi r q,Int.mul_comm r q,Int.mul_comm hi (q*r),Int.mul_comm lo q]
 have b0:0≤q*lo:=Int.mul_nonneg (by have:=P.q1;omega) C.lo0;have b1:q*lo+q≤18446744073709551616:=by
  have h:=Zck (lo+1) r q (by have:=P.q1;omega) (by have:=C.lo1;omega);rw[P.qr,Int.mul_add,Int.mul_one] at h;exact h
 refine⟨?_,b0,b1,e⟩;unfold up;rw[Zmu hn,← P.eq,Zb5,e];have:=P.q1;omega
theorem Z48 {a n q r hi lo:Int}(hn:0≤n) (P:Parts n q r) (C:Cut a q r hi lo):dn a n=hi:=by
 unfold dn;rw[Zmv hn,← P.er,Int.fdiv_eq_ediv_of_nonneg _ (by have:=P.r1;omega),C.sum,Int.mul_comm r hi,Int.add_comm,Int.add_mul_ediv_right _ _ (by have:=P.r1;omega),
  Int.ediv_eq_zero_of_lt C.lo0 C.lo1,Int.zero_add]
theorem Zs9 {k:Nat}{x y:Int}(hx:∃ z:Int,x=2^k*z) (x0:0≤x) (y0:0≤y) (y1:y<2^k) (hs:x+y<18446744073709551616):orr x y=x+y:=by
 obtain⟨z,hz⟩:=hx;have hp:(0:Int)<2^k:=Int.pow_pos (by omega);have z0:0≤z:=by
  rcases Int.lt_or_le z 0 with h | h
  ·have:=Zck z (-1) (2^k) (by omega) (by omega);omega
  ·exact h
 obtain⟨Z,rfl⟩:=Int.eq_ofNat_of_zero_le z0;obtain⟨Y,rfl⟩:=Int.eq_ofNat_of_zero_le y0;have ex:x=((2^k*Z:Nat):Int):=by rw[hz];simp
 have hY:Y<2^k:=by
  have:((Y:Nat):Int)<((2^k:Nat):Int):=by simpa using y1
  exact Int.ofNat_lt.1 this
 have hX:2^k*Z+Y<18446744073709551616:=by
  rw[ex] at hs;have:(((2^k*Z+Y:Nat)):Int)<18446744073709551616:=by simpa using hs
  omega
 unfold orr;rw[ex];have e1:∀ m:Nat,m<18446744073709551616→(BitVec.ofInt 64 (m:Int)).toNat=m:=fun m hm=>by
  simp;omega
 rw[BitVec.toNat_or,e1 _ (by omega),e1 _ (by omega),← Nat.two_pow_add_eq_or_of_lt hY,Zb5];have:(((2^k*Z+Y:Nat)):Int)=((2^k*Z:Nat):Int)+(Y:Int):=by simp
 rw[this];omega
theorem W4.of_eq {x:W4}{N k:Int}(hx:x.ok) (h:N=x.val+115792089237316195423570985008687907853269984665640564039457584007913129639936*k):W4.of N=x:=by
 obtain⟨a,b,c,d⟩:=x;unfold W4.ok at hx;unfold W4.val at h;unfold W4.of;dsimp only at*;subst h;refine W4.ext' ?_ ?_ ?_ ?_<;>dsimp only<;>omega
def Z03 (x:W4) (n:Int):W4:=⟨up x.a n,orr (up x.b n) (dn x.a n),orr (up x.c n) (dn x.b n),orr (up x.d n) (dn x.c n)⟩
def Z04 (x:W4) (n:Int):W4:=⟨0,up x.a n,orr (up x.b n) (dn x.a n),orr (up x.c n) (dn x.b n)⟩
def Z05 (x:W4) (n:Int):W4:=⟨0,0,up x.a n,orr (up x.b n) (dn x.a n)⟩
def Z06 (x:W4) (n:Int):W4:=⟨0,0,0,up x.a n⟩
theorem Zbp {n:Int}(hn:0≤n) {a b:Int}(ha:0≤a∧a<18446744073709551616) (hb:0≤b∧b<18446744073709551616):
  orr (up b n) (dn a n)=up b n+dn a n∧(0≤up a n∧up a n<18446744073709551616)∧(0≤up b n+dn a n∧up b n+dn a n<18446744073709551616)∧
   a*2^(n % 64).toNat=18446744073709551616*dn a n+up a n:=by
 have P:=zC n;have Ca:=cut P ha.1 ha.2;have Cb:=cut P hb.1 hb.2;obtain⟨e1,b1,b2,b3⟩:=Z02 hn P Ca;obtain⟨f1,c1,c2,c3⟩:=Z02 hn P Cb;have e2:=Z48 hn P Ca;have q1:=P.q1;have h0:=Ca.hi0;have h1:=Ca.hi1;refine⟨?_,⟨by omega,by omega⟩,⟨by omega,by omega⟩,by rw[e1,e2];exact b3⟩;rw[f1,e2];exact Zs9 (k:=(n % 64).toNat) ⟨_,rfl⟩ c1 h0 h1 (by omega)
theorem z64:(0:Int)≤0∧(0:Int)<18446744073709551616:=⟨by omega,by omega⟩
theorem Zag (n:Int) (h0:0≤n) (j:Nat) (hj:n/64=j):(2:Int)^n.toNat=2^(64*j)*2^(n % 64).toNat:=by
 rw[← Int.pow_add];congr 1;omega
theorem Zbq (x:W4) (q:Int):x.val*q=x.a*q+18446744073709551616*(x.b*q)+340282366920938463463374607431768211456*(x.c*q)+6277101735386680763835789423207666416102355444464034512896*(x.d*q):=by
 unfold W4.val;rw[Int.add_mul,Int.add_mul,Int.add_mul,Int.mul_assoc,Int.mul_assoc,Int.mul_assoc]
theorem Zv7 {x:W4}(hx:x.ok) {n:Int}(hn:0≤n) (hj:n/64=0):Z03 x n=W4.of (x.val*2^n.toNat):=by
 obtain⟨h1,h2,h3,h4⟩:=hx;obtain⟨o1,u1,s1,m1⟩:=Zbp hn h1 h2;obtain⟨o2,u2,s2,m2⟩:=Zbp hn h2 h3;obtain⟨o3,u3,s3,m3⟩:=Zbp hn h3 h4;obtain⟨_,u4,_,m4⟩:=Zbp hn h4 h1;have e:=Zag n hn 0 hj;have one:(2:Int)^(64*0)=1:=rfl;rw[one,Int.one_mul] at e;refine (W4.of_eq (x:=Z03 x n) (k:=dn x.d n) ?_ ?_).symm
 ·unfold Z03;rw[o1,o2,o3];exact⟨u1,s1,s2,s3⟩
 ·rw[e,Zbq,m1,m2,m3,m4];unfold Z03 W4.val;dsimp only;rw[o1,o2,o3];omega
theorem Zv8 {x:W4}(hx:x.ok) {n:Int}(hn:0≤n) (hj:n/64=1):Z04 x n=W4.of (x.val*2^n.toNat):=by
 obtain⟨h1,h2,h3,h4⟩:=hx;obtain⟨o1,u1,s1,m1⟩:=Zbp hn h1 h2;obtain⟨o2,u2,s2,m2⟩:=Zbp hn h2 h3;obtain⟨_,u3,_,m3⟩:=Zbp hn h3 h4;obtain⟨_,u4,_,m4⟩:=Zbp hn h4 h1;have e:=Zag n hn 1 hj;have one:(2:Int)^(64*1)=18446744073709551616:=rfl;rw[one] at e;refine (W4.of_eq (x:=Z04 x n) (k:=dn x.c n+(18446744073709551616*dn x.d n+up x.d n)) ?_ ?_).symm
 ·unfold Z04;rw[o1,o2];exact⟨z64,u1,s1,s2⟩
 ·rw[e,Int.mul_left_comm,Zbq,m1,m2,m3,m4];unfold Z04 W4.val;dsimp only;rw[o1,o2];omega
theorem Zv9 {x:W4}(hx:x.ok) {n:Int}(hn:0≤n) (hj:n/64=2):Z05 x n=W4.of (x.val*2^n.toNat):=by
 obtain⟨h1,h2,h3,h4⟩:=hx;obtain⟨o1,u1,s1,m1⟩:=Zbp hn h1 h2;obtain⟨_,u2,_,m2⟩:=Zbp hn h2 h3;have e:=Zag n hn 2 hj;have one:(2:Int)^(64*2)=340282366920938463463374607431768211456:=rfl;rw[one] at e;refine (W4.of_eq (x:=Z05 x n) (k:=dn x.b n+x.c*2^(n % 64).toNat+18446744073709551616*(x.d*2^(n % 64).toNat)) ?_ ?_).symm
 ·unfold Z05;rw[o1];exact⟨z64,z64,u1,s1⟩
 ·rw[e,Int.mul_left_comm,Zbq,m1,m2];unfold Z05 W4.val;dsimp only;rw[o1];omega
theorem ZvA {x:W4}(hx:x.ok) {n:Int}(hn:0≤n) (hj:n/64=3):Z06 x n=W4.of (x.val*2^n.toNat):=by
 obtain⟨h1,h2,h3,h4⟩:=hx;obtain⟨_,u1,_,m1⟩:=Zbp hn h1 h2;have e:=Zag n hn 3 hj;have one:(2:Int)^(64*3)=6277101735386680763835789423207666416102355444464034512896:=rfl;rw[one] at e;refine (W4.of_eq (x:=Z06 x n) (k:=dn x.a n+x.b*2^(n % 64).toNat+18446744073709551616*(x.c*2^(n % 64).toNat)+340282366920938463463374607431768211456*(x.d*2^(n % 64).toNat)) ?_ ?_).symm
 ·unfold Z06;exact⟨z64,z64,z64,u1⟩
 ·rw[e,Int.mul_left_comm,Zbq,m1];unfold Z06 W4.val;dsimp only;omega
theorem Zqo (x y:Int):orr x y=orr y x:=by unfold orr;rw[BitVec.or_comm]
structure Cut' (a q r hi lo:Int):Prop where
 sum:a=q*hi+lo
 lo0:0≤lo
 lo1:lo<q
 hi0:0≤hi
 hi1:hi<r
theorem Z49 {a n q r:Int}(P:Parts n q r) (h0:0≤a) (h1:a<18446744073709551616):Cut' a q r (a/q) (a % q):=by
 have hq:0<q:=by have:=P.q1;omega
 refine⟨(Int.mul_ediv_add_emod a q).symm,Int.emod_nonneg _ (by omega),Int.emod_lt_of_pos _ hq,Int.ediv_nonneg h0 (by omega),?_⟩;apply Int.ediv_lt_of_lt_mul hq;rw[Int.mul_comm,P.qr];exact h1
theorem ZsA {a n q r:Int}(hn:0≤n) (P:Parts n q r):dn' a n=a/q:=by
 unfold dn';rw[Zmu hn,← P.eq,Int.fdiv_eq_ediv_of_nonneg _ (by have:=P.q1;omega)]
theorem ZsB {a n q r hi lo:Int}(hn:0≤n) (P:Parts n q r) (C:Cut' a q r hi lo):up' a n=r*lo∧0≤r*lo∧r*lo+r≤18446744073709551616:=by
 have e:a*r=18446744073709551616*hi+r*lo:=by
  rw[C.sum,Int.add_mul,← P.qr,Int.mul_right_comm q hi r,Int.mul_comm lo r]
 have b0:0≤r*lo:=Int.mul_nonneg (by have:=P.r1;omega) C.lo0;have b1:r*lo+r≤18446744073709551616:=by
  have h:=Zck (lo+1) q r (by have:=P.r1;omega) (by have:=C.lo1;omega);rw[Int.mul_comm r q,P.qr,Int.mul_add,Int.mul_one] at h;exact h
 refine⟨?_,b0,b1⟩;unfold up';rw[Zmv hn,← P.er,Zb5,e];have:=P.r1;omega
theorem zD {n:Int}(hn:0≤n) {a b:Int}(ha:0≤a∧a<18446744073709551616) (hb:0≤b∧b<18446744073709551616):
  ∃ lb:Int,orr (dn' a n) (up' b n)=dn' a n+up' b n∧(0≤dn' a n∧dn' a n<18446744073709551616)∧(0≤dn' a n+up' b n∧dn' a n+up' b n<18446744073709551616)∧
   2^(n % 64).toNat*up' b n=18446744073709551616*lb∧0≤lb∧lb<2^(n % 64).toNat∧b=2^(n % 64).toNat*dn' b n+lb:=by
 have P:=zC n;have Ca:=Z49 P ha.1 ha.2;have Cb:=Z49 P hb.1 hb.2;obtain⟨f1,c1,c2⟩:=ZsB hn P Cb;have e1:=ZsA (a:=a) hn P;have e2:=ZsA (a:=b) hn P;have h0:=Ca.hi0;have h1:=Ca.hi1;have r1:=P.r1;refine⟨b % 2^(n % 64).toNat,?_,⟨by omega,by omega⟩,⟨by omega,by omega⟩,?_,Cb.lo0,Cb.lo1,by rw[e2];exact Cb.sum⟩
 ·rw[Zqo,f1,e1,Int.add_comm];exact Zs9 (k:=(64-n % 64).toNat) ⟨_,rfl⟩ c1 h0 h1 (by omega)
 ·rw[f1,← Int.mul_assoc,P.qr]
theorem Zqp {n:Int}(hn:0≤n) {b:Int}(hb:0≤b∧b<18446744073709551616):up' b n % 2=0:=by
 have P:=zC n;obtain⟨f1,_,_⟩:=ZsB hn P (Z49 P hb.1 hb.2);obtain⟨k,hk⟩:∃ k,(64-n % 64).toNat=k+1:=⟨(64-n % 64).toNat-1,by omega⟩;rw[f1,hk,Int.pow_succ,Int.mul_comm _ 2,Int.mul_assoc];omega
def ZvB (x:W4) (n:Int):W4:=⟨orr (dn' x.a n) (up' x.b n),orr (dn' x.b n) (up' x.c n),orr (dn' x.c n) (up' x.d n),dn' x.d n⟩
def ZvC (x:W4) (n:Int):W4:=⟨orr (dn' x.b n) (up' x.c n),orr (dn' x.c n) (up' x.d n),dn' x.d n,0⟩
def ZvD (x:W4) (n:Int):W4:=⟨orr (dn' x.c n) (up' x.d n),dn' x.d n,0,0⟩
def ZvE (x:W4) (n:Int):W4:=⟨dn' x.d n,0,0,0⟩
theorem ZvF {N q m l:Int}(h:N=q*m+l) (h0:0≤l) (h1:l<q):N/q=m:=by
 rw[h,Int.add_comm,Int.add_mul_ediv_left _ _ (by omega),Int.ediv_eq_zero_of_lt h0 h1,Int.zero_add]
theorem Zfd {x m:W4}{n:Int}{q l:Int}(hm:m.ok) (h:x.val=q*m.val+l) (h0:0≤l) (h1:l<q) (hq:q=2^n.toNat):m=W4.of (x.val/2^n.toNat):=by
 rw[← hq,ZvF h h0 h1,W4.of_val hm]
theorem Zmw {x:W4}(hx:x.ok) {n:Int}(hn:0≤n) (hj:n/64=0):ZvB x n=W4.of (x.val/2^n.toNat)∧(ZvB x n).ok:=by
 obtain⟨h1,h2,h3,h4⟩:=hx;obtain⟨l1,o1,d1,s1,m1,l10,l11,e1⟩:=zD hn h1 h2;obtain⟨l2,o2,d2,s2,m2,l20,l21,e2⟩:=zD hn h2 h3;obtain⟨l3,o3,d3,s3,m3,l30,l31,e3⟩:=zD hn h3 h4;obtain⟨l4,_,d4,_,_,l40,l41,e4⟩:=zD hn h4 h1;have e:=Zag n hn 0 hj;have one:(2:Int)^(64*0)=1:=rfl;rw[one,Int.one_mul] at e;have hok:(ZvB x n).ok:=by unfold ZvB;rw[o1,o2,o3];exact⟨s1,s2,s3,d4⟩
 refine⟨Zfd (q:=2^(n % 64).toNat) (l:=l4) hok ?_ l40 l41 e.symm,hok⟩;rw[Int.mul_comm,Zbq];unfold ZvB W4.val;dsimp only;rw[o1,o2,o3];generalize (2:Int)^(n % 64).toNat=q at*;simp only[Int.mul_comm _ q,Int.mul_add];omega
theorem Zmx {x:W4}(hx:x.ok) {n:Int}(hn:0≤n) (hj:n/64=1):ZvC x n=W4.of (x.val/2^n.toNat)∧(ZvC x n).ok:=by
 obtain⟨h1,h2,h3,h4⟩:=hx;obtain⟨l2,o2,d2,s2,m2,l20,l21,e2⟩:=zD hn h2 h3;obtain⟨l3,o3,d3,s3,m3,l30,l31,e3⟩:=zD hn h3 h4;obtain⟨l4,_,d4,_,_,_,_,_⟩:=zD hn h4 h1;obtain⟨l5,_,_,_,_,l50,l51,e5⟩:=zD hn h1 h2;have e:=Zag n hn 1 hj;have one:(2:Int)^(64*1)=18446744073709551616:=rfl;rw[one] at e;have hok:(ZvC x n).ok:=by unfold ZvC;rw[o2,o3];exact⟨s2,s3,d4,z64⟩
 refine⟨Zfd (q:=18446744073709551616*2^(n % 64).toNat) (l:=x.a+18446744073709551616*l5) hok ?_ (by omega) (by omega) e.symm,hok⟩;rw[Int.mul_assoc,Int.mul_comm (2^(n % 64).toNat),Zbq];unfold ZvC W4.val;dsimp only;rw[o2,o3];generalize (2:Int)^(n % 64).toNat=q at*;simp only[Int.mul_comm _ q,Int.mul_add];omega
theorem Zmy {x:W4}(hx:x.ok) {n:Int}(hn:0≤n) (hj:n/64=2):ZvD x n=W4.of (x.val/2^n.toNat)∧(ZvD x n).ok:=by
 obtain⟨h1,h2,h3,h4⟩:=hx;obtain⟨l3,o3,d3,s3,m3,l30,l31,e3⟩:=zD hn h3 h4;obtain⟨l4,_,d4,_,_,_,_,_⟩:=zD hn h4 h1;obtain⟨l5,_,_,_,_,l50,l51,e5⟩:=zD hn h1 h3;have e:=Zag n hn 2 hj;have one:(2:Int)^(64*2)=340282366920938463463374607431768211456:=rfl;rw[one] at e;have hok:(ZvD x n).ok:=by unfold ZvD;rw[o3];exact⟨s3,d4,z64,z64⟩
 refine⟨Zfd (q:=340282366920938463463374607431768211456*2^(n % 64).toNat) (l:=x.a+18446744073709551616*x.b+340282366920938463463374607431768211456*l5) hok ?_ (by omega) (by omega) e.symm,hok⟩;rw[Int.mul_assoc,Int.mul_comm (2^(n % 64).toNat),Zbq];unfold ZvD W4.val;dsimp only;rw[o3];generalize (2:Int)^(n % 64).toNat=q at*;simp only[Int.mul_comm _ q,Int.mul_add];omega
theorem Zmz {x:W4}(hx:x.ok) {n:Int}(hn:0≤n) (hj:n/64=3):ZvE x n=W4.of (x.val/2^n.toNat)∧(ZvE x n).ok:=by
 obtain⟨h1,h2,h3,h4⟩:=hx;obtain⟨l4,_,d4,_,_,_,_,_⟩:=zD hn h4 h1;obtain⟨l5,_,_,_,_,l50,l51,e5⟩:=zD hn h1 h4;have e:=Zag n hn 3 hj;have one:(2:Int)^(64*3)=6277101735386680763835789423207666416102355444464034512896:=rfl;rw[one] at e;have hok:(ZvE x n).ok:=by unfold ZvE;exact⟨d4,z64,z64,z64⟩
 refine⟨Zfd (q:=6277101735386680763835789423207666416102355444464034512896*2^(n % 64).toNat) (l:=x.a+18446744073709551616*x.b+340282366920938463463374607431768211456*x.c+6277101735386680763835789423207666416102355444464034512896*l5) hok ?_ (by omega) (by omega) e.symm,hok⟩;rw[Int.mul_assoc,Int.mul_comm (2^(n % 64).toNat),Zbq];unfold ZvE W4.val;dsimp only;generalize (2:Int)^(n % 64).toNat=q at*;simp only[Int.mul_comm _ q];omega
end Go.Wd
