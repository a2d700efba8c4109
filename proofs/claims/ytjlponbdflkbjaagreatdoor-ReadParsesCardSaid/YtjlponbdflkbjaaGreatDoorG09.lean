/-
  TxJ, TxK, NumTy, TxL, PwD, ConVI, ConVJ, ConV9
-/
import Derived.Test.YtjlponbdflkbjaaGreatDoorG08
namespace Go.Proofs.YtjlponbdflkbjaaGreatDoor.Na
open Go.Proofs.Tryz
open Go.IntKind
open Go.KRun Go.Nt
set_option maxRecDepth 100000
def dgF (s:ByteArray) (j:Nat):Int:=byT s j-48
theorem Zfb {s:ByteArray}(h:ZoD s) {j:Nat}(hj:j<s.size):(48≤byT s j∧byT s j≤57)∧0≤dgF s j∧dgF s j<10:=by
 have h1:=h j hj;unfold Zgb at h1;simp only[Bool.or_eq_false_iff,decide_eq_false_iff_not] at h1;unfold dgF;omega
theorem Z8X {c b:Int}(hc:0≤c∧c<1000000000) (hb:48≤b∧b≤57):upC c b=c*10+(b-48):=by
 unfold upC;simp [IntKind.wrap,IntKind.bits,IntKind.signed];omega
theorem Z8Y {c x:Int}(hc:0≤c∧c<1000000000) (hx:0≤x∧x<4294967296):u32.wrap (ZyU c x)=(c+x*1000000000) % 4294967296∧(ZyU c x).fdiv (2^min (Int.toNat 32) 64)=(c+x*1000000000)/4294967296:=by
 have e:ZyU c x=c+x*1000000000:=by
  unfold ZyU;simp [IntKind.wrap,IntKind.bits,IntKind.signed];omega
 have e2:((2:Int)^min (Int.toNat 32) 64)=4294967296:=rfl;rw[e,e2,Int.fdiv_eq_ediv_of_nonneg _ (by omega)];refine⟨?_,rfl⟩;simp [IntKind.wrap,IntKind.bits,IntKind.signed]
theorem Z5m {k:Nat}(h:k≤9):(10:Nat)^k≤1000000000:=by
 have:=Nat.pow_le_pow_right (show 0<10 by omega) h;exact this
theorem Z5n {w:Value}{s:ByteArray}(hs:ZoD s) (h9:s.size≤9) (h:Hp) (g:Nat→Value) (sc:List Dec):
  Runs (Zk prog Zf Zn true) (.block 0 (.loop (uL1 f111))) (u1F w s 0 undef 0++tl 39 g,h,sc) fun e z=>e=none∧∃ (i:Value) (k:Int) (g:Nat→Value),z.1=u1F w s ((zE (dgF s) s.size:Nat):Int) i k++tl 39 g∧z.2.1=h:=by
 have hT:=Zj Zd;refine (Runs.forLoop (R:=fun _=>False) (P:=fun z=>∃ (i:Value) (k:Int) (g:Nat→Value),z.1=u1F w s ((zE (dgF s) s.size:Nat):Int) i k++tl 39 g∧z.2.1=h)
  (fun r z=>∃ (k:Nat) (i:Value) (g:Nat→Value),z.1=u1F w s ((zE (dgF s) k:Nat):Int) i k++tl 39 g∧z.2.1=h∧k≤s.size∧r=s.size-k)
  ?_ (n:=s.size) ⟨0,undef,g,rfl,rfl,by omega,by omega⟩).mono fun e z hz=> ?_
 ·rintro r ⟨t,h',sc'⟩ ⟨k,i,g,ht,hh,hk,hr⟩;simp only at ht hh;subst ht hh;by_cases hc:k<s.size
  ·obtain⟨b1,b2⟩:=Zfb hs hc;have hlt:=ZbY (f:=dgF s) k (fun j hj=>(Zfb hs (show j<s.size by omega)).2);have hp:=Z5m (show k≤9 by omega);have eC:=Z8X (c:=((zE (dgF s) k:Nat):Int)) ⟨by omega,by omega⟩ b1;have l1:decide ((0:Int)≤(k:Nat)∧((k:Nat):Int).toNat<s.data.toList.length)=true:=Xa ⟨by omega,by rw[Xg];exact hc⟩;refine (Zb hT (Z8R w s _ i (k:Nat) h' g) (Za l1 (Z4 (Xa (by omega))))).mono fun e z he=> ?_;obtain⟨rfl,⟨g',z1⟩,z2⟩:=he;refine⟨s.size-(k+1),by omega,k+1,.int .i64 (k:Nat),g',?_,z2,by omega,rfl⟩;rw[z1,Xg];have eb:(((s.data.toList.getD k 0).toNat:Nat):Int)=byT s k:=rfl;rw[eb,eC,Zv (by omega) (by omega)];congr 2;simp only[zE];have:((dgF s k).toNat:Int)=byT s k-48:=by unfold dgF at*;omega
   omega
  ·refine (Zb hT (Z8Q w s _ i (k:Nat) h' g) (Z4 (Xb (by omega)))).mono fun e z he=> ?_;obtain⟨rfl,⟨g',z1⟩,z2⟩:=he;rw[show k=s.size by omega] at z1;exact⟨rfl,i,_,g',z1,z2⟩
 ·match e,hz with
  | none,hz=>exact⟨rfl,hz⟩
theorem Z5o {n C:Nat}{s:ByteArray}{P:Int}(hP:0≤P∧P<1000000000) {L:List Int}(hL:wds L) (hn:L.length=n) (hN:n<4611686018427387904) {Z:List Value}(i v x:Value) (g g':Nat→Value) (sc:List Dec):
  Runs (Zk prog Zf Zn true) (.block 2 (.loop (uL2 f111))) (ml (u2A (sl 0 0 n C) s P i v x) 14 g (u2M (sl 0 0 n C) n 0) 25 g',hW1 (wU L++Z),sc) fun e z=>e=none∧∃ (i v x:Value) (j:Int) (g g':Nat→Value),z.1=ml (u2A (sl 0 0 n C) s ((vN L*1000000000+P)/4294967296^n) i v x) 14 g (u2M (sl 0 0 n C) n j) 25 g'∧z.2.1=hW1 (wU (dg n (vN L*1000000000+P))++Z):=by
 have hT:=Zj Zd;refine (Runs.forLoop (R:=fun _=>False) (P:=fun z=>∃ (i v x:Value) (j:Int) (g g':Nat→Value),z.1=ml (u2A (sl 0 0 n C) s ((vN L*1000000000+P)/4294967296^n) i v x) 14 g (u2M (sl 0 0 n C) n j) 25 g'∧z.2.1=hW1 (wU (dg n (vN L*1000000000+P))++Z))
  (fun r z=>∃ (dx px:List Int) (c:Int) (i v x:Value) (g g':Nat→Value),z.1=ml (u2A (sl 0 0 n C) s c i v x) 14 g (u2M (sl 0 0 n C) n dx.length) 25 g'∧z.2.1=hW1 (wU (dx++px)++Z)∧px.length=r∧dx.length+px.length=n∧wds dx∧wds px∧(0≤c∧c<1000000000)∧vN dx+4294967296^dx.length*(vN px*1000000000+c)=vN L*1000000000+P)
  ?_ (n:=n) ⟨[],L,P,i,v,x,g,g',rfl,rfl,hn,by simpa using hn,(fun x hx=>by cases hx),hL,hP,by simp [vN]⟩).mono fun e z hz=> ?_
 ·rintro r ⟨t,h',sc'⟩ ⟨dx,px,c,i,v,x0,g,g',ht,hh,hr,hl,wd1,wd2,hc,hv⟩;simp only at ht hh;subst ht hh
  match px,hr,hl,wd2,hv with
  | [],hr,hl,wd2,hv=>
   have hl':dx.length=n:=by simpa using hl
   refine (zC hT (Z8T n C s c i v x0 (dx.length:Nat) _ g g') (Z4 (Xb (by omega)))).mono fun e z he=> ?_;obtain⟨rfl,⟨g1,g2,z1⟩,z2⟩:=he;simp only[vN] at hv;rw[Int.zero_mul,Int.zero_add] at hv;have e5:=Zc5 dx.length (vN dx) c;rw[hv,Zfx dx wd1,hl'] at e5;have hb:=ZaK dx wd1;have e6:(vN L*1000000000+P)/4294967296^n=c:=by
    rw[← hv,← hl',Int.add_mul_ediv_left _ _ (by have:=Zaw dx.length;omega),Int.ediv_eq_zero_of_lt hb.1 hb.2,Int.zero_add]
   rw[e6,e5];rw[List.append_nil] at z2;exact⟨rfl,i,v,x0,_,g1,g2,z1,z2⟩
  | x::px,hr,hl,wd2,hv=>
   obtain⟨wx,wd2⟩:=Zah wd2;obtain⟨t1,t2⟩:=Z8Y hc wx;have hl':dx.length<n:=by simp at hl;omega
   have cS:(wU (dx++x::px)++Z)[0+dx.length]? =some (uu x):=by
    rw[Nat.zero_add,List.getElem?_append_left (by unfold wU;simp)];exact ZsJ dx x px
   have l1:decide (0+((dx.length:Nat):Int).toNat*1<(wU (dx++x::px)++Z).length)=true:=Xa (by unfold wU;simp);have l2:(inR (dx.length:Nat) n).1=(inR (dx.length:Nat) n).2:=Xa (by omega);have l3:(Zdr (wU (dx++x::px)++Z) 0 (dx.length:Nat) x).1=(Zdr (wU (dx++x::px)++Z) 0 (dx.length:Nat) x).2:=Zav cS;refine (zC hT (Z8U n C s c i v x0 (dx.length:Nat) x _ g g') (Za (by decide) (Za l1 (Za l2 (Za l3 (Za l2 (Z4 (Xa (by omega))))))))).mono fun e z he=> ?_;obtain⟨rfl,⟨g1,g2,z1⟩,z2⟩:=he;rw[t2] at z1;rw[t1] at z2;refine⟨px.length,by simp at hr;omega,dx++[(c+x*1000000000) % 4294967296],px,(c+x*1000000000)/4294967296,i,.int .i64 (dx.length:Nat),uu x,g1,g2,?_,?_,rfl,by simp at hl ⊢;omega,Zai wd1 (fun z hz=>by rw[List.mem_singleton.1 hz];omega),wd2,by omega,?_⟩
   ·rw[z1,Zv (by omega) (by omega),List.length_append,List.length_singleton];rfl
   ·rw[z2,Xg,Nat.mul_one,Nat.zero_add,List.set_append_left _ _ (by unfold wU;simp),Zil]
   ·rw[zp,List.length_append,List.length_singleton,Int.pow_succ,← hv];simp only[vN];generalize vN px=A;generalize (4294967296:Int)^dx.length=Q;have e:(c+x*1000000000)=4294967296*((c+x*1000000000)/4294967296)+(c+x*1000000000) % 4294967296:=by omega
    generalize (c+x*1000000000)/4294967296=d at*;generalize (c+x*1000000000) % 4294967296=m at*;have e':(x+4294967296*A)*1000000000+c=4294967296*d+m+4294967296*A*1000000000:=by omega
    rw[e'];have d1:Q*(4294967296*d+m+4294967296*A*1000000000)=Q*4294967296*d+Q*m+Q*4294967296*(A*1000000000):=by
     rw[Int.mul_add,Int.mul_add,← Int.mul_assoc,Int.mul_assoc 4294967296 A,← Int.mul_assoc Q]
    rw[d1,Int.mul_add];omega
 ·match e,hz with
  | none,hz=>exact⟨rfl,hz⟩
def ppT (L:List Int) (s:ByteArray):Int:=vN L*1000000000+((zE (dgF s) s.size:Nat):Int)
theorem Zmu {C:Nat}{s:ByteArray}(hs:ZoD s) (h9:s.size≤9) {L:List Int}(hL:wds L) (hN:L.length<1073741824) {Z:List Value}:
  (ppT L s/4294967296^L.length=0→Runs (Zk prog Zf Zn true) (za (uP f111) (.seq (.seq (uR2 f111) (.block 0 (.loop (uL1 f111)))) (.seq (.seq (uR7 f111) (.block 2 (.loop (uL2 f111)))) (uE f111)))) ([sl 0 0 L.length C,.string s]++List.replicate 49 undef,hW1 (wU L++Z),[]) fun e y=>(e=none∨e=some none)∧ZV prog f111 y.1 y.2.1=some (sl 0 0 L.length C)∧y.2.1.cut 1=hW1 (wU (dg L.length (ppT L s))++Z))∧
  (ppT L s/4294967296^L.length≠0→L.length<C→ZA C=true→0<Z.length→Runs (Zk prog Zf Zn true) (za (uP f111) (.seq (.seq (uR2 f111) (.block 0 (.loop (uL1 f111)))) (.seq (.seq (uR7 f111) (.block 2 (.loop (uL2 f111)))) (uE f111)))) ([sl 0 0 L.length C,.string s]++List.replicate 49 undef,hW1 (wU L++Z),[]) fun e y=>(e=none∨e=some none)∧ZV prog f111 y.1 y.2.1=some (sl 0 0 (L.length+1) C)∧y.2.1.cut 1=hW1 (wU (dg L.length (ppT L s))++[uu (ppT L s/4294967296^L.length)]++Z.drop 1)):=by
 have hT:=Zj Zd;have hlt:=ZbY (f:=dgF s) s.size (fun j hj=>(Zfb hs hj).2);have hp:=Z5m h9;have hP:(0:Int)≤((zE (dgF s) s.size:Nat):Int)∧((zE (dgF s) s.size:Nat):Int)<1000000000:=by omega
 have key:∀ {Q:Ex→Lf→Prop},(∀ (i v x:Value) (j:Int) (g g':Nat→Value) (sc:List Dec),Runs (Zk prog Zf Zn true) (uE f111) (ml (u2A (sl 0 0 L.length C) s (ppT L s/4294967296^L.length) i v x) 14 g (u2M (sl 0 0 L.length C) L.length j) 25 g',hW1 (wU (dg L.length (ppT L s))++Z),sc) Q)→Runs (Zk prog Zf Zn true) (za (uP f111) (.seq (.seq (uR2 f111) (.block 0 (.loop (uL1 f111)))) (.seq (.seq (uR7 f111) (.block 2 (.loop (uL2 f111)))) (uE f111)))) ([sl 0 0 L.length C,.string s]++List.replicate 49 undef,hW1 (wU L++Z),[]) Q:=by
  intro Q hQ;refine Zw hT (Z5l (sl 0 0 L.length C) s _) ZyP fun g=> ?_;refine Runs.seq (P1:=fun e z=>e=none∧∃ (i:Value) (k:Int) (g:Nat→Value),z.1=u1F (sl 0 0 L.length C) s ((zE (dgF s) s.size:Nat):Int) i k++tl 39 g∧z.2.1=hW1 (wU L++Z)) ?_ ?_ (fun e y he=>by cases he.1)
  ·refine Runs.seq (Zb hT (Z8P (sl 0 0 L.length C) s _ g) ZyP) ?_ (fun e y he=>by cases he.1);rintro⟨t,hh,sc⟩ ⟨_,⟨g',e1⟩,e2⟩;simp only at e1 e2;subst e1 e2;exact Z5n hs h9 _ g' sc
  ·rintro⟨t,hh,sc⟩ ⟨_,i,k,g',e1,e2⟩;simp only at e1 e2;subst e1 e2;refine Runs.seq (P1:=fun e z=>e=none∧∃ (i v x:Value) (j:Int) (g g':Nat→Value),z.1=ml (u2A (sl 0 0 L.length C) s (ppT L s/4294967296^L.length) i v x) 14 g (u2M (sl 0 0 L.length C) L.length j) 25 g'∧z.2.1=hW1 (wU (dg L.length (ppT L s))++Z)) ?_ ?_ (fun e y he=>by cases he.1)
   ·refine Runs.seq (zC hT (Z8S L.length C s _ i k _ g') ZyP) ?_ (fun e y he=>by cases he.1);rintro⟨t,hh,sc⟩ ⟨_,⟨g1,g2,e1⟩,e2⟩;simp only at e1 e2;subst e1 e2;exact Z5o hP hL rfl (by omega) _ _ _ g1 g2 sc
   ·rintro⟨t,hh,sc⟩ ⟨_,i,v,x,j,g1,g2,e1,e2⟩;simp only at e1 e2;subst e1 e2;exact hQ i v x j g1 g2 sc
 refine⟨fun hz=>key fun i v x j g g' sc=> ?_,fun hz hC hsm hZ=>key fun i v x j g g' sc=> ?_⟩
 ·refine (Zb hT (Z8V L.length C s _ i v x j _ g g') (Z4 (by rw[hz];rfl))).mono fun e z he=> ?_;obtain⟨rfl,⟨g1,z1⟩,z2⟩:=he;exact⟨.inr rfl,by rw[z1,z2];rfl,by rw[z2];rfl⟩
 ·have hQ:=Zaw L.length;have hvb:=ZaK L hL;have hTb:0≤ppT L s/4294967296^L.length∧ppT L s/4294967296^L.length<4294967296:=by
   have h0:0≤ppT L s:=by unfold ppT;omega
   have h1:ppT L s<4294967296*4294967296^L.length:=by unfold ppT;omega
   exact⟨Int.ediv_nonneg h0 (by omega),Int.ediv_lt_of_lt_mul (by omega) h1⟩
  have ew:u32.wrap (ppT L s/4294967296^L.length)=ppT L s/4294967296^L.length:=by
   generalize ppT L s/4294967296^L.length=y at*;simp [IntKind.wrap,IntKind.bits,IntKind.signed];omega
  have hlen:(wU (dg L.length (ppT L s))).length=L.length:=by unfold wU;simp [ZR]
  have l1:Zgh tU (wU (dg L.length (ppT L s))++Z,tU) ([uu (u32.wrap (ppT L s/4294967296^L.length))],tU) L.length C 0 1=true:=by
   unfold Zgh;simp only[Xh,Bool.not_eq_true'];refine⟨⟨⟨⟨⟨⟨⟨⟨⟨⟨Nat.ble_eq_true_of_le (by rw[List.length_append,hlen];omega),Nat.ble_eq_true_of_le (by omega)⟩,by kernel_rfl⟩,hsm⟩,Nat.ble_eq_true_of_le (by omega)⟩,by kernel_rfl⟩,by kernel_rfl⟩,by kernel_rfl⟩,by rfl⟩,by rfl⟩,by rfl⟩
  refine (Zb hT (Z8W L.length C s _ i v x j _ g g') (Za l1 (Z4 (by simpa using hz)))).mono fun e z he=> ?_;obtain⟨rfl,⟨g1,z1⟩,z2⟩:=he;have e1:(wU (dg L.length (ppT L s))++Z).take L.length=wU (dg L.length (ppT L s)):=List.take_left' hlen;have e2:(wU (dg L.length (ppT L s))++Z).drop (L.length+1)=Z.drop 1:=by
   rw[← List.drop_drop,List.drop_left' hlen]
  rw[e1,e2,ew] at z2;exact⟨.inr rfl,by rw[z1,z2];rfl,by rw[z2];rfl⟩
theorem ZbI {T:Tab}{f:Nat}{F:Func}{c:Code}(hF:T.P.funcs[f]? =some F) (hc:F.body=some c) {vals:List Value}{v:Value}{h h':Hp}(hv:lt h.n v=true) (ht:h'.tight=true)
  (hr:Runs T c (vals++List.replicate (F.ntmps-vals.length) undef,h,[]) fun e y=>(e=none∨e=some none)∧ZV T.P F y.1 y.2.1=some v∧y.2.1.cut h.n=h') (m:Mp) (B:Nat) (w:World) (E:Emb m B h w) (hvals:∀ v∈vals,lt h.n v=true):
  Calls T.P f (vals.map (mv m)).toArray w fun e w'=>∃ m',e= .returned (mv m' v)∧Came m B h w v h' m' w':=by
 refine calls_of_wp hF hc ?_;have R:Rel m B (vals++List.replicate (F.ntmps-vals.length) undef,h,[]) {tmps:=(vals.map (mv m)).toArray++Array.replicate (F.ntmps-(vals.map (mv m)).toArray.size) undef,defers:=[]} w:=by
  refine⟨?_,rfl,E,?_⟩
  ·simp [zn]
  ·intro y hy;rcases List.mem_append.1 hy with hy | hy
   ·exact hvals y hy
   ·rw[List.eq_of_mem_replicate hy];simp [undef,lt]
 refine hr _ _ _ w R _ fun e y he a' w' hR=> ?_;obtain⟨hex,hres,hcut⟩:=he;obtain⟨m',k1,k2,k3,k4⟩:=hR;obtain⟨r1,r2⟩:=Zaf k2.emb k2.wf hres;rw[← k2.tmps,ZhU k1 hv] at r1;have k4':h.n≤y.2.1.n:=k4;have C:Came m B h w v h' m w':=by
  subst hcut;exact⟨Agree.refl _ _,k2.emb.cut k1 k4' ht,k3,by simp [Hp.cut],by simpa [Hp.cut] using hv⟩
 have post:a'.defers=[]∧∃ v',(results F a'.tmps).run T.P w'= .ok v' w'∧∃ m',Ending.returned v'= .returned (mv m' v)∧Came m B h w v h' m' w':=
  ⟨k2.dfr,_,r1,m,rfl,C⟩
 rcases hex with rfl | rfl<;>exact post
def ppQ (S:List Value) (n:Nat) (b:ByteArray):Int:=ppT (Zx S 0 n) b/4294967296^n
def ZyV (S:List Value) (t:TypeId) (n c:Nat) (b:ByteArray):Log:=[(Nat.beq t tU,true),(Z6 t S 0 n c,true),(decide (¬ ixV b≥0),true),(Nat.ble b.size 9 && Nat.blt n 1073741824,true)]
def gPp:Zac:=fun vals h s=>
 match vals,h,s with
 | [.slice (some ⟨0,0,none⟩) n c,.string b],⟨1,[(S,t)]⟩,.inr (.inr (.inr (.inl d)))::s'=>
  match d with
  | false=>some (sl 0 0 n c,⟨1,[(wU (dg n (ppT (Zx S 0 n) b))++S.drop n,tU)]⟩,s',(decide (ppQ S n b=0),true)::ZyV S t n c b)
  | true=>some (sl 0 0 (n+1) c,⟨1,[(wU (dg n (ppT (Zx S 0 n) b))++[uu (ppQ S n b)]++S.drop (n+1),tU)]⟩,s',(decide (ppQ S n b≠0),true)::(Nat.blt n c && Nat.blt n S.length,true)::ZyV S t n c b)
 | _,_,_=>none
theorem Zmv {S:List Value}{t:TypeId}{n c:Nat}{b:ByteArray}(h:Z2 (ZyV S t n c b)):t=tU∧Row S 0 (Zx S 0 n)∧(Zx S 0 n).length=n∧ZA c=true∧(∀ v∈S,still v=true)∧ZoD b∧b.size≤9∧n<1073741824∧S=wU (Zx S 0 n)++S.drop n:=by
 obtain⟨l1,q⟩:=ZoE h;obtain⟨l2,q⟩:=ZoE q;obtain⟨l3,q⟩:=ZoE q;obtain⟨l4,_⟩:=ZoE q;have l1:=Xj l1;obtain⟨a1,a2,a3,a4,a5,a6,a7⟩:=ZH l2;simp only[Xh] at l4;refine⟨l1,a1,a2,a4,a7,(ZbD b).1 (Xc l3),Nat.le_of_ble_eq_true l4.1,Zo.1 l4.2,?_⟩;have h1:=a1.cut;rw[a2] at h1;rw[← h1];unfold Zch;simp
theorem Z0u:Z8 111 gPp:=by
 intro vals h s v h' s' lg hg hl m B w E hv;unfold gPp at hg;split at hg
 ·rename_i n c b S t d s2;split at hg
  ·cases hg;obtain⟨l1,q⟩:=ZoE hl;obtain⟨rfl,a1,a2,a4,a7,hd,h9,hn,eS⟩:=Zmv q;have hz:=Xc l1;have hst:∀ v∈S.drop n,lt1 1 v=true:=fun v hv=>zh (by omega) (a7 v (List.mem_of_mem_drop hv));have r:=(Zmu (C:=c) hd h9 (L:=Zx S 0 n) a1.rng (by omega) (Z:=S.drop n)).1 (by rw[a2];exact hz);rw[a2,← eS] at r;have ht:(hW1 (wU (dg n (ppT (Zx S 0 n) b))++S.drop n)).tight=true:=by
    unfold Hp.tight hW1;simp only[List.all_cons,List.all_nil,List.all_append,Bool.and_true,Xh];exact⟨Zbo _ _,List.all_eq_true.2 hst⟩
   exact ZbI (T:=Zk prog Zf Zn true) func111 Zi1 (vals:=[sl 0 0 n c,.string b]) (h:=hW1 S) (by rfl) ht r m B w E hv
  ·cases hg;obtain⟨l1,q⟩:=ZoE hl;obtain⟨l0,q⟩:=ZoE q;obtain⟨rfl,a1,a2,a4,a7,hd,h9,hn,eS⟩:=Zmv q;simp only[Xh] at l0;have hc:=Zo.1 l0.1;have hS:=Zo.1 l0.2;have hz:=Xc l1;have r:=(Zmu (C:=c) hd h9 (L:=Zx S 0 n) a1.rng (by omega) (Z:=S.drop n)).2 (by rw[a2];exact hz) (by omega) a4 (by rw[List.length_drop];omega);rw[a2,← eS,List.drop_drop] at r;have ht:(hW1 (wU (dg n (ppT (Zx S 0 n) b))++[uu (ppQ S n b)]++S.drop (n+1))).tight=true:=by
    unfold Hp.tight hW1;simp only[List.all_cons,List.all_nil,List.all_append,Bool.and_true,Xh];exact⟨⟨Zbo _ _,rfl⟩,List.all_eq_true.2 fun v hv=>zh (by omega) (a7 v (List.mem_of_mem_drop hv))⟩
   exact ZbI (T:=Zk prog Zf Zn true) func111 Zi1 (vals:=[sl 0 0 n c,.string b]) (h:=hW1 S) (by rfl) ht r m B w E hv
 ·cases hg
def Zek:Con:=alt 110 gCf Zn
theorem Zql:ConOk Zek:=Z9 func110 rfl ZzW Zd
def Zmw:Hc:=zP 111 gPp (zP 112 Zgq hcN)
theorem ZuZ:HcOk Zmw:=Zz func111 rfl Z0u (Zz func112 rfl ZbW Zag)
theorem Zh2:TabOk (Zr prog Zf Zek Zmw):=Zh Zql ZuZ
def qC9 (F:Func):Nat→Code
 | 0=>Zs F
 | n+1=>Z0 (qC9 F n)
def qP9 (F:Func):List Code:=[Z3 (qC9 F 0),Z3 (qC9 F 1),Z3 (qC9 F 2),Z3 (qC9 F 3),Z3 (qC9 F 4)]
def qL9 (F:Func):Code:=cIn (cIn (Z3 (qC9 F 5)))
def qE9 (F:Func):Code:=qC9 F 6
theorem Zva:f75.body=some (za (qP9 f75) (.seq (.block 0 (.loop (qL9 f75))) (qE9 f75))):=by kernel_rfl
def Zvb (s:ByteArray):Int:=(i64.wrap (i64.wrap ((s.size:Int).tdiv 9)+1))
def qF9 (s:Value) (w v:Value):List Value:=[s,undef,Zp,.nilIface,fO,w,v]
def eqN (s:ByteArray):Bool:=s==(⟨⟨[]⟩⟩:ByteArray)
theorem Z0v (s:ByteArray):Zg (evL (Zr prog Zf Zek Zmw) 100 (qP9 f75) ([.string s]++List.replicate 40 undef,⟨0,[]⟩,[sam false,cmp false,cmp false,at_]) ⟨[],[],[]⟩) 7 34 none (qF9 (.string s) (sl 0 0 0 (Zvb s).toNat) undef) (hW1 (List.replicate (Zvb s).toNat (.int .u32 0))) [(ZI 4 0 (Zvb s),true),(decide ((s.size:Int)>20000),false),(decide (ixV s≥0),false),(true,true),(eqN s,false)]:=by and_intros<;>kernel_rfl
theorem Z8Z (s:ByteArray):Z7 (Zm (Zr prog Zf Zek Zmw) 100 75 [.string s] [sam true]) (.tuple #[Zp,Zcx 3]) [(eqN s,true)]:=by and_intros<;>kernel_rfl
theorem Z9a (s:ByteArray):Z7 (Zm (Zr prog Zf Zek Zmw) 100 75 [.string s] [sam false,cmp true]) (.tuple #[Zp,Zcx 3]) [(decide (ixV s≥0),true),(true,true),(eqN s,false)]:=by and_intros<;>kernel_rfl
def enP (l:List UInt8):Int:=i64.wrap ((i64.wrap ((l.length:Int)-1)).tmod 9+1)
theorem Z5p (l:List UInt8) (d:Bool) (n C:Nat) (v:Value) (S:List Value) (g:Nat→Value):Zg (evC (Zr prog Zf Zek Zmw) 100 false (qL9 f75) (qF9 (bS l) (sl 0 0 n C) v++tl 34 g,hW1 S,[sam true,sam true,cmp d,sam true]) ⟨[],[],[]⟩) 7 34 none (qF9 (bS (l.drop (enP l).toNat)) (sl 0 0 (match d with | true=>n+1 | false=>n) C) (.int .i64 (enP l))) (match d with | true=>hW1 (wU (dg n (ppT (Zx S 0 n) ⟨⟨l.take (enP l).toNat⟩⟩))++[uu (ppQ S n ⟨⟨l.take (enP l).toNat⟩⟩)]++S.drop (n+1)) | false=>hW1 (wU (dg n (ppT (Zx S 0 n) ⟨⟨l.take (enP l).toNat⟩⟩))++S.drop n))
  ((decide (0≤enP l∧enP l≤(l.length:Nat)),true)::(match d with | true=>(decide (ppQ S n ⟨⟨l.take (enP l).toNat⟩⟩≠0),true)::(Nat.blt n C && Nat.blt n S.length,true)::ZyV S tU n C ⟨⟨l.take (enP l).toNat⟩⟩ | false=>(decide (ppQ S n ⟨⟨l.take (enP l).toNat⟩⟩=0),true)::ZyV S tU n C ⟨⟨l.take (enP l).toNat⟩⟩)++[(decide (0≤enP l∧enP l≤(l.length:Nat)),true),(!(eqN ⟨⟨l⟩⟩),true)]):=by
 cases d<;>exact by and_intros<;>kernel_rfl
theorem Z0w (w v:Value) (h:Hp) (g:Nat→Value):Zg (evC (Zr prog Zf Zek Zmw) 100 false (qL9 f75) (qF9 (bS []) w v++tl 34 g,h,[sam false]) ⟨[],[],[]⟩) 7 34 (some (some 0)) (qF9 (bS []) w v) h [(!(eqN ⟨⟨[]⟩⟩),false)]:=by and_intros<;>kernel_rfl
theorem Z0x (s v:Value) (n C:Nat) (S:List Value) (g:Nat→Value):Zg (evC (Zr prog Zf Zek Zmw) 100 false (qE9 f75) (qF9 s (sl 0 0 n C) v++tl 34 g,hW1 S,[]) ⟨[],[],[]⟩) 4 37 (some none) [s,undef,sl 0 0 (Zl (Zx S 0 n)) C,.nilIface] (hW1 S) [(Z6 tU S 0 n C,true)]:=by and_intros<;>kernel_rfl
end Go.Proofs.YtjlponbdflkbjaaGreatDoor.Na
namespace Go.Nt
theorem Zdi:∀ (m k:Nat) (V:Int),dg (m+k) V=dg m V++dg k (V/4294967296^m)
 | 0,k,V=>by simp [dg]
 | m+1,k,V=>by
  rw[show m+1+k=(m+k)+1 by omega];show V % 4294967296::dg (m+k) (V/4294967296)=(V % 4294967296::dg m (V/4294967296))++dg k (V/4294967296^(m+1));rw[Zdi m k,List.cons_append,Int.ediv_ediv_of_nonneg (by omega),pw]
theorem Zmx (m k:Nat) (V:Int):(dg (m+k) V).drop m=dg k (V/4294967296^m):=by
 rw[Zdi,List.drop_left' (ZR _ _)]
theorem Zmy (m k:Nat) (V:Int):(dg (m+k) V).take m=dg m V:=by
 rw[Zdi,List.take_left' (ZR _ _)]
theorem Zi2 (m:Nat):(4294967296:Int)^m=((4294967296^m:Nat):Int):=by rw[Int.natCast_pow];rfl
theorem Z0y (V:Nat):dg (db 4294967296 V).length (V:Int)=db 4294967296 V:=by
 have hw:wds (db 4294967296 V):=fun x hx=>by
  have:=Zfy (b:=4294967296) (by omega) V x hx;exact⟨this.1,by have:=this.2;omega⟩
 have h:=Zfx (db 4294967296 V) hw;rw[Zhw hw,ZbC (by omega)] at h;exact h
theorem Ztd (V:Nat):V<4294967296^(db 4294967296 V).length:=by
 have h:=Zbl (b:=4294967296) (by omega) (db 4294967296 V) (Zfy (by omega) V)
 rwa [ZbC (by omega)] at h
theorem Zcn {V k:Nat}:(db 4294967296 V).length≤k↔V<4294967296^k:=
 ⟨fun h=>Nat.lt_of_lt_of_le (Ztd V) (Nat.pow_le_pow_right (by omega) h),fun h=>ZaZ (by omega) k V h⟩
theorem Z0z {V P C:Nat}(hP:P<1000000000) (hC:V*1000000000+P<4294967296^C):
  let n:=(db 4294967296 V).length
  let V':=V*1000000000+P
  (dg C (V:Int)).take n=db 4294967296 V∧n≤C∧
  (((V':Nat):Int)/4294967296^n=0→dg n ((V':Nat):Int)++(dg C (V:Int)).drop n=dg C ((V':Nat):Int)∧(db 4294967296 V').length=n)∧
  (((V':Nat):Int)/4294967296^n≠0→n<C∧dg n ((V':Nat):Int)++[((V':Nat):Int)/4294967296^n]++(dg C (V:Int)).drop (n+1)=dg C ((V':Nat):Int)∧(db 4294967296 V').length=n+1):=by
 intro n V';have hV:=Ztd V;have hVC:V<4294967296^C:=Nat.lt_of_le_of_lt (by omega) hC;have hn:n≤C:=Zcn.2 hVC;obtain⟨k,hk⟩:∃ k,C=n+k:=⟨C-n,by omega⟩;have hz:(V:Int)/4294967296^n=0:=by
  rw[Zi2];exact Int.ediv_eq_zero_of_lt (by omega) (by exact_mod_cast hV)
 have hq:((V':Nat):Int)/4294967296^n=((V'/4294967296^n:Nat):Int):=by rw[Zi2];rfl
 have h0:n=0→V=0:=fun h=>by
  rw[show (db 4294967296 V).length=0 from h,Nat.pow_zero] at hV;omega
 have ge:n≤(db 4294967296 V').length:=by
  rcases Nat.lt_or_ge (db 4294967296 V').length n with h | h
  ·exfalso
   have h1:V'<4294967296^(n-1):=Zcn.1 (by omega);have h2:(db 4294967296 V).length≤n-1:=Zcn.2 (by omega);have:n≤n-1:=h2;omega
  ·exact h
 refine⟨?_,hn,fun h=> ?_,fun h=> ?_⟩
 ·rw[hk,Zmy];exact Z0y V
 ·rw[hk,Zmx,hz,Zdi,h];refine⟨rfl,?_⟩;rw[hq] at h;have h1:V'/4294967296^n=0:=Int.ofNat.inj h;have h2:V'<4294967296^n:=by
   rcases Nat.lt_or_ge V' (4294967296^n) with h3 | h3
   ·exact h3
   ·have:=Nat.div_pos h3 (Nat.pow_pos (by omega));omega
  have:=Zcn.2 h2;omega
 ·rw[hq] at h;have hqp:0<V'/4294967296^n:=Nat.pos_of_ne_zero fun h'=>h (by rw[h'];rfl);have hge:4294967296^n≤V':=by
   rcases Nat.lt_or_ge V' (4294967296^n) with h3 | h3
   ·rw[Nat.div_eq_of_lt h3] at hqp;omega
   ·exact h3
  have hlt:V'<4294967296^(n+1):=by
   rw[Nat.pow_succ];have:V<4294967296^n:=hV;show V*1000000000+P<_;omega
  have hnC:n<C:=by
   rcases Nat.lt_or_ge n C with h3 | h3
   ·exact h3
   ·have:(4294967296:Nat)^C≤4294967296^n:=Nat.pow_le_pow_right (by omega) h3;have hC':V'<4294967296^C:=hC;omega
  obtain⟨j,hj⟩:∃ j,k=j+1:=⟨k-1,by omega⟩;have hqB:V'/4294967296^n<4294967296:=by
   rw[Nat.pow_succ] at hlt;exact Nat.div_lt_of_lt_mul hlt
  refine⟨hnC,?_,?_⟩
  ·have hz1:(V:Int)/4294967296^(n+1)=0:=by
    rw[Zi2];have:V<4294967296^(n+1):=Nat.lt_of_lt_of_le hV (Nat.pow_le_pow_right (by omega) (by omega));exact Int.ediv_eq_zero_of_lt (by omega) (by exact_mod_cast this)
   have hz2:((V':Nat):Int)/4294967296^(n+1)=0:=by
    rw[Zi2];exact Int.ediv_eq_zero_of_lt (by omega) (by exact_mod_cast hlt)
   rw[hk,hj,show n+(j+1)=(n+1)+j by omega,Zmx,hz1,Zdi (n+1) j,hz2,Zdi n 1,hq];show dg n _++[_]++dg j 0=dg n _++[((V'/4294967296^n:Nat):Int) % 4294967296]++dg j 0;rw[Int.emod_eq_of_lt (by omega) (by omega)]
  ·have h1:=Zcn.2 hlt;rcases Nat.lt_or_ge n (db 4294967296 V').length with h3 | h3
   ·omega
   ·have:=Zcn.1 h3;omega
theorem Zel {f g:Nat→Int}:∀ k,(∀ j,j<k→f j=g j)→zE f k=zE g k
 | 0,_=>rfl
 | k+1,h=>by
  simp only[zE];rw[Zel k (fun j hj=>h j (by omega)),h k (by omega)]
theorem Zmz {m C:Nat}(h:m≤9*C):(10:Nat)^m≤4294967296^C:=by
 have h1:(10:Nat)^m≤10^(9*C):=Nat.pow_le_pow_right (by omega) h;have h2:(10:Nat)^(9*C)≤4294967296^C:=by
  rw[Nat.pow_mul];exact Nat.pow_le_pow_left (by decide) C
 omega
end Go.Nt
namespace Go.Proofs.YtjlponbdflkbjaaGreatDoor.Na
open Go.Proofs.Tryz
open Go.IntKind
open Go.KRun Go.Nt
set_option maxRecDepth 100000
def psN (s:ByteArray):Nat:=s.size/9+1
def psV (s:ByteArray):Nat:=zE (dgF s) s.size
theorem Zvc {s:ByteArray}(h:s.size≤20000):Zvb s=(psN s:Nat):=by
 have e1:i64.wrap ((s.size:Int)/9)=(s.size:Int)/9:=Zv (by omega) (by omega);unfold Zvb psN;rw[Int.tdiv_eq_ediv_of_nonneg (by omega),e1,Zv (by omega) (by omega)];omega
theorem Z00 {l:List UInt8}(h0:0<l.length) (h:l.length≤20000):enP l=(((l.length-1) % 9+1:Nat):Int):=by
 have e1:i64.wrap ((l.length:Int)-1)=(l.length:Int)-1:=Zv (by omega) (by omega);unfold enP;rw[e1,Int.tmod_eq_emod_of_nonneg (by omega),Zv (by omega) (by omega)];omega
theorem Z01 {a b:Log}(h1:Z2 a) (h2:Z2 b):Z2 (a++b):=fun x hx=>(List.mem_append.1 hx).elim (h1 x) (h2 x)
def ZbJ (s:ByteArray) (m e:Nat):ByteArray:=⟨⟨(s.data.toList.drop m).take e⟩⟩
theorem ZjS {s:ByteArray}{m e:Nat}(h:m+e≤s.size):(ZbJ s m e).size=e:=by
 show ((s.data.toList.drop m).take e).length=e;have:s.data.toList.length=s.size:=rfl;rw[List.length_take,List.length_drop];omega
theorem Zi3 {s:ByteArray}{m e j:Nat}(hj:j<e):byT (ZbJ s m e) j=byT s (m+j):=by
 unfold byT ZbJ;have:((s.data.toList.drop m).take e).getD j 0=s.data.toList.getD (m+j) 0:=by
  simp only[List.getD,List.getElem?_take,List.getElem?_drop,if_pos hj]
 show ((((s.data.toList.drop m).take e).getD j 0).toNat:Int)=_;rw[this]
def Zqm (s:ByteArray) (r:Nat) (y:Lf):Prop:=∃ (m:Nat) (v:Value) (g:Nat→Value),y.1=qF9 (bS (s.data.toList.drop m)) (sl 0 0 (db 4294967296 (zE (dgF s) m)).length (psN s)) v++tl 34 g∧y.2.1=hW1 (wU (dg (psN s) ((zE (dgF s) m:Nat):Int)))∧m≤s.size∧(m=0∨(s.size-m) % 9=0)∧r=s.size-m
def Z5q (s:ByteArray) (y:Lf):Prop:=∃ (v:Value) (g:Nat→Value),y.1=qF9 (bS []) (sl 0 0 (db 4294967296 (psV s)).length (psN s)) v++tl 34 g∧y.2.1=hW1 (wU (dg (psN s) ((psV s:Nat):Int)))
theorem Zvd {s:ByteArray}(hs:ZoD s) (h2:s.size≤20000) (r:Nat) (y:Lf) (h:Zqm s r y):
  Runs (Zr prog Zf Zek Zmw) (qL9 f75) y fun e z=>match e with | none=>∃ r',r'<r∧Zqm s r' z | some none=>False | some (some id')=>id'=0∧Z5q s z:=by
 obtain⟨m,v,g,ht,hh,hm,hm9,hr⟩:=h;obtain⟨t,h',sc⟩:=y;simp only at ht hh;subst ht hh;have hsz:s.data.toList.length=s.size:=rfl;by_cases hc:m<s.size
 ·obtain⟨l,hl⟩:∃ l,l=s.data.toList.drop m:=⟨_,rfl⟩;have ll:l.length=s.size-m:=by rw[hl,List.length_drop,hsz]
  have eE:=Z00 (l:=l) (by omega) (by omega);obtain⟨e,he⟩:∃ e:Nat,e=(l.length-1) % 9+1:=⟨_,rfl⟩;rw[← he] at eE;have e1:m+e≤s.size:=by omega
  have e9:e≤9:=by omega
  have hps:=ZjS e1;have eT:(enP l).toNat=e:=by rw[eE,Xg]
  have hdig:∀ j,j<e→dgF (ZbJ s m e) j=dgF s (m+j):=fun j hj=>by unfold dgF;rw[Zi3 hj]
  have hall:ZoD (ZbJ s m e):=fun j hj=>by
   rw[hps] at hj;rw[Zi3 hj];exact hs (m+j) (by omega)
  have eP:zE (dgF (ZbJ s m e)) (ZbJ s m e).size=zE (fun j=>dgF s (m+j)) e:=by
   rw[hps];exact Zel e hdig
  obtain⟨V,hV⟩:∃ V,V=zE (dgF s) m:=⟨_,rfl⟩;obtain⟨P,hP⟩:∃ P,P=zE (fun j=>dgF s (m+j)) e:=⟨_,rfl⟩;have hadd:=Zgy (f:=dgF s) m e;rw[← hV,← hP] at hadd;have hPlt:P<10^e:=by
   rw[hP];exact ZbY e fun j hj=>(Zfb hs (show m+j<s.size by omega)).2
  have hP9:P<1000000000:=Nat.lt_of_lt_of_le hPlt (Z5m e9);have hVe:V*10^e=V*1000000000:=by
   rcases hm9 with h0 | h9
   ·have:V=0:=by rw[hV,h0];rfl
    rw[this,Nat.zero_mul,Nat.zero_mul]
   ·have:e=9:=by omega
    rw[this]
  rw[hVe] at hadd;have hVlt:V*1000000000+P<4294967296^psN s:=by
   rw[← hadd];have h3:=ZbY (f:=dgF s) (m+e) fun j hj=>(Zfb hs (show j<s.size by omega)).2;exact Nat.lt_of_lt_of_le h3 (Zmz (by unfold psN;omega))
  obtain⟨n1,n2,n3,n4⟩:=Z0z hP9 hVlt;have hC:psN s<10000:=by unfold psN;omega
  have hsm:ZA (psN s)=true:=Zo.2 (by unfold ZZ;omega);have ec:Zx (wU (dg (psN s) (V:Int))) 0 (db 4294967296 V).length=db 4294967296 V:=by rw[ZlA,n1]
  have eV:vN (db 4294967296 V)=(V:Int):=by rw[Zhw (Z0t V),ZbC (by omega)]
  have hpT:ppT (Zx (wU (dg (psN s) (V:Int))) 0 (db 4294967296 V).length) (ZbJ s m e)=((V*1000000000+P:Nat):Int):=by
   unfold ppT;rw[ec,eV,eP,← hP];omega
  have hpQ:ppQ (wU (dg (psN s) (V:Int))) (db 4294967296 V).length (ZbJ s m e)=((V*1000000000+P:Nat):Int)/4294967296^(db 4294967296 V).length:=by
   unfold ppQ;rw[hpT]
  have hlog:Z2 (ZyV (wU (dg (psN s) (V:Int))) tU (db 4294967296 V).length (psN s) (ZbJ s m e)):=by
   refine Za (Nat.beq_refl _) (Za ?_ (Za (Xa ((ZbD _).2 hall)) (Z4 ?_)))
   ·exact z3 (Za2 _ _) (by rw[ZR];omega) n2 hsm
   ·rw[hps,Nat.ble_eq_true_of_le e9,Zo.2 (by omega)];rfl
  have l1:decide (0≤enP l∧enP l≤(l.length:Nat))=true:=Xa ⟨by rw[eE];omega,by rw[eE];omega⟩;have l2:(!(eqN ⟨⟨l⟩⟩))=true:=by
   unfold eqN;rw[Zj2,Xb (by intro hn;rw[hn] at ll;simp at ll;omega)];rfl
  have hdr:l.drop e=s.data.toList.drop (m+e):=by rw[hl,List.drop_drop]
  have htk:(⟨⟨l.take e⟩⟩:ByteArray)=ZbJ s m e:=by rw[hl];rfl
  have hstep:∀ z:Lf,(∃ g,z.1=qF9 (bS (l.drop (enP l).toNat)) (sl 0 0 (db 4294967296 (V*1000000000+P)).length (psN s)) (.int .i64 (enP l))++tl 34 g)→z.2.1=hW1 (wU (dg (psN s) ((V*1000000000+P:Nat):Int)))→∃ r',r'<r∧Zqm s r' z:=fun z hz1 hz2=>by
   obtain⟨g',hz1⟩:=hz1;refine⟨s.size-(m+e),by omega,m+e,.int .i64 (enP l),g',?_,?_,e1,.inr (by omega),rfl⟩
   ·rw[hz1,eT,hdr,hadd]
   ·rw[hz2,hadd]
  rw[← hV];rw[← hl];have hG:=fun d=>Z5p l d (db 4294967296 V).length (psN s) v (wU (dg (psN s) (V:Int))) g;rw[eT,htk] at hG;by_cases hq:((V*1000000000+P:Nat):Int)/4294967296^(db 4294967296 V).length=0
  ·obtain⟨q1,q2⟩:=n3 hq;have hG:=hG false;simp only[hpT] at hG;have eM:wU (dg (db 4294967296 V).length ((V*1000000000+P:Nat):Int))++(wU (dg (psN s) (V:Int))).drop (db 4294967296 V).length=wU (dg (psN s) ((V*1000000000+P:Nat):Int)):=by
    rw[← q1];unfold wU;rw[List.map_append,List.map_drop]
   rw[eM] at hG;refine (Zb Zh2 hG (Z01 (Za l1 (Za (Xa (hpQ.trans hq)) hlog)) (Za l1 (Z4 l2)))).mono fun e z he=> ?_;obtain⟨rfl,hz1,hz2⟩:=he;refine hstep z ?_ hz2;rw[q2,eT];exact hz1
  ·obtain⟨q0,q1,q2⟩:=n4 hq;have hG:=hG true;simp only[hpT,hpQ] at hG;have eM:wU (dg (db 4294967296 V).length ((V*1000000000+P:Nat):Int))++[uu (((V*1000000000+P:Nat):Int)/4294967296^(db 4294967296 V).length)]++(wU (dg (psN s) (V:Int))).drop ((db 4294967296 V).length+1)=wU (dg (psN s) ((V*1000000000+P:Nat):Int)):=by
    rw[← q1];unfold wU;rw[List.map_append,List.map_append,List.map_drop];rfl
   rw[eM] at hG;have l3:(Nat.blt (db 4294967296 V).length (psN s) && Nat.blt (db 4294967296 V).length (wU (dg (psN s) (V:Int))).length)=true:=by
    rw[Zo.2 q0,Zo.2 (by unfold wU;rw[List.length_map,ZR];exact q0)];rfl
   refine (Zb Zh2 hG (Z01 (Za l1 (Za (Xa hq) (Za l3 hlog))) (Za l1 (Z4 l2)))).mono fun e z he=> ?_;obtain⟨rfl,hz1,hz2⟩:=he;refine hstep z ?_ hz2;rw[q2,eT];exact hz1
 ·have hms:m=s.size:=by omega
  have hd:s.data.toList.drop m=[]:=List.drop_eq_nil_of_le (by rw[hsz];omega);rw[hd];refine (Zb Zh2 (Z0w _ v _ g) (Z4 rfl)).mono fun e z he=> ?_;obtain⟨rfl,⟨g',hz1⟩,hz2⟩:=he;rw[hms] at hz1 hz2;exact⟨rfl,v,g',hz1,hz2⟩
theorem ZjT {s:ByteArray}(h0:0<s.size) (hs:ZoD s) (h2:s.size≤20000):
  Runs (Zr prog Zf Zek Zmw) (za (qP9 f75) (.seq (.block 0 (.loop (qL9 f75))) (qE9 f75))) ([.string s]++List.replicate 40 undef,⟨0,[]⟩,[]) fun e z=>(e=none∨e=some none)∧ZV prog f75 z.1 z.2.1=some (.tuple #[sl 0 0 (db 4294967296 (psV s)).length (psN s),.nilIface])∧∃ r,z.2.1.blk? 0=some (wU (dg (psN s) ((psV s:Nat):Int))++r,tU):=by
 have hcp:=Zvc h2;have hC:psN s<10000:=by unfold psN;omega
 have eN:(Zvb s).toNat=psN s:=by rw[hcp,Xg]
 have hix:decide (ixV s≥0)=false:=Xb ((ZbD s).2 hs);have hne:eqN s=false:=by
  show ((⟨⟨s.data.toList⟩⟩:ByteArray)==⟨⟨[]⟩⟩)=false;rw[Zj2];refine Xb fun h=> ?_;have:s.size=0:=by show s.data.toList.length=0;rw[h];rfl
  omega
 have hpre:=Z0v s;rw[eN] at hpre;have lm:ZI 4 0 (Zvb s)=true:=by rw[hcp];unfold ZI;exact Xa ⟨by omega,by omega,by omega,by omega⟩
 refine Zw Zh2 hpre (Za lm (Za (Xb (by omega)) (Za hix (Za rfl (Z4 hne))))) fun g=> ?_;have z0:∀ n,wU (dg n 0)=List.replicate n (.int .u32 0):=by
  intro n
  induction n with
  | zero=>rfl
  | succ n ih=>
   rw[List.replicate_succ,← ih];rfl
 refine Runs.seq (P1:=fun e y=>e=none∧Z5q s y) ?_ ?_ (fun e y he=>by cases he.1)
 ·refine (Runs.forLoop (R:=fun _=>False) (P:=Z5q s) (Zqm s) (Zvd hs h2) (n:=s.size) ⟨0,undef,g,?_,?_,by omega,.inl rfl,rfl⟩).mono fun e z hz=> ?_
  ·rw[show zE (dgF s) 0=0 from rfl,zt];rfl
  ·show hW1 _=_;rw[show zE (dgF s) 0=0 from rfl,show (((0:Nat):Nat):Int)=0 from rfl,z0]
  ·match e,hz with
   | none,hz=>exact⟨rfl,hz⟩
 ·rintro⟨t,hh,sc⟩ ⟨_,v,g',e1,e2⟩;simp only at e1 e2;subst e1 e2;have hlt:psV s<4294967296^psN s:=Nat.lt_of_lt_of_le (ZbY (f:=dgF s) s.size fun j hj=>(Zfb hs hj).2) (Zmz (by unfold psN;omega));have hle:=Zcn.2 hlt;obtain⟨k,hk⟩:∃ k,psN s=(db 4294967296 (psV s)).length+k:=⟨psN s-(db 4294967296 (psV s)).length,by omega⟩;have ec:Zx (wU (dg (psN s) ((psV s:Nat):Int))) 0 (db 4294967296 (psV s)).length=db 4294967296 (psV s):=by
   rw[ZlA,hk,Zmy];exact Z0y _
  have etr:Zl (Zx (wU (dg (psN s) ((psV s:Nat):Int))) 0 (db 4294967296 (psV s)).length)=(db 4294967296 (psV s)).length:=by
   rw[ec];exact (Zea (by omega) _).2
  have hsm:ZA (psN s)=true:=Zo.2 (by unfold ZZ;omega);refine (Zb Zh2 (Z0x _ v _ _ _ g') (Z4 (z3 (Za2 _ _) (by rw[ZR];omega) hle hsm))).mono fun e z he=> ?_;obtain⟨rfl,⟨g2,z1⟩,z2⟩:=he;rw[etr] at z1;refine⟨.inr rfl,by rw[z1,z2];rfl,[],by rw[z2,List.append_nil];rfl⟩
def okP (s:ByteArray):Bool:=decide (0<s.size) && decide (¬ ixV s≥0)
theorem Zh3 (s:ByteArray):okP s=true↔0<s.size∧ZoD s:=by
 unfold okP;rw[Xh,Xi,Xi,ZbD]
def gPs:Zac:=fun vals h s=>
 match vals,s with
 | [.string b],.inr (.inr (.inr (.inl false)))::s'=>some (.tuple #[Zp,Zcx 3],h,s',[(okP b,false)])
 | [.string b],.inr (.inr (.inr (.inl true))):: .inr (.inl V)::s'=>some (.tuple #[sl h.n 0 (db 4294967296 V.toNat).length (psN b),.nilIface],h.push (wU (dg (psN b) (V.toNat:Nat))) tU,s',[(decide (psV b=V.toNat),true),(okP b,true),(Nat.ble b.size 20000,true)])
 | _,_=>none
theorem Z5r:(⟨0,[]⟩:Hp).rows:=⟨rfl,fun b x hx=>by have:b<0:=Hp.blk_lt hx;omega⟩
theorem Z02:Z8 75 gPs:=by
 intro vals h s v h' s' lg hg hl m B w E hv;unfold gPs at hg;split at hg
 ·rename_i b s2;cases hg;have l1:=hl _ Xf;have hw:∀ w,Calls prog 75 #[.string b] w fun r w'=>r= .returned (.tuple #[Zp,Zcx 3])∧zA w w':=fun w=>by
   by_cases h0:b.data.toList=[]
   ·refine Zc Zh2 (Z8Z b) (Z4 ?_) (by rfl) (by rfl) w;show ((⟨⟨b.data.toList⟩⟩:ByteArray)==⟨⟨[]⟩⟩)=true;rw[Zj2];exact Xa h0
   ·have hne:eqN b=false:=by
     show ((⟨⟨b.data.toList⟩⟩:ByteArray)==⟨⟨[]⟩⟩)=false;rw[Zj2];exact Xb h0
    have hsz:0<b.size:=List.length_pos_iff.2 h0;have hix:ixV b≥0:=by
     rcases Classical.em (ixV b≥0) with h1 | h1
     ·exact h1
     ·exfalso
      have:okP b=true:=(Zh3 b).2 ⟨hsz,(ZbD b).1 h1⟩;rw[this] at l1;cases l1
    exact Zc Zh2 (Z9a b) (Za (Xa hix) (Za rfl (Z4 hne))) (by rfl) (by rfl) w
  refine (hw w).mono fun r w' hr=> ?_;obtain⟨rfl,hc⟩:=hr;obtain⟨E',hb⟩:=ZW E hc;exact⟨m,by rw[ZC (by rfl)],Agree.refl _ _,E',hb,Nat.le_refl _,by rfl⟩
 ·rename_i b V s2;cases hg;obtain⟨l1,q⟩:=ZoE hl;obtain⟨l2,q⟩:=ZoE q;obtain⟨l3,_⟩:=ZoE q;have l1:=Xc l1;obtain⟨h0,hd⟩:=(Zh3 b).1 l2;have h2:=Nat.le_of_ble_eq_true l3;rw[← l1];have e:rn (fun _=>h.n) (Value.tuple #[sl 0 0 (db 4294967296 (psV b)).length (psN b),.nilIface])= .tuple #[sl h.n 0 (db 4294967296 (psV b)).length (psN b),.nilIface]:=by kernel_rfl
  have:=ZE (T:=Zr prog Zf Zek Zmw) func75 Zva (h0:=⟨0,[]⟩) Z5r (vals:=[.string b]) (fun v hv=>by rw[List.mem_singleton.1 hv];rfl) (k:=0) (cs:=wU (dg (psN b) ((psV b:Nat):Int))) (ty:=tU) (Zbb _) (by kernel_rfl) (ZjT h0 hd h2).w (by rfl) E (s:=fun i=>i) (fun i x hx=>by have:i<0:=Hp.blk_lt hx;omega);rw[e] at this;exact this
 ·cases hg
end Go.Proofs.YtjlponbdflkbjaaGreatDoor.Na
namespace Go.Proofs.YtjlponbdflkbjaaGreatDoor.Na
open Go.Proofs.Tryz
open Go.KRun Go.Nt
set_option maxRecDepth 100000
set_option linter.unusedVariables false
theorem Z5s (u:Int):Z7 (Zm (Zk prog Zf Zn true) 3000 114 [.int .u64 u] [tst false,tst false,tst false,tst false]) (Zfz 0 u) [lt8 u,geq u 256 false,geq u 65536 false,geq u 4294967296 false,nz]:=by and_intros<;>kernel_rfl
theorem Z5t (u:Int):Z7 (Zm (Zk prog Zf Zn true) 3000 114 [.int .u64 u] [tst false,tst false,tst false,tst true]) (Zfz 8 (shd u 8)) [lt8 (shd u 8),nz,geq u 256 true,geq u 65536 false,geq u 4294967296 false,nz]:=by and_intros<;>kernel_rfl
theorem Zm0 (u:Int) (h0:0≤u) (h1:u<65536) (w:World):Calls prog 114 #[.int .u64 u] w fun e w'=>e= .returned (.int .i64 (bitLen u.toNat:Nat))∧zA w w':=by
 obtain⟨U,rfl⟩:=Int.eq_ofNat_of_zero_le h0;rw[Xg];have p8:(2:Nat)^8=256:=rfl;have step:∀ {v:Value}{s:List Dec}{cs:Log},Z7 (Zm (Zk prog Zf Zn true) 3000 114 [.int .u64 (U:Int)] s) v cs→Z2 cs→v= .int .i64 (bitLen U:Nat)→Calls prog 114 #[.int .u64 (U:Int)] w fun e w'=>e= .returned (.int .i64 (bitLen U:Nat))∧zA w w':=
  fun {v s cs} hf hc hv=>by subst hv;exact Zc (Zj Zd) hf hc (by rfl) (by rfl) w
 by_cases c:U<256
 ·obtain⟨e1,e2⟩:=zX (m:=0) (by omega) (by omega) c;exact step (Z5s U) (Zi e2 (Zi (Zf0 (by omega)) (Zi (Zf0 (by omega)) (Zi (Zf0 (by omega)) (Zt Zbc))))) (by rw[e1];congr 1;omega)
 ·have l:=ZaC U 8 (by omega);obtain⟨e1,e2⟩:=zX (m:=8) (Z:=U/2^8) (by omega) (by omega) (by omega);rw[← Zed] at e1 e2;exact step (Z5t U) (Zi e2 (Zi Zbc (Zi (ZlF (by omega)) (Zi (Zf0 (by omega)) (Zi (Zf0 (by omega)) (Zt Zbc)))))) (by rw[e1];congr 1;omega)
def Zve:Ans:=fun vals s=>
 match vals with
 | [.int .u64 x]=>some (.int .i64 (bitLen x.toNat:Nat),s,[(decide (0≤x∧x<65536),true)])
 | _=>none
theorem Zqn:ZQ 114 Zve:=by
 intro vals s v s' lg h hl w;unfold Zve at h;split at h
 ·cases h;have hr:=hl _ Xf;simp only[Xi] at hr;exact Zm0 _ hr.1 hr.2 w
 ·cases h
def ZaL:Con:=alt 114 Zve Zn
theorem Zqo:ConOk ZaL:=Z9 func114 rfl Zqn Zd
def Z4m:Hc:=zP 112 Zgq hcN
theorem Zvf:HcOk Z4m:=Zz func112 rfl ZbW Zag
theorem Zvg:f113.body=some (Zs f113):=by kernel_rfl
end Go.Proofs.YtjlponbdflkbjaaGreatDoor.Na
namespace Go.Proofs.YtjlponbdflkbjaaGreatDoor
open Go.Proofs.Tryz
open Go.IntKind
open Go.KRun Go.Nt
set_option maxRecDepth 100000
set_option linter.unusedVariables false
def Z5u (F:Func):List Code:=[Z3 (Zs F),Z3 (Z0 (Zs F)),Z3 (Z0 (Z0 (Zs F)))]
def Z5v (F:Func):Code:=Z3 (Z3 (Z0 (Z0 (Z0 (Zs F)))))
def Zd0 (F:Func):Code:=cIn (cIn (Z0 (Z3 (Z0 (Z0 (Z0 (Zs F)))))))
def Z5w (F:Func):Code:=Z0 (Z0 (Z0 (Z0 (Zs F))))
theorem Zqp:f93.body=some (za (Z5u f93) (.seq (.seq (Z5v f93) (.block 0 (.loop (Zd0 f93)))) (Z5w f93))):=by kernel_rfl
def sv (A:List Int) (b c i:Int):Int:=u64.wrap (c+u64.wrap (u64.wrap (atN A i)*u64.wrap b))
def Zfc (x:List Value×TypeId):Hp:=⟨1,[x]⟩
def Zgc (lo:List Value) (x:List Value×TypeId):Hp:=⟨2,[(lo,tU),x]⟩
def Z4n (w:Nat):List Dec:=match w with | 0=>[cmp true] | _=>[cmp false,cmp true]
def Z03 (w:Nat) (n:Nat) (k i:Int):Log:=match w with | 0=>[(decide (i<n),true)] | _=>[(decide (k>0),true),(decide (i<n),false)]
def rP' (h:Hp) (p:Option Addr) (n c:Nat):Bool×Bool:=(zS h p n c,true)
theorem Zvh (p:Option Addr) (n c:Nat) (b e:Int) (h:Hp):Zg (evL (Zr prog Zf Zn hcV) 100 (Z5u f93) ([.slice p n c,.int .u32 b,.int .u32 e]++List.replicate 38 undef,h,[]) ⟨[],[],[]⟩) 9 32 none [.slice p n c,.int .u32 b,.int .u32 e,undef,undef,undef,Zp,Zp,.int .u64 (u64.wrap e)] h []:=by and_intros<;>kernel_rfl
theorem Z04 (p:Option Addr) (n c:Nat) (b e k:Int) (h:Hp) (g:Nat→Value):Zg (evC (Zr prog Zf Zn hcV) 100 false (Z5v f93) ([.slice p n c,.int .u32 b,.int .u32 e,undef,undef,undef,Zp,Zp,.int .u64 k]++tl 32 g,h,[]) ⟨[],[],[]⟩) 10 31 none [.slice p n c,.int .u32 b,.int .u32 e,undef,undef,undef,Zp,Zp,.int .u64 k,.int .i64 0] h []:=by and_intros<;>kernel_rfl
theorem Zqq (p:Option Addr) (n c:Nat) (b e k i:Int) (x:List Value×TypeId) (g:Nat→Value):Zg (evC (Zr prog Zf Zn hcV) 100 false (Zd0 f93) ([.slice p n c,.int .u32 b,.int .u32 e,undef,undef,undef,Zp,Zp,.int .u64 k,.int .i64 i]++tl 31 g,Zfc x,Z4n 0++[cmp true]) ⟨[],[],[]⟩) 10 31 none [.slice p n c,.int .u32 b,.int .u32 e,undef,undef,undef,Zp,sl 2 0 1 grown,.int .u64 (u64.wrap ((sv (Zq (Zfc x) p n) b k i).tdiv 65536)),.int .i64 (i64.wrap (i+1))] ⟨3,[([.int .u32 (u32.wrap ((sv (Zq (Zfc x) p n) b k i).tmod 65536))],tU),([.int .u32 (u32.wrap ((sv (Zq (Zfc x) p n) b k i).tmod 65536))],tU),x]⟩ ((decide ((65536:Int)=0),false)::rP' (Zfc x) p n c::Z03 0 n k i):=by and_intros<;>kernel_rfl
theorem Zqr (p:Option Addr) (n c:Nat) (b e k i:Int) (x:List Value×TypeId) (g:Nat→Value):Zg (evC (Zr prog Zf Zn hcV) 100 false (Zd0 f93) ([.slice p n c,.int .u32 b,.int .u32 e,undef,undef,undef,Zp,Zp,.int .u64 k,.int .i64 i]++tl 31 g,Zfc x,Z4n 1++[cmp true]) ⟨[],[],[]⟩) 10 31 none [.slice p n c,.int .u32 b,.int .u32 e,undef,undef,undef,Zp,sl 2 0 1 grown,.int .u64 (u64.wrap ((sv (Zq (Zfc x) p n) b k i).tdiv 65536)),.int .i64 (i64.wrap (i+1))] ⟨3,[([.int .u32 (u32.wrap ((sv (Zq (Zfc x) p n) b k i).tmod 65536))],tU),([.int .u32 (u32.wrap ((sv (Zq (Zfc x) p n) b k i).tmod 65536))],tU),x]⟩ ((decide ((65536:Int)=0),false)::rP' (Zfc x) p n c::Z03 1 n k i):=by and_intros<;>kernel_rfl
theorem Zm1 (p:Option Addr) (n c z:Nat) (b e k i:Int) (x:List Value×TypeId) (lo:List Value) (g:Nat→Value):Zg (evC (Zr prog Zf Zn hcV) 100 false (Zd0 f93) ([.slice p n c,.int .u32 b,.int .u32 e,undef,undef,undef,Zp,sl 1 0 z grown,.int .u64 k,.int .i64 i]++tl 31 g,Zgc lo x,Z4n 0++[cmp true,at_]) ⟨[],[],[]⟩) 10 31 none [.slice p n c,.int .u32 b,.int .u32 e,undef,undef,undef,Zp,sl 3 0 (z+1) grown,.int .u64 (u64.wrap ((sv (Zq (Zgc lo x) p n) b k i).tdiv 65536)),.int .i64 (i64.wrap (i+1))] ⟨4,[(lo++[.int .u32 (u32.wrap ((sv (Zq (Zgc lo x) p n) b k i).tmod 65536))],tU),([.int .u32 (u32.wrap ((sv (Zq (Zgc lo x) p n) b k i).tmod 65536))],tU),([],2*ZZ),x]⟩ ((Zae tU (lo,tU) ([.int .u32 (u32.wrap ((sv (Zq (Zgc lo x) p n) b k i).tmod 65536))],tU) z 0 1,true)::(decide ((65536:Int)=0),false)::rP' (Zgc lo x) p n c::Z03 0 n k i):=by and_intros<;>kernel_rfl
theorem Zm2 (p:Option Addr) (n c z:Nat) (b e k i:Int) (x:List Value×TypeId) (lo:List Value) (g:Nat→Value):Zg (evC (Zr prog Zf Zn hcV) 100 false (Zd0 f93) ([.slice p n c,.int .u32 b,.int .u32 e,undef,undef,undef,Zp,sl 1 0 z grown,.int .u64 k,.int .i64 i]++tl 31 g,Zgc lo x,Z4n 1++[cmp true,at_]) ⟨[],[],[]⟩) 10 31 none [.slice p n c,.int .u32 b,.int .u32 e,undef,undef,undef,Zp,sl 3 0 (z+1) grown,.int .u64 (u64.wrap ((sv (Zq (Zgc lo x) p n) b k i).tdiv 65536)),.int .i64 (i64.wrap (i+1))] ⟨4,[(lo++[.int .u32 (u32.wrap ((sv (Zq (Zgc lo x) p n) b k i).tmod 65536))],tU),([.int .u32 (u32.wrap ((sv (Zq (Zgc lo x) p n) b k i).tmod 65536))],tU),([],2*ZZ),x]⟩ ((Zae tU (lo,tU) ([.int .u32 (u32.wrap ((sv (Zq (Zgc lo x) p n) b k i).tmod 65536))],tU) z 0 1,true)::(decide ((65536:Int)=0),false)::rP' (Zgc lo x) p n c::Z03 1 n k i):=by and_intros<;>kernel_rfl
theorem Zvi (p:Option Addr) (n c:Nat) (b e k i:Int) (v:Value) (h:Hp) (g:Nat→Value):Zg (evC (Zr prog Zf Zn hcV) 100 false (Zd0 f93) ([.slice p n c,.int .u32 b,.int .u32 e,undef,undef,undef,Zp,v,.int .u64 k,.int .i64 i]++tl 31 g,h,[cmp false,cmp false]) ⟨[],[],[]⟩) 10 31 (some (some 0)) [.slice p n c,.int .u32 b,.int .u32 e,undef,undef,undef,Zp,v,.int .u64 k,.int .i64 i] h [(decide (k>0),false),(decide (i<n),false)]:=by and_intros<;>kernel_rfl
theorem Zvj (p:Option Addr) (n c z:Nat) (b e k i:Int) (x:List Value×TypeId) (lo:List Value) (g:Nat→Value):Zg (evC (Zr prog Zf Zn hcV) 100 false (Z5w f93) ([.slice p n c,.int .u32 b,.int .u32 e,undef,undef,undef,Zp,sl 1 0 z grown,.int .u64 k,.int .i64 i]++tl 31 g,Zgc lo x,[]) ⟨[],[],[]⟩) 7 34 (some none) [.slice p n c,.int .u32 b,.int .u32 e,undef,undef,undef,sl 1 0 (Zl (Zx lo 0 z)) (Zl (Zx lo 0 z))] (Zgc lo x) [(Zbm tU lo 0 z grown,true)]:=by and_intros<;>kernel_rfl
theorem Zm3 (p:Option Addr) (n c:Nat) (b e:Int) (h:Hp):Zg (evC (Zr prog Zf Zn hcV) 100 false (Zs f93) ([.slice p n c,.int .u32 b,.int .u32 e]++List.replicate 38 undef,h,[cmp false,cmp false]) ⟨[],[],[]⟩) 7 34 (some none) [.slice p n c,.int .u32 b,.int .u32 e,undef,undef,undef,Zp] h [(decide (u64.wrap e>0),false),(decide ((0:Int)<n),false)]:=by and_intros<;>kernel_rfl
theorem Zco {n:Int}(h0:0≤n) (h1:n<18446744073709551616):u64.wrap n=n:=by simp [IntKind.wrap,IntKind.bits,IntKind.signed];omega
theorem Z5x {A:List Int}(hA:∀ x∈A,Dg 65536 x) {b k:Nat}(hb:b<4294967296) (hk:k<4294967296) (i:Nat):sv A b k i=((k+dgN A i*b:Nat):Int):=by
 have h1:=(zy hA i).1;have h2:=(zy hA i).2;have hp:dgN A i*b≤65535*4294967295:=Nat.mul_le_mul (by omega) (by omega);have e0:atN A (i:Int)=((dgN A i:Nat):Int):=by
  have:=Zef hA i;rw[Zaq];unfold dgN;have:=this.1;omega
 unfold sv;rw[e0,Zco (n:=((dgN A i:Nat):Int)) (by omega) (by omega),Zco (n:=(b:Int)) (by omega) (by omega)];have e1:((dgN A i:Nat):Int)*(b:Int)=((dgN A i*b:Nat):Int):=by simp
 rw[e1,Zco (n:=((dgN A i*b:Nat):Int)) (by omega) (by omega),Zco (by omega) (by omega)];omega
theorem ZjU {O:List Int}{A:List Int}{i k b e:Nat}(hO:O.length=i) (h:vb 65536 O+65536^i*k=vb 65536 (A.take i)*b+e):
  vb 65536 (O++[(((k+dgN A i*b) % 65536:Nat):Int)])+65536^(i+1)*((k+dgN A i*b)/65536)=vb 65536 (A.take (i+1))*b+e:=by
 rw[Zdb,hO,Xg,Zaj,Nat.add_mul];have h2:=Nat.div_add_mod (k+dgN A i*b) 65536;have h3:65536^i*(k+dgN A i*b)=65536^i*(65536*((k+dgN A i*b)/65536))+65536^i*((k+dgN A i*b) % 65536):=by rw[← Nat.mul_add,h2]
 have h4:65536^i*(k+dgN A i*b)=65536^i*k+65536^i*(dgN A i*b):=Nat.mul_add _ _ _;have h5:65536^(i+1)*((k+dgN A i*b)/65536)=65536^i*(65536*((k+dgN A i*b)/65536)):=by rw[Nat.pow_succ,Nat.mul_assoc]
 have h6:65536^i*(A.getD i 0).toNat*b=65536^i*(dgN A i*b):=by rw[Nat.mul_assoc];rfl
 rw[h5,h6];omega
section
variable {x : List Value × TypeId} {p : Option Addr} {n c : Nat} {A : List Int}
theorem Zi4 (NA:Nu 0 x p n c A) {h:Hp}(h0:h.blk? 0=some x):∀ i z,(⟨1,[x]⟩:Hp).blk? i=some z→h.blk? i=some z∧∀ v∈z.1,still v=true:=fun i z hz=>by
 have hi:i=0:=by have:i<1:=Hp.blk_lt hz;omega
 subst hi;have:z=x:=(Option.some.inj hz).symm;subst this;exact⟨h0,NA.st⟩
def sFr (p:Option Addr) (n c:Nat) (b e:Nat) (out:Value) (k i:Nat):List Value:=[.slice p n c,.int .u32 ((b:Nat):Int),.int .u32 ((e:Nat):Int),undef,undef,undef,Zp,out,.int .u64 ((k:Nat):Int),.int .i64 ((i:Nat):Int)]
def Z5y (x:List Value×TypeId) (p:Option Addr) (n c b e:Nat) (O:List Int) (i k:Nat) (Y:Lf):Prop:=
 (i=0∧(∃ g,Y.1=sFr p n c b e Zp k i++tl 31 g)∧Y.2.1=Zfc x)∨(0<i∧(∃ g,Y.1=sFr p n c b e (sl 1 0 i grown) k i++tl 31 g)∧Y.2.1=Zgc (wU O) x)
theorem Zm4 (NA:Nu 0 x p n c A) (hA:∀ x∈A,Dg 65536 x) {b e k i:Nat}(hb:b<4294967296) {O:List Int}(hk:k<4294967296) (hi:i<1073741823) (hO:O.length=i) (hgo:i<n∨0<k) {Y:Lf}(hY:Z5y x p n c b e O i k Y):
  RunsW (Zr prog Zf Zn hcV) (Zd0 f93) Y fun ex z=>ex=none∧(∃ g,z.1=sFr p n c b e (sl 1 0 (i+1) grown) ((k+dgN A i*b)/65536) (i+1)++tl 31 g)∧z.2.1=Zgc (wU (O++[(((k+dgN A i*b) % 65536:Nat):Int)])) x:=by
 obtain⟨t,h',s⟩:=Y;have hd1:=(zy hA i).1;have hp:dgN A i*b≤65535*4294967295:=Nat.mul_le_mul (by omega) (by omega);have es:=Z5x hA hb hk i;have e1:u32.wrap ((sv A b k i).tmod 65536)=(((k+dgN A i*b) % 65536:Nat):Int):=by rw[es,Int.tmod_eq_emod_of_nonneg (by omega),zl (by omega) (by omega)];omega
 have e2:u64.wrap ((sv A b k i).tdiv 65536)=(((k+dgN A i*b)/65536:Nat):Int):=by rw[es,Int.tdiv_eq_ediv_of_nonneg (by omega),Zco (by omega) (by omega)];omega
 have e3:i64.wrap ((i:Int)+1)=((i+1:Nat):Int):=by rw[Zv (by omega) (by omega)];omega
 have hw:∃ w,w≤1∧Z2 (Z03 w n k i):=by
  by_cases ha:i<n
  ·exact⟨0,by omega,Zt (Xa (by omega))⟩
  ·exact⟨1,by omega,okW (Xa (by omega)) (Zt (Xb (by omega)))⟩
 obtain⟨w,hw1,hl⟩:=hw;rcases hY with ⟨h0,⟨g,ht⟩,hh⟩ | ⟨h0,⟨g,ht⟩,hh⟩
 ·simp only at ht hh;subst ht hh;have r0:=NA.row (Zfc x) rfl;have hO':O=[]:=List.length_eq_zero_iff.1 (by omega);have fin:RunsW (Zr prog Zf Zn hcV) (Zd0 f93) (sFr p n c b e Zp k i++tl 31 g,Zfc x,s) fun ex z=>ex=none∧(∃ g,z.1=[.slice p n c,.int .u32 ((b:Nat):Int),.int .u32 ((e:Nat):Int),undef,undef,undef,Zp,sl 2 0 1 grown,.int .u64 (u64.wrap ((sv A b k i).tdiv 65536)),.int .i64 (i64.wrap ((i:Int)+1))]++tl 31 g)∧z.2.1=⟨3,[([.int .u32 (u32.wrap ((sv A b k i).tmod 65536))],tU),([.int .u32 (u32.wrap ((sv A b k i).tmod 65536))],tU),x]⟩:=by
   match w,hw1,hl with
   | 0,_,hl=>
    have:=Ze (Zh Zd Zu) (s0:=s) (Zqq p n c b e k i x g) (okW rfl (okW r0.1 hl));rw[r0.2] at this;exact this
   | 1,_,hl=>
    have:=Ze (Zh Zd Zu) (s0:=s) (Zqr p n c b e k i x g) (okW rfl (okW r0.1 hl));rw[r0.2] at this;exact this
  rw[e1,e2,e3] at fin;have:=fin.kept (k:=1) (b:=2) (base:=[x]) (y:=([.int .u32 (((k+dgN A i*b) % 65536:Nat):Int)],tU)) (front':=sFr p n c b e (sl 1 0 1 grown) ((k+dgN A i*b)/65536) (i+1)) rfl
   (by simp only[sFr,List.map_cons,List.map_nil,NA.rn (f:=zD 1 2) rfl];kernel_rfl) (Zi4 NA rfl) rfl (by omega) (fun v hv=>by rw[List.mem_singleton.1 hv];rfl) (fun v hv=>by
    simp only[sFr,List.mem_cons,List.not_mem_nil,or_false] at hv;rcases hv with rfl | rfl | rfl | rfl | rfl | rfl | rfl | rfl | rfl | rfl
    ·exact NA.lt (by omega)
    all_goals rfl)
  refine this.mono fun ex z hz=> ?_;obtain⟨rfl,⟨g',q1⟩,q2⟩:=hz;subst hO' h0;exact⟨rfl,⟨g',q1⟩,q2⟩
 ·simp only at ht hh;subst ht hh;have r0:=NA.row (Zgc (wU O) x) rfl;have hchk:Zae tU (wU O,tU) ([.int .u32 (u32.wrap ((sv A b k i).tmod 65536))],tU) i 0 1=true:=
   Zba (L:=O) (M:=[u32.wrap ((sv A b k i).tmod 65536)]) hO.symm (show 0<1 by omega) (by show O.length+1≤_;omega)
  have fin:RunsW (Zr prog Zf Zn hcV) (Zd0 f93) (sFr p n c b e (sl 1 0 i grown) k i++tl 31 g,Zgc (wU O) x,s) fun ex z=>ex=none∧(∃ g,z.1=[.slice p n c,.int .u32 ((b:Nat):Int),.int .u32 ((e:Nat):Int),undef,undef,undef,Zp,sl 3 0 (i+1) grown,.int .u64 (u64.wrap ((sv A b k i).tdiv 65536)),.int .i64 (i64.wrap ((i:Int)+1))]++tl 31 g)∧z.2.1=⟨4,[(wU O++[.int .u32 (u32.wrap ((sv A b k i).tmod 65536))],tU),([.int .u32 (u32.wrap ((sv A b k i).tmod 65536))],tU),([],2*ZZ),x]⟩:=by
   match w,hw1,hl with
   | 0,_,hl=>
    have:=Ze (Zh Zd Zu) (s0:=s) (Zm1 p n c i b e k i x (wU O) g) (by rw[r0.2];exact okW hchk (okW rfl (okW r0.1 hl)));rw[r0.2] at this;exact this
   | 1,_,hl=>
    have:=Ze (Zh Zd Zu) (s0:=s) (Zm2 p n c i b e k i x (wU O) g) (by rw[r0.2];exact okW hchk (okW rfl (okW r0.1 hl)));rw[r0.2] at this;exact this
  rw[e1,e2,e3] at fin;have ew:wU O++[.int .u32 (((k+dgN A i*b) % 65536:Nat):Int)]=wU (O++[(((k+dgN A i*b) % 65536:Nat):Int)]):=by rw[ZX];rfl
  rw[ew] at fin;have:=fin.kept (k:=1) (b:=3) (base:=[x]) (y:=(wU (O++[(((k+dgN A i*b) % 65536:Nat):Int)]),tU)) (front':=sFr p n c b e (sl 1 0 (i+1) grown) ((k+dgN A i*b)/65536) (i+1)) rfl
   (by simp only[sFr,List.map_cons,List.map_nil,NA.rn (f:=zD 1 3) rfl];kernel_rfl) (Zi4 NA rfl) rfl (by omega) (ZD _) (fun v hv=>by
    simp only[sFr,List.mem_cons,List.not_mem_nil,or_false] at hv;rcases hv with rfl | rfl | rfl | rfl | rfl | rfl | rfl | rfl | rfl | rfl
    ·exact NA.lt (by omega)
    all_goals rfl)
  exact this
def Z5z (x:List Value×TypeId) (p:Option Addr) (n c:Nat) (A:List Int) (b e m:Nat) (Y:Lf):Prop:=
 ∃ (i k:Nat) (O:List Int),O.length=i∧m=n+2-i∧i≤n+2∧k<4294967296∧((i=n+1→k<65536)∧(i=n+2→k=0))∧(∀ x∈O,Dg 65536 x)∧vb 65536 O+65536^i*k=vb 65536 (A.take i)*b+e∧Z5y x p n c b e O i k Y
def Zvk (x:List Value×TypeId) (p:Option Addr) (n c:Nat) (A:List Int) (b e:Nat) (Y:Lf):Prop:=
 ∃ (i:Nat) (O:List Int),O.length=i∧i≤n+2∧(∀ x∈O,Dg 65536 x)∧vb 65536 O=vb 65536 A*b+e∧n≤i∧Z5y x p n c b e O i 0 Y
theorem Zqs (NA:Nu 0 x p n c A) (lA:A.length=n) (hA:∀ x∈A,Dg 65536 x) {b e:Nat}(hb:b<4294967296) (he:e<4294967296) (hn:n+3<1073741824) (g:Nat→Value):
  RunsW (Zr prog Zf Zn hcV) (.block 0 (.loop (Zd0 f93))) (sFr p n c b e Zp e 0++tl 31 g,Zfc x,[]) fun ex Y=>match ex with | none=>Zvk x p n c A b e Y | some none=>False | some (some _)=>False:=by
 refine RunsW.forLoop (P:=Zvk x p n c A b e) (R:=fun _=>False) (Z5z x p n c A b e) ?_ (n:=n+2) ⟨0,e,[],rfl,by omega,by omega,he,⟨by omega,by omega⟩,(fun x hx=>by cases hx),by simp [vb],.inl ⟨rfl,⟨g,rfl⟩,rfl⟩⟩;rintro m Y ⟨i,k,O,hO,hm,hi,hk,⟨hk1,hk0⟩,hOd,hval,hY⟩;by_cases hgo:i<n∨0<k
 ·have hmx:i≤n+1:=by
   rcases Nat.lt_or_ge i (n+2) with h | h
   ·omega
   ·have:k=0:=hk0 (by omega);omega
  have r:=Zm4 NA hA (e:=e) hb hk (by omega) hO hgo hY;refine r.mono fun ex z hz=> ?_;obtain⟨rfl,z1,z2⟩:=hz;have d1:=(zy hA i).1;have hp:dgN A i*b≤65535*4294967295:=Nat.mul_le_mul (by omega) (by omega);refine⟨n+2-(i+1),by omega,i+1,(k+dgN A i*b)/65536,O++[(((k+dgN A i*b) % 65536:Nat):Int)],by simp [hO],rfl,by omega,by omega,⟨fun he'=> ?_,fun he'=> ?_⟩,fun x hx=> ?_,ZjU hO hval,.inr ⟨by omega,z1,z2⟩⟩
  ·have z1:dgN A i=0:=Zeg (by omega);rw[z1];omega
  ·have z1:dgN A i=0:=Zeg (by omega);have:=hk1 (by omega);rw[z1];omega
  ·rcases List.mem_append.1 hx with hx | hx
   ·exact hOd x hx
   ·rw[List.mem_singleton.1 hx];exact⟨by omega,by omega⟩
 ·have hk:k=0:=by omega
  subst hk;have ha:n≤i:=by omega
  have out:∀ (v:Value) (h:Hp) (g:Nat→Value) (s:List Dec),RunsW (Zr prog Zf Zn hcV) (Zd0 f93) (sFr p n c b e v 0 i++tl 31 g,h,s) fun ex z=>ex=some (some 0)∧(∃ g,z.1=sFr p n c b e v 0 i++tl 31 g)∧z.2.1=h:=fun v h g s=>
   Ze (Zh Zd Zu) (Zvi p n c b e 0 i v h g) (okW rfl (Zt (Xb (by omega))))
  have hv:vb 65536 O=vb 65536 A*b+e:=by
   rw[List.take_of_length_le (by omega)] at hval;omega
  obtain⟨t,h',s⟩:=Y;rcases hY with ⟨h0,⟨g,ht⟩,hh⟩ | ⟨h0,⟨g,ht⟩,hh⟩
  ·simp only at ht hh;subst ht hh;refine (out Zp _ g s).mono fun ex z hz=> ?_;obtain⟨rfl,z1,z2⟩:=hz;exact⟨rfl,i,O,hO,hi,hOd,hv,ha,.inl ⟨h0,z1,z2⟩⟩
  ·simp only at ht hh;subst ht hh;refine (out (sl 1 0 i grown) _ g s).mono fun ex z hz=> ?_;obtain⟨rfl,z1,z2⟩:=hz;exact⟨rfl,i,O,hO,hi,hOd,hv,ha,.inr ⟨h0,z1,z2⟩⟩
theorem Zqt (NA:Nu 0 x p n c A) (lA:A.length=n) (hA:∀ x∈A,Dg 65536 x) {b e:Nat}(hb:b<4294967296) (he:e<4294967296) (hn:n+3<1073741824) (h0:0<n∨0<e) {V:Nat}(hV:V=vb 65536 A*b+e):
  RunsW (Zr prog Zf Zn hcV) (za (Z5u f93) (.seq (.seq (Z5v f93) (.block 0 (.loop (Zd0 f93)))) (Z5w f93))) ([.slice p n c,.int .u32 ((b:Nat):Int),.int .u32 ((e:Nat):Int)]++List.replicate 38 undef,Zfc x,[]) fun ex z=>(ex=none∨ex=some none)∧ZV prog f93 z.1 z.2.1=some (sl 1 0 (d16 V).length (d16 V).length)∧∃ r,z.2.1.blk? 1=some (wU (d16 V)++r,tU):=by
 refine Z1 (Zh Zd Zu) (Zvh p n c b e (Zfc x)) (fun x hx=>by cases hx) fun g=> ?_;have ee:u64.wrap ((e:Nat):Int)=((e:Nat):Int):=Zco (by omega) (by omega);rw[ee];refine Zgw (Ze (Zh Zd Zu) (Z04 p n c b e e (Zfc x) g) (fun x hx=>by cases hx)) (fun ex y he=>by cases he.1) (P2:=fun ex Y=>match ex with | none=>Zvk x p n c A b e Y | some none=>False | some (some _)=>False) ?_ ?_ ?_
 ·rintro⟨t,h',s⟩ ⟨_,⟨g',ht⟩,hh⟩;simp only at ht hh;subst ht hh;exact RunsW.script (Zqs NA lA hA hb he hn g')
 ·intro ex y hy
  match ex,hy with
  | none,hy=>exact hy
  | some id,hy=>exact hy
 ·rintro⟨t,h',s⟩ ⟨i,O,hO,hi,hOd,hv,ha,hY⟩;rcases hY with ⟨e0,_⟩ | ⟨_,⟨g',ht⟩,hh⟩
  ·exfalso
   have hO':O=[]:=List.length_eq_zero_iff.1 (by omega);rw[hO'] at hv;have:vb 65536 []=0:=rfl;omega
  ·simp only at ht hh;subst ht hh;have hrow:Zbm tU (wU O) 0 i grown=true:=by
    rw[← hO];exact Zap (fun x hx=>⟨(hOd x hx).1,by have:=(hOd x hx).2;omega⟩) (by omega) (ZyR _)
   refine (Ze (Zh Zd Zu) (Zvj p n c i b e 0 i x (wU O) g') (Zt hrow)).mono fun ex z hz=> ?_;obtain⟨rfl,⟨g2,e1⟩,e2⟩:=hz;have et:Zl (Zx (wU O) 0 i)=(d16 V).length:=by
    rw[← hO,ZaO,Zat (by omega) hOd,hv,← hV];rfl
   refine⟨.inr rfl,?_,?_⟩
   ·rw[e1,e2,et];rfl
   ·rw[e2];refine⟨wU (O.drop (Zl O)),?_⟩;have e3:wU (d16 V)++wU (O.drop (Zl O))=wU O:=by
     unfold d16;rw[hV,← hv,← zk (by omega) _ hOd,← ZX,List.take_append_drop]
    rw[e3];rfl
theorem Zi5 (NA:Nu 0 x p n c A):(Zfc x).rows:=by
 refine⟨rfl,fun b z hz=> ?_⟩;have hb:b=0:=by have:b<1:=Hp.blk_lt hz;omega
 subst hb;have:z=x:=(Option.some.inj hz).symm;subst this;exact⟨NA.ros.1,NA.lt0,NA.ros.2⟩
theorem Zi6 {h:Hp}{a:Nat}(hx:Zab x.2=false→∃ z r,h.blk? a=some z∧Zab z.2=false∧rt z.2=rt x.2∧z.1=x.1++r):(Zfc x).fits (fun _=>a) h:=by
 intro i z hz ht;have hb:i=0:=by have:i<1:=Hp.blk_lt hz;omega
 subst hb;have:z=x:=(Option.some.inj hz).symm;subst this;exact hx ht
end
theorem Zm5:f93.body=some (Zs f93):=by kernel_rfl
def ZaU (h:Hp) (p:Option Addr) (n c:Nat) (b e:Int):Bool:=zS h p n c && dgB (Zq h p n) && Nat.blt (n+3) 1073741824 && decide ((0≤b∧b<4294967296)∧(0≤e∧e<4294967296))
def Z4o:Zac:=fun vals h s=>
 match vals,s with
 | [.slice p n c,.int .u32 b,.int .u32 e],.inr (.inr (.inr (.inl d)))::s'=>
  match d with
  | true=>Zdf (vO h p n*b.toNat+e.toNat) h s' [(ZaU h p n c b e,true),(decide (0<n∨0<e),true)]
  | false=>some (Zp,h,s',[(ZaU h p n c b e,true),(decide (0<n∨0<e),false)])
 | _,_=>none
theorem Zh4:Z8 93 Z4o:=by
 intro vals h s v h' s' lg hg hl m B w E hv;unfold Z4o at hg;split at hg
 ·rename_i p n c b e d s2;have key:ZaU h p n c b e=true→∃ b' e':Nat,b=(b':Int)∧e=(e':Int)∧b'<4294967296∧e'<4294967296∧zS h p n c=true∧(∀ x∈Zq h p n,Dg 65536 x)∧n+3<1073741824:=fun hk=>by
   simp only[ZaU,Xh,Xi] at hk;obtain⟨⟨⟨r1,r2⟩,r3⟩,r4⟩:=hk;exact⟨b.toNat,e.toNat,by omega,by omega,by omega,by omega,r1,Zbw r2,Zo.1 r3⟩
  split at hg
  ·unfold Zdf at hg;cases hg;have q1:=hl _ (Xe);have q2:=hl _ (Xd _ Xf);simp only[Xi] at q2;obtain⟨b',e',rfl,rfl,hb,he,r1,r2,r3⟩:=key q1;rw[Xg,Xg];obtain⟨x,p',a,NA,eA,fA⟩:=ZbF 0 r1;have r:=Zqt NA (zT r1) r2 hb he r3 (by omega) rfl;have:=ZE (T:=Zr prog Zf Zn hcV) func93 Zqp (Zi5 NA) (vals:=[.slice p' n c,.int .u32 ((b':Nat):Int),.int .u32 ((e':Nat):Int)]) (fun v hv=>by
    simp only[List.mem_cons,List.not_mem_nil,or_false] at hv;rcases hv with rfl | rfl | rfl
    ·exact NA.lt (by show 0<1;omega)
    all_goals rfl) (k:=1) (cs:=wU (d16 (vO h p n*b'+e'))) (ty:=tU) (Zbb _) (by kernel_rfl) r (by rfl) E (s:=fun _=>a) (Zi6 fA)
   simp only[List.map_cons,List.map_nil] at this;rw[eA _ rfl] at this;exact this
  ·cases hg;have q1:=hl _ (Xe);have q2:=hl _ (Xd _ Xf);simp only[decide_eq_false_iff_not] at q2;obtain⟨b',e',rfl,rfl,hb,he,r1,r2,r3⟩:=key q1;obtain⟨x,p',a,NA,eA,fA⟩:=ZbF 0 r1;have hr:Runs (Zr prog Zf Zn hcV) (Zs f93) ([.slice p' n c,.int .u32 ((b':Nat):Int),.int .u32 ((e':Nat):Int)]++List.replicate 38 undef,Zfc x,[]) fun ex z=>(ex=none∨ex=some none)∧ZV prog f93 z.1 z.2.1=some Zp:=by
    refine (Zb (Zh Zd Zu) (Zm3 p' n c b' e' _) (okW (Xb (by rw[Zco (by omega) (by omega)];omega)) (Zt (Xb (by omega))))).mono fun ex z he=> ?_;obtain⟨rfl,⟨g,e2⟩,e3⟩:=he;refine⟨.inr rfl,?_⟩;rw[e2,e3];rfl
   have:=ZB (T:=Zr prog Zf Zn hcV) func93 Zm5 (Zi5 NA) (vals:=[.slice p' n c,.int .u32 ((b':Nat):Int),.int .u32 ((e':Nat):Int)]) (fun v hv=>by
    simp only[List.mem_cons,List.not_mem_nil,or_false] at hv;rcases hv with rfl | rfl | rfl
    ·exact NA.lt (by show 0<1;omega)
    all_goals rfl) (v:=Zp) (by rfl) hr.w E (s:=fun _=>a) (Zi6 fA)
   simp only[List.map_cons,List.map_nil] at this;rw[eA _ rfl] at this;exact this
 ·cases hg
end Go.Proofs.YtjlponbdflkbjaaGreatDoor
namespace Go.Proofs.YtjlponbdflkbjaaGreatDoor
open Go.Proofs.Tryz
open Go.IntKind
open Go.KRun Go.Nt
set_option maxRecDepth 100000
def sA (F:Func):Code:=Z3 (Z0 (Zs F))
def sR (F:Func):Code:=Z0 (Z0 (Zs F))
def sR3 (F:Func):Code:=Z3 (sR F)
def sR4 (F:Func):Code:=Z3 (Z0 (sR F))
def sR5 (F:Func):Code:=Z3 (Z3 (Z0 (Z0 (sR F))))
def sL1 (F:Func):Code:=cIn (cIn (Z0 (Z3 (Z0 (Z0 (sR F))))))
def sR9 (F:Func):Code:=Z3 (Z0 (Z0 (Z0 (sR F))))
def sT (F:Func):Code:=Z0 (Z0 (Z0 (Z0 (sR F))))
def Z50 (F:Func):Code:=Z3 (Z3 (sT F))
def sL2 (F:Func):Code:=cIn (cIn (Z0 (Z3 (sT F))))
def sEn (F:Func):Code:=Z0 (sT F)
def sPr (F:Func):List Code:=[Z3 (Zs F),sA F,sR3 F,sR4 F]
theorem Zm6:f55.body=some (za (sPr f55) (.seq (.seq (sR5 f55) (.block 0 (.loop (sL1 f55)))) (.seq (sR9 f55) (.seq (.seq (Z50 f55) (.block 2 (.loop (sL2 f55)))) (sEn f55))))):=by kernel_rfl
theorem ZjV:f55.body=some (Zs f55):=by kernel_rfl
def k16 (k:Int):Int:=i64.wrap (k.tdiv 16)
def zz (z:Nat):List Value:=List.replicate z (.int .u32 0)
theorem Zm7 (p:Option Addr) (n c:Nat) (k:Value) (h:Hp):Zg (evC (Zr prog Zf Zn hcV) 100 false (Zs f55) ([.slice p n c,k]++List.replicate 48 undef,h,[cmp true]) ⟨[],[],[]⟩) 5 45 (some none) [.slice p n c,k,undef,undef,Zp] h [((n:Int)==0,true)]:=by and_intros<;>kernel_rfl
theorem Zqu (o n c:Nat) (k:Int) (x:List Value×TypeId):Zg (evL (Zr prog Zf Zn hcV) 100 (sPr f55) ([sl 0 o n c,.int .i64 k]++List.replicate 48 undef,⟨1,[x]⟩,[cmp false,at_]) ⟨[],[],[]⟩) 7 43 none [sl 0 o n c,.int .i64 k,undef,undef,Zp,sl 1 0 (k16 k).toNat (k16 k).toNat,.int .u32 1] ⟨2,[(zz (k16 k).toNat,tU),x]⟩ [(ZI 4 (k16 k) (k16 k),true),((n:Int)==0,false)]:=by and_intros<;>kernel_rfl
theorem Zvl (a v:Value) (k:Int) (h:Hp) (g:Nat→Value):Zg (evC (Zr prog Zf Zn hcV) 100 false (sR5 f55) ([a,.int .i64 k,undef,undef,Zp,v,.int .u32 1]++tl 43 g,h,[]) ⟨[],[],[]⟩) 8 42 none [a,.int .i64 k,undef,undef,Zp,v,.int .u32 1,.int .i64 0] h []:=by and_intros<;>kernel_rfl
theorem Zvm (a v:Value) (k b i:Int) (h:Hp) (g:Nat→Value):Zg (evC (Zr prog Zf Zn hcV) 100 false (sL1 f55) ([a,.int .i64 k,undef,undef,Zp,v,.int .u32 b,.int .i64 i]++tl 42 g,h,[cmp true,cmp true]) ⟨[],[],[]⟩) 8 42 none [a,.int .i64 k,undef,undef,Zp,v,.int .u32 (u32.wrap (2*b)),.int .i64 (i64.wrap (i+1))] h [(decide (i<k.tmod 16),true),(decide ((16:Int)=0),false)]:=by and_intros<;>kernel_rfl
theorem Zvn (a v:Value) (k b i:Int) (h:Hp) (g:Nat→Value):Zg (evC (Zr prog Zf Zn hcV) 100 false (sL1 f55) ([a,.int .i64 k,undef,undef,Zp,v,.int .u32 b,.int .i64 i]++tl 42 g,h,[cmp true,cmp false]) ⟨[],[],[]⟩) 8 42 (some (some 0)) [a,.int .i64 k,undef,undef,Zp,v,.int .u32 b,.int .i64 i] h [(decide (i<k.tmod 16),false),(decide ((16:Int)=0),false)]:=by and_intros<;>kernel_rfl
theorem Zvo (a v:Value) (k b i:Int) (h:Hp) (g:Nat→Value):Zg (evC (Zr prog Zf Zn hcV) 100 false (sR9 f55) ([a,.int .i64 k,undef,undef,Zp,v,.int .u32 b,.int .i64 i]++tl 42 g,h,[]) ⟨[],[],[]⟩) 9 41 none [a,.int .i64 k,undef,undef,Zp,v,.int .u32 b,.int .i64 i,.int .u32 0] h []:=by and_intros<;>kernel_rfl
theorem Zqv (a v:Value) (k b i:Int) (h:Hp) (g:Nat→Value):Zg (evC (Zr prog Zf Zn hcV) 100 false (Z50 f55) ([a,.int .i64 k,undef,undef,Zp,v,.int .u32 b,.int .i64 i,.int .u32 0]++tl 41 g,h,[]) ⟨[],[],[]⟩) 10 40 none [a,.int .i64 k,undef,undef,Zp,v,.int .u32 b,.int .i64 i,.int .u32 0,.int .i64 0] h []:=by and_intros<;>kernel_rfl
def cy (e x b:Int):Int:=u32.wrap (e+u32.wrap (x*b))
def lAx (l:List Value) (o n:Nat) (i x:Int):Log:=[(decide ((65536:Int)=0),false),(Z5 (l[o+i.toNat*1]?) (.int .u32 x),true),(decide (0≤i∧i<n),true),(decide (i<n),true)]
theorem Zqw (o n c z z':Nat) (b e i x:Int) (l lo:List Value) (j1 j7:Value) (g:Nat→Value):Zg (evC (Zr prog Zf Zn hcV) 100 false (sL2 f55) ([sl 0 o n c,j1,undef,undef,Zp,sl 1 0 z z',.int .u32 b,j7,.int .u32 e,.int .i64 i]++tl 40 g,⟨2,[(lo,tU),(l,tR)]⟩,[cmp true,at_,val (.int .u32 x),cmp true,num 0]) ⟨[],[],[]⟩) 10 40 none [sl 0 o n c,j1,undef,undef,Zp,sl 3 0 (z+1) grown,.int .u32 b,j7,.int .u32 (u32.wrap ((cy e x b).tdiv 65536)),.int .i64 (i64.wrap (i+1))] ⟨4,[(lo++[.int .u32 ((cy e x b).tmod 65536)],tU),([.int .u32 ((cy e x b).tmod 65536)],tU),(lo,tU),(l,tR)]⟩ ((Zdo (lo,tU) ([.int .u32 ((cy e x b).tmod 65536)],tU) z z' 0 1,true)::lAx l o n i x):=by and_intros<;>kernel_rfl
theorem Zqx (o n c z:Nat) (b e i x:Int) (l lo:List Value) (j1 j7:Value) (g:Nat→Value):Zg (evC (Zr prog Zf Zn hcV) 100 false (sL2 f55) ([sl 0 o n c,j1,undef,undef,Zp,sl 1 0 z grown,.int .u32 b,j7,.int .u32 e,.int .i64 i]++tl 40 g,⟨2,[(lo,tU),(l,tR)]⟩,[cmp true,at_,val (.int .u32 x),cmp true,at_]) ⟨[],[],[]⟩) 10 40 none [sl 0 o n c,j1,undef,undef,Zp,sl 3 0 (z+1) grown,.int .u32 b,j7,.int .u32 (u32.wrap ((cy e x b).tdiv 65536)),.int .i64 (i64.wrap (i+1))] ⟨4,[(lo++[.int .u32 ((cy e x b).tmod 65536)],tU),([.int .u32 ((cy e x b).tmod 65536)],tU),([],2*ZZ),(l,tR)]⟩ ((Zae tU (lo,tU) ([.int .u32 ((cy e x b).tmod 65536)],tU) z 0 1,true)::lAx l o n i x):=by and_intros<;>kernel_rfl
theorem Zm8 (p:Option Addr) (n c:Nat) (v:Value) (b e i:Int) (h:Hp) (j1 j7:Value) (g:Nat→Value):Zg (evC (Zr prog Zf Zn hcV) 100 false (sL2 f55) ([.slice p n c,j1,undef,undef,Zp,v,.int .u32 b,j7,.int .u32 e,.int .i64 i]++tl 40 g,h,[cmp false]) ⟨[],[],[]⟩) 10 40 (some (some 2)) [.slice p n c,j1,undef,undef,Zp,v,.int .u32 b,j7,.int .u32 e,.int .i64 i] h [(decide (i<n),false)]:=by and_intros<;>kernel_rfl
theorem Zqy (a:Value) (z:Nat) (b e i:Int) (x:List Value×TypeId) (lo:List Value) (j1 j7:Value) (g:Nat→Value):Zg (evC (Zr prog Zf Zn hcV) 100 false (sEn f55) ([a,j1,undef,undef,Zp,sl 1 0 z grown,.int .u32 b,j7,.int .u32 e,.int .i64 i]++tl 40 g,⟨2,[(lo,tU),x]⟩,[at_]) ⟨[],[],[]⟩) 5 45 (some none) [a,j1,undef,undef,sl 3 0 (Zl (Zx (lo++[.int .u32 e]) 0 (z+1))) (Zl (Zx (lo++[.int .u32 e]) 0 (z+1)))] ⟨4,[(lo++[.int .u32 e],tU),([.int .u32 e],tU),([],2*ZZ),x]⟩ [(Zbm tU (lo++[.int .u32 e]) 0 (z+1) grown,true),(Zae tU (lo,tU) ([.int .u32 e],tU) z 0 1,true)]:=by and_intros<;>kernel_rfl
end Go.Proofs.YtjlponbdflkbjaaGreatDoor
