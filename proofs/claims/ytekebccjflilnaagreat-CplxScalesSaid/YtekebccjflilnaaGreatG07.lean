/-
  NumH, GnA, Con4, RunS, RunT, NumK, ConD1, ConD2, ConD3, Con5, ConQ1, ConQ2, Con6, ConQ3, ConQ7, ConQ4
-/
import Derived.Test.YtekebccjflilnaaGreatG06
namespace Go.Rn
open Go.Nt Go.Wd Go.Pt
theorem ZeG {F G E:Int}(h1:F≤G) (h2:G≤E) (X:Nat):szF F E X=szF G E X*2^(G-F).toNat:=by
 unfold szF;rw[Nat.mul_assoc,← Nat.pow_add];congr 2;omega
theorem ZeH (n:Bool) (A K:Nat):sgI n (A*K)=sgI n A*(K:Int):=by
 cases n
 ·simp [sgI]
 ·simp only[sgI,Int.natCast_mul];rw[Int.neg_mul]
theorem ZkL {F G Ex Ey:Int}(h1:F≤G) (h2:G≤Ex) (h3:G≤Ey) (nx ny:Bool) (X Y:Nat):smI F nx Ex X ny Ey Y=smI G nx Ex X ny Ey Y*((2^(G-F).toNat:Nat):Int):=by
 unfold smI;rw[ZeG h1 h2,ZeG h1 h3,ZeH,ZeH,Int.add_mul]
theorem ZkM (m:Int) (nx ny:Bool) (S:Int) {K:Nat}(hK:0<K):sgS m nx ny (S*(K:Int))=sgS m nx ny S:=by
 have hk:(0:Int)<(K:Int):=by omega
 have e0:S*(K:Int)=0↔S=0:=by rw[Int.mul_eq_zero];omega
 have e1:S*(K:Int)<0↔S<0:=by
  constructor
  ·intro h;rcases Int.lt_or_le S 0 with h1 | h1
   ·exact h1
   ·have:=Int.mul_nonneg h1 (Int.le_of_lt hk);omega
  ·intro h;exact Int.mul_neg_of_neg_of_pos h hk
 unfold sgS;simp only[e0,e1]
theorem ZnH {G Ex Ey:Int}{X Y:Nat}(hX:May Ex X) (hY:May Ey Y) (hx:G≤Ex) (hy:G≤Ey) (k m:Int) (n nx ny:Bool):
  rnP k n (2*xuQ nx Ex X ny Ey Y+bN (xuB nx Ex X ny Ey Y)) (unN Ex X Ey Y-1)=rnP k n (smI G nx Ex X ny Ey Y).natAbs G
  ∧rnF k n (2*xuQ nx Ex X ny Ey Y+bN (xuB nx Ex X ny Ey Y)) (unN Ex X Ey Y-1)=rnF k n (smI G nx Ex X ny Ey Y).natAbs G
  ∧xuN m nx Ex X ny Ey Y=sgS m nx ny (smI G nx Ex X ny Ey Y):=by
 obtain⟨F,hF⟩:∃ F,F=min (unN Ex X Ey Y) G:=⟨_,rfl⟩;have h1:F≤unN Ex X Ey Y:=by omega
 have h2:F≤G:=by omega
 obtain⟨a,b,c⟩:=Zv9 hX hY h1 (by omega) (by omega) m nx ny;have hK:0<2^(G-F).toNat:=Nat.pow_pos (by omega);have es:=ZkL (X:=X) (Y:=Y) h2 hx hy nx ny;have ea:(smI F nx Ex X ny Ey Y).natAbs=(smI G nx Ex X ny Ey Y).natAbs*2^(G-F).toNat:=by rw[es,Int.natAbs_mul,Int.natAbs_natCast]
 obtain⟨p,q⟩:=ZfB (m:=k) (neg:=n) (F:=F) b;have eu:F+((unN Ex X Ey Y-F).toNat:Int)-1=unN Ex X Ey Y-1:=by omega
 have eG:G-((G-F).toNat:Int)=F:=by omega
 have sp:=ZaA k n (smI G nx Ex X ny Ey Y).natAbs (G-F).toNat G;have sf:=ZaB k n (smI G nx Ex X ny Ey Y).natAbs (G-F).toNat G;rw[eG,← ea] at sp sf;rw[eu] at p q;refine⟨by rw[a,p,sp],by rw[a,q,sf],?_⟩;rw[c,es,ZkM m nx ny _ hK]
def uV (p:Int):Nat:=szF (-1074) (xp p) (sg p).toNat
def pvI (p:Int):Int:=sgI (sgn p) (uV p)
def psI (a b:Int):Int:=pvI a+pvI b
theorem ZbJ (p:Int): -1074≤xp p∧xp p≤972:=by
 have:=Zio p;unfold xp;split
 ·omega
 ·split<;>omega
theorem ZbK (p:Int):0≤sg p∧sg p<9007199254740992:=by
 have:=Zgk p;unfold sg;split
 ·omega
 ·split<;>omega
theorem ZeI (p:Int):May (xp p) (sg p).toNat:=by
 have h1:=ZbJ p;have h2:=ZbK p;refine⟨?_,by omega,by omega⟩;have:(2:Nat)^128=340282366920938463463374607431768211456:=rfl;omega
def adN (m a b:Int):Bool:=sgS m (sgn a) (sgn b) (psI a b)
def adP (m a b:Int):Int:=rnP m (adN m a b) (psI a b).natAbs (-1074)
def adF (m a b:Int):Int:=rnF m (adN m a b) (psI a b).natAbs (-1074)
def ng (p:Int):Int:=(p+9223372036854775808) % 18446744073709551616
theorem ZnI {p:Int}(hp:U p):U (ng p)∧sgn (ng p)= !sgn p∧ex (ng p)=ex p∧fr (ng p)=fr p∧mag (ng p)=mag p:=by
 unfold U at hp;unfold ng U sgn ex fr mag;refine⟨by omega,?_,by omega,by omega,by omega⟩;by_cases h:9223372036854775808≤p
 ·rw[Xa h,Xb (by omega)];rfl
 ·rw[Xb h,Xa (by omega)];rfl
theorem ZkN (n:Bool) (A:Nat):(sgI n A).natAbs=A:=by cases n<;>simp [sgI]
theorem Zgs {n:Bool}{A:Nat}(h:A≠0):decide (sgI n A<0)=n∧sgI n A≠0:=by
 cases n
 ·exact⟨Xb (by simp only[sgI];omega),by simp only[sgI];omega⟩
 ·exact⟨Xa (by simp only[sgI];omega),by simp only[sgI];omega⟩
end Go.Rn
namespace Go.Proofs.YtekebccjflilnaaGreat
open Go.Proofs.Tryz
open Go.IntKind
open Go.KRun Go.Wd Go.Pt Go.Rn
set_option maxRecDepth 100000
def ZnJ:Con:=alt 27 gRd (alt 82 (gU vT) (alt 54 (gU fun p=> .int .i64 (cl p)) Zo))
theorem ZeJ:ConOk ZnJ:=Zy func27 rfl Zvt (Zy func82 rfl ZrR (Zy func54 rfl ZpX Zd))
def wSg (p:Int):W4:=⟨sg p,0,0,0⟩
def lp0:Bool×Bool:=(decide ((0:Int)<((2:Nat):Int)),true)
def lp1:Bool×Bool:=(decide (i64.wrap (0+1)<((2:Nat):Int)),true)
def lp2:Bool×Bool:=(decide (i64.wrap (i64.wrap (0+1)+1)<((2:Nat):Int)),false)
theorem ZaC (p:Int):(wSg p).ok:=by
 have h:=ZbK p;exact⟨⟨h.1,by unfold wSg;dsimp only;omega⟩,⟨by unfold wSg;dsimp only;omega,by unfold wSg;dsimp only;omega⟩,⟨by unfold wSg;dsimp only;omega,by unfold wSg;dsimp only;omega⟩,⟨by unfold wSg;dsimp only;omega,by unfold wSg;dsimp only;omega⟩⟩
theorem ZaT (p:Int):(wSg p).nat=(sg p).toNat:=by
 unfold W4.nat W4.val wSg;simp only[Int.mul_zero,Int.add_zero]
theorem Zsb {q:Nat}(h:q<2^256) (b:Bool):tw (ofN q) b=2*q+bN b:=by
 unfold tw;rw[zX h];cases b<;>rfl
theorem Zd2 (k:Int) (n:Bool) {x:W4}(hx:x.ok) (b:Bool) (u:Int):rnP k n (tw x b) (clp u-1)=rnP k n (tw x b) (u-1)∧rnF k n (tw x b) (clp u-1)=rnF k n (tw x b) (u-1):=by
 have h1:=Zeh (m:=k) (neg:=n) hx b (C:=clp u) (D:=u) (by unfold clp;split<;>(try split)<;>omega);have h2:=Zeh (m:=k) (neg:=n) hx b (C:=u) (D:=u) (.inl rfl);exact⟨by rw[h1.1,h2.1],by rw[h1.2,h2.2]⟩
end Go.Proofs.YtekebccjflilnaaGreat
namespace Go.Proofs.YtekebccjflilnaaGreat
open Go.Proofs.Tryz
open Go.IntKind
open Go.KRun Go.Wd
def ZnK (z:Int):Int:=u64.wrap ((BitVec.ofInt 64 z &&& BitVec.ofInt 64 4294967295).toNat:Nat)
def Zhq (z:Int):Int:=z.fdiv (2^min ((32:Int).toNat) 64)
def l32:Bool×Bool:=(decide ((32:Int)<0),false)
theorem Zgt (z:Int):Zhq z=z/4294967296:=by
 unfold Zhq;rw[show (2:Int)^min ((32:Int).toNat) 64=4294967296 from rfl,Int.fdiv_eq_ediv_of_nonneg _ (by omega)]
theorem Zd3 {z:Int}(h0:0≤z) (h1:z<18446744073709551616):ZnK z=z % 4294967296:=by
 unfold ZnK;have e1:(BitVec.ofInt 64 z).toNat=z.toNat:=by
  rw[BitVec.toNat_ofInt];omega
 have e2:(BitVec.ofInt 64 4294967295).toNat=2^32-1:=by rfl
 rw[BitVec.toNat_and,e1,e2,Nat.and_two_pow_sub_one_eq_mod,ZK];omega
def mT (x y:Int):Int:=u64.wrap (u64.wrap (Zhq x*ZnK y)+Zhq (u64.wrap (ZnK x*ZnK y)))
def mW (x y:Int):Int:=u64.wrap (ZnK (mT x y)+u64.wrap (ZnK x*Zhq y))
def mH (x y:Int):Int:=u64.wrap (u64.wrap (u64.wrap (Zhq x*Zhq y)+Zhq (mT x y))+Zhq (mW x y))
def mL (x y:Int):Int:=u64.wrap (x*y)
abbrev u_ (n:Int):Value:= .int .u64 n
theorem Ziv (x y:Int):Zw (Ze (Zi prog Zh Zo true) 3000 107 [u_ x,u_ y] []) (.tuple #[u_ (mH x y),u_ (mL x y)]) [l32,l32,l32,l32,l32]:=by and_intros<;>kernel_rfl
theorem ZkO (x y:Int) (hx:0≤x∧x<18446744073709551616) (hy:0≤y∧y<18446744073709551616):mH x y=x*y/18446744073709551616∧mL x y=x*y % 18446744073709551616:=by
 refine⟨?_,by unfold mL;rw[ZK]⟩;have x0:0≤x % 4294967296∧x % 4294967296<4294967296:=by omega
 have y0:0≤y % 4294967296∧y % 4294967296<4294967296:=by omega
 have x1:0≤x/4294967296∧x/4294967296<4294967296:=by omega
 have y1:0≤y/4294967296∧y/4294967296<4294967296:=by omega
 have bd:∀ p q:Int,(0≤p∧p<4294967296)→(0≤q∧q<4294967296)→0≤p*q∧p*q≤18446744065119617025:=fun p q hp hq=>by
  refine⟨Int.mul_nonneg hp.1 hq.1,?_⟩;have:=Int.mul_le_mul (show p≤4294967295 by omega) (show q≤4294967295 by omega) hq.1 (by omega);omega
 have ex:x*y=18446744073709551616*(x/4294967296*(y/4294967296))+4294967296*(x/4294967296*(y % 4294967296))+4294967296*(x % 4294967296*(y/4294967296))+x % 4294967296*(y % 4294967296):=by
  have h1:=Int.mul_ediv_add_emod x 4294967296;have h2:=Int.mul_ediv_add_emod y 4294967296;generalize x/4294967296=p at*;generalize x % 4294967296=q at*;generalize y/4294967296=r at*;generalize y % 4294967296=s at*;rw[← h1,← h2,Int.add_mul,Int.mul_add,Int.mul_add,Int.mul_assoc,Int.mul_left_comm p,Int.mul_left_comm q,Int.mul_assoc];omega
 have a1:=bd _ _ x0 y0;have a2:=bd _ _ x1 y0;have a3:=bd _ _ x0 y1;have a4:=bd _ _ x1 y1;unfold mH mW mT;simp only[Zgt,Zd3 hx.1 hx.2,Zd3 hy.1 hy.2];generalize x/4294967296*(y/4294967296)=d at*;generalize x/4294967296*(y % 4294967296)=b at*;generalize x % 4294967296*(y/4294967296)=c at*;generalize x % 4294967296*(y % 4294967296)=a at*;rw[ex];have w1:u64.wrap a=a:=ZN (by omega) (by omega);have w2:u64.wrap b=b:=ZN (by omega) (by omega);have w3:u64.wrap c=c:=ZN (by omega) (by omega);have w4:u64.wrap d=d:=ZN (by omega) (by omega);have w5:u64.wrap (b+a/4294967296)=b+a/4294967296:=ZN (by omega) (by omega);rw[w1,w2,w3,w4,w5,Zd3 (z:=b+a/4294967296) (by omega) (by omega)];rw[ZN (n:=(b+a/4294967296) % 4294967296+c) (by omega) (by omega),ZN (n:=d+(b+a/4294967296)/4294967296) (by omega) (by omega),ZN (by omega) (by omega)];omega
theorem Zbp:l32.1=l32.2:=rfl
abbrev zd (x:Int):Prop:=0≤x∧x<18446744073709551616
theorem Zgu (x y:Int) (hx:zd x) (hy:zd y) (w:World):Calls prog 107 #[u_ x,u_ y] w fun e w'=>e= .returned (.tuple #[u_ (x*y/18446744073709551616),u_ (x*y % 18446744073709551616)])∧zg w w':=by
 have h:=Zb (Zf Zd) (Ziv x y) (Za Zbp (Za Zbp (Za Zbp (Za Zbp (Zz Zbp))))) (by rfl) (by rfl) w;obtain⟨e1,e2⟩:=ZkO x y hx hy;rw[e1,e2] at h;exact h
end Go.Proofs.YtekebccjflilnaaGreat
namespace Go.KRun
open Go.RowKit
def Runs (T:Tab) (c:Code) (x:Lf) (Post:Ex→Lf→Prop):Prop:=
 ∀ m B a w,Rel m B x a w→∀ Q:Exit→Act→World→Prop,(∀ e y,Post e y→∀ a' w',Reach m B x.2.1.n w y a' w'→Q (out e) a' w')→c.wp T.P Q a w
theorem Runs.mono {T:Tab}{c:Code}{x:Lf}{P P':Ex→Lf→Prop}(h:Runs T c x P) (hp:∀ e y,P e y→P' e y):Runs T c x P':=
 fun m B a w R Q hQ=>h m B a w R Q fun e y he=>hQ e y (hp e y he)
theorem Runs.script {T:Tab}{c:Code}{t:List Value}{h:Hp}{s s':List Dec}{P:Ex→Lf→Prop}(hr:Runs T c (t,h,s) P):Runs T c (t,h,s') P:=
 fun m B a w R Q hQ=>hr m B a w ⟨R.tmps,R.dfr,R.emb,R.wf⟩ Q hQ
theorem Runs.ev {T:Tab}(hT:TabOk T) {n:Nat}{c:Code}{x x':Lf}{e:Ex}{L:Lg}(h:evC T n false c x ⟨[],[],[]⟩=some (e,x',L)) (hL:L.ok):Runs T c x fun e' y=>e'=e∧y=x':=
 fun m B a w R Q hQ=>((Zhc hT n).1 c x _ e x' L h hL).2 m B a w R Q fun a' w' hR=>hQ e x' ⟨rfl,rfl⟩ a' w' hR
theorem Runs.seq {T:Tab}{c1 c2:Code}{x:Lf}{P1 P:Ex→Lf→Prop}(h1:Runs T c1 x P1) (h2:∀ y,P1 none y→Runs T c2 y P) (h3:∀ e y,P1 (some e) y→P (some e) y):Runs T (.seq c1 c2) x P:=by
 intro m B a w R Q hQ;refine wp_seq (h1 m B a w R _ fun e y he a' w' hR=> ?_)
 match e,he with
 | none,he=>
  obtain⟨m',k1,k2,k3,k4⟩:=hR;exact h2 y he m' B a' w' k2 Q fun e' y' he' a'' w'' hR'=>hQ e' y' he' a'' w'' (Reach.trans k1 k3 k4 hR')
 | some none,he=>exact hQ _ _ (h3 none y he) a' w' hR
 | some (some id),he=>exact hQ _ _ (h3 (some id) y he) a' w' hR
theorem Runs.block {T:Tab}{c:Code}{id:Nat}{x:Lf}{P1 P:Ex→Lf→Prop}(h1:Runs T c x P1) (h2:∀ y,P1 none y→P none y) (h3:∀ y,P1 (some none) y→P (some none) y)
  (h4:∀ y,P1 (some (some id)) y→P none y) (h5:∀ id' y,id'≠id→P1 (some (some id')) y→P (some (some id')) y):Runs T (.block id c) x P:=by
 intro m B a w R Q hQ;refine wp_block (h1 m B a w R _ fun e y he a' w' hR=> ?_)
 match e,he with
 | none,he=>exact hQ _ _ (h2 y he) a' w' hR
 | some none,he=>exact hQ _ _ (h3 y he) a' w' hR
 | some (some id'),he=>
  simp only[out,Exit.inBlock];by_cases hid:id'=id
  ·subst hid;rw[if_pos rfl];exact hQ _ _ (h4 y he) a' w' hR
  ·rw[if_neg hid];exact hQ _ _ (h5 id' y hid he) a' w' hR
theorem Runs.loop {T:Tab}{c:Code}{P:Ex→Lf→Prop}(Inv:Nat→Lf→Prop) (round:∀ n x,Inv n x→Runs T c x fun e y=>match e with | none=>∃ n',n'<n∧Inv n' y | some e=>P (some e) y) {n:Nat}{x:Lf}(h0:Inv n x):
  Runs T (.loop c) x P:=by
 have key:∀ N n x,n<N→Inv n x→∀ m B a w,Rel m B x a w→∀ Q:Exit→Act→World→Prop,(∀ e y,P e y→∀ a' w',Reach m B x.2.1.n w y a' w'→Q (out e) a' w')→Code.rounds T.P c Q N a w:=by
  intro N
  induction N with
  | zero=>intro n x hn;omega
  | succ N ih=>
   intro n x hn hI m B a w R Q hQ;rw[rounds_succ];refine round n x hI m B a w R _ fun e y he a' w' hR=> ?_
   match e,he with
   | none,he=>
    obtain⟨n',hn',hI'⟩:=he;obtain⟨m',k1,k2,k3,k4⟩:=hR;exact ih n' y (by omega) hI' m' B a' w' k2 Q fun e' y' he' a'' w'' hR'=>hQ e' y' he' a'' w'' (Reach.trans k1 k3 k4 hR')
   | some none,he=>exact hQ _ _ he a' w' hR
   | some (some id),he=>exact hQ _ _ he a' w' hR
 intro m B a w R Q hQ;exact wp_loop_rounds (n+1) (key (n+1) n x (by omega) h0 m B a w R Q hQ)
theorem ZaU {T:Tab}{f:Nat}{F:Func}{c:Code}(hF:T.P.funcs[f]? =some F) (hc:F.body=some c) {vals:List Value}{v:Value}(hvals:(vals.all (lt 0))=true) (hv:lt 0 v=true)
  (h:Runs T c (vals++List.replicate (F.ntmps-vals.length) undef,⟨0,[]⟩,[]) fun e y=>(e=none∨e=some none)∧Zau T.P F y.1 y.2.1=some v) (w:World):
  Calls T.P f vals.toArray w fun e w'=>e= .returned v∧zg w w':=by
 have E:Emb (fun b=>(b,0)) w.heap.size ⟨0,[]⟩ w:=
  Emb.none w
 have hst:∀ y∈vals,lt 0 y=true:=List.all_eq_true.1 hvals;have e0:vals.map (mv fun b=>(b,0))=vals:=(List.map_congr_left fun y hy=>Z9 (hst y hy)).trans (List.map_id' _);refine calls_of_wp hF hc ?_;have R:Rel (fun b=>(b,0)) w.heap.size (vals++List.replicate (F.ntmps-vals.length) undef,⟨0,[]⟩,[]) {tmps:=vals.toArray++Array.replicate (F.ntmps-vals.toArray.size) undef,defers:=[]} w:=by
  refine⟨?_,rfl,E,?_⟩
  ·simp [zO,e0]
  ·intro y hy;rcases List.mem_append.1 hy with hy | hy
   ·exact hst y hy
   ·rw[List.eq_of_mem_replicate hy];simp [undef,lt]
 refine h _ _ _ w R _ fun e y he a' w' hR=> ?_;obtain⟨hex,hres⟩:=he;obtain⟨m',k1,k2,k3,k4⟩:=hR;obtain⟨r1,r2⟩:=ZaO k2.emb k2.wf hres;rw[← k2.tmps,Z9 hv] at r1;have post:a'.defers=[]∧∃ v',(results F a'.tmps).run T.P w'= .ok v' w'∧(Ending.returned v'= .returned v∧zg w w'):=
  ⟨k2.dfr,_,r1,rfl,k3,fun k h1 h2=>k2.emb.ice k h1 h2⟩
 rcases hex with rfl | rfl<;>exact post
def ZB:Code→Code
 | .seq a _=>a
 | c=>c
def Z5:Code→Code
 | .seq _ b=>b
 | c=>c
def cIn:Code→Code
 | .block _ c=>c
 | .loop c=>c
 | .scope c=>c
 | c=>c
def Zv (F:Func):Code:=F.body.getD .skip
def Zaz:List Code→Code→Code
 | [],X=>X
 | c::cs,X=> .seq c (Zaz cs X)
def evL (T:Tab) (n:Nat):List Code→Lf→Lg→Option (Ex×Lf×Lg)
 | [],x,L=>some (none,x,L)
 | c::cs,x,L=>
  match evC T n false c x L with
  | some (none,x',L')=>evL T n cs x' L'
  | _=>none
theorem Zqf {T:Tab}(hT:TabOk T) {n:Nat}{X:Code}{P:Ex→Lf→Prop}:∀ (cs:List Code) (x x':Lf) (L L':Lg) (e:Ex),evL T n cs x L=some (e,x',L')→L'.ok→L.ok∧e=none∧(Runs T X x' P→Runs T (Zaz cs X) x P)
 | [],x,x',L,L',e,h,hL=>by
  simp only[evL] at h;cases h;exact⟨hL,rfl,id⟩
 | c::cs,x,x',L,L',e,h,hL=>by
  simp only[evL] at h;split at h
  ·rename_i x1 L1 h1;obtain⟨g1,g2,g3⟩:=Zqf hT cs x1 x' L1 L' e h hL;obtain⟨g4,g5⟩:=(Zhc hT n).1 _ _ _ _ _ _ h1 g1;refine⟨g4,g2,fun hX m B a w R Q hQ=>wp_seq (g5 m B a w R _ fun a' w' hR=> ?_)⟩;obtain⟨m',k1,k2,k3,k4⟩:=hR;exact g3 hX m' B a' w' k2 Q fun e' y' he' a'' w'' hR'=>hQ e' y' he' a'' w'' (Reach.trans k1 k3 k4 hR')
  ·cases h
def tl (n:Nat) (g:Nat→Value):List Value:=(List.range n).map g
theorem Zsc {J:List Value}{n:Nat}(h:J.length=n):∃ g,J=tl n g:=by
 refine⟨fun i=>J.getD i undef,?_⟩;unfold tl;refine List.ext_getElem (by simp [h]) fun i h1 h2=> ?_;simp [h1]
def Zm (r:Option (Ex×Lf×Lg)) (k n:Nat) (e:Ex) (front:List Value) (h:Hp) (cs:Log):Prop:=
 r.map (fun r=>(r.1,r.2.1.1.take k,(r.2.1.1.drop k).length,r.2.1.2.1,r.2.2.cs))=some (e,front,n,h,cs)∧
  r.map (fun r=>r.2.2.es.map Prod.fst)=r.map (fun r=>r.2.2.es.map Prod.snd)∧r.map (fun r=>r.2.2.bs.map Prod.fst)=r.map (fun r=>r.2.2.bs.map Prod.snd)
def GoesE (r:Option (Ex×Lf×Lg)) (k n:Nat) (e:Ex) (front:List Value) (h:Hp) (cs:Log):Prop:=
 r.map (fun r=>(r.1,r.2.1.1.take k,(r.2.1.1.drop k).length,r.2.1.2.1,r.2.2.cs,r.2.2.es,r.2.2.bs))=some (e,front,n,h,cs,[],[])
theorem GoesE.t {r:Option (Ex×Lf×Lg)}{k n:Nat}{e:Ex}{front:List Value}{h:Hp}{cs:Log}(hG:GoesE r k n e front h cs):Zm r k n e front h cs:=by
 unfold GoesE at hG;cases r with
 | none=>cases hG
 | some r=>
  simp only[Option.map_some,Option.some.injEq,Prod.mk.injEq] at hG;obtain⟨h1,h2,h3,h4,h5,h6,h7⟩:=hG;refine⟨?_,?_,?_⟩
  ·rw[Option.map_some,h1,h2,h3,h4,h5]
  ·simp [h6]
  ·simp [h7]
theorem Zcx {r:Option (Ex×Lf×Lg)}{k n:Nat}{e:Ex}{front:List Value}{h:Hp}{cs:Log}(hG:Zm r k n e front h cs) (hcs:Zx cs):∃ g s L,r=some (e,(front++tl n g,h,s),L)∧L.ok:=by
 obtain⟨h1,h5,h6⟩:=hG;cases r with
 | none=>cases h1
 | some r=>
  simp only[Option.map_some,Option.some.injEq,Prod.mk.injEq] at h1 h5 h6;obtain⟨e',⟨t',h',s'⟩,L⟩:=r;simp only at h1 h5 h6;obtain⟨h1,h2,h3,h4,h7⟩:=h1;subst h1 h4;obtain⟨g,hg⟩:=Zsc h3;refine⟨g,s',L,?_,by rw[h7];exact hcs,Zfs _ h5,Zfs _ h6⟩;rw[← h2,← hg,List.take_append_drop]
theorem Zj {T:Tab}(hT:TabOk T) {N:Nat}{c:Code}{t:List Value}{h h':Hp}{s s0:List Dec}{k n:Nat}{e:Ex}{front:List Value}{cs:Log}(hG:Zm (evC T N false c (t,h,s) ⟨[],[],[]⟩) k n e front h' cs) (hcs:Zx cs):
  Runs T c (t,h,s0) fun e' y=>e'=e∧(∃ g,y.1=front++tl n g)∧y.2.1=h':=by
 obtain⟨g,s',L,hr,hL⟩:=Zcx hG hcs;refine Runs.script ((Runs.ev hT hr hL).mono fun e2 y he=> ?_);obtain⟨rfl,rfl⟩:=he;exact⟨rfl,⟨g,rfl⟩,rfl⟩
theorem zl {T:Tab}(hT:TabOk T) {N:Nat}{l:List Code}{X:Code}{t:List Value}{h h':Hp}{s s0:List Dec}{k n:Nat}{e:Ex}{front:List Value}{cs:Log}{P:Ex→Lf→Prop}(hG:Zm (evL T N l (t,h,s) ⟨[],[],[]⟩) k n e front h' cs) (hcs:Zx cs)
  (hX:∀ g,Runs T X (front++tl n g,h',[]) P):Runs T (Zaz l X) (t,h,s0) P:=by
 obtain⟨g,s',L,hr,hL⟩:=Zcx hG hcs;obtain⟨_,_,h3⟩:=Zqf (X:=X) (P:=P) hT l _ _ _ _ _ hr hL;exact Runs.script (h3 (Runs.script (hX g)))
theorem Runs.forLoop {T:Tab}{c:Code}{id:Nat}{x:Lf}{P:Lf→Prop}{R:Lf→Prop}(Inv:Nat→Lf→Prop)
  (round:∀ n x,Inv n x→Runs T c x fun e y=>match e with | none=>∃ n',n'<n∧Inv n' y | some none=>R y | some (some id')=>id'=id∧P y) {n:Nat}(h0:Inv n x):
  Runs T (.block id (.loop c)) x fun e y=>match e with | none=>P y | some none=>R y | some (some _)=>False:=by
 refine Runs.block (P1:=fun e y=>match e with | none=>False | some none=>R y | some (some id')=>id'=id∧P y) ?_ (fun y he=>he.elim) (fun y he=>he) (fun y he=>he.2) (fun id' y hid he=>absurd he.1 hid);refine Runs.loop Inv (fun n x hI=>(round n x hI).mono fun e y he=> ?_) h0
 match e,he with
 | none,he=>exact he
 | some none,he=>exact he
 | some (some id'),he=>exact he
end Go.KRun
namespace Go.Wd
theorem ZfC {B R dt d0 N p0:Int}(hR:0<R) (hd:0<dt) (h0:0≤d0) (hp:p0<R) (hq0:0≤(N*R+p0)/(dt*R+d0)) (hP:N*R+p0<B*(dt*R+d0)):
  (N*R+p0)/(dt*R+d0)≤N/dt∧(N*R+p0)/(dt*R+d0)≤B-1:=by
 have hD:0<dt*R+d0:=by have:=Int.mul_pos hd hR;omega
 have e:=Int.mul_ediv_add_emod (N*R+p0) (dt*R+d0);have m:=Int.emod_nonneg (N*R+p0) (show dt*R+d0≠0 by omega);generalize hq:(N*R+p0)/(dt*R+d0)=q at*;refine⟨?_,?_⟩
 ·refine Int.le_ediv_of_mul_le hd ?_;have h1:q*dt*R≤N*R+p0:=by
   have:(dt*R+d0)*q=q*dt*R+d0*q:=by rw[Int.add_mul,Int.mul_right_comm,Int.mul_comm dt q]
   have h2:0≤d0*q:=Int.mul_nonneg h0 hq0;omega
  have h3:q*dt*R<(N+1)*R:=by rw[Int.add_mul];omega
  have:=Int.lt_of_mul_lt_mul_right h3 (Int.le_of_lt hR);omega
 ·have h1:q*(dt*R+d0)<B*(dt*R+d0):=by rw[Int.mul_comm q];omega
  have:=Int.lt_of_mul_lt_mul_right h1 (Int.le_of_lt hD);omega
theorem Ziw {B R dt d0 N p0 g:Int}(hR:0<R) (hd:0<dt) (hB:B≤2*dt) (h1:d0<R) (hp0:0≤p0) (hP:N*R+p0<B*(dt*R+d0)) (h0:0≤d0) (hg:g≤N/dt):
  g≤(N*R+p0)/(dt*R+d0)+2:=by
 have hD:0<dt*R+d0:=by have:=Int.mul_pos hd hR;omega
 have e:=Int.lt_mul_ediv_self_add hD (x:=N*R+p0);have hqB:(N*R+p0)/(dt*R+d0)<B:=Int.ediv_lt_of_lt_mul hD hP;generalize (N*R+p0)/(dt*R+d0)=q at*;have a1:g*dt≤N:=Int.le_trans (Int.mul_le_mul_of_nonneg_right hg (Int.le_of_lt hd)) (Int.ediv_mul_le N (by omega));have a2:g*dt*R≤N*R:=Int.mul_le_mul_of_nonneg_right a1 (Int.le_of_lt hR);rcases Int.lt_or_le g (q+3) with hc | hc
 ·omega
 ·exfalso
  by_cases hq:0≤q+1
  ·have a3:(dt*R+d0)*(q+1)≤(dt*R+R)*(q+1):=Int.mul_le_mul_of_nonneg_right (by omega) hq;have a4:(dt*R+d0)*q+(dt*R+d0)=(dt*R+d0)*(q+1):=by rw[Int.mul_add,Int.mul_one]
   have a5:(dt*R+R)*(q+1)=(dt+1)*(q+1)*R:=by rw[show dt*R+R=(dt+1)*R from by rw[Int.add_mul,Int.one_mul],Int.mul_right_comm]
   have a6:g*dt*R<(dt+1)*(q+1)*R:=by omega
   have a7:=Int.lt_of_mul_lt_mul_right a6 (Int.le_of_lt hR);have a8:(q+3)*dt≤g*dt:=Int.mul_le_mul_of_nonneg_right hc (Int.le_of_lt hd);have a9:(q+3)*dt=q*dt+3*dt:=Int.add_mul ..;have b1:(dt+1)*(q+1)=q*dt+dt+q+1:=by rw[Int.add_mul,Int.mul_add,Int.mul_comm dt q];omega
   omega
  ·have c1:g*dt*R+p0<(dt*R+d0)*(q+1):=by
    have a4:(dt*R+d0)*q+(dt*R+d0)=(dt*R+d0)*(q+1):=by rw[Int.mul_add,Int.mul_one]
    omega
   have c2:(q+3)*dt≤g*dt:=Int.mul_le_mul_of_nonneg_right hc (Int.le_of_lt hd);have c3:(q+3)*dt*R≤g*dt*R:=Int.mul_le_mul_of_nonneg_right c2 (Int.le_of_lt hR);have c4:(dt*R+d0)*(q+1)≤dt*R*(q+1):=by
    rw[Int.add_mul];have:d0*(q+1)≤0:=Int.mul_nonpos_of_nonneg_of_nonpos h0 (by omega);omega
   have c5:(q+3)*dt*R=dt*R*(q+1)+2*(dt*R):=by
    rw[Int.mul_assoc,Int.mul_comm (q+3),show q+3=(q+1)+2 from by omega,Int.mul_add,Int.mul_comm (dt*R) 2]
   have c6:=Int.mul_pos hd hR;omega
end Go.Wd
namespace Go.Proofs.YtekebccjflilnaaGreat
open Go.Proofs.Tryz
open Go.IntKind
open Go.KRun Go.Wd
set_option maxRecDepth 100000
def lz0 (y:Int):Bool×Bool:=(decide (9223372036854775808≤y∧y<18446744073709551616),true)
theorem Zsd (y:Int):Zw (Ze (Zi prog Zh Zr4 true) 3000 114 [u_ y] []) (.int .i64 (i64.wrap (64-(bitLen y.toNat:Nat)))) [wd y]:=by and_intros<;>kernel_rfl
theorem ZnL (y:Int) (h0:9223372036854775808≤y) (h1:y<18446744073709551616) (w:World):Calls prog 114 #[u_ y] w fun e w'=>e= .returned (.int .i64 0)∧zg w w':=by
 have h:=Zb (Zf Zcs) (Zsd y) (Zz (Zke ⟨by omega,h1⟩)) (by rfl) (by rfl) w;have e:bitLen y.toNat=64:=by
  have e1:y.toNat/2^63=1:=by omega
  rw[bitLen_shift y.toNat 63 (by omega),e1];rfl
 rw[e] at h;exact h
def gLZ:Ans:=fun vals s=>
 match vals with
 | [.int .u64 y]=>some (.int .i64 0,s,[lz0 y])
 | _=>none
theorem ZvA:ZJ 114 gLZ:=by
 intro vals s v s' lg h hl w;unfold gLZ at h;split at h
 ·cases h;have h1:=hl _ Xf;simp only[lz0,Xi] at h1;exact ZnL _ h1.1 h1.2 w
 ·cases h
def Zhr:Con:=alt 114 gLZ Zo
theorem Za4:ConOk Zhr:=Zy func114 rfl ZvA Zd
def dN (F:Func):Nat→Code
 | 0=>Zv F
 | n+1=>Z5 (dN F n)
def Z21 (F:Func):List Code:=(List.range 14).map fun i=>ZB (dN F i)
def dL1 (F:Func):Code:=cIn (cIn (ZB (dN F 14)))
def Z22 (F:Func):List Code:=[ZB (dN F 15),ZB (dN F 16),ZB (dN F 17)]
def dL2 (F:Func):Code:=cIn (cIn (ZB (dN F 18)))
def Z23 (F:Func):Code:=dN F 19
theorem ZnM:f113.body=some (Zaz (Z21 f113) (.seq (.block 0 (.loop (dL1 f113))) (Zaz (Z22 f113) (.seq (.block 2 (.loop (dL2 f113))) (Z23 f113))))):=by kernel_rfl
def s0 (z:Int):Int:=u64.wrap (z*2^min ((u64.wrap 0).toNat) 64)
def s64 (z:Int):Int:=z.fdiv (2^min ((u64.wrap (64-u64.wrap 0)).toNat) 64)
def orq (x y:Int):Int:=u64.wrap ((BitVec.ofInt 64 x ||| BitVec.ofInt 64 y).toNat:Nat)
def dFr (hi lo y v3 v4 v5 v6 v7:Value) (s yn1 yn0 un32 un10 un1 un0 q1 rh:Value) (v17 v18:Value):List Value:=[hi,lo,y,v3,v4,v5,v6,v7,s,yn1,yn0,un32,un10,un1,un0,q1,rh,v17,v18]
def zf0:Bool×Bool:=(decide ((0:Int)<0),false)
def oE (hi lo:Int):Int:=orq (s0 hi) (s64 lo)
def rEW (n q d:Int):Int:=u64.wrap (n-u64.wrap (q*d))
theorem Zse (hi lo y q:Int):GoesE (evL (Zi prog Zh Zhr true) 500 (Z21 f113) ([u_ hi,u_ lo,u_ y]++List.replicate 132 undef,⟨0,[]⟩,[cmp false,cmp false,cmp false,num q]) ⟨[],[],[]⟩) 19 116 none
  (dFr (u_ hi) (u_ lo) (u_ (s0 y)) undef undef undef (u_ 0) (u_ 0) (u_ 0) (u_ (Zhq (s0 y))) (u_ (ZnK (s0 y))) (u_ (oE hi lo)) (u_ (s0 lo)) (u_ (Zhq (s0 lo))) (u_ (ZnK (s0 lo))) (u_ q) (u_ (rEW (oE hi lo) q (Zhq (s0 y)))) undef undef) ⟨0,[]⟩
  [(decide (Zhq (s0 y)=0),false),(decide (u64.wrap ((oE hi lo).tdiv (Zhq (s0 y)))=q),true),l32,l32,l32,l32,l32,l32,lz0 y,(hi==0,false),(decide (y≤hi),false),(y==0,false)]:=by unfold GoesE;kernel_rfl
def Zu2 (q n0 rh u:Int) (d:Bool):Bool×Bool:=(decide (u64.wrap (q*n0)>u64.wrap (u64.wrap (4294967296*rh)+u)),d)
def gM (q:Int) (d:Bool):Bool×Bool:=(decide (q≥4294967296),d)
def exO (d:Bool) (id:Nat):Ex:=match d with | true=>some (some id) | false=>none
theorem ZvB (d:Bool) (a0 a1 a2 a3 a4 a5 a6 a7 a8 a11 a12 a14 a17 a18:Value) (n1 n0 u q rh:Int) (g:Nat→Value):GoesE (evC (Zi prog Zh Zhr true) 300 false (dL1 f113) (dFr a0 a1 a2 a3 a4 a5 a6 a7 a8 (u_ n1) (u_ n0) a11 a12 (u_ u) a14 (u_ q) (u_ rh) a17 a18++tl 116 g,⟨0,[]⟩,[cmp true,cmp d]) ⟨[],[],[]⟩) 19 116 (exO d 0)
  (dFr a0 a1 a2 a3 a4 a5 a6 a7 a8 (u_ n1) (u_ n0) a11 a12 (u_ u) a14 (u_ (u64.wrap (q-1))) (u_ (u64.wrap (rh+n1))) a17 a18) ⟨0,[]⟩ [gM (u64.wrap (rh+n1)) d,gM q true]:=by cases d<;>(unfold GoesE;kernel_rfl)
theorem Zsf (d:Bool) (a0 a1 a2 a3 a4 a5 a6 a7 a8 a11 a12 a14 a17 a18:Value) (n1 n0 u q rh:Int) (g:Nat→Value):GoesE (evC (Zi prog Zh Zhr true) 300 false (dL1 f113) (dFr a0 a1 a2 a3 a4 a5 a6 a7 a8 (u_ n1) (u_ n0) a11 a12 (u_ u) a14 (u_ q) (u_ rh) a17 a18++tl 116 g,⟨0,[]⟩,[cmp false,cmp true,cmp d]) ⟨[],[],[]⟩) 19 116 (exO d 0)
  (dFr a0 a1 a2 a3 a4 a5 a6 a7 a8 (u_ n1) (u_ n0) a11 a12 (u_ u) a14 (u_ (u64.wrap (q-1))) (u_ (u64.wrap (rh+n1))) a17 a18) ⟨0,[]⟩ [gM (u64.wrap (rh+n1)) d,Zu2 q n0 rh u true,gM q false]:=by cases d<;>(unfold GoesE;kernel_rfl)
theorem ZvC (a0 a1 a2 a3 a4 a5 a6 a7 a8 a11 a12 a14 a17 a18:Value) (n1 n0 u q rh:Int) (g:Nat→Value):GoesE (evC (Zi prog Zh Zhr true) 300 false (dL1 f113) (dFr a0 a1 a2 a3 a4 a5 a6 a7 a8 (u_ n1) (u_ n0) a11 a12 (u_ u) a14 (u_ q) (u_ rh) a17 a18++tl 116 g,⟨0,[]⟩,[cmp false,cmp false]) ⟨[],[],[]⟩) 19 116 (some (some 0))
  (dFr a0 a1 a2 a3 a4 a5 a6 a7 a8 (u_ n1) (u_ n0) a11 a12 (u_ u) a14 (u_ q) (u_ rh) a17 a18) ⟨0,[]⟩ [Zu2 q n0 rh u false,gM q false]:=by unfold GoesE;kernel_rfl
theorem ZvD (d:Bool) (a0 a1 a2 a3 a4 a5 a6 a7 a8 a11 a12 a14 a17 a18:Value) (n1 n0 u q rh:Int) (g:Nat→Value):GoesE (evC (Zi prog Zh Zhr true) 300 false (dL2 f113) (dFr a0 a1 a2 a3 a4 a5 a6 a7 a8 (u_ n1) (u_ n0) a11 a12 a14 (u_ u) a17 (u_ rh) a18 (u_ q)++tl 116 g,⟨0,[]⟩,[cmp true,cmp d]) ⟨[],[],[]⟩) 19 116 (exO d 2)
  (dFr a0 a1 a2 a3 a4 a5 a6 a7 a8 (u_ n1) (u_ n0) a11 a12 a14 (u_ u) a17 (u_ (u64.wrap (rh+n1))) a18 (u_ (u64.wrap (q-1)))) ⟨0,[]⟩ [gM (u64.wrap (rh+n1)) d,gM q true]:=by cases d<;>(unfold GoesE;kernel_rfl)
theorem Zsg (d:Bool) (a0 a1 a2 a3 a4 a5 a6 a7 a8 a11 a12 a14 a17 a18:Value) (n1 n0 u q rh:Int) (g:Nat→Value):GoesE (evC (Zi prog Zh Zhr true) 300 false (dL2 f113) (dFr a0 a1 a2 a3 a4 a5 a6 a7 a8 (u_ n1) (u_ n0) a11 a12 a14 (u_ u) a17 (u_ rh) a18 (u_ q)++tl 116 g,⟨0,[]⟩,[cmp false,cmp true,cmp d]) ⟨[],[],[]⟩) 19 116 (exO d 2)
  (dFr a0 a1 a2 a3 a4 a5 a6 a7 a8 (u_ n1) (u_ n0) a11 a12 a14 (u_ u) a17 (u_ (u64.wrap (rh+n1))) a18 (u_ (u64.wrap (q-1)))) ⟨0,[]⟩ [gM (u64.wrap (rh+n1)) d,Zu2 q n0 rh u true,gM q false]:=by cases d<;>(unfold GoesE;kernel_rfl)
theorem ZvE (a0 a1 a2 a3 a4 a5 a6 a7 a8 a11 a12 a14 a17 a18:Value) (n1 n0 u q rh:Int) (g:Nat→Value):GoesE (evC (Zi prog Zh Zhr true) 300 false (dL2 f113) (dFr a0 a1 a2 a3 a4 a5 a6 a7 a8 (u_ n1) (u_ n0) a11 a12 a14 (u_ u) a17 (u_ rh) a18 (u_ q)++tl 116 g,⟨0,[]⟩,[cmp false,cmp false]) ⟨[],[],[]⟩) 19 116 (some (some 2))
  (dFr a0 a1 a2 a3 a4 a5 a6 a7 a8 (u_ n1) (u_ n0) a11 a12 a14 (u_ u) a17 (u_ rh) a18 (u_ q)) ⟨0,[]⟩ [Zu2 q n0 rh u false,gM q false]:=by unfold GoesE;kernel_rfl
def mE (n u q y:Int):Int:=u64.wrap (u64.wrap (u64.wrap (n*4294967296)+u)-u64.wrap (q*y))
theorem Zsh (a0 a1 a3 a4 a5 a6 a7 a8 a10 a12 a14 a16 a17 a18:Value) (y n1 n u q p:Int) (g:Nat→Value):GoesE (evL (Zi prog Zh Zhr true) 300 (Z22 f113) (dFr a0 a1 (u_ y) a3 a4 a5 a6 a7 a8 (u_ n1) a10 (u_ n) a12 (u_ u) a14 (u_ q) a16 a17 a18++tl 116 g,⟨0,[]⟩,[num p]) ⟨[],[],[]⟩) 19 116 none
  (dFr a0 a1 (u_ y) a3 a4 a5 a6 a7 a8 (u_ n1) a10 (u_ n) a12 (u_ u) a14 (u_ q) (u_ (rEW (mE n u q y) p n1)) (u_ (mE n u q y)) (u_ p)) ⟨0,[]⟩ [(decide (n1=0),false),(decide (u64.wrap ((mE n u q y).tdiv n1)=p),true)]:=by unfold GoesE;kernel_rfl
theorem Zsi (a0 a1 a3 a4 a5 a6 a7 a9 a10 a11 a12 a13 a16:Value) (y u q m p:Int) (g:Nat→Value):GoesE (evC (Zi prog Zh Zhr true) 300 false (Z23 f113) (dFr a0 a1 (u_ y) a3 a4 a5 a6 a7 (u_ 0) a9 a10 a11 a12 a13 (u_ u) (u_ q) a16 (u_ m) (u_ p)++tl 116 g,⟨0,[]⟩,[]) ⟨[],[],[]⟩) 19 116 (some none)
  (dFr a0 a1 (u_ y) a3 a4 a5 (u_ (u64.wrap (u64.wrap (q*4294967296)+p))) (u_ ((mE m u p y).fdiv (2^min ((0:Int).toNat) 64))) (u_ 0) a9 a10 a11 a12 a13 (u_ u) (u_ q) a16 (u_ m) (u_ p)) ⟨0,[]⟩ [zf0]:=by unfold GoesE;kernel_rfl
theorem div_zero (lo y:Int):Zw (Ze (Zi prog Zh Zhr true) 500 113 [u_ 0,u_ lo,u_ y] [cmp false,cmp false,cmp true,num (lo/y),cmp true]) (.tuple #[u_ (lo/y),u_ (lo.tmod y)])
  [(decide (y=0),false),(decide (y=0),false),(decide (u64.wrap (lo.tdiv y)=lo/y),true),((0:Int)==0,true),(decide (y≤0),false),(y==0,false)]:=by and_intros<;>kernel_rfl
theorem Zqg {M n1 n0 n u q rh:Int}(hD:0<n1*M+n0) (e:n=q*n1+rh) (h:q*n0>M*rh+u):(n*M+u)/(n1*M+n0)<q:=by
 refine Int.ediv_lt_of_lt_mul hD ?_;rw[e,Int.add_mul,Int.mul_add,Int.mul_assoc,Int.mul_comm rh M];omega
theorem Zqh {M n1 n0 n u q rh:Int}(hD:0<n1*M+n0) (e:n=q*n1+rh) (h:q*n0≤M*rh+u):q≤(n*M+u)/(n1*M+n0):=by
 refine Int.le_ediv_of_mul_le hD ?_;rw[e,Int.add_mul,Int.mul_add,Int.mul_assoc,Int.mul_comm rh M];omega
structure Dig (n1 n0 n u q rh:Int):Prop where
 hn1:2147483648≤n1∧n1<4294967296
 hn0:0≤n0∧n0<4294967296
 hn:0≤n∧n<n1*4294967296+n0
 hu:0≤u∧u<4294967296
 hrh:0≤rh∧rh<4294967296
 he:n=q*n1+rh
 hq:(n*4294967296+u)/(n1*4294967296+n0)≤q
def dgt (n1 n0 n u:Int):Int:=(n*4294967296+u)/(n1*4294967296+n0)
theorem Dig.range {n1 n0 n u q rh:Int}(D:Dig n1 n0 n u q rh):0<n1*4294967296+n0∧0≤dgt n1 n0 n u∧dgt n1 n0 n u<4294967296∧dgt n1 n0 n u≤q∧q<18446744073709551616:=by
 obtain⟨a,b,c,d,e,f,g⟩:=D;have hD:0<n1*4294967296+n0:=by omega
 have h0:0≤dgt n1 n0 n u:=Int.ediv_nonneg (by omega) (by omega);refine⟨hD,h0,Int.ediv_lt_of_lt_mul hD (by omega),g,?_⟩;have h1:q*1≤q*n1:=Int.mul_le_mul_of_nonneg_left (by omega) (Int.le_trans h0 g);omega
theorem Dig.big {n1 n0 n u q rh:Int}(D:Dig n1 n0 n u q rh) (h:q≥4294967296):dgt n1 n0 n u<q:=by have:=D.range;omega
theorem Dig.mul {n1 n0 n u q rh:Int}(D:Dig n1 n0 n u q rh) (h:¬ q≥4294967296):0≤q*n0∧q*n0<18446744073709551616:=by
 have r:=D.range;have b0:=D.hn0;refine⟨Int.mul_nonneg (by omega) b0.1,?_⟩;have:=Int.mul_le_mul (show q≤4294967295 by omega) (show n0≤4294967295 by omega) b0.1 (by omega);omega
theorem Dig.too {n1 n0 n u q rh:Int}(D:Dig n1 n0 n u q rh) (h:¬ q≥4294967296) (d:Bool):(Zu2 q n0 rh u d).1=decide (q*n0>4294967296*rh+u):=by
 have m:=D.mul h;have r:=D.hrh;have v:=D.hu;unfold Zu2;simp only[ZK];rw[Int.emod_eq_of_lt m.1 m.2,Int.emod_eq_of_lt (a:=4294967296*rh) (by omega) (by omega),Int.emod_eq_of_lt (by omega) (by omega)]
theorem Dig.next {n1 n0 n u q rh:Int}(D:Dig n1 n0 n u q rh) (h:dgt n1 n0 n u<q):u64.wrap (q-1)=q-1∧u64.wrap (rh+n1)=rh+n1∧n=(q-1)*n1+(rh+n1)∧dgt n1 n0 n u≤q-1:=by
 have r:=D.range;have a:=D.hn1;have b:=D.hrh;refine⟨by rw[ZK];omega,by rw[ZK];omega,?_,by omega⟩;rw[Int.sub_mul,Int.one_mul];have:=D.he;omega
theorem Dig.stop {n1 n0 n u q rh:Int}(D:Dig n1 n0 n u q rh) (h:dgt n1 n0 n u<q) (hb:rh+n1≥4294967296):q-1=dgt n1 n0 n u:=by
 obtain⟨_,_,e,l⟩:=D.next h;have r:=D.range;have a:=D.hn1;have b:=D.hn0;have c:=D.hn;have lt:q-1<4294967296:=by
  refine Int.lt_of_mul_lt_mul_right (a:=n1) ?_ (by omega);rw[Int.mul_comm 4294967296 n1];generalize (q-1)*n1=t at*;omega
 have m:(q-1)*n0≤4294967295*4294967295:=Int.mul_le_mul (by omega) (by omega) b.1 (by omega);have:=Zqh (q:=q-1) (rh:=rh+n1) (u:=u) r.1 e (by have:=D.hu;omega);unfold dgt at*;omega
theorem Dig.done {n1 n0 n u q rh:Int}(D:Dig n1 n0 n u q rh) (h:¬ q*n0>4294967296*rh+u):q=dgt n1 n0 n u:=by
 have r:=D.range;have:=Zqh (u:=u) r.1 D.he (by omega);unfold dgt at*;omega
theorem ZnN (q:Int):(gM q (decide (q≥4294967296))).1=(gM q (decide (q≥4294967296))).2:=rfl
theorem Z24 {q:Int}(h:q≥4294967296):(gM q true).1=(gM q true).2:=Xa h
theorem ZyT {q:Int}(h:¬ q≥4294967296):(gM q false).1=(gM q false).2:=Xb h
theorem Zsj (a0 a1 a2 a3 a4 a5 a6 a7 a8 a11 a12 a14 a17 a18:Value) (n1 n0 n u q rh:Int) (D:Dig n1 n0 n u q rh) (g:Nat→Value) (s:List Dec):
  Runs (Zi prog Zh Zhr true) (.block 0 (.loop (dL1 f113))) (dFr a0 a1 a2 a3 a4 a5 a6 a7 a8 (u_ n1) (u_ n0) a11 a12 (u_ u) a14 (u_ q) (u_ rh) a17 a18++tl 116 g,⟨0,[]⟩,s) fun e y=>match e with
   | none=>(∃ rh g,y.1=dFr a0 a1 a2 a3 a4 a5 a6 a7 a8 (u_ n1) (u_ n0) a11 a12 (u_ u) a14 (u_ (dgt n1 n0 n u)) (u_ rh) a17 a18++tl 116 g)∧y.2.1=⟨0,[]⟩
   | some none=>False
   | some (some _)=>False:=by
 refine Runs.forLoop (n:=(q-dgt n1 n0 n u).toNat) (R:=fun _=>False) (P:=fun y=>(∃ rh g,y.1=dFr a0 a1 a2 a3 a4 a5 a6 a7 a8 (u_ n1) (u_ n0) a11 a12 (u_ u) a14 (u_ (dgt n1 n0 n u)) (u_ rh) a17 a18++tl 116 g)∧y.2.1=⟨0,[]⟩)
  (fun r y=>∃ (q rh:Int) (g:Nat→Value),Dig n1 n0 n u q rh∧(r:Int)=q-dgt n1 n0 n u∧y.1=dFr a0 a1 a2 a3 a4 a5 a6 a7 a8 (u_ n1) (u_ n0) a11 a12 (u_ u) a14 (u_ q) (u_ rh) a17 a18++tl 116 g∧y.2.1=⟨0,[]⟩) ?_
  ⟨q,rh,g,D,by have:=D.range;omega,rfl,rfl⟩
 clear D g s q rh;rintro r ⟨t,h',s'⟩ ⟨q,rh,g,D,hr,ht,hh⟩;simp only at ht hh;subst ht hh;have step:∀ (d:Bool) (y:Lf),d=decide (u64.wrap (rh+n1)≥4294967296)→dgt n1 n0 n u<q→∀ e,e=exO d 0→(∃ g,y.1=dFr a0 a1 a2 a3 a4 a5 a6 a7 a8 (u_ n1) (u_ n0) a11 a12 (u_ u) a14 (u_ (u64.wrap (q-1))) (u_ (u64.wrap (rh+n1))) a17 a18++tl 116 g)→y.2.1=⟨0,[]⟩→
   match e with
   | none=>∃ n',n'<r∧∃ (q rh:Int) (g:Nat→Value),Dig n1 n0 n u q rh∧(n':Int)=q-dgt n1 n0 n u∧y.1=dFr a0 a1 a2 a3 a4 a5 a6 a7 a8 (u_ n1) (u_ n0) a11 a12 (u_ u) a14 (u_ q) (u_ rh) a17 a18++tl 116 g∧y.2.1=⟨0,[]⟩
   | some none=>False
   | some (some id')=>id'=0∧(∃ rh g,y.1=dFr a0 a1 a2 a3 a4 a5 a6 a7 a8 (u_ n1) (u_ n0) a11 a12 (u_ u) a14 (u_ (dgt n1 n0 n u)) (u_ rh) a17 a18++tl 116 g)∧y.2.1=⟨0,[]⟩:=by
  rintro d y hd hq e rfl ⟨g',hy⟩ hh;obtain⟨w1,w2,w3,w4⟩:=D.next hq;rw[w1,w2] at hy;rw[w2] at hd;by_cases hb:rh+n1≥4294967296
  ·rw[Xa hb] at hd;subst hd;exact⟨rfl,⟨rh+n1,g',by rw[hy,D.stop hq hb]⟩,hh⟩
  ·rw[Xb hb] at hd;subst hd;have a:=D.hn1;have b:=D.hrh;exact⟨(q-1-dgt n1 n0 n u).toNat,by omega,q-1,rh+n1,g',⟨D.hn1,D.hn0,D.hn,D.hu,⟨by omega,by omega⟩,w3,w4⟩,by omega,hy,hh⟩
 by_cases hb:q≥4294967296
 ·refine (Zj (Zf Za4) (ZvB (decide (u64.wrap (rh+n1)≥4294967296)) a0 a1 a2 a3 a4 a5 a6 a7 a8 a11 a12 a14 a17 a18 n1 n0 u q rh g).t (Za (ZnN _) (Zz (Z24 hb)))).mono fun e y he=> ?_;exact step _ y rfl (D.big hb) e he.1 he.2.1 he.2.2
 ·by_cases hc:q*n0>4294967296*rh+u
  ·refine (Zj (Zf Za4) (Zsf (decide (u64.wrap (rh+n1)≥4294967296)) a0 a1 a2 a3 a4 a5 a6 a7 a8 a11 a12 a14 a17 a18 n1 n0 u q rh g).t (Za (ZnN _) (Za ((D.too hb true).trans (Xa hc)) (Zz (ZyT hb))))).mono fun e y he=> ?_;exact step _ y rfl (Zqg D.range.1 D.he hc) e he.1 he.2.1 he.2.2
  ·refine (Zj (Zf Za4) (ZvC a0 a1 a2 a3 a4 a5 a6 a7 a8 a11 a12 a14 a17 a18 n1 n0 u q rh g).t (Za ((D.too hb false).trans (Xb hc)) (Zz (ZyT hb)))).mono fun e y he=> ?_;obtain⟨rfl,⟨g',h2⟩,h3⟩:=he;have e1:=D.done hc;exact⟨rfl,⟨rh,g',by rw[h2,← e1]⟩,h3⟩
theorem Zsk (a0 a1 a2 a3 a4 a5 a6 a7 a8 a11 a12 a14 a17 a18:Value) (n1 n0 n u q rh:Int) (D:Dig n1 n0 n u q rh) (g:Nat→Value) (s:List Dec):
  Runs (Zi prog Zh Zhr true) (.block 2 (.loop (dL2 f113))) (dFr a0 a1 a2 a3 a4 a5 a6 a7 a8 (u_ n1) (u_ n0) a11 a12 a14 (u_ u) a17 (u_ rh) a18 (u_ q)++tl 116 g,⟨0,[]⟩,s) fun e y=>match e with
   | none=>(∃ rh g,y.1=dFr a0 a1 a2 a3 a4 a5 a6 a7 a8 (u_ n1) (u_ n0) a11 a12 a14 (u_ u) a17 (u_ rh) a18 (u_ (dgt n1 n0 n u))++tl 116 g)∧y.2.1=⟨0,[]⟩
   | some none=>False
   | some (some _)=>False:=by
 refine Runs.forLoop (n:=(q-dgt n1 n0 n u).toNat) (R:=fun _=>False) (P:=fun y=>(∃ rh g,y.1=dFr a0 a1 a2 a3 a4 a5 a6 a7 a8 (u_ n1) (u_ n0) a11 a12 a14 (u_ u) a17 (u_ rh) a18 (u_ (dgt n1 n0 n u))++tl 116 g)∧y.2.1=⟨0,[]⟩)
  (fun r y=>∃ (q rh:Int) (g:Nat→Value),Dig n1 n0 n u q rh∧(r:Int)=q-dgt n1 n0 n u∧y.1=dFr a0 a1 a2 a3 a4 a5 a6 a7 a8 (u_ n1) (u_ n0) a11 a12 a14 (u_ u) a17 (u_ rh) a18 (u_ q)++tl 116 g∧y.2.1=⟨0,[]⟩) ?_
  ⟨q,rh,g,D,by have:=D.range;omega,rfl,rfl⟩
 clear D g s q rh;rintro r ⟨t,h',s'⟩ ⟨q,rh,g,D,hr,ht,hh⟩;simp only at ht hh;subst ht hh;have step:∀ (d:Bool) (y:Lf),d=decide (u64.wrap (rh+n1)≥4294967296)→dgt n1 n0 n u<q→∀ e,e=exO d 2→(∃ g,y.1=dFr a0 a1 a2 a3 a4 a5 a6 a7 a8 (u_ n1) (u_ n0) a11 a12 a14 (u_ u) a17 (u_ (u64.wrap (rh+n1))) a18 (u_ (u64.wrap (q-1)))++tl 116 g)→y.2.1=⟨0,[]⟩→
   match e with
   | none=>∃ n',n'<r∧∃ (q rh:Int) (g:Nat→Value),Dig n1 n0 n u q rh∧(n':Int)=q-dgt n1 n0 n u∧y.1=dFr a0 a1 a2 a3 a4 a5 a6 a7 a8 (u_ n1) (u_ n0) a11 a12 a14 (u_ u) a17 (u_ rh) a18 (u_ q)++tl 116 g∧y.2.1=⟨0,[]⟩
   | some none=>False
   | some (some id')=>id'=2∧(∃ rh g,y.1=dFr a0 a1 a2 a3 a4 a5 a6 a7 a8 (u_ n1) (u_ n0) a11 a12 a14 (u_ u) a17 (u_ rh) a18 (u_ (dgt n1 n0 n u))++tl 116 g)∧y.2.1=⟨0,[]⟩:=by
  rintro d y hd hq e rfl ⟨g',hy⟩ hh;obtain⟨w1,w2,w3,w4⟩:=D.next hq;rw[w1,w2] at hy;rw[w2] at hd;by_cases hb:rh+n1≥4294967296
  ·rw[Xa hb] at hd;subst hd;exact⟨rfl,⟨rh+n1,g',by rw[hy,D.stop hq hb]⟩,hh⟩
  ·rw[Xb hb] at hd;subst hd;have a:=D.hn1;have b:=D.hrh;exact⟨(q-1-dgt n1 n0 n u).toNat,by omega,q-1,rh+n1,g',⟨D.hn1,D.hn0,D.hn,D.hu,⟨by omega,by omega⟩,w3,w4⟩,by omega,hy,hh⟩
 by_cases hb:q≥4294967296
 ·refine (Zj (Zf Za4) (ZvD (decide (u64.wrap (rh+n1)≥4294967296)) a0 a1 a2 a3 a4 a5 a6 a7 a8 a11 a12 a14 a17 a18 n1 n0 u q rh g).t (Za (ZnN _) (Zz (Z24 hb)))).mono fun e y he=> ?_;exact step _ y rfl (D.big hb) e he.1 he.2.1 he.2.2
 ·by_cases hc:q*n0>4294967296*rh+u
  ·refine (Zj (Zf Za4) (Zsg (decide (u64.wrap (rh+n1)≥4294967296)) a0 a1 a2 a3 a4 a5 a6 a7 a8 a11 a12 a14 a17 a18 n1 n0 u q rh g).t (Za (ZnN _) (Za ((D.too hb true).trans (Xa hc)) (Zz (ZyT hb))))).mono fun e y he=> ?_;exact step _ y rfl (Zqg D.range.1 D.he hc) e he.1 he.2.1 he.2.2
  ·refine (Zj (Zf Za4) (ZvE a0 a1 a2 a3 a4 a5 a6 a7 a8 a11 a12 a14 a17 a18 n1 n0 u q rh g).t (Za ((D.too hb false).trans (Xb hc)) (Zz (ZyT hb)))).mono fun e y he=> ?_;obtain⟨rfl,⟨g',h2⟩,h3⟩:=he;have e1:=D.done hc;exact⟨rfl,⟨rh,g',by rw[h2,← e1]⟩,h3⟩
theorem Zsl {z:Int}(h:zd z):s0 z=z:=by
 unfold s0;rw[show (2:Int)^min ((u64.wrap 0).toNat) 64=1 from rfl,Int.mul_one];exact ZN h.1 h.2
theorem ZvF {z:Int}(h:zd z):s64 z=0:=by
 unfold s64;rw[show (2:Int)^min ((u64.wrap (64-u64.wrap 0)).toNat) 64=18446744073709551616 from rfl,Int.fdiv_eq_ediv_of_nonneg _ (by omega)];exact Int.ediv_eq_zero_of_lt h.1 h.2
theorem ZzS {hi lo:Int}(h:zd hi) (hl:zd lo):oE hi lo=hi:=by
 unfold oE orq;rw[Zsl h,ZvF hl,show BitVec.ofInt 64 0=0#64 from rfl,BitVec.or_zero];have e1:(BitVec.ofInt 64 hi).toNat=hi.toNat:=by
  rw[BitVec.toNat_ofInt];unfold zd at h;omega
 rw[e1,ZK];unfold zd at h;omega
theorem ZzT {n d:Int}(h:0≤n∧n<18446744073709551616) (hd:0<d):rEW n (n/d) d=n % d∧n=n/d*d+n % d∧0≤n % d∧n % d<d:=by
 have e:=Int.mul_ediv_add_emod n d;have m1:=Int.emod_nonneg n (show d≠0 by omega);have m2:=Int.emod_lt_of_pos n hd;rw[Int.mul_comm] at e;have m3:0≤n/d*d:=Int.mul_nonneg (Int.ediv_nonneg h.1 (by omega)) (by omega);refine⟨?_,by omega,m1,m2⟩;unfold rEW;rw[ZK,ZK];generalize n/d*d=t at*;omega
theorem ZvG {n u q y:Int}(h0:0≤n*4294967296+u-q*y) (h1:n*4294967296+u-q*y<18446744073709551616):mE n u q y=n*4294967296+u-q*y:=by
 unfold mE;simp only[ZK];generalize q*y=t at*;omega
theorem Zhs (n1 n0 n u:Int) (hD:0<n1*4294967296+n0):0≤n*4294967296+u-dgt n1 n0 n u*(n1*4294967296+n0)∧n*4294967296+u-dgt n1 n0 n u*(n1*4294967296+n0)<n1*4294967296+n0:=by
 unfold dgt;have e:=Int.mul_ediv_add_emod (n*4294967296+u) (n1*4294967296+n0);have m1:=Int.emod_nonneg (n*4294967296+u) (show n1*4294967296+n0≠0 by omega);have m2:=Int.emod_lt_of_pos (n*4294967296+u) hD;rw[Int.mul_comm] at e;generalize (n*4294967296+u)/(n1*4294967296+n0)*(n1*4294967296+n0)=t at*;omega
theorem ZfD {n1 n0 n u:Int}(h1:2147483648≤n1∧n1<4294967296) (h0:0≤n0∧n0<4294967296) (hn:0≤n∧n<n1*4294967296+n0) (hu:0≤u∧u<4294967296):Dig n1 n0 n u (n/n1) (rEW n (n/n1) n1):=by
 obtain⟨e1,e2,e3,e4⟩:=ZzT (n:=n) (d:=n1) ⟨hn.1,by omega⟩ (by omega);refine⟨h1,h0,hn,hu,by rw[e1];omega,by rw[e1];exact e2,?_⟩;exact (ZfC (B:=4294967296) (by omega) (by omega) h0.1 hu.2 (Int.ediv_nonneg (by omega) (by omega)) (by omega)).1
theorem Zsm {n n1:Int}(hn:0≤n∧n<18446744073709551616) (h1:2147483648≤n1):(decide (u64.wrap (n.tdiv n1)=n/n1),true).1=(decide (u64.wrap (n.tdiv n1)=n/n1),true).2:=by
 refine Xa ?_;have a:0≤n/n1:=Int.ediv_nonneg hn.1 (by omega);have b:n/n1≤n:=Int.ediv_le_self _ hn.1;rw[Int.tdiv_eq_ediv_of_nonneg hn.1,ZN a (by omega)]
def ZyU (hi lo y:Int):Value:= .tuple #[u_ ((hi*18446744073709551616+lo)/y),u_ ((hi*18446744073709551616+lo) % y)]
theorem ZkP (hi lo y:Int) (hh:zd hi) (hl:zd lo) (hy:9223372036854775808≤y∧y<18446744073709551616) (hlt:hi<y) (w:World):Calls prog 113 #[u_ hi,u_ lo,u_ y] w fun e w'=>e= .returned (ZyU hi lo y)∧zg w w':=by
 unfold zd at hh hl;by_cases hz:hi=0
 ·subst hz;have h:=Zb (Zf Za4) (div_zero lo y) (Za (Xb (by omega:¬ y=0)) (Za (Xb (by omega:¬ y=0)) (Za (Zsm hl (by omega)) (Za (by rfl) (Za (Xb (by omega:¬ y≤0)) (Zz (beq_eq_false_iff_ne.2 (by omega:y≠0)))))))) (by rfl) (by rfl) w;unfold ZyU;rw[Int.zero_mul,Int.zero_add];rw[Int.tmod_eq_emod_of_nonneg hl.1] at h;exact h
 ·have wy:zd y:=⟨by omega,hy.2⟩;have ey:=Int.mul_ediv_add_emod y 4294967296;have el:=Int.mul_ediv_add_emod lo 4294967296;have b1:2147483648≤y/4294967296∧y/4294967296<4294967296:=by omega
  have b0:0≤y % 4294967296∧y % 4294967296<4294967296:=by omega
  have c1:0≤lo/4294967296∧lo/4294967296<4294967296:=by omega
  have c0:0≤lo % 4294967296∧lo % 4294967296<4294967296:=by omega
  have pre:=Zse hi lo y (hi/(y/4294967296));rw[Zsl wy,Zsl hl,ZzS hh hl,Zgt,Zgt,Zd3 wy.1 wy.2,Zd3 hl.1 hl.2] at pre;have ey':y=y/4294967296*4294967296+y % 4294967296:=by omega
  generalize y/4294967296=n1 at*;generalize y % 4294967296=n0 at*;generalize lo/4294967296=u1 at*;generalize lo % 4294967296=u0 at*;have D1:=ZfD (n:=hi) b1 b0 (by omega) c1;have rg1:=D1.range;have rs1:=Zhs n1 n0 hi u1 (by omega);have em:mE hi u1 (dgt n1 n0 hi u1) y=hi*4294967296+u1-dgt n1 n0 hi u1*y:=ZvG (by rw[ey'];omega) (by rw[ey'];omega);have rm:0≤mE hi u1 (dgt n1 n0 hi u1) y∧mE hi u1 (dgt n1 n0 hi u1) y<n1*4294967296+n0:=by rw[em,ey'];exact rs1
  generalize hq1:dgt n1 n0 hi u1=q1 at*;generalize hm:mE hi u1 q1 y=m at*;have D2:=ZfD (n:=m) b1 b0 rm c0;have rg2:=D2.range;have rs2:=Zhs n1 n0 m u0 (by omega);have ee:mE m u0 (dgt n1 n0 m u0) y=m*4294967296+u0-dgt n1 n0 m u0*y:=ZvG (by rw[ey'];omega) (by rw[ey'];omega);refine ZaU (T:=(Zi prog Zh Zhr true)) func113 ZnM (vals:=[u_ hi,u_ lo,u_ y]) (by rfl) (by rfl) (zl (Zf Za4) pre.t
   (Za (Xb (by omega:¬ n1=0)) (Za (Zsm hh b1.1) (Za Zbp (Za Zbp (Za Zbp (Za Zbp (Za Zbp (Za Zbp (Za (Xa hy) (Za (beq_eq_false_iff_ne.2 hz) (Za (Xb (by omega:¬ y≤hi)) (Zz (beq_eq_false_iff_ne.2 (by omega:y≠0))))))))))))))
   fun g=> ?_) w
  refine Runs.seq (P1:=fun e z=>e=none∧(∃ rh g,z.1=dFr (u_ hi) (u_ lo) (u_ y) undef undef undef (u_ 0) (u_ 0) (u_ 0) (u_ n1) (u_ n0) (u_ hi) (u_ lo) (u_ u1) (u_ u0) (u_ q1) (u_ rh) undef undef++tl 116 g)∧z.2.1=⟨0,[]⟩) ?_ ?_ (fun e z he=>by cases he.1)
  ·refine (Zsj (u_ hi) (u_ lo) (u_ y) undef undef undef (u_ 0) (u_ 0) (u_ 0) (u_ hi) (u_ lo) (u_ u0) undef undef n1 n0 hi u1 _ _ D1 g []).mono fun e z he=> ?_;rw[hq1] at he
   match e,he with
   | none,he=>exact⟨rfl,he⟩
  rintro⟨t,h',s⟩ ⟨_,⟨rh,g1,ht⟩,hh'⟩;simp only at ht hh';subst ht hh';have mid:=Zsh (u_ hi) (u_ lo) undef undef undef (u_ 0) (u_ 0) (u_ 0) (u_ n0) (u_ lo) (u_ u0) (u_ rh) undef undef y n1 hi u1 q1 (m/n1) g1;rw[hm] at mid;refine zl (Zf Za4) mid.t (Za (Xb (by omega:¬ n1=0)) (Zz (Zsm (n:=m) (by omega) b1.1))) fun g2=> ?_;refine Runs.seq (P1:=fun e z=>e=none∧(∃ rh g,z.1=dFr (u_ hi) (u_ lo) (u_ y) undef undef undef (u_ 0) (u_ 0) (u_ 0) (u_ n1) (u_ n0) (u_ hi) (u_ lo) (u_ u1) (u_ u0) (u_ q1) (u_ rh) (u_ m) (u_ (dgt n1 n0 m u0))++tl 116 g)∧z.2.1=⟨0,[]⟩) ?_ ?_ (fun e z he=>by cases he.1)
  ·refine (Zsk (u_ hi) (u_ lo) (u_ y) undef undef undef (u_ 0) (u_ 0) (u_ 0) (u_ hi) (u_ lo) (u_ u1) (u_ q1) (u_ m) n1 n0 m u0 _ _ D2 g2 []).mono fun e z he=> ?_
   match e,he with
   | none,he=>exact⟨rfl,he⟩
  rintro⟨t,h',s⟩ ⟨_,⟨rh2,g3,ht⟩,hh'⟩;simp only at ht hh';subst ht hh';generalize hq0:dgt n1 n0 m u0=q0 at*;refine (Zj (Zf Za4) (Zsi (u_ hi) (u_ lo) undef undef undef (u_ 0) (u_ 0) (u_ n1) (u_ n0) (u_ hi) (u_ lo) (u_ u1) (u_ rh2) y u0 q1 m q0 g3).t (Zz (by rfl))).mono fun e z he=> ?_;obtain⟨rfl,⟨g4,h2⟩,h3⟩:=he;refine⟨.inr rfl,?_⟩;have eq:u64.wrap (u64.wrap (q1*4294967296)+q0)=q1*4294967296+q0:=by rw[ZK,ZK];omega
  have er:(mE m u0 q0 y).fdiv (2^min ((0:Int).toNat) 64)=m*4294967296+u0-q0*y:=by
   rw[show (2:Int)^min ((0:Int).toNat) 64=1 from rfl,Int.fdiv_one,ee]
  have key:hi*18446744073709551616+lo=y*(q1*4294967296+q0)+(m*4294967296+u0-q0*y):=by
   have k1:y*(q1*4294967296+q0)=4294967296*(q1*y)+q0*y:=by
    rw[Int.mul_add,Int.mul_comm y q0,Int.mul_comm y,Int.mul_assoc,Int.mul_comm 4294967296 y,← Int.mul_assoc,Int.mul_comm (q1*y)]
   rw[k1];generalize q1*y=t1 at em ⊢;generalize q0*y=t0;omega
  have ry:0≤m*4294967296+u0-q0*y∧m*4294967296+u0-q0*y<y:=by
   rw[← ey'] at rs2;exact rs2
  have fq:(hi*18446744073709551616+lo)/y=q1*4294967296+q0:=Zgc key ry.1 ry.2;have fr:(hi*18446744073709551616+lo) % y=m*4294967296+u0-q0*y:=by
   rw[key,Int.mul_add_emod_self_left,Int.emod_eq_of_lt ry.1 ry.2]
  unfold ZyU;rw[h2,h3,eq,er,fq,fr];rfl
def u1m:Value→Option Int
 | .int .u64 n=>some n
 | _=>none
theorem zC {v:Value}{n:Int}(h:u1m v=some n):v=u_ n:=by
 unfold u1m at h;split at h
 ·cases h;rfl
 ·cases h
def ZzU:Ans:=fun vals s=>
 match vals with
 | [x,y]=>
  match u1m x,u1m y with
  | some a,some b=>some (.tuple #[u_ (a*b/18446744073709551616),u_ (a*b % 18446744073709551616)],s,[(decide (zd a∧zd b),true)])
  | _,_=>none
 | _=>none
theorem Zsn:ZJ 107 ZzU:=by
 intro vals s v s' lg h hl w;unfold ZzU at h;split at h
 ·split at h
  ·rename_i a b ha hb;cases h;have h1:=hl _ Xf;simp only[Xi] at h1;rw[zC ha,zC hb];exact Zgu a b h1.1 h1.2 w
  ·cases h
 ·cases h
def Z25:Con:=alt 107 ZzU Zo
theorem Zso:ConOk Z25:=Zy func107 rfl Zsn Zd
def pL (x y m:Int):Int:=Wd.ad (x*y % 18446744073709551616) m 0
def oA (x y c:Int):Bool×Bool:=(decide (0≤x∧0≤y∧0≤c∧c≤1),true)
theorem Zsp (x y m c:Int):Zw (Ze (Zi prog Zh Z25 true) 3000 99 [u_ x,u_ y,u_ m,u_ c] [])
  (.tuple #[u_ (Wd.ad (pL x y m) c 0),u_ (u64.wrap (u64.wrap (x*y/18446744073709551616+ca (x*y % 18446744073709551616) m 0)+ca (pL x y m) c 0))])
  [oA (pL x y m) c 0,oA (x*y % 18446744073709551616) m 0,(decide (zd x∧zd y),true)]:=by and_intros<;>kernel_rfl
theorem Zht {x y:Int}(hx:zd x) (hy:zd y):0≤x*y∧x*y≤340282366920938463426481119284349108225:=by
 refine⟨Int.mul_nonneg hx.1 hy.1,?_⟩;have:=Int.mul_le_mul (show x≤18446744073709551615 by omega) (show y≤18446744073709551615 by omega) hy.1 (by omega);omega
theorem ZnO (x y m c:Int) (hx:zd x) (hy:zd y) (hm:zd m) (hc:zd c) (w:World):Calls prog 99 #[u_ x,u_ y,u_ m,u_ c] w fun e w'=>
  e= .returned (.tuple #[u_ ((x*y+m+c) % 18446744073709551616),u_ ((x*y+m+c)/18446744073709551616)])∧zg w w':=by
 have bd:=Zht hx hy;have h:=Zb (Zf Zso) (Zsp x y m c) (Za (Xa (by unfold pL Wd.ad;omega)) (Za (Xa (by omega)) (Zz (Xa ⟨hx,hy⟩)))) (by rfl) (by rfl) w;have e1:Wd.ad (pL x y m) c 0=(x*y+m+c) % 18446744073709551616:=by unfold pL Wd.ad;omega
 have e2:u64.wrap (u64.wrap (x*y/18446744073709551616+ca (x*y % 18446744073709551616) m 0)+ca (pL x y m) c 0)=(x*y+m+c)/18446744073709551616:=by
  unfold pL ca Wd.ad;rw[ZK,ZK];omega
 rw[e1,e2] at h;exact h
def gMA:Ans:=fun vals s=>
 match vals with
 | [x,y,m,c]=>
  match u1m x,u1m y,u1m m,u1m c with
  | some x,some y,some m,some c=>some (.tuple #[u_ ((x*y+m+c) % 18446744073709551616),u_ ((x*y+m+c)/18446744073709551616)],s,[(decide (zd x∧zd y∧zd m∧zd c),true)])
  | _,_,_,_=>none
 | _=>none
theorem Zqi:ZJ 99 gMA:=by
 intro vals s v s' lg h hl w;unfold gMA at h;split at h
 ·split at h
  ·rename_i x y m c hx hy hm hc;cases h;have h1:=hl _ Xf;simp only[Xi] at h1;rw[zC hx,zC hy,zC hm,zC hc];exact ZnO _ _ _ _ h1.1 h1.2.1 h1.2.2.1 h1.2.2.2 w
  ·cases h
 ·cases h
def ZvH:Con:=alt 99 gMA Zo
theorem ZnP:ConOk ZvH:=Zy func99 rfl Zqi Zd
def lo (x y z c:Int):Int:=(x*y+z+c) % 18446744073709551616
def hi (x y z c:Int):Int:=(x*y+z+c)/18446744073709551616
def Zm8 (x:Int):List Int→List Int→Int→List Int
 | y::ys,z::zs,c=>lo x y z c::Zm8 x ys zs (hi x y z c)
 | _,_,c=>[c]
def jl (j:Int):Bool×Bool:=(decide (j<4),true)
def je:Bool×Bool:=(decide ((4:Int)<4),false)
def wl (x y z c:Int):Bool×Bool:=(decide (zd x∧zd y∧zd z∧zd c),true)
def ZzV (x:Int):List Int→List Int→Int→Int→Log→Log
 | y::ys,z::zs,c,j,L=>ZzV x ys zs (hi x y z c) (j+1) (wl x y z c::jl j::L)
 | _,_,_,_,L=>je::L
def ZbY (d:Bool) (x:Int) (ys zs:List Int):List Int:=
 match d with
 | true=>zs++[0]
 | false=>Zm8 x ys zs 0
def Zu3 (d:Bool) (i x:Int) (ys zs:List Int) (L:Log):Log:=
 match d with
 | true=>(x==0,true)::jl i::L
 | false=>ZzV x ys zs 0 0 ((x==0,false)::jl i::L)
def Zjk (y:W4):List Int:=[y.a,y.b,y.c,y.d]
def r0 (d:Bool) (x y:W4):List Int:=ZbY d x.a (Zjk y) [0,0,0,0]
def r1 (d e:Bool) (x y:W4):List Int:=ZbY e x.b (Zjk y) (r0 d x y).tail
def r2 (d e f:Bool) (x y:W4):List Int:=ZbY f x.c (Zjk y) (r1 d e x y).tail
def r3 (d e f g:Bool) (x y:W4):List Int:=ZbY g x.d (Zjk y) (r2 d e f x y).tail
def hd (l:List Int):Int:=l.headD 0
def w4T (l:List Int):W4:=⟨l.getD 0 0,l.getD 1 0,l.getD 2 0,l.getD 3 0⟩
def Zqj (d e f g:Bool) (x y:W4):Log:=je::Zu3 g 3 x.d (Zjk y) (r2 d e f x y).tail (Zu3 f 2 x.c (Zjk y) (r1 d e x y).tail (Zu3 e 1 x.b (Zjk y) (r0 d x y).tail (Zu3 d 0 x.a (Zjk y) [0,0,0,0] [])))
def scr (d:Bool) (s:List Dec):List Dec:=
 match d with
 | true=>cmp true::cmp true::s
 | false=>cmp true::cmp false::cmp true::cmp true::cmp true::cmp true::cmp false::s
def ZzW (d e f g:Bool) (x y:W4):Value:= .tuple #[vW ⟨hd (r0 d x y),hd (r1 d e x y),hd (r2 d e f x y),hd (r3 d e f g x y)⟩,vW (w4T (r3 d e f g x y).tail)]
theorem ZnQ (x y:W4) (d e f g:Bool):Zw (Ze (Zi prog Zh ZvH true) 3000 63 [vW x,vW y] (scr d (scr e (scr f (scr g [cmp false]))))) (ZzW d e f g x y) (Zqj d e f g x y):=by
 cases d<;>cases e<;>cases f<;>cases g<;>exact by and_intros<;>kernel_rfl
end Go.Proofs.YtekebccjflilnaaGreat
namespace Go.Proofs.YtekebccjflilnaaGreat
open Go.Proofs.Tryz
open Go.KRun Go.Wd
set_option maxRecDepth 100000
def Zsq (h l b:Int):Bool×Bool:=(decide (zd h∧zd l∧9223372036854775808≤b∧b<18446744073709551616∧h<b),true)
def ZzX:Ans:=fun vals s=>
 match vals with
 | [x,y,z]=>
  match u1m x,u1m y,u1m z with
  | some h,some l,some b=>some (ZyU h l b,s,[Zsq h l b])
  | _,_,_=>none
 | _=>none
theorem Zsr:ZJ 113 ZzX:=by
 intro vals s v s' lg h hl w;unfold ZzX at h;split at h
 ·split at h
  ·rename_i x y z hx hy hz;cases h;have h1:=hl _ Xf;simp only[Zsq,Xi] at h1;rw[zC hx,zC hy,zC hz];exact ZkP _ _ _ h1.1 h1.2.1 ⟨h1.2.2.1,h1.2.2.2.1⟩ h1.2.2.2.2 w
  ·cases h
 ·cases h
def Zss:Con:=alt 113 ZzX Zo
theorem Zhu:ConOk Zss:=Zy func113 rfl Zsr Zd
theorem ZkQ (h l b:Int):Zw (Ze (Zi prog Zh Zss true) 300 109 [u_ h,u_ l,u_ b] [cmp true]) (u_ 18446744073709551615) [(decide (h≥b),true)]:=by and_intros<;>kernel_rfl
theorem ZkR (h l b:Int):Zw (Ze (Zi prog Zh Zss true) 300 109 [u_ h,u_ l,u_ b] [cmp false]) (u_ ((h*18446744073709551616+l)/b)) [Zsq h l b,(decide (h≥b),false)]:=by and_intros<;>kernel_rfl
def gs (h l b:Int):Int:=if h≥b then 18446744073709551615 else (h*18446744073709551616+l)/b
def gok (h l b:Int):Bool×Bool:=(decide (zd h∧zd l∧9223372036854775808≤b∧b<18446744073709551616),true)
theorem Zgv (h l b:Int) (hh:zd h) (hl:zd l) (hb:9223372036854775808≤b∧b<18446744073709551616) (w:World):Calls prog 109 #[u_ h,u_ l,u_ b] w fun e w'=>e= .returned (u_ (gs h l b))∧zg w w':=by
 unfold gs;by_cases hc:h≥b
 ·rw[if_pos hc];exact Zb (Zf Zhu) (ZkQ h l b) (Zz (Xa hc)) (by rfl) (by rfl) w
 ·rw[if_neg hc];exact Zb (Zf Zhu) (ZkR h l b) (Za (Xa ⟨hh,hl,hb.1,hb.2,by omega⟩) (Zz (Xb hc))) (by rfl) (by rfl) w
def ZkS:Ans:=fun vals s=>
 match vals with
 | [x,y,z]=>
  match u1m x,u1m y,u1m z with
  | some h,some l,some b=>some (u_ (gs h l b),s,[gok h l b])
  | _,_,_=>none
 | _=>none
theorem ZkT:ZJ 109 ZkS:=by
 intro vals s v s' lg h hl w;unfold ZkS at h;split at h
 ·split at h
  ·rename_i x y z hx hy hz;cases h;have h1:=hl _ Xf;simp only[gok,Xi] at h1;rw[zC hx,zC hy,zC hz];exact Zgv _ _ _ h1.1 h1.2.1 h1.2.2 w
  ·cases h
 ·cases h
def zk:Con:=alt 109 ZkS (alt 99 gMA (alt 93 (g1 Zkd) (alt 72 (g1n (Za3 Zgd)) (alt 103 (g1n (Za3 Znp)) Zo))))
theorem ZbZ:ConOk zk:=Zy func109 rfl ZkT (Zy func99 rfl Zqi (Zy func93 rfl (Zr6 Zct) (Zy func72 rfl (zN Zbm) (Zy func103 rfl (zN Zdq) Zd))))
def eN (F:Func):Nat→Code
 | 0=>Zv F
 | n+1=>Z5 (eN F n)
def Z26 (F:Func):List Code:=(List.range 8).map fun i=>ZB (eN F i)
def qRW (F:Func):Code:=ZB (ZB (eN F 8))
def ZkU (F:Func):Code:=cIn (cIn (Z5 (ZB (eN F 8))))
def Z27 (F:Func):Code:=eN F 9
theorem ZnR:f71.body=some (Zaz (Z26 f71) (.seq (.seq (qRW f71) (.block 0 (.loop (ZkU f71)))) (Z27 f71))):=by kernel_rfl
def t_ (n:Nat):Value:= .pointer (some ⟨n,0,none⟩)
def vQ (l:List Int):List Value:=l.map (Value.int .u64)
def qFr (v0 v1:Value) (n up i:Int) (v14 v15:Value):List Value:=[v0,v1,t_ 0,t_ 1,t_ 2,t_ 3,.nilIface,.int .i64 n,.int .i64 up,t_ 4,t_ 5,t_ 6,t_ 7,.int .i64 i,v14,v15]
def cW (x:W4):List Value×TypeId:=([.int .u64 x.a,.int .u64 x.b,.int .u64 x.c,.int .u64 x.d],53)
def qHp (a b lw:W4) (by_ rest quo:List Int):Hp:=⟨8,[(vQ quo,53),(vQ rest,129),cW lw,(vQ by_,53),cW ⟨0,0,0,0⟩,cW ⟨0,0,0,0⟩,cW b,cW a]⟩
end Go.Proofs.YtekebccjflilnaaGreat
namespace Go.Proofs.YtekebccjflilnaaGreat
open Go.IntKind
open Go.KRun Go.Wd
set_option maxRecDepth 100000
def Zix (q:Int):List Int→List Int→Int→Int→List Int
 | y::ys,p::ps,c,b=>Go.Wd.sb p (lo y q 0 c) b::Zix q ys ps (hi y q 0 c) (bo p (lo y q 0 c) b)
 | [],p::_,c,b=>[Go.Wd.sb p c b]
 | _,[],_,_=>[]
def ZeK (q:Int):List Int→List Int→Int→Int→Int
 | y::ys,p::ps,c,b=>ZeK q ys ps (hi y q 0 c) (bo p (lo y q 0 c) b)
 | [],p::_,c,b=>bo p c b
 | _,[],_,_=>0
def Zqk (q:Int):List Int→List Int→Int→Int→Log→Log
 | y::ys,p::ps,c,b,L=>Zqk q ys ps (hi y q 0 c) (bo p (lo y q 0 c) b) (okS p (lo y q 0 c) b::wl y q 0 c::yes::L)
 | [],p::_,c,b,L=>okS p c b::no::L
 | _,[],_,_,L=>L
def Zd4:List Int→List Int→Int→List Int
 | y::ys,p::ps,c=>ad p y c::Zd4 ys ps (ca p y c)
 | [],p::_,c=>[ad p 0 c]
 | _,[],_=>[]
def Zhv:List Int→List Int→Int→Int
 | y::ys,p::ps,c=>Zhv ys ps (ca p y c)
 | [],p::_,c=>ca p 0 c
 | _,[],_=>0
def Zu4:List Int→List Int→Int→Log→Log
 | y::ys,p::ps,c,L=>Zu4 ys ps (ca p y c) (okA p y c::yes::L)
 | [],p::_,c,L=>okA p 0 c::no::L
 | _,[],_,L=>L
def gsL (n:Nat) (ys ps:List Int):Int:=gs (ps.getD n 0) (ps.getD (n-1) 0) (ys.getD (n-1) 0)
def Zm9 (n:Nat) (ys ps:List Int):Bool×Bool:=gok (ps.getD n 0) (ps.getD (n-1) 0) (ys.getD (n-1) 0)
def ps0 (n:Nat) (ys ps:List Int):List Int:=Zix (gsL n ys ps) ys ps 0 0
def ps1 (n:Nat) (ys ps:List Int):List Int:=Zd4 ys (ps0 n ys ps) 0
def ps2 (n:Nat) (ys ps:List Int):List Int:=Zd4 ys (ps1 n ys ps) 0
def tkO (n:Nat):Nat→List Int→List Int→List Int
 | 0,ys,ps=>ps0 n ys ps
 | 1,ys,ps=>ps1 n ys ps
 | _,ys,ps=>ps2 n ys ps
def tkD (n:Nat):Nat→List Int→List Int→Int
 | 0,ys,ps=>gsL n ys ps
 | 1,ys,ps=>u64.wrap (gsL n ys ps-1)
 | _,ys,ps=>u64.wrap (u64.wrap (gsL n ys ps-1)-1)
def tkG (n:Nat):Nat→List Int→List Int→Log
 | 0,ys,ps=>(ZeK (gsL n ys ps) ys ps 0 0 !=0,false)::Zqk (gsL n ys ps) ys ps 0 0 [Zm9 n ys ps,yes]
 | 1,ys,ps=>(Zhv ys (ps0 n ys ps) 0 !=0,true)::Zu4 ys (ps0 n ys ps) 0 ((ZeK (gsL n ys ps) ys ps 0 0 !=0,true)::Zqk (gsL n ys ps) ys ps 0 0 [Zm9 n ys ps,yes])
 | _,ys,ps=>(Zhv ys (ps1 n ys ps) 0 !=0,true)::Zu4 ys (ps1 n ys ps) 0 ((Zhv ys (ps0 n ys ps) 0 !=0,false)::Zu4 ys (ps0 n ys ps) 0 ((ZeK (gsL n ys ps) ys ps 0 0 !=0,true)::Zqk (gsL n ys ps) ys ps 0 0 [Zm9 n ys ps,yes]))
def rng:Nat→List Dec→List Dec
 | 0,s=>cmp false::s
 | n+1,s=>cmp true::rng n s
def tkS (n:Nat):Nat→List Dec
 | 0=>cmp true::rng n [cmp false]
 | 1=>cmp true::rng n (cmp true::rng n [cmp true])
 | _=>cmp true::rng n (cmp true::rng n (cmp false::rng n [cmp true]))
def Rd (T:Tab) (F:Func) (n i c:Nat) (v0 v1 v14 v15:Value) (up d0 d1 d2 d3 r0 r1 r2 r3 r4 q0 q1 q2 q3:Int) (a b lw:W4) (g:Nat→Value):Prop:=
 Zm (evC T 500 false (ZkU F) (qFr v0 v1 n up i v14 v15++tl 70 g,qHp a b lw [d0,d1,d2,d3] [r0,r1,r2,r3,r4] [q0,q1,q2,q3],tkS n c) ⟨[],[],[]⟩) 16 70 none
  (qFr v0 v1 n up (i64.wrap ((i:Int)-1)) v14 v15)
  (qHp a b lw [d0,d1,d2,d3] ([r0,r1,r2,r3,r4].take i++(tkO n c ([d0,d1,d2,d3].take n) (([r0,r1,r2,r3,r4].drop i).take (n+1))++[r0,r1,r2,r3,r4].drop (i+n+1))) ([q0,q1,q2,q3].set i (tkD n c ([d0,d1,d2,d3].take n) (([r0,r1,r2,r3,r4].drop i).take (n+1)))))
  (tkG n c ([d0,d1,d2,d3].take n) (([r0,r1,r2,r3,r4].drop i).take (n+1)))
end Go.Proofs.YtekebccjflilnaaGreat
namespace Go.Proofs.YtekebccjflilnaaGreat
open Go.Proofs.Tryz
open Go.KRun Go.Wd
set_option maxRecDepth 100000
def vB:List Int→Int
 | []=>0
 | d::ds=>d+18446744073709551616*vB ds
def ZT (l:List Int):Prop:=∀ d∈l,zd d
theorem Z28 {x y z c:Int}(hx:zd x) (hy:zd y) (hz:zd z) (hc:zd c):zd (lo x y z c)∧zd (hi x y z c)∧lo x y z c+18446744073709551616*hi x y z c=x*y+z+c:=by
 have bd:=Zht hx hy;unfold lo hi zd at*;generalize x*y=p at*;omega
theorem Zhw {x:Int}(hx:zd x):∀ (ys zs:List Int) (c j:Int) (L:Log),ZT ys→ZT zs→zd c→ys.length=zs.length→0≤j→j+ys.length≤4→Zx L→
  ZT (Zm8 x ys zs c)∧(Zm8 x ys zs c).length=ys.length+1∧vB (Zm8 x ys zs c)=vB zs+x*vB ys+c∧Zx (ZzV x ys zs c j L)
 | [],[],c,j,L,_,_,hc,_,_,_,hL=>by
  refine⟨fun d hd=> ?_,rfl,by simp [Zm8,vB],Za (by rfl) hL⟩;simp only[Zm8,List.mem_singleton] at hd;rw[hd];exact hc
 | y::ys,z::zs,c,j,L,hy,hz,hc,hl,h0,hj,hL=>by
  have y1:=hy y Xe;have z1:=hz z Xe;obtain⟨e1,e2,e3⟩:=Z28 hx y1 z1 hc;simp only[List.length_cons] at hl hj;obtain⟨g1,g2,g3,g4⟩:=Zhw hx ys zs (hi x y z c) (j+1) (wl x y z c::jl j::L) (fun d hd=>hy d (Xd _ hd)) (fun d hd=>hz d (Xd _ hd)) e2 (by omega) (by omega) (by omega)
   (Za (Xa ⟨hx,y1,z1,hc⟩) (Za (Xa (by omega:j<4)) hL))
  refine⟨fun d hd=> ?_,by simp only[Zm8,List.length_cons,g2],?_,g4⟩
  ·simp only[Zm8] at hd;rcases List.mem_cons.1 hd with rfl | hd
   ·exact e1
   ·exact g1 d hd
  ·simp only[Zm8,vB];rw[g3];have:x*(y+18446744073709551616*vB ys)=x*y+18446744073709551616*(x*vB ys):=by rw[Int.mul_add,Int.mul_left_comm]
   rw[this];generalize x*vB ys=q at*;generalize x*y=p at*;omega
 | [],_::_,_,_,_,_,_,_,hl,_,_,_=>by simp at hl
 | _::_,[],_,_,_,_,_,_,hl,_,_,_=>by simp at hl
theorem Zhx:∀ l:List Int,vB (l++[0])=vB l
 | []=>rfl
 | d::ds=>by simp only[List.cons_append,vB,Zhx ds]
theorem Zb3 {x i:Int}(hx:zd x) (hi:i<4) {ys zs:List Int}(hy:ZT ys) (hz:ZT zs) (ly:ys.length=4) (lz:zs.length=4) {L:Log}(hL:Zx L):
  ∃ h t,ZbY (x==0) x ys zs=h::t∧zd h∧ZT t∧t.length=4∧h+18446744073709551616*vB t=vB zs+x*vB ys∧Zx (Zu3 (x==0) i x ys zs L):=by
 have key:ZT (ZbY (x==0) x ys zs)∧(ZbY (x==0) x ys zs).length=5∧vB (ZbY (x==0) x ys zs)=vB zs+x*vB ys∧Zx (Zu3 (x==0) i x ys zs L):=by
  have ji:(jl i).1=(jl i).2:=Xa hi;by_cases h:x=0
  ·have hb:(x==0)=true:=beq_iff_eq.2 h;rw[hb];refine⟨fun d hd=> ?_,by simp [ZbY,lz],?_,Za hb (Za ji hL)⟩
   ·simp only[ZbY] at hd;rcases List.mem_append.1 hd with hd | hd
    ·exact hz d hd
    ·rw[List.mem_singleton.1 hd];unfold zd;omega
   ·simp only[ZbY,Zhx];rw[h];omega
  ·have hb:(x==0)=false:=beq_eq_false_iff_ne.2 h;rw[hb];obtain⟨g1,g2,g3,g4⟩:=Zhw hx ys zs 0 0 ((x==0,false)::jl i::L) hy hz (by unfold zd;omega) (by omega) (by omega) (by omega) (Za hb (Za ji hL));exact⟨g1,by simp only[ZbY];omega,by simp only[ZbY];omega,g4⟩
 obtain⟨k1,k2,k3,k4⟩:=key
 match hr:ZbY (x==0) x ys zs,k1,k2,k3 with
 | h::t,k1,k2,k3=>
  exact⟨h,t,rfl,k1 h Xe,fun d hd=>k1 d (Xd _ hd),by simpa using k2,k3,k4⟩
def ZnS (x y:W4):Value:= .tuple #[vW (W4.of (x.val*y.val)),vW (W4.of (x.val*y.val/115792089237316195423570985008687907853269984665640564039457584007913129639936))]
theorem ZnT (y:W4):vB (Zjk y)=y.val:=by unfold Zjk W4.val;simp only[vB];omega
theorem ZkV (x y:W4) (hx:x.ok) (hy:y.ok) (w:World):Calls prog 63 #[vW x,vW y] w fun e w'=>e= .returned (ZnS x y)∧zg w w':=by
 obtain⟨x0,x1,x2,x3⟩:=hx;have wy:ZT (Zjk y):=fun d hd=>by
  obtain⟨y0,y1,y2,y3⟩:=hy;unfold Zjk at hd;simp only[List.mem_cons,List.not_mem_nil,or_false] at hd;rcases hd with rfl | rfl | rfl | rfl
  ·exact y0
  ·exact y1
  ·exact y2
  ·exact y3
 have wz:ZT [0,0,0,0]:=fun d hd=>by
  simp only[List.mem_cons,List.not_mem_nil,or_false,or_self] at hd;rw[hd];unfold zd;omega
 obtain⟨h0,t0,e0,a0,b0,l0,v0,g0⟩:=Zb3 (x:=x.a) (i:=0) x0 (by omega) wy wz rfl rfl Zne;obtain⟨h1,t1,e1,a1,b1,l1,v1,g1⟩:=Zb3 (x:=x.b) (i:=1) x1 (by omega) wy b0 rfl l0 g0;obtain⟨h2,t2,e2,a2,b2,l2,v2,g2⟩:=Zb3 (x:=x.c) (i:=2) x2 (by omega) wy b1 rfl l1 g1;obtain⟨h3,t3,e3,a3,b3,l3,v3,g3⟩:=Zb3 (x:=x.d) (i:=3) x3 (by omega) wy b2 rfl l2 g2;have E0:r0 (x.a==0) x y=h0::t0:=e0;have E1:r1 (x.a==0) (x.b==0) x y=h1::t1:=by unfold r1;rw[E0];exact e1
 have E2:r2 (x.a==0) (x.b==0) (x.c==0) x y=h2::t2:=by unfold r2;rw[E1];exact e2
 have E3:r3 (x.a==0) (x.b==0) (x.c==0) (x.d==0) x y=h3::t3:=by unfold r3;rw[E2];exact e3
 have h:=Zb (Zf ZnP) (ZnQ x y (x.a==0) (x.b==0) (x.c==0) (x.d==0)) (by
  unfold Zqj;rw[E0,E1,E2];exact Za (by rfl) g3) (by rfl) (by rfl) w
 have hv:ZzW (x.a==0) (x.b==0) (x.c==0) (x.d==0) x y=ZnS x y:=by
  unfold ZzW ZnS;rw[E0,E1,E2,E3]
  match t3,l3,b3,v3 with
  | [q0,q1,q2,q3],_,b3,v3=>
   simp only[hd,List.headD_cons,List.tail_cons,w4T,List.getD_cons_zero,List.getD_cons_succ];have ok1:(⟨h0,h1,h2,h3⟩:W4).ok:=⟨a0,a1,a2,a3⟩;have ok2:(⟨q0,q1,q2,q3⟩:W4).ok:=⟨b3 q0 (by simp),b3 q1 (by simp),b3 q2 (by simp),b3 q3 (by simp)⟩;have key:x.val*y.val=(⟨h0,h1,h2,h3⟩:W4).val+115792089237316195423570985008687907853269984665640564039457584007913129639936*(⟨q0,q1,q2,q3⟩:W4).val:=by
    rw[ZnT] at v0 v1 v2 v3;rw[ZaP x y.val];generalize x.a*y.val=p0 at*;generalize x.b*y.val=p1 at*;generalize x.c*y.val=p2 at*;generalize x.d*y.val=p3 at*;simp only[vB] at v0 v1 v2 v3;unfold W4.val;dsimp only;omega
   have bd1:=W4.val_bd ok1;have eL:W4.of (x.val*y.val)=⟨h0,h1,h2,h3⟩:=W4.of_eq ok1 key;have eH:x.val*y.val/115792089237316195423570985008687907853269984665640564039457584007913129639936=(⟨q0,q1,q2,q3⟩:W4).val:=by rw[key];omega
   rw[eL,eH,W4.of_val ok2]
 rw[hv] at h;exact h
end Go.Proofs.YtekebccjflilnaaGreat
namespace Go.Proofs.YtekebccjflilnaaGreat
open Go.KRun Go.Wd
set_option maxRecDepth 100000
theorem ZS:∀ (l m:List Int),vB (l++m)=vB l+18446744073709551616^l.length*vB m
 | [],m=>by simp [vB]
 | d::ds,m=>by
  simp only[List.cons_append,vB,List.length_cons,Int.pow_succ];rw[ZS ds m,Int.mul_add,Int.mul_comm (18446744073709551616^ds.length) 18446744073709551616,Int.mul_assoc];omega
theorem Zbq:∀ (l:List Int),ZT l→0≤vB l∧vB l<18446744073709551616^l.length
 | [],_=>by simp [vB]
 | d::ds,h=>by
  have h1:=Zbq ds fun x hx=>h x (Xd _ hx);have h2:=h d Xe;unfold zd at h2;simp only[vB,List.length_cons,Int.pow_succ];rw[Int.mul_comm (18446744073709551616^ds.length)];omega
theorem ZkW {x y c:Int}(hx:zd x) (hy:zd y) (hc:0≤c∧c≤1):zd (Go.Wd.sb x y c)∧(bo x y c=0∨bo x y c=1)∧Go.Wd.sb x y c=x-y-c+18446744073709551616*bo x y c:=by
 unfold zd Go.Wd.sb at*;have:=Zbj x y c;generalize bo x y c=k at*;omega
theorem ZkX {x y c:Int}(hx:zd x) (hy:zd y) (hc:0≤c∧c≤1):zd (ad x y c)∧(ca x y c=0∨ca x y c=1)∧ad x y c+18446744073709551616*ca x y c=x+y+c:=by
 unfold zd ad ca at*;omega
theorem Zhy {q:Int}(hq:zd q):∀ (ys ps:List Int) (c b:Int) (L:Log),ZT ys→ZT ps→ps.length=ys.length+1→zd c→(0≤b∧b≤1)→Zx L→
  ZT (Zix q ys ps c b)∧(Zix q ys ps c b).length=ps.length∧(ZeK q ys ps c b=0∨ZeK q ys ps c b=1)∧Zx (Zqk q ys ps c b L)∧
   vB (Zix q ys ps c b)=vB ps-vB ys*q-c-b+18446744073709551616^ps.length*ZeK q ys ps c b
 | [],[p],c,b,L,_,hp,_,hc,hb,hL=>by
  have p1:=hp p Xe;obtain⟨e1,e2,e3⟩:=ZkW p1 hc hb;refine⟨fun d hd=> ?_,rfl,e2,Za (Xa ⟨p1.1,hc.1,hc.2,hb.1,hb.2⟩) (Za Zr5 hL),?_⟩
  ·simp only[Zix,List.mem_singleton] at hd;rw[hd];exact e1
  ·simp only[Zix,ZeK,vB,List.length_cons,List.length_nil];rw[e3];omega
 | y::ys,p::ps,c,b,L,hy,hp,hl,hc,hb,hL=>by
  have y1:=hy y Xe;have p1:=hp p Xe;have w0:zd 0:=by unfold zd;omega
  obtain⟨l1,l2,l3⟩:=Z28 y1 hq w0 hc;obtain⟨e1,e2,e3⟩:=ZkW p1 l1 hb;simp only[List.length_cons,Nat.add_right_cancel_iff] at hl;obtain⟨g1,g2,g3,g4,g5⟩:=Zhy hq ys ps (hi y q 0 c) (bo p (lo y q 0 c) b) (okS p (lo y q 0 c) b::wl y q 0 c::yes::L) (fun x hx=>hy x (Xd _ hx)) (fun x hx=>hp x (Xd _ hx)) hl l2 (by omega)
   (Za (Xa ⟨p1.1,l1.1,l1.2,hb.1,hb.2⟩) (Za (Xa ⟨y1,hq,w0,hc⟩) (Za Zai hL)))
  refine⟨fun d hd=> ?_,by simp only[Zix,List.length_cons,g2],g3,g4,?_⟩
  ·simp only[Zix] at hd;rcases List.mem_cons.1 hd with rfl | hd
   ·exact e1
   ·exact g1 d hd
  ·simp only[Zix,ZeK,vB,List.length_cons,Int.pow_succ];rw[g5,e3,Int.mul_comm (18446744073709551616^ps.length) 18446744073709551616,Int.mul_assoc,Int.add_mul,Int.mul_assoc];generalize 18446744073709551616^ps.length*ZeK q ys ps (hi y q 0 c) (bo p (lo y q 0 c) b)=t at*;generalize vB ys*q=v at*;generalize y*q=z at*;omega
 | [],[],_,_,_,_,_,hl,_,_,_=>by simp at hl
 | _::_,[],_,_,_,_,_,hl,_,_,_=>by simp at hl
 | [],_::_::_,_,_,_,_,_,hl,_,_,_=>by simp at hl
theorem ZcV:∀ (ys ps:List Int) (c:Int) (L:Log),ZT ys→ZT ps→ps.length=ys.length+1→(0≤c∧c≤1)→Zx L→
  ZT (Zd4 ys ps c)∧(Zd4 ys ps c).length=ps.length∧(Zhv ys ps c=0∨Zhv ys ps c=1)∧Zx (Zu4 ys ps c L)∧
   vB (Zd4 ys ps c)+18446744073709551616^ps.length*Zhv ys ps c=vB ps+vB ys+c
 | [],[p],c,L,_,hp,_,hc,hL=>by
  have p1:=hp p Xe;have w0:zd 0:=by unfold zd;omega
  obtain⟨e1,e2,e3⟩:=ZkX p1 w0 hc;refine⟨fun d hd=> ?_,rfl,e2,Za (Xa ⟨p1.1,by omega,hc.1,hc.2⟩) (Za Zr5 hL),?_⟩
  ·simp only[Zd4,List.mem_singleton] at hd;rw[hd];exact e1
  ·simp only[Zd4,Zhv,vB,List.length_cons,List.length_nil];omega
 | y::ys,p::ps,c,L,hy,hp,hl,hc,hL=>by
  have y1:=hy y Xe;have p1:=hp p Xe;obtain⟨e1,e2,e3⟩:=ZkX p1 y1 hc;simp only[List.length_cons,Nat.add_right_cancel_iff] at hl;obtain⟨g1,g2,g3,g4,g5⟩:=ZcV ys ps (ca p y c) (okA p y c::yes::L) (fun x hx=>hy x (Xd _ hx)) (fun x hx=>hp x (Xd _ hx)) hl (by omega)
   (Za (Xa ⟨p1.1,y1.1,hc.1,hc.2⟩) (Za Zai hL))
  refine⟨fun d hd=> ?_,by simp only[Zd4,List.length_cons,g2],g3,g4,?_⟩
  ·simp only[Zd4] at hd;rcases List.mem_cons.1 hd with rfl | hd
   ·exact e1
   ·exact g1 d hd
  ·simp only[Zd4,Zhv,vB,List.length_cons,Int.pow_succ];rw[Int.mul_comm (18446744073709551616^ps.length) 18446744073709551616,Int.mul_assoc];generalize 18446744073709551616^ps.length*Zhv ys ps (ca p y c)=t at*;omega
 | [],[],_,_,_,_,hl,_,_=>by simp at hl
 | _::_,[],_,_,_,_,hl,_,_=>by simp at hl
 | [],_::_::_,_,_,_,_,hl,_,_=>by simp at hl
end Go.Proofs.YtekebccjflilnaaGreat
namespace Go.Proofs.YtekebccjflilnaaGreat
open Go.IntKind
open Go.KRun Go.Wd
set_option maxRecDepth 100000
theorem ZeL {l:List Int}{k:Nat}(h:l.length=k+1):∃ a x,l=a++[x]∧a.length=k:=by
 have hne:l≠[]:=fun e=>by rw[e] at h;simp at h
 exact⟨l.dropLast,l.getLast hne,(List.dropLast_concat_getLast hne).symm,by rw[List.length_dropLast];omega⟩
theorem Zca (a:List Int) (x:Int) (m:List Int) {k:Nat}(h:a.length=k):(a++x::m).getD k 0=x:=by
 subst h;simp
theorem Zst {h l dt R d0 p0:Int}(hh:zd h) (hl:zd l) (hd:9223372036854775808≤dt∧dt<18446744073709551616) (hR:0<R) (hd0:0≤d0∧d0<R) (hp0:0≤p0∧p0<R)
  (hP:(h*18446744073709551616+l)*R+p0<18446744073709551616*(dt*R+d0)):
  zd (gs h l dt)∧0≤((h*18446744073709551616+l)*R+p0)/(dt*R+d0)∧((h*18446744073709551616+l)*R+p0)/(dt*R+d0)≤gs h l dt∧gs h l dt≤((h*18446744073709551616+l)*R+p0)/(dt*R+d0)+2:=by
 unfold zd at*;have hN:0≤(h*18446744073709551616+l)*R:=Int.mul_nonneg (by omega) (by omega);have hD:0<dt*R:=Int.mul_pos (by omega) hR;have hq0:0≤((h*18446744073709551616+l)*R+p0)/(dt*R+d0):=Int.ediv_nonneg (by omega) (by omega);obtain⟨g1,g2⟩:=ZfC (B:=18446744073709551616) hR (by omega) hd0.1 hp0.2 hq0 hP;have gu:gs h l dt≤(h*18446744073709551616+l)/dt:=by
  unfold gs;split
  ·refine Int.le_ediv_of_mul_le (by omega) ?_;omega
  ·exact Int.le_refl _
 have g3:=Ziw (B:=18446744073709551616) hR (by omega) (by omega) hd0.2 hp0.1 hP hd0.1 gu;have gl:((h*18446744073709551616+l)*R+p0)/(dt*R+d0)≤gs h l dt:=by
  unfold gs;split
  ·omega
  ·exact g1
 refine⟨⟨by omega,?_⟩,hq0,gl,g3⟩;unfold gs;split
 ·omega
 ·exact Int.ediv_lt_of_lt_mul (by omega) (by omega)
theorem Zb4 (n:Nat):(0:Int)<18446744073709551616^n:=Int.pow_pos (by omega)
theorem ZnU {a:Int}(h:a=1):(a !=0,true).1=(a !=0,true).2:=by subst h;rfl
theorem ZvI {a:Int}(h:a=0):(a !=0,false).1=(a !=0,false).2:=by subst h;rfl
theorem Zsu {k:Nat}{ys ps:List Int}(ly:ys.length=k+1) (lp:ps.length=k+2) (wy:ZT ys) (wp:ZT ps) (top:9223372036854775808≤ys.getD k 0) (hlt:vB ps<18446744073709551616*vB ys):
  ∃ c,c<3∧tkD (k+1) c ys ps=vB ps/vB ys∧ZT (tkO (k+1) c ys ps)∧(tkO (k+1) c ys ps).length=k+2∧vB (tkO (k+1) c ys ps)=vB ps % vB ys∧Zx (tkG (k+1) c ys ps):=by
 obtain⟨d0s,dt,ey,l0⟩:=ZeL ly;obtain⟨p1s,h,ep,l1⟩:=ZeL lp;obtain⟨p0s,l,ep1,l2⟩:=ZeL l1;have ep':ps=p0s++l::[h]:=by rw[ep,ep1,List.append_assoc];rfl
 have wdt:zd dt:=wy dt (by rw[ey];simp);have wh:zd h:=wp h (by rw[ep];simp);have wl':zd l:=wp l (by rw[ep'];simp);have g1:ys.getD k 0=dt:=by rw[ey];exact Zca d0s dt [] l0
 have g2:ps.getD (k+1) 0=h:=by rw[ep];exact Zca p1s h [] l1
 have g3:ps.getD k 0=l:=by rw[ep'];exact Zca p0s l [h] l2
 rw[g1] at top;have eG:gsL (k+1) ys ps=gs h l dt:=by unfold gsL;rw[Nat.add_sub_cancel,g1,g2,g3]
 have eK:Zm9 (k+1) ys ps=gok h l dt:=by unfold Zm9;rw[Nat.add_sub_cancel,g1,g2,g3]
 have hg:(gok h l dt).1=(gok h l dt).2:=Xa ⟨wh,wl',top,wdt.2⟩;have bd0:=Zbq d0s (fun x hx=>wy x (by rw[ey];exact List.mem_append_left _ hx));have bp0:=Zbq p0s (fun x hx=>wp x (by rw[ep'];exact List.mem_append_left _ hx));have vy:vB ys=dt*18446744073709551616^k+vB d0s:=by
  rw[ey,ZS,l0];simp only[vB];rw[Int.mul_zero,Int.add_zero,Int.mul_comm dt];omega
 have vp:vB ps=(h*18446744073709551616+l)*18446744073709551616^k+vB p0s:=by
  rw[ep',ZS,l2];simp only[vB];rw[Int.mul_zero,Int.add_zero,Int.mul_comm _ (18446744073709551616^k),Int.mul_comm h,Int.add_comm l];omega
 rw[l0] at bd0;rw[l2] at bp0;obtain⟨wG,q0,qG,Gq⟩:=Zst wh wl' ⟨top,wdt.2⟩ (Zb4 k) bd0 bp0 (by rw[← vy,← vp];exact hlt);rw[← vy,← vp] at q0 qG Gq;rw[← eG] at wG qG Gq;rw[← eK] at hg;have by_:=Zbq ys wy;have bp:=Zbq ps wp;have hyp:0<vB ys:=by
  rw[vy];have:=Int.mul_pos (show 0<dt by omega) (Zb4 k);omega
 have hLs:Zx [Zm9 (k+1) ys ps,yes]:=Za hg (Zz Zai);have w0:zd 0:=by unfold zd;omega
 obtain⟨a1,a2,a3,a4,a5⟩:=Zhy wG ys ps 0 0 [Zm9 (k+1) ys ps,yes] wy wp (by omega) w0 (by omega) hLs;have b0:=Zbq _ a1;have dm:=Int.mul_ediv_add_emod (vB ps) (vB ys);have r0:=Int.emod_nonneg (vB ps) (show vB ys≠0 by omega);have r1:=Int.emod_lt_of_pos (vB ps) hyp;have kK:vB ys<18446744073709551616^ps.length:=by
  have:(18446744073709551616:Int)^ps.length=18446744073709551616^ys.length*18446744073709551616:=by rw[lp,ly,← Int.pow_succ]
  rw[this];have:=Zb4 ys.length;omega
 rw[a2] at b0;generalize hK:(18446744073709551616:Int)^ps.length=K at*;generalize hq:vB ps/vB ys=q at*;generalize hr:vB ps % vB ys=r at*;have hj:gsL (k+1) ys ps=q∨gsL (k+1) ys ps=q+1∨gsL (k+1) ys ps=q+2:=by omega
 rcases hj with hj | hj | hj
 ·have e:vB (Zix (gsL (k+1) ys ps) ys ps 0 0)=r+K*ZeK (gsL (k+1) ys ps) ys ps 0 0:=by rw[a5,hj];omega
  have ob:ZeK (gsL (k+1) ys ps) ys ps 0 0=0:=by
   rcases a3 with h | h
   ·exact h
   ·rw[h] at e;omega
  refine⟨0,by omega,hj,a1,by show (ps0 (k+1) ys ps).length=k+2;unfold ps0;omega,?_,?_⟩
  ·show vB (ps0 (k+1) ys ps)=r;unfold ps0;rw[e,ob];omega
  ·exact Za (ZvI ob) a4
 ·have e:vB (Zix (gsL (k+1) ys ps) ys ps 0 0)=r-vB ys+K*ZeK (gsL (k+1) ys ps) ys ps 0 0:=by rw[a5,hj,Int.mul_add,Int.mul_one];omega
  have ob:ZeK (gsL (k+1) ys ps) ys ps 0 0=1:=by
   rcases a3 with h | h
   ·rw[h] at e;omega
   ·exact h
  rw[ob] at e;obtain⟨c1,c2,c3,c4,c5⟩:=ZcV ys (ps0 (k+1) ys ps) 0 ((ZeK (gsL (k+1) ys ps) ys ps 0 0 !=0,true)::Zqk (gsL (k+1) ys ps) ys ps 0 0 [Zm9 (k+1) ys ps,yes]) wy a1 (by unfold ps0;omega) (by omega) (Za (ZnU ob) a4);have d0:=Zbq _ c1;have lk:(ps0 (k+1) ys ps).length=ps.length:=a2;rw[c2,lk,hK] at d0;rw[lk,hK,show vB (ps0 (k+1) ys ps)=r-vB ys+K*1 from e] at c5;have oc:Zhv ys (ps0 (k+1) ys ps) 0=1:=by
   rcases c3 with h | h
   ·rw[h] at c5;omega
   ·exact h
  refine⟨1,by omega,?_,c1,by show (ps1 (k+1) ys ps).length=k+2;unfold ps1;omega,?_,Za (ZnU oc) c4⟩
  ·show u64.wrap (gsL (k+1) ys ps-1)=q;rw[ZN (by omega) (by unfold zd at wG;omega)];omega
  ·show vB (ps1 (k+1) ys ps)=r;unfold ps1;rw[oc] at c5;omega
 ·have e:vB (Zix (gsL (k+1) ys ps) ys ps 0 0)=r-2*vB ys+K*ZeK (gsL (k+1) ys ps) ys ps 0 0:=by rw[a5,hj,Int.mul_add];omega
  have ob:ZeK (gsL (k+1) ys ps) ys ps 0 0=1:=by
   rcases a3 with h | h
   ·rw[h] at e;omega
   ·exact h
  rw[ob] at e;obtain⟨c1,c2,c3,c4,c5⟩:=ZcV ys (ps0 (k+1) ys ps) 0 ((ZeK (gsL (k+1) ys ps) ys ps 0 0 !=0,true)::Zqk (gsL (k+1) ys ps) ys ps 0 0 [Zm9 (k+1) ys ps,yes]) wy a1 (by unfold ps0;omega) (by omega) (Za (ZnU ob) a4);have d0:=Zbq _ c1;have lk:(ps0 (k+1) ys ps).length=ps.length:=a2;rw[c2,lk,hK] at d0;rw[lk,hK,show vB (ps0 (k+1) ys ps)=r-2*vB ys+K*1 from e] at c5;have oc:Zhv ys (ps0 (k+1) ys ps) 0=0:=by
   rcases c3 with h | h
   ·exact h
   ·rw[h] at c5;omega
  rw[oc] at c5;obtain⟨x1,x2,x3,x4,x5⟩:=ZcV ys (ps1 (k+1) ys ps) 0 ((Zhv ys (ps0 (k+1) ys ps) 0 !=0,false)::Zu4 ys (ps0 (k+1) ys ps) 0 ((ZeK (gsL (k+1) ys ps) ys ps 0 0 !=0,true)::Zqk (gsL (k+1) ys ps) ys ps 0 0 [Zm9 (k+1) ys ps,yes])) wy c1 (by unfold ps1;omega) (by omega) (Za (ZvI oc) c4);have y0:=Zbq _ x1;have lk1:(ps1 (k+1) ys ps).length=ps.length:=by unfold ps1;omega
  rw[x2,lk1,hK] at y0;have e1:vB (ps1 (k+1) ys ps)=r-vB ys+K:=by unfold ps1;omega
  rw[lk1,hK,e1] at x5;have od:Zhv ys (ps1 (k+1) ys ps) 0=1:=by
   rcases x3 with h | h
   ·rw[h] at x5;omega
   ·exact h
  refine⟨2,by omega,?_,x1,by show (ps2 (k+1) ys ps).length=k+2;unfold ps2;omega,?_,Za (ZnU od) x4⟩
  ·show u64.wrap (u64.wrap (gsL (k+1) ys ps-1)-1)=q;have:u64.wrap (gsL (k+1) ys ps-1)=q+1:=by rw[ZN (by omega) (by unfold zd at wG;omega)];omega
   rw[this,ZN (by omega) (by unfold zd at wG;omega)];omega
  ·show vB (ps2 (k+1) ys ps)=r;unfold ps2;rw[od] at x5;omega
end Go.Proofs.YtekebccjflilnaaGreat
namespace Go.Proofs.YtekebccjflilnaaGreat
open Go.Proofs.Tryz
open Go.KRun Go.Wd
set_option maxRecDepth 100000
theorem ZvJ (v0 v1 v14 v15:Value) (up d0 d1 d2 d3 r0 r1 r2 r3 r4 q0 q1 q2 q3:Int) (a b lw:W4) (g:Nat→Value):Rd (Zi prog Zh zk true) f71 1 0 0 v0 v1 v14 v15 up d0 d1 d2 d3 r0 r1 r2 r3 r4 q0 q1 q2 q3 a b lw g:=by and_intros<;>kernel_rfl
theorem ZvK (v0 v1 v14 v15:Value) (up d0 d1 d2 d3 r0 r1 r2 r3 r4 q0 q1 q2 q3:Int) (a b lw:W4) (g:Nat→Value):Rd (Zi prog Zh zk true) f71 1 0 1 v0 v1 v14 v15 up d0 d1 d2 d3 r0 r1 r2 r3 r4 q0 q1 q2 q3 a b lw g:=by and_intros<;>kernel_rfl
theorem ZvL (v0 v1 v14 v15:Value) (up d0 d1 d2 d3 r0 r1 r2 r3 r4 q0 q1 q2 q3:Int) (a b lw:W4) (g:Nat→Value):Rd (Zi prog Zh zk true) f71 1 0 2 v0 v1 v14 v15 up d0 d1 d2 d3 r0 r1 r2 r3 r4 q0 q1 q2 q3 a b lw g:=by and_intros<;>kernel_rfl
theorem ZvM (v0 v1 v14 v15:Value) (up d0 d1 d2 d3 r0 r1 r2 r3 r4 q0 q1 q2 q3:Int) (a b lw:W4) (g:Nat→Value):Rd (Zi prog Zh zk true) f71 1 1 0 v0 v1 v14 v15 up d0 d1 d2 d3 r0 r1 r2 r3 r4 q0 q1 q2 q3 a b lw g:=by and_intros<;>kernel_rfl
theorem ZvN (v0 v1 v14 v15:Value) (up d0 d1 d2 d3 r0 r1 r2 r3 r4 q0 q1 q2 q3:Int) (a b lw:W4) (g:Nat→Value):Rd (Zi prog Zh zk true) f71 1 1 1 v0 v1 v14 v15 up d0 d1 d2 d3 r0 r1 r2 r3 r4 q0 q1 q2 q3 a b lw g:=by and_intros<;>kernel_rfl
theorem ZvO (v0 v1 v14 v15:Value) (up d0 d1 d2 d3 r0 r1 r2 r3 r4 q0 q1 q2 q3:Int) (a b lw:W4) (g:Nat→Value):Rd (Zi prog Zh zk true) f71 1 1 2 v0 v1 v14 v15 up d0 d1 d2 d3 r0 r1 r2 r3 r4 q0 q1 q2 q3 a b lw g:=by and_intros<;>kernel_rfl
theorem ZvP (v0 v1 v14 v15:Value) (up d0 d1 d2 d3 r0 r1 r2 r3 r4 q0 q1 q2 q3:Int) (a b lw:W4) (g:Nat→Value):Rd (Zi prog Zh zk true) f71 1 2 0 v0 v1 v14 v15 up d0 d1 d2 d3 r0 r1 r2 r3 r4 q0 q1 q2 q3 a b lw g:=by and_intros<;>kernel_rfl
theorem ZvQ (v0 v1 v14 v15:Value) (up d0 d1 d2 d3 r0 r1 r2 r3 r4 q0 q1 q2 q3:Int) (a b lw:W4) (g:Nat→Value):Rd (Zi prog Zh zk true) f71 1 2 1 v0 v1 v14 v15 up d0 d1 d2 d3 r0 r1 r2 r3 r4 q0 q1 q2 q3 a b lw g:=by and_intros<;>kernel_rfl
theorem ZvR (v0 v1 v14 v15:Value) (up d0 d1 d2 d3 r0 r1 r2 r3 r4 q0 q1 q2 q3:Int) (a b lw:W4) (g:Nat→Value):Rd (Zi prog Zh zk true) f71 1 2 2 v0 v1 v14 v15 up d0 d1 d2 d3 r0 r1 r2 r3 r4 q0 q1 q2 q3 a b lw g:=by and_intros<;>kernel_rfl
theorem ZvS (v0 v1 v14 v15:Value) (up d0 d1 d2 d3 r0 r1 r2 r3 r4 q0 q1 q2 q3:Int) (a b lw:W4) (g:Nat→Value):Rd (Zi prog Zh zk true) f71 1 3 0 v0 v1 v14 v15 up d0 d1 d2 d3 r0 r1 r2 r3 r4 q0 q1 q2 q3 a b lw g:=by and_intros<;>kernel_rfl
theorem ZvT (v0 v1 v14 v15:Value) (up d0 d1 d2 d3 r0 r1 r2 r3 r4 q0 q1 q2 q3:Int) (a b lw:W4) (g:Nat→Value):Rd (Zi prog Zh zk true) f71 1 3 1 v0 v1 v14 v15 up d0 d1 d2 d3 r0 r1 r2 r3 r4 q0 q1 q2 q3 a b lw g:=by and_intros<;>kernel_rfl
theorem ZvU (v0 v1 v14 v15:Value) (up d0 d1 d2 d3 r0 r1 r2 r3 r4 q0 q1 q2 q3:Int) (a b lw:W4) (g:Nat→Value):Rd (Zi prog Zh zk true) f71 1 3 2 v0 v1 v14 v15 up d0 d1 d2 d3 r0 r1 r2 r3 r4 q0 q1 q2 q3 a b lw g:=by and_intros<;>kernel_rfl
end Go.Proofs.YtekebccjflilnaaGreat
