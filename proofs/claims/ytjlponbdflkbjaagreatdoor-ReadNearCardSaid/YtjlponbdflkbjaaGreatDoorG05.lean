/-
  RunT, RunU, RunW, RunH, Tab, Hcs, Okl, RunX, RunY, RunZ, TxU, TxA, UuV, UuR, NumN
-/
import Derived.Test.YtjlponbdflkbjaaGreatDoorG04
import Derived.OneCell
import Derived.Laws.Externs
import Derived.Test.YtjlponbdflkbjaaGreatDoorProg
import Derived.Test.YtjlponbdflkbjaaGreatDoorG01
namespace Go.KRun
open Go.RowKit
def tl (n:Nat) (g:Nat→Value):List Value:=(List.range n).map g
theorem ZkU {J:List Value}{n:Nat}(h:J.length=n):∃ g,J=tl n g:=by
 refine⟨fun i=>J.getD i uZ,?_⟩;unfold tl;refine List.ext_getElem (by simp [h]) fun i h1 h2=> ?_;simp [h1]
def Zg (r:Option (Ex×Lf×Lg)) (k n:Nat) (e:Ex) (front:List Value) (h:Hp) (cs:Log):Prop:=
 r.map (fun r=>(r.1,r.2.1.1.take k,(r.2.1.1.drop k).length,r.2.1.2.1,r.2.2.cs))=some (e,front,n,h,cs)∧
  r.map (fun r=>r.2.2.es.map Prod.fst)=r.map (fun r=>r.2.2.es.map Prod.snd)∧r.map (fun r=>r.2.2.bs.map Prod.fst)=r.map (fun r=>r.2.2.bs.map Prod.snd)
def GoesE (r:Option (Ex×Lf×Lg)) (k n:Nat) (e:Ex) (front:List Value) (h:Hp) (cs:Log):Prop:=
 r.map (fun r=>(r.1,r.2.1.1.take k,(r.2.1.1.drop k).length,r.2.1.2.1,r.2.2.cs,r.2.2.es,r.2.2.bs))=some (e,front,n,h,cs,[],[])
theorem GoesE.t {r:Option (Ex×Lf×Lg)}{k n:Nat}{e:Ex}{front:List Value}{h:Hp}{cs:Log}(hG:GoesE r k n e front h cs):Zg r k n e front h cs:=by
 unfold GoesE at hG;cases r with
 | none=>cases hG
 | some r=>
  simp only[Option.map_some,Option.some.injEq,Prod.mk.injEq] at hG;obtain⟨h1,h2,h3,h4,h5,h6,h7⟩:=hG;refine⟨?_,?_,?_⟩
  ·rw[Option.map_some,h1,h2,h3,h4,h5]
  ·simp [h6]
  ·simp [h7]
theorem ZcV {r:Option (Ex×Lf×Lg)}{k n:Nat}{e:Ex}{front:List Value}{h:Hp}{cs:Log}(hG:Zg r k n e front h cs) (hcs:Z3 cs):∃ g s L,r=some (e,(front++tl n g,h,s),L)∧L.ok:=by
 obtain⟨h1,h5,h6⟩:=hG;cases r with
 | none=>cases h1
 | some r=>
  simp only[Option.map_some,Option.some.injEq,Prod.mk.injEq] at h1 h5 h6;obtain⟨e',⟨t',h',s'⟩,L⟩:=r;simp only at h1 h5 h6;obtain⟨h1,h2,h3,h4,h7⟩:=h1;subst h1 h4;obtain⟨g,hg⟩:=ZkU h3;refine⟨g,s',L,?_,by rw[h7];exact hcs,ZdR _ h5,ZdR _ h6⟩;rw[← h2,← hg,List.take_append_drop]
theorem Zb {T:Tab}(hT:TabOk T) {N:Nat}{c:Code}{t:List Value}{h h':Hp}{s s0:List Dec}{k n:Nat}{e:Ex}{front:List Value}{cs:Log}(hG:Zg (evC T N false c (t,h,s) ⟨[],[],[]⟩) k n e front h' cs) (hcs:Z3 cs):
  Runs T c (t,h,s0) fun e' y=>e'=e∧(∃ g,y.1=front++tl n g)∧y.2.1=h':=by
 obtain⟨g,s',L,hr,hL⟩:=ZcV hG hcs;refine Runs.script ((Runs.ev hT hr hL).mono fun e2 y he=> ?_);obtain⟨rfl,rfl⟩:=he;exact⟨rfl,⟨g,rfl⟩,rfl⟩
theorem Zv {T:Tab}(hT:TabOk T) {N:Nat}{l:List Code}{X:Code}{t:List Value}{h h':Hp}{s s0:List Dec}{k n:Nat}{e:Ex}{front:List Value}{cs:Log}{P:Ex→Lf→Prop}(hG:Zg (evL T N l (t,h,s) ⟨[],[],[]⟩) k n e front h' cs) (hcs:Z3 cs)
  (hX:∀ g,Runs T X (front++tl n g,h',[]) P):Runs T (ZW l X) (t,h,s0) P:=by
 obtain⟨g,s',L,hr,hL⟩:=ZcV hG hcs;obtain⟨_,_,h3⟩:=Zs8 (X:=X) (P:=P) hT l _ _ _ _ _ hr hL;exact Runs.script (h3 (Runs.script (hX g)))
theorem zd {T:Tab}{f:Nat}{F:Func}{c:Code}(hF:T.P.funcs[f]? =some F) (hc:F.body=some c) {vals:List Value}{v:Value}{h h':Hp}(hv:lt 0 v=true) (ht:h'.tight=true)
  (hr:Runs T c (vals++List.replicate (F.ntmps-vals.length) uZ,h,[]) fun e y=>(e=none∨e=some none)∧ZV T.P F y.1 y.2.1=some v∧y.2.1.cut h.n=h') (m:Mp) (B:Nat) (w:World) (E:Emb m B h w) (hvals:∀ v∈vals,lt h.n v=true):
  Calls T.P f (vals.map (mv m)).toArray w fun e w'=>∃ m',e= .returned (mv m' v)∧Came m B h w v h' m' w':=by
 refine calls_of_wp hF hc ?_;have R:Rel m B (vals++List.replicate (F.ntmps-vals.length) uZ,h,[]) {tmps:=(vals.map (mv m)).toArray++Array.replicate (F.ntmps-(vals.map (mv m)).toArray.size) uZ,defers:=[]} w:=by
  refine⟨?_,rfl,E,?_⟩
  ·simp [zm]
  ·intro y hy;rcases List.mem_append.1 hy with hy | hy
   ·exact hvals y hy
   ·rw[List.eq_of_mem_replicate hy];simp [uZ,lt]
 refine hr _ _ _ w R _ fun e y he a' w' hR=> ?_;obtain⟨hex,hres,hcut⟩:=he;obtain⟨m',k1,k2,k3,k4⟩:=hR;obtain⟨r1,r2⟩:=Zac k2.emb k2.wf hres;rw[← k2.tmps,ZC hv] at r1;have k4':h.n≤y.2.1.n:=k4;have C:Came m B h w v h' m w':=by
  subst hcut;exact⟨Agree.refl _ _,k2.emb.cut k1 k4' ht,k3,by simp [Hp.cut],zT (Nat.zero_le _) hv⟩
 have post:a'.defers=[]∧∃ v',(results F a'.tmps).run T.P w'= .ok v' w'∧∃ m',Ending.returned v'= .returned (mv m' v)∧Came m B h w v h' m' w':=
  ⟨k2.dfr,_,r1,m,by rw[ZC hv],C⟩
 rcases hex with rfl | rfl<;>exact post
theorem Runs.forLoop {T:Tab}{c:Code}{id:Nat}{x:Lf}{P:Lf→Prop}{R:Lf→Prop}(Inv:Nat→Lf→Prop)
  (round:∀ n x,Inv n x→Runs T c x fun e y=>match e with | none=>∃ n',n'<n∧Inv n' y | some none=>R y | some (some id')=>id'=id∧P y) {n:Nat}(h0:Inv n x):
  Runs T (.block id (.loop c)) x fun e y=>match e with | none=>P y | some none=>R y | some (some _)=>False:=by
 refine Runs.block (P1:=fun e y=>match e with | none=>False | some none=>R y | some (some id')=>id'=id∧P y) ?_ (fun y he=>he.elim) (fun y he=>he) (fun y he=>he.2) (fun id' y hid he=>absurd he.1 hid);refine Runs.loop Inv (fun n x hI=>(round n x hI).mono fun e y he=> ?_) h0
 match e,he with
 | none,he=>exact he
 | some none,he=>exact he
 | some (some id'),he=>exact he
def RunsW (T:Tab) (c:Code) (x:Lf) (Post:Ex→Lf→Prop):Prop:=
 ∀ m B a w,Rel m B x a w→∀ Q:Exit→Act→World→Prop,(∀ e y,Post e y→∀ m' a' w',Rel m' B y a' w'→Below B w w'→Q (out e) a' w')→c.wp T.P Q a w
theorem Runs.w {T:Tab}{c:Code}{x:Lf}{P:Ex→Lf→Prop}(h:Runs T c x P):RunsW T c x P:=fun m B a w R Q hQ=>h m B a w R Q fun e y he a' w' hR=>by
 obtain⟨m',_,k2,k3,_⟩:=hR;exact hQ e y he m' a' w' k2 k3
theorem RunsW.post {T:Tab}{c:Code}{x:Lf}{P P':Ex→Lf→Prop}(h:RunsW T c x P) (hp:∀ e y,P e y→∃ y',P' e y'∧∀ m B a w,Rel m B y a w→∃ m',Rel m' B y' a w):RunsW T c x P':=
 fun m B a w R Q hQ=>h m B a w R Q fun e y he m' a' w' hR hb=>by
  obtain⟨y',h1,h2⟩:=hp e y he;obtain⟨m2,h3⟩:=h2 m' B a' w' hR;exact hQ e y' h1 m2 a' w' h3 hb
theorem RunsW.mono {T:Tab}{c:Code}{x:Lf}{P P':Ex→Lf→Prop}(h:RunsW T c x P) (hp:∀ e y,P e y→P' e y):RunsW T c x P':=h.post fun e y he=>⟨y,hp e y he,fun m _ _ _ R=>⟨m,R⟩⟩
theorem RunsW.seq {T:Tab}{c1 c2:Code}{x:Lf}{P1 P:Ex→Lf→Prop}(h1:RunsW T c1 x P1) (h2:∀ y,P1 none y→RunsW T c2 y P) (h3:∀ e y,P1 (some e) y→P (some e) y):RunsW T (.seq c1 c2) x P:=by
 intro m B a w R Q hQ;refine wp_seq (h1 m B a w R _ fun e y he m' a' w' hR hb=> ?_)
 match e,he with
 | none,he=>exact h2 y he m' B a' w' hR Q fun e' y' he' m'' a'' w'' hR' hb'=>hQ e' y' he' m'' a'' w'' hR' (hb.trans hb')
 | some none,he=>exact hQ _ _ (h3 none y he) m' a' w' hR hb
 | some (some id),he=>exact hQ _ _ (h3 (some id) y he) m' a' w' hR hb
theorem RunsW.block {T:Tab}{c:Code}{id:Nat}{x:Lf}{P1 P:Ex→Lf→Prop}(h1:RunsW T c x P1) (h2:∀ y,P1 none y→P none y) (h3:∀ y,P1 (some none) y→P (some none) y)
  (h4:∀ y,P1 (some (some id)) y→P none y) (h5:∀ id' y,id'≠id→P1 (some (some id')) y→P (some (some id')) y):RunsW T (.block id c) x P:=by
 intro m B a w R Q hQ;refine wp_block (h1 m B a w R _ fun e y he m' a' w' hR hb=> ?_)
 match e,he with
 | none,he=>exact hQ _ _ (h2 y he) m' a' w' hR hb
 | some none,he=>exact hQ _ _ (h3 y he) m' a' w' hR hb
 | some (some id'),he=>
  simp only[out,Exit.inBlock];by_cases hid:id'=id
  ·subst hid;rw[if_pos rfl];exact hQ _ _ (h4 y he) m' a' w' hR hb
  ·rw[if_neg hid];exact hQ _ _ (h5 id' y hid he) m' a' w' hR hb
theorem RunsW.loop {T:Tab}{c:Code}{P:Ex→Lf→Prop}(Inv:Nat→Lf→Prop) (round:∀ n x,Inv n x→RunsW T c x fun e y=>match e with | none=>∃ n',n'<n∧Inv n' y | some e=>P (some e) y) {n:Nat}{x:Lf}(h0:Inv n x):
  RunsW T (.loop c) x P:=by
 have key:∀ N n x,n<N→Inv n x→∀ m B a w,Rel m B x a w→∀ Q:Exit→Act→World→Prop,(∀ e y,P e y→∀ m' a' w',Rel m' B y a' w'→Below B w w'→Q (out e) a' w')→Code.rounds T.P c Q N a w:=by
  intro N
  induction N with
  | zero=>intro n x hn;omega
  | succ N ih=>
   intro n x hn hI m B a w R Q hQ;rw[rounds_succ];refine round n x hI m B a w R _ fun e y he m' a' w' hR hb=> ?_
   match e,he with
   | none,he=>
    obtain⟨n',hn',hI'⟩:=he;exact ih n' y (by omega) hI' m' B a' w' hR Q fun e' y' he' m'' a'' w'' hR' hb'=>hQ e' y' he' m'' a'' w'' hR' (hb.trans hb')
   | some none,he=>exact hQ _ _ he m' a' w' hR hb
   | some (some id),he=>exact hQ _ _ he m' a' w' hR hb
 intro m B a w R Q hQ;exact wp_loop_rounds (n+1) (key (n+1) n x (by omega) h0 m B a w R Q hQ)
theorem Ze4 {T:Tab}{f:Nat}{F:Func}{c:Code}(hF:T.P.funcs[f]? =some F) (hc:F.body=some c) {vals:List Value}{v:Value}(hvals:(vals.all (lt 0))=true) (hv:lt 0 v=true)
  (h:RunsW T c (vals++List.replicate (F.ntmps-vals.length) uZ,⟨0,[]⟩,[]) fun e y=>(e=none∨e=some none)∧ZV T.P F y.1 y.2.1=some v) (w:World):
  Calls T.P f vals.toArray w fun e w'=>e= .returned v∧Zal w w':=by
 have E:Emb (fun b=>(b,0)) w.heap.size ⟨0,[]⟩ w:=
  Emb.none w
 have hst:∀ y∈vals,lt 0 y=true:=List.all_eq_true.1 hvals;have e0:vals.map (mv fun b=>(b,0))=vals:=(List.map_congr_left fun y hy=>ZC (hst y hy)).trans (List.map_id' _);refine calls_of_wp hF hc ?_;have R:Rel (fun b=>(b,0)) w.heap.size (vals++List.replicate (F.ntmps-vals.length) uZ,⟨0,[]⟩,[]) {tmps:=vals.toArray++Array.replicate (F.ntmps-vals.toArray.size) uZ,defers:=[]} w:=by
  refine⟨?_,rfl,E,?_⟩
  ·simp [zm,e0]
  ·intro y hy;rcases List.mem_append.1 hy with hy | hy
   ·exact hst y hy
   ·rw[List.eq_of_mem_replicate hy];simp [uZ,lt]
 refine h _ _ _ w R _ fun e y he m' a' w' k2 k3=> ?_;obtain⟨hex,hres⟩:=he;obtain⟨r1,r2⟩:=Zac k2.emb k2.wf hres;rw[← k2.tmps,ZC hv] at r1;have post:a'.defers=[]∧∃ v',(results F a'.tmps).run T.P w'= .ok v' w'∧(Ending.returned v'= .returned v∧Zal w w'):=
  ⟨k2.dfr,_,r1,rfl,k3,fun k h1 h2=>k2.emb.ice k h1 h2⟩
 rcases hex with rfl | rfl<;>exact post
theorem RunsW.script {T:Tab}{c:Code}{t:List Value}{h:Hp}{s s':List Dec}{P:Ex→Lf→Prop}(hr:RunsW T c (t,h,s) P):RunsW T c (t,h,s') P:=
 fun m B a w R Q hQ=>hr m B a w ⟨R.tmps,R.dfr,R.emb,R.wf⟩ Q hQ
theorem Z0 {T:Tab}(hT:TabOk T) {N:Nat}{l:List Code}{X:Code}{t:List Value}{h h':Hp}{s s0:List Dec}{k n:Nat}{e:Ex}{front:List Value}{cs:Log}{P:Ex→Lf→Prop}(hG:Zg (evL T N l (t,h,s) ⟨[],[],[]⟩) k n e front h' cs) (hcs:Z3 cs)
  (hX:∀ g,RunsW T X (front++tl n g,h',[]) P):RunsW T (ZW l X) (t,h,s0) P:=by
 obtain⟨g,s',L,hr,hL⟩:=ZcV hG hcs;have key:∀ (cs:List Code) (x x':Lf) (L L':Lg) (e:Ex),evL T N cs x L=some (e,x',L')→L'.ok→L.ok∧(RunsW T X x' P→RunsW T (ZW cs X) x P):=by
  intro cs
  induction cs with
  | nil=>
   intro x x' L L' e h hL;simp only[evL] at h;cases h;exact⟨hL,id⟩
  | cons c cs ih=>
   intro x x' L L' e h hL;simp only[evL] at h;split at h
   ·rename_i x1 L1 h1;obtain⟨g1,g3⟩:=ih x1 x' L1 L' e h hL;obtain⟨g4,g5⟩:=(Zic hT N).1 _ _ _ _ _ _ h1 g1;refine⟨g4,fun hX m B a w R Q hQ=>wp_seq (g5 m B a w R _ fun a' w' hR=> ?_)⟩;obtain⟨m',_,k2,k3,_⟩:=hR;exact g3 hX m' B a' w' k2 Q fun e' y' he' m'' a'' w'' hR' hb'=>hQ e' y' he' m'' a'' w'' hR' (k3.trans hb')
   ·cases h
 have r:=(key l _ _ _ _ _ hr hL).2 (RunsW.script (hX g));exact RunsW.script r
def oc1 (bs:List Nat):Value→Bool
 | .pointer (some a)=>bs.contains a.block
 | .slice (some a) _ _=>bs.contains a.block
 | .iface t _=> !(Nat.beq t za)
 | _=>true
def oc2 (bs:List Nat):Value→Bool
 | .agg cs=>cs.toList.all (oc1 bs)
 | v=>oc1 bs v
def oc (bs:List Nat):Value→Bool
 | .tuple vs=>vs.toList.all (oc2 bs)
 | v=>oc2 bs v
theorem Zs9 {m m':Mp}{bs:List Nat}(h:∀ b∈bs,m b=m' b) {v:Value}(hv:oc1 bs v=true):mv1 m v=mv1 m' v:=by
 unfold mv1;split
 ·simp only[oc1,List.contains_iff_mem] at hv;simp [mvA,h _ hv]
 ·simp only[oc1,List.contains_iff_mem] at hv;simp [mvA,h _ hv]
 ·rfl
 ·rfl
theorem ZsA {m m':Mp}{bs:List Nat}(h:∀ b∈bs,m b=m' b) {v:Value}(hv:oc2 bs v=true):mv2 m v=mv2 m' v:=by
 unfold mv2;split
 ·rename_i cs;simp only[oc2,List.all_eq_true] at hv;congr 1;exact Array.map_congr_left fun x hx=>Zs9 h (hv x (by simpa using hx))
 ·rename_i hna;refine Zs9 h ?_;unfold oc2 at hv;split at hv
  ·rename_i cs;exact absurd rfl (hna cs)
  ·exact hv
theorem Zpb {m m':Mp}{bs:List Nat}(h:∀ b∈bs,m b=m' b) {v:Value}(hv:oc bs v=true):mv m v=mv m' v:=by
 unfold mv;split
 ·rename_i vs;simp only[oc,List.all_eq_true] at hv;congr 1;exact Array.map_congr_left fun x hx=>ZsA h (hv x (by simpa using hx))
 ·rename_i hna;refine ZsA h ?_;unfold oc at hv;split at hv
  ·rename_i cs;exact absurd rfl (hna cs)
  ·exact hv
theorem Zid {bs:List Nat}{f:Nat→Nat}{n:Nat}(hf:∀ b∈bs,f b<n) {v:Value}(hv:oc bs v=true):lt n (rn f v)=true:=by
 have h1:∀ v,oc1 bs v=true→lt1 n (rn1 f v)=true:=fun v h=>by
  cases v with
  | pointer a=>
   cases a with
   | none=>rfl
   | some a=>simp only[oc1,List.contains_iff_mem] at h;exact Zo.2 (hf _ h)
  | slice a l c=>
   cases a with
   | none=>rfl
   | some a=>simp only[oc1,List.contains_iff_mem] at h;exact Zo.2 (hf _ h)
  | iface t u=>simp only[oc1,Bool.not_eq_true'] at h;simp [rn1,lt1,h]
  | _=>rfl
 have h2:∀ v,oc2 bs v=true→lt2 n (rn2 f v)=true:=fun v h=>by
  cases v with
  | agg cs=>
   simp only[oc2,lt2,rn2,Array.toList_map,List.all_eq_true,List.mem_map] at*;rintro _ ⟨y,hy,rfl⟩;exact h1 y (h y hy)
  | pointer a=>
   cases a with
   | none=>rfl
   | some a=>exact h1 (.pointer (some a)) h
  | slice a l c=>
   cases a with
   | none=>rfl
   | some a=>exact h1 (.slice (some a) l c) h
  | iface t u=>exact h1 (.iface t u) h
  | _=>rfl
 cases v with
 | tuple cs=>
  simp only[oc,lt,rn,Array.toList_map,List.all_eq_true,List.mem_map] at*;rintro _ ⟨y,hy,rfl⟩;exact h2 y (hv y hy)
 | agg cs=>exact h2 (.agg cs) hv
 | pointer a=>
  cases a with
  | none=>rfl
  | some a=>exact h1 (.pointer (some a)) hv
 | slice a l c=>
  cases a with
  | none=>rfl
  | some a=>exact h1 (.slice (some a) l c) hv
 | iface t u=>exact h1 (.iface t u) hv
 | _=>rfl
def Hp.rows (h:Hp):Prop:=h.l.length=h.n∧∀ b x,h.blk? b=some x→ro x.2=true∧(∀ v∈x.1,still v=true)∧ab x.2=false
def Hp.fits (h0:Hp) (s:Nat→Nat) (h:Hp):Prop:=∀ i x,h0.blk? i=some x→Zak x.2=false→∃ y r,h.blk? (s i)=some y∧Zak y.2=false∧rt y.2=rt x.2∧y.1=x.1++r
theorem Emb.small {m:Mp}{B:Nat}{h h0:Hp}{w:World}{s:Nat→Nat}(E:Emb m B h w) (hr:h0.rows) (hf:h0.fits s h):Emb (fun i=>m (s i)) w.heap.size h0 w where
 len:=hr.1
 lies:=fun b x hb hx=>by
  obtain⟨y,r,h1,h2,h3,h4⟩:=hf b x hb hx;obtain⟨r',z,l0,l1,_⟩:=E.lies _ _ h1 h2;have calm:=(hr.2 b x hb).2.1;have e:x.1.map (mv1 m)=x.1.map (mv1 fun i=>m (s i)):=ZdI calm;rw[h4,List.map_append] at l0 l1;refine⟨r.map (mv1 m)++r',z,?_,?_,fun hro=> ?_⟩
  ·simp at l0 ⊢;omega
  ·rw[← e,l1,List.append_assoc]
  ·rw[(hr.2 b x hb).1] at hro;cases hro
 low:=fun b x hb hro=>by rw[(hr.2 b x hb).1] at hro;cases hro
 ros:=fun b x hb hx _=>by
  obtain⟨y,r,h1,h2,_,_⟩:=hf b x hb hx;exact E.here h1 h2
 inj:=fun b b' x x' hb _ hro=>by rw[(hr.2 b x hb).1] at hro;cases hro
 wf:=fun b x hb v hv=>zg (Nat.lt_of_le_of_lt (Nat.zero_le _) (Hp.blk_lt hb)) ((hr.2 b x hb).2.1 v hv)
 base:=Nat.le_refl _
 ice:=fun k h1 h2=>by omega
 abs:=fun b x hb hx=>by rw[(hr.2 b x hb).2.2] at hx;cases hx
theorem zi {T:Tab}{f:Nat}{F:Func}{c:Code}(hF:T.P.funcs[f]? =some F) (hc:F.body=some c) {h0:Hp}(hr:h0.rows) {vals:List Value}(hvals:∀ v∈vals,lt h0.n v=true) {v:Value}(hv:oc (List.range h0.n) v=true)
  (hrun:Runs T c (vals++List.replicate (F.ntmps-vals.length) uZ,h0,[]) fun e y=>(e=none∨e=some none)∧ZV T.P F y.1 y.2.1=some v)
  {m:Mp}{B:Nat}{h:Hp}{w:World}(E:Emb m B h w) {s:Nat→Nat}(hs:∀ i,i<h0.n→s i<h.n) (hf:h0.fits s h):
  Calls T.P f ((vals.map (rn s)).map (mv m)).toArray w fun e w'=>e= .returned (mv m (rn s v))∧Came m B h w (rn s v) h m w':=by
 have E0:=E.small hr hf;have ev:(vals.map (rn s)).map (mv m)=vals.map (mv fun i=>m (s i)):=by
  rw[List.map_map];exact List.map_congr_left fun y _=>Zdx m s y
 rw[ev];refine calls_of_wp hF hc ?_;have R:Rel (fun i=>m (s i)) w.heap.size (vals++List.replicate (F.ntmps-vals.length) uZ,h0,[]) {tmps:=(vals.map (mv fun i=>m (s i))).toArray++Array.replicate (F.ntmps-(vals.map (mv fun i=>m (s i))).toArray.size) uZ,defers:=[]} w:=by
  refine⟨?_,rfl,E0,?_⟩
  ·simp [zm]
  ·intro y hy;rcases List.mem_append.1 hy with hy | hy
   ·exact hvals y hy
   ·rw[List.eq_of_mem_replicate hy];simp [uZ,lt]
 refine hrun _ _ _ w R _ fun e y he a' w' hR=> ?_;obtain⟨hex,hres⟩:=he;obtain⟨m1,k1,k2,k3,_⟩:=hR;obtain⟨r1,r2⟩:=Zac k2.emb k2.wf hres;rw[← k2.tmps] at r1;have e1:mv m1 v=mv m (rn s v):=by
  rw[Zdx];exact Zpb (fun b hb=>k1 b (by simpa using hb)) hv
 rw[e1] at r1;have td:Zal w w':=⟨k3,fun k h1 h2=>k2.emb.ice k h1 h2⟩;obtain⟨E',hb⟩:=zc E td;have post:a'.defers=[]∧∃ v',(results F a'.tmps).run T.P w'= .ok v' w'∧(Ending.returned v'= .returned (mv m (rn s v))∧Came m B h w (rn s v) h m w'):=
  ⟨k2.dfr,_,r1,rfl,⟨Agree.refl _ _,E',hb,Nat.le_refl _,Zid (fun b hb=>hs b (by simpa using hb)) hv⟩⟩
 rcases hex with rfl | rfl<;>exact post
theorem ZE {T:Tab}{f:Nat}{F:Func}{c:Code}(hF:T.P.funcs[f]? =some F) (hc:F.body=some c) {h0:Hp}(hr:h0.rows) {vals:List Value}(hvals:∀ v∈vals,lt h0.n v=true) {v:Value}{k:Nat}
  {cs:List Value}{ty:TypeId}(hcs:∀ u∈cs,lt1 0 u=true) (hty:ro ty=false)
  (hrun:RunsW T c (vals++List.replicate (F.ntmps-vals.length) uZ,h0,[]) fun e y=>(e=none∨e=some none)∧ZV T.P F y.1 y.2.1=some v∧∃ r,y.2.1.blk? k=some (cs++r,ty))
  (hv0:oc [k] v=true)
  {m:Mp}{B:Nat}{h:Hp}{w:World}(E:Emb m B h w) {s:Nat→Nat}(hf:h0.fits s h):
  Calls T.P f ((vals.map (rn s)).map (mv m)).toArray w fun e w'=>∃ m',e= .returned (mv m' (rn (fun _=>h.n) v))∧Came m B h w (rn (fun _=>h.n) v) (h.push cs ty) m' w':=by
 have E0:=E.small hr hf;have ev:(vals.map (rn s)).map (mv m)=vals.map (mv fun i=>m (s i)):=by
  rw[List.map_map];exact List.map_congr_left fun y _=>Zdx m s y
 rw[ev];refine calls_of_wp hF hc ?_;have R:Rel (fun i=>m (s i)) w.heap.size (vals++List.replicate (F.ntmps-vals.length) uZ,h0,[]) {tmps:=(vals.map (mv fun i=>m (s i))).toArray++Array.replicate (F.ntmps-(vals.map (mv fun i=>m (s i))).toArray.size) uZ,defers:=[]} w:=by
  refine⟨?_,rfl,E0,?_⟩
  ·simp [zm]
  ·intro y hy;rcases List.mem_append.1 hy with hy | hy
   ·exact hvals y hy
   ·rw[List.eq_of_mem_replicate hy];simp [uZ,lt]
 refine hrun _ _ _ w R _ fun e y he m1 a' w' k2 k3=> ?_;obtain⟨hex,hres,r,hblk⟩:=he;obtain⟨r1,r2⟩:=Zac k2.emb k2.wf hres;rw[← k2.tmps] at r1;have td:Zal w w':=⟨k3,fun k h1 h2=>k2.emb.ice k h1 h2⟩;obtain⟨E',hb⟩:=zc E td;have hlow:w.heap.size≤(m1 k).1:=k2.emb.low k _ hblk hty;have hlie:lie w' (m1 k) (cs.map (mv1 m)) ty:=by
  obtain⟨r',z,l0,l1,l2⟩:=k2.emb.lies k _ hblk (Zao hty);have e:cs.map (mv1 m1)=cs.map (mv1 m):=Zb8 hcs;simp only[List.map_append] at l0 l1;refine⟨r.map (mv1 m1)++r',z,?_,?_,l2⟩
  ·simp at l0 ⊢;omega
  ·rw[← e,l1,List.append_assoc]
 have Ea:=E'.adopt cs ty hty (fun u hu=>zl (Nat.zero_le _) (hcs u hu)) hlie (Nat.le_trans E.base hlow) (fun b x hbx hx heq=>by
  have:=E.here hbx (Zao hx);omega)
 have e1:mv m1 v=mv (upd m h.n (m1 k)) (rn (fun _=>h.n) v):=by
  rw[Zdx];refine Zpb (fun b hb=> ?_) hv0;rw[List.mem_singleton.1 hb];simp [upd]
 rw[e1] at r1;have post:a'.defers=[]∧∃ v',(results F a'.tmps).run T.P w'= .ok v' w'∧∃ m',Ending.returned v'= .returned (mv m' (rn (fun _=>h.n) v))∧Came m B h w (rn (fun _=>h.n) v) (h.push cs ty) m' w':=
  ⟨k2.dfr,_,r1,upd m h.n (m1 k),rfl,⟨ZP _ _ _,Ea,hb,Nat.le_succ _,Zid (bs:=[k]) (fun b hb=>by show h.n<h.n+1;omega) hv0⟩⟩
 rcases hex with rfl | rfl<;>exact post
def Z4h:List Value→Option (Value×Log)
 | [.int .u64 x,.int .u64 y,.int .u64 c]=>
  some (.tuple #[.int .u64 ((x+y+c) % 18446744073709551616),.int .u64 ((x+y+c)/18446744073709551616)],[(decide (0≤x∧0≤y∧0≤c∧c≤1),true)])
 | _=>none
theorem Zpc {P:Program}{f:Nat}{F:Func}(hf:P.funcs[f]? =some F) (hn:(F.name== "runtime.NumGoroutine")=false) (hb:F.body.isNone=true) (hx:Extern.findNext F=none) (he:Extern.find F=some add64Entry)
  {vals:List Value}{v:Value}{lg:Log}(h:Z4h vals=some (v,lg)) (hl:Z3 lg) (w:World):(callFunc f vals.toArray).run P w= .ok (.value v) w:=by
 unfold Z4h at h;split at h
 ·rename_i x y c;cases h;have:=hl _ mS;simp only[decide_eq_true_eq] at this;rw[run_callFunc_extern hf hn hb hx he,run_add64 x y c this.1 this.2.1 this.2.2.1 this.2.2.2];rfl
 ·cases h
end Go.KRun
namespace Go.Proofs.YtjlponbdflkbjaaGreatDoor
open Go.Proofs.Tryz
open Go.KRun
theorem Z4H:(prog.funcs.toList.all fun F=> !(F.name== "runtime.NumGoroutine"))=true:=by kernel_rfl
theorem ZbA (f:Nat) (F:Func) (h:prog.funcs[f]? =some F):prog.funcs[f]? =some F∧(F.name== "runtime.NumGoroutine")=false:=
 ⟨h,by simpa using List.all_eq_true.1 Z4H F (by simpa using Array.mem_of_getElem? h)⟩
def Zf:Nat→List Value→Option (Value×Log):=fun f vals=>if f=108 then Z4h vals else none
theorem ZtW {vals:List Value}{v:Value}{lg:Log}(h:Z4h vals=some (v,lg)) (hl:Z3 lg) (w:World):(callFunc 108 vals.toArray).run prog w= .ok (.value v) w:=
 Zpc func108 (by kernel_rfl) (by kernel_rfl) (by kernel_rfl) (by kernel_rfl) h hl w
theorem ZkV (f:Nat) (vals:List Value) (v:Value) (lg:Log) (h:Zf f vals=some (v,lg)) (hl:Z3 lg) (w:World):(callFunc f vals.toArray).run prog w= .ok (.value v) w:=by
 unfold Zf at h;split at h
 ·rename_i hf;subst hf;exact ZtW h hl w
 ·cases h
abbrev Con:=Nat→List Value→List Dec→Option (Value×List Dec×Log)
structure ConOk (con:Con):Prop where
 fn:∀ f vals s v s' lg,con f vals s=some (v,s',lg)→∃ F,prog.funcs[f]? =some F∧F.body.isSome=true
 calls:∀ f vals s v s' lg,con f vals s=some (v,s',lg)→Z3 lg→∀ w,Calls prog f vals.toArray w fun e w'=>e= .returned v∧Zal w w'
def Zn:Con:=fun _ _ _=>none
theorem Zd:ConOk Zn where
 fn:=fun _ _ _ _ _ _ h=>by simp [Zn] at h
 calls:=fun _ _ _ _ _ _ h=>by simp [Zn] at h
def Zk (P:Program) (ext:Nat→List Value→Option (Value×Log)) (con:Con) (sym:Bool):Tab:={P:=P,fn:=fun f=>P.funcs[f]?,ext:=ext,con:=con,sym:=sym}
theorem mixed:prog.follows .mixedOrders=true:=by kernel_rfl
theorem Zj {con:Con}(h:ConOk con):TabOk (Zk prog Zf con true) where
 mixed:=mixed
 ext:=ZkV
 con:=fun f vals s v s' lg hc hl=>⟨by obtain⟨F,h1,h2⟩:=h.fn f vals s v s' lg hc;exact⟨F,(ZbA f F h1).1,(ZbA f F h1).2,h2⟩,h.calls f vals s v s' lg hc hl⟩
 fn:=ZbA
 hc:=fun _ _ _ _ _ _ _ _ h=>by cases h
abbrev Ans:=List Value→List Dec→Option (Value×List Dec×Log)
def ZR (f:Nat) (g:Ans):Prop:=∀ vals s v s' lg,g vals s=some (v,s',lg)→Z3 lg→∀ w,Calls prog f vals.toArray w fun e w'=>e= .returned v∧Zal w w'
def alt (f:Nat) (g:Ans) (rest:Con):Con:=fun f' vals s=>if f'=f then g vals s else rest f' vals s
theorem Z9 {f:Nat}{g:Ans}{rest:Con}{F:Func}(hf:prog.funcs[f]? =some F) (hb:F.body.isSome=true) (hg:ZR f g) (hr:ConOk rest):ConOk (alt f g rest) where
 fn:=fun f' vals s v s' lg h=>by
  unfold alt at h;split at h
  ·rename_i he;subst he;exact⟨F,hf,hb⟩
  ·exact hr.fn _ _ _ _ _ _ h
 calls:=fun f' vals s v s' lg h hl w=>by
  unfold alt at h;split at h
  ·rename_i he;subst he;exact hg _ _ _ _ _ h hl w
  ·exact hr.calls _ _ _ _ _ _ h hl w
end Go.Proofs.YtjlponbdflkbjaaGreatDoor
namespace Go.Proofs.YtjlponbdflkbjaaGreatDoor
open Go.Proofs.Tryz
open Go.IntKind
open Go.KRun
set_option maxRecDepth 100000
theorem Zt {p:Bool×Bool}(h:p.1=p.2):Z3 [p]:=fun x hx=>by rw[List.mem_singleton.1 hx];exact h
theorem Zi {p:Bool×Bool}{l:Log}(h:p.1=p.2) (hl:Z3 l):Z3 (p::l):=fun x hx=>by
 rcases List.mem_cons.1 hx with rfl | hx
 ·exact h
 ·exact hl x hx
theorem Zw {n:Int}(h0: -9223372036854775808≤n) (h1:n≤9223372036854775807):i64.wrap n=n:=by
 simp [IntKind.wrap,IntKind.bits,IntKind.signed];omega
abbrev Hc:=Nat→List Value→Hp→List Dec→Option (Value×Hp×List Dec×Log)
abbrev Zad:=List Value→Hp→List Dec→Option (Value×Hp×List Dec×Log)
def Z8 (f:Nat) (g:Zad):Prop:=∀ vals h s v h' s' lg,g vals h s=some (v,h',s',lg)→Z3 lg→∀ m B w,Emb m B h w→(∀ v∈vals,lt h.n v=true)→Calls prog f (vals.map (mv m)).toArray w fun e w'=>∃ m',e= .returned (mv m' v)∧Came m B h w v h' m' w'
structure HcOk (hc:Hc):Prop where
 fn:∀ f vals h s r,hc f vals h s=some r→∃ F,prog.funcs[f]? =some F∧F.body.isSome=true
 calls:∀ f,Z8 f (hc f)
def hcN:Hc:=fun _ _ _ _=>none
theorem Zam:HcOk hcN:=⟨fun _ _ _ _ _ h=>(by cases h),fun _ _ _ _ _ _ _ _ h=>(by cases h)⟩
def zS (f:Nat) (g:Zad) (hc:Hc):Hc:=fun f' vals h s=>if Nat.beq f' f=true then g vals h s else hc f' vals h s
theorem Z1 {f:Nat}{F:Func}(hF:prog.funcs[f]? =some F) (hb:F.body.isSome=true) {g:Zad}(hg:Z8 f g) {hc:Hc}(h:HcOk hc):HcOk (zS f g hc) where
 fn:=fun f' vals h' s r hr=>by
  unfold zS at hr;split at hr
  ·rename_i e;rw[Nat.eq_of_beq_eq_true e];exact⟨F,hF,hb⟩
  ·exact h.fn _ _ _ _ _ hr
 calls:=fun f' vals h' s v h'' s' lg hr=>by
  unfold zS at hr;split at hr
  ·rename_i e;rw[Nat.eq_of_beq_eq_true e];exact hg _ _ _ _ _ _ _ hr
  ·exact h.calls f' _ _ _ _ _ _ _ hr
def Zr (P:Program) (ext:Nat→List Value→Option (Value×Log)) (con:Con) (hc:Hc):Tab:={P:=P,fn:=fun f=>P.funcs[f]?,ext:=ext,con:=con,sym:=true,hc:=hc}
theorem Zh {con:Con}(h:ConOk con) {hc:Hc}(hh:HcOk hc):TabOk (Zr prog Zf con hc) where
 mixed:=mixed
 ext:=ZkV
 con:=fun f vals s v s' lg hc hl=>⟨by obtain⟨F,h1,h2⟩:=h.fn f vals s v s' lg hc;exact⟨F,(ZbA f F h1).1,(ZbA f F h1).2,h2⟩,h.calls f vals s v s' lg hc hl⟩
 fn:=ZbA
 hc:=fun f vals h0 s v h' s' lg hr hl=>⟨by obtain⟨F,h1,h2⟩:=hh.fn f vals h0 s _ hr;exact⟨F,(ZbA f F h1).1,(ZbA f F h1).2,h2⟩,hh.calls f vals h0 s v h' s' lg hr hl⟩
end Go.Proofs.YtjlponbdflkbjaaGreatDoor
namespace Go.Proofs.YtjlponbdflkbjaaGreatDoor
open Go.KRun
theorem Z4 {a b:Bool}(h:a=b):Z3 [(a,b)]:=fun p hp=>by rw[List.mem_singleton.1 hp];exact h
theorem Za {a b:Bool}{l:Log}(h:a=b) (hl:Z3 l):Z3 ((a,b)::l):=fun p hp=>by
 rcases List.mem_cons.1 hp with rfl | hp
 ·exact h
 ·exact hl p hp
theorem ZcQ {a b:Bool}{l:Log}:Z3 ((a,b)::l)↔a=b∧Z3 l:=⟨fun h=>⟨h _ (mH),fun x hx=>h x (mN _ hx)⟩,fun h=>Za h.1 h.2⟩
theorem ZoA:Z3 []:=fun x hx=>by cases hx
end Go.Proofs.YtjlponbdflkbjaaGreatDoor
namespace Go.KRun
open Go.RowKit
def ml (front:List Value) (b:Nat) (g:Nat→Value) (mid:List Value) (n:Nat) (g':Nat→Value):List Value:=front++(tl b g++(mid++tl n g'))
def ZdS (r:Option (Ex×Lf×Lg)) (a b c n:Nat) (e:Ex) (front mid:List Value) (h:Hp) (cs:Log):Prop:=
 r.map (fun r=>(r.1,r.2.1.1.take a,((r.2.1.1.drop a).take b).length,((r.2.1.1.drop a).drop b).take c,(((r.2.1.1.drop a).drop b).drop c).length,r.2.1.2.1,r.2.2.cs))=some (e,front,b,mid,n,h,cs)∧
  r.map (fun r=>r.2.2.es.map Prod.fst)=r.map (fun r=>r.2.2.es.map Prod.snd)∧r.map (fun r=>r.2.2.bs.map Prod.fst)=r.map (fun r=>r.2.2.bs.map Prod.snd)
theorem Zjx {r:Option (Ex×Lf×Lg)}{a b c n:Nat}{e:Ex}{front mid:List Value}{h:Hp}{cs:Log}(hG:ZdS r a b c n e front mid h cs) (hcs:Z3 cs):∃ g g' s L,r=some (e,(ml front b g mid n g',h,s),L)∧L.ok:=by
 obtain⟨h1,h5,h6⟩:=hG;cases r with
 | none=>cases h1
 | some r=>
  simp only[Option.map_some,Option.some.injEq,Prod.mk.injEq] at h1 h5 h6;obtain⟨e',⟨t',h',s'⟩,L⟩:=r;simp only at h1 h5 h6;obtain⟨h1,h2,h3,h4,h7,h8,h9⟩:=h1;subst h1 h8;obtain⟨g,hg⟩:=ZkU h3;obtain⟨g',hg'⟩:=ZkU h7;refine⟨g,g',s',L,?_,by rw[h9];exact hcs,ZdR _ h5,ZdR _ h6⟩;unfold ml;rw[← h2,← hg,← h4,← hg',List.take_append_drop,List.take_append_drop,List.take_append_drop]
theorem z9 {T:Tab}(hT:TabOk T) {N:Nat}{c:Code}{t:List Value}{h h':Hp}{s s0:List Dec}{a b k n:Nat}{e:Ex}{front mid:List Value}{cs:Log}(hG:ZdS (evC T N false c (t,h,s) ⟨[],[],[]⟩) a b k n e front mid h' cs) (hcs:Z3 cs):
  Runs T c (t,h,s0) fun e' y=>e'=e∧(∃ g g',y.1=ml front b g mid n g')∧y.2.1=h':=by
 obtain⟨g,g',s',L,hr,hL⟩:=Zjx hG hcs;refine Runs.script ((Runs.ev hT hr hL).mono fun e2 y he=> ?_);obtain⟨rfl,rfl⟩:=he;exact⟨rfl,⟨g,g',rfl⟩,rfl⟩
theorem ZtX {m:Mp}{B:Nat}{t t':List Value}{h h':Hp}{s:List Dec}{a:Act}{w:World}(R:Rel m B (t,h,s) a w) (f:Nat→Nat) (hl:h'.l.length=h'.n)
  (hb:∀ i x,h'.blk? i=some x→(∀ v∈x.1,still v=true)∧∃ y r,h.blk? (f i)=some y∧y.2=x.2∧y.1=x.1++r)
  (hi:∀ i j x y,h'.blk? i=some x→h'.blk? j=some y→ro x.2=false→ro y.2=false→f i=f j→i=j)
  (ht:t'.map (mv fun i=>m (f i))=t.map (mv m)) (hw:∀ v∈t',lt h'.n v=true):Rel (fun i=>m (f i)) B (t',h',s) a w:=by
 have E:=R.emb;refine⟨by rw[R.tmps];simp only;rw[ht],R.dfr,?_,hw⟩;refine⟨hl,?_,?_,?_,?_,?_,E.base,E.ice,?_⟩
 ·intro b x hx ht;obtain⟨q1,y,r,q2,q3,q4⟩:=hb b x hx;obtain⟨r0,z,e1,e2,e3⟩:=E.lies (f b) y q2 (by rw[q3];exact ht);rw[q4,List.map_append,ZdI (m':=fun i=>m (f i)) q1] at e1 e2;refine⟨r.map (mv1 m)++r0,z,by rw[← e1];simp;omega,by rw[e2,List.append_assoc],by rw[← q3];exact e3⟩
 ·intro b x hx hr;obtain⟨_,y,r,q2,q3,_⟩:=hb b x hx;exact E.low (f b) y q2 (by rw[q3];exact hr)
 ·intro b x hx ht hr;obtain⟨_,y,r,q2,q3,_⟩:=hb b x hx;exact E.ros (f b) y q2 (by rw[q3];exact ht) (by rw[q3];exact hr)
 ·intro b b' x x' hx hx' hr hr' he;obtain⟨_,y,r,q2,q3,_⟩:=hb b x hx;obtain⟨_,y',r',q2',q3',_⟩:=hb b' x' hx';exact hi b b' x x' hx hx' hr hr' (E.inj _ _ y y' q2 q2' (by rw[q3];exact hr) (by rw[q3'];exact hr') he)
 ·intro b x hx v hv;exact zg (Nat.lt_of_le_of_lt (Nat.zero_le _) (Hp.blk_lt hx)) ((hb b x hx).1 v hv)
 ·intro b x hx ha;obtain⟨q1,y,r,q2,q3,q4⟩:=hb b x hx;obtain⟨e1,r0,t0,z,e2⟩:=E.abs (f b) y q2 (by rw[q3];exact ha);rw[q3] at e1 e2;rw[q4,List.map_append,ZdI (m':=fun i=>m (f i)) q1] at e2;exact⟨e1,r.map (mv1 m)++r0,t0,z,by rw[e2,List.append_assoc]⟩
theorem Z8H {m:Mp}(f:Nat→Nat) {front front' rest:List Value}(h:front'.map (rn f)=front):(front'++rest.map (fun v=>Value.iface za (mv m v))).map (mv fun i=>m (f i))=(front++rest).map (mv m):=by
 rw[List.map_append,List.map_append,← h,List.map_map,List.map_map];congr 1
 ·exact List.map_congr_left fun v _=>(Zdx m f v).symm
theorem RunsW.small {T:Tab}{c:Code}{x:Lf}{P:Ex→Lf→Prop}(hr:RunsW T c x P) {P':Ex→Lf→Prop}
  (hp:∀ e y,P e y→P' e y∨∃ (front front' rest:List Value) (h h':Hp) (s:List Dec) (f:Nat→Nat),y=(front++rest,h,s)∧front'.map (rn f)=front∧h'.l.length=h'.n∧0<h'.n∧
   (∀ i x,h'.blk? i=some x→(∀ v∈x.1,still v=true)∧∃ y r,h.blk? (f i)=some y∧y.2=x.2∧y.1=x.1++r)∧
   (∀ i j x y,h'.blk? i=some x→h'.blk? j=some y→ro x.2=false→ro y.2=false→f i=f j→i=j)∧(∀ v∈front',lt h'.n v=true)∧∀ g,P' e (front'++tl rest.length g,h',s)):RunsW T c x P':=by
 intro m B a w R Q hQ;refine hr m B a w R Q fun e y he m' a' w' R' hb'=> ?_;rcases hp e y he with h1 | ⟨front,front',rest,h,h',s,f,rfl,e1,e2,e3,e4,e5,e6,e7⟩
 ·exact hQ e y h1 m' a' w' R' hb'
 ·obtain⟨g,hg⟩:=ZkU (J:=rest.map (fun v=>Value.iface za (mv m' v))) (n:=rest.length) (by simp);refine hQ e _ (e7 g) _ a' w' (ZtX R' f e2 e4 e5 (by rw[← hg];exact Z8H f e1) ?_) hb';intro v hv;rw[← hg] at hv;rcases List.mem_append.1 hv with hv | hv
  ·exact e6 v hv
  ·obtain⟨u,_,rfl⟩:=List.mem_map.1 hv;simp [lt,lt2,lt1,e3,za]
theorem RunsW.forLoop {T:Tab}{c:Code}{id:Nat}{x:Lf}{P:Lf→Prop}{R:Lf→Prop}(Inv:Nat→Lf→Prop)
  (round:∀ n x,Inv n x→RunsW T c x fun e y=>match e with | none=>∃ n',n'<n∧Inv n' y | some none=>R y | some (some id')=>id'=id∧P y) {n:Nat}(h0:Inv n x):
  RunsW T (.block id (.loop c)) x fun e y=>match e with | none=>P y | some none=>R y | some (some _)=>False:=by
 refine RunsW.block (P1:=fun e y=>match e with | none=>False | some none=>R y | some (some id')=>id'=id∧P y) ?_ (fun y he=>he.elim) (fun y he=>he) (fun y he=>he.2) (fun id' y hid he=>absurd he.1 hid);refine RunsW.loop Inv (fun n x hI=>(round n x hI).mono fun e y he=> ?_) h0
 match e,he with
 | none,he=>exact he
 | some none,he=>exact he
 | some (some id'),he=>exact he
theorem Ze {T:Tab}(hT:TabOk T) {N:Nat}{c:Code}{t:List Value}{h h':Hp}{s s0:List Dec}{k n:Nat}{e:Ex}{front:List Value}{cs:Log}(hG:Zg (evC T N false c (t,h,s) ⟨[],[],[]⟩) k n e front h' cs) (hcs:Z3 cs):
  RunsW T c (t,h,s0) fun e' y=>e'=e∧(∃ g,y.1=front++tl n g)∧y.2.1=h':=(Zb hT hG hcs).w
theorem ZkW (n:Nat) (g:Nat→Value):(tl n g).length=n:=by simp [tl]
theorem ZkX {x y:List Value×TypeId}{i:Nat}{z:List Value×TypeId}(h:(⟨2,[y,x]⟩:Hp).blk? i=some z):(i=0∧z=x)∨(i=1∧z=y):=by
 have:i<2:=Hp.blk_lt h;have:i=0∨i=1:=by omega
 rcases this with rfl | rfl
 ·exact .inl ⟨rfl,(Option.some.inj h).symm⟩
 ·exact .inr ⟨rfl,(Option.some.inj h).symm⟩
def zA (k b:Nat) (i:Nat):Nat:=if Nat.blt i k=true then i else b
theorem Zjy {base:List (List Value×TypeId)}{k:Nat}(hk:base.length=k) {y:List Value×TypeId}{i:Nat}{z:List Value×TypeId}(h:(⟨k+1,y::base⟩:Hp).blk? i=some z):(i<k∧(⟨k,base⟩:Hp).blk? i=some z)∨(i=k∧z=y):=by
 have hi:i<k+1:=Hp.blk_lt h;by_cases h0:i=k
 ·subst h0;have:(⟨i+1,y::base⟩:Hp).blk? i=some y:=by
   unfold Hp.blk?;rw[if_pos (Zo.2 (by show i<i+1;omega))];show (y::base)[i+1-1-i]? =some y;rw[show i+1-1-i=0 from by omega];rfl
  rw[this] at h;exact .inr ⟨rfl,(Option.some.inj h).symm⟩
 ·refine .inl ⟨by omega,?_⟩;unfold Hp.blk? at h ⊢;rw[if_pos (Zo.2 (by show i<k+1;omega))] at h;rw[if_pos (Zo.2 (by show i<k;omega))];have e:k+1-1-i=(k-1-i)+1:=by omega
  have h':(y::base)[k+1-1-i]? =some z:=h;rw[e,List.getElem?_cons_succ] at h';exact h'
theorem RunsW.kept {T:Tab}{c:Code}{x0:Lf}{ex:Ex}{front front':List Value}{n k b:Nat}{h:Hp}{base:List (List Value×TypeId)}{y:List Value×TypeId}(hr:RunsW T c x0 fun e z=>e=ex∧(∃ g,z.1=front++tl n g)∧z.2.1=h)
  (hk:base.length=k) (hf:front'.map (rn (zA k b))=front) (hx:∀ i x,(⟨k,base⟩:Hp).blk? i=some x→h.blk? i=some x∧∀ v∈x.1,still v=true) (hy:h.blk? b=some y) (hb:k≤b) (sy:∀ v∈y.1,still v=true) (hw:∀ v∈front',lt (k+1) v=true):
  RunsW T c x0 fun e z=>e=ex∧(∃ g,z.1=front'++tl n g)∧z.2.1=⟨k+1,y::base⟩:=by
 refine hr.small fun e z he=> .inr ?_;obtain⟨rfl,⟨g,h1⟩,h2⟩:=he;obtain⟨t,h',s⟩:=z;simp only at h1 h2;subst h1 h2;refine⟨front,front',tl n g,h',⟨k+1,y::base⟩,s,zA k b,rfl,hf,by simp [hk],Nat.succ_pos _,fun i z hz=> ?_,fun i j u v hi hj _ _ hij=> ?_,hw,fun g'=>⟨rfl,⟨g',by rw[ZkW]⟩,rfl⟩⟩
 ·rcases Zjy hk hz with ⟨hi,hz'⟩ | ⟨rfl,rfl⟩
  ·obtain⟨q1,q2⟩:=hx i z hz';exact⟨q2,z,[],by unfold zA;rw[if_pos (Zo.2 hi)];exact q1,rfl,by simp⟩
  ·exact⟨sy,z,[],by unfold zA;rw[if_neg (by rw[Zo];omega)];exact hy,rfl,by simp⟩
 ·unfold zA at hij;rcases Zjy hk hi with ⟨h1,_⟩ | ⟨rfl,_⟩<;>rcases Zjy hk hj with ⟨h2,_⟩ | ⟨rfl,_⟩
  ·rw[if_pos (Zo.2 h1),if_pos (Zo.2 h2)] at hij;exact hij
  ·rw[if_pos (Zo.2 h1),if_neg (by rw[Zo];omega)] at hij;omega
  ·rw[if_pos (Zo.2 h2),if_neg (by rw[Zo];omega)] at hij;omega
  ·rfl
theorem ZB {T:Tab}{f:Nat}{F:Func}{c:Code}(hF:T.P.funcs[f]? =some F) (hc:F.body=some c) {h0:Hp}(hr:h0.rows) {vals:List Value}(hvals:∀ v∈vals,lt h0.n v=true) {v:Value}(hv:lt 0 v=true)
  (hrun:RunsW T c (vals++List.replicate (F.ntmps-vals.length) uZ,h0,[]) fun e y=>(e=none∨e=some none)∧ZV T.P F y.1 y.2.1=some v)
  {m:Mp}{B:Nat}{h:Hp}{w:World}(E:Emb m B h w) {s:Nat→Nat}(hf:h0.fits s h):
  Calls T.P f ((vals.map (rn s)).map (mv m)).toArray w fun e w'=>∃ m',e= .returned (mv m' v)∧Came m B h w v h m' w':=by
 have E0:=E.small hr hf;have ev:(vals.map (rn s)).map (mv m)=vals.map (mv fun i=>m (s i)):=by
  rw[List.map_map];exact List.map_congr_left fun y _=>Zdx m s y
 rw[ev];refine calls_of_wp hF hc ?_;have R:Rel (fun i=>m (s i)) w.heap.size (vals++List.replicate (F.ntmps-vals.length) uZ,h0,[]) {tmps:=(vals.map (mv fun i=>m (s i))).toArray++Array.replicate (F.ntmps-(vals.map (mv fun i=>m (s i))).toArray.size) uZ,defers:=[]} w:=by
  refine⟨?_,rfl,E0,?_⟩
  ·simp [zm]
  ·intro y hy;rcases List.mem_append.1 hy with hy | hy
   ·exact hvals y hy
   ·rw[List.eq_of_mem_replicate hy];simp [uZ,lt]
 refine hrun _ _ _ w R _ fun e y he m1 a' w' k2 k3=> ?_;obtain⟨hex,hres⟩:=he;obtain⟨r1,r2⟩:=Zac k2.emb k2.wf hres;rw[← k2.tmps,ZC hv] at r1;have td:Zal w w':=⟨k3,fun k h1 h2=>k2.emb.ice k h1 h2⟩;obtain⟨E',hb⟩:=zc E td;have post:a'.defers=[]∧∃ v',(results F a'.tmps).run T.P w'= .ok v' w'∧∃ m',Ending.returned v'= .returned (mv m' v)∧Came m B h w v h m' w':=
  ⟨k2.dfr,_,r1,m,by rw[ZC hv],⟨Agree.refl _ _,E',hb,Nat.le_refl _,zT (Nat.zero_le _) hv⟩⟩
 rcases hex with rfl | rfl<;>exact post
theorem Zpd {k n:Nat}{base l:List (List Value×TypeId)}(hn:n=l.length+k) {i:Nat}(hi:i<k):(⟨n,l++base⟩:Hp).blk? i=(⟨k,base⟩:Hp).blk? i:=by
 unfold Hp.blk?;rw[if_pos (Zo.2 (by show i<n;omega)),if_pos (Zo.2 hi)];show (l++base)[n-1-i]? =base[k-1-i]?;rw[List.getElem?_append_right (by omega)];congr 1;omega
theorem RunsW.pre {T:Tab}{c:Code}{P:Ex→Lf→Prop}{f1 f2:List Value}{u:Value}{n k N:Nat}{extra base:List (List Value×TypeId)}{s s':List Dec}{g:Nat→Value}(h:∀ j g,RunsW T c ((f1++j::f2)++tl n g,⟨k,base⟩,s') P)
  (hk:base.length=k) (hN:N=extra.length+k) (h0:0<k) (hb:∀ x∈base,∀ v∈x.1,lt1 k v=true) (h1:∀ v∈f1,lt k v=true) (h2:∀ v∈f2,lt k v=true):
  RunsW T c ((f1++u::f2)++tl n g,⟨N,extra++base⟩,s) P:=by
 intro m B a w R Q hQ;obtain⟨g',hg'⟩:=ZkU (J:=(tl n g).map (fun v=>Value.iface za (mv m v))) (n:=n) (by simp [ZkW]);refine h (Value.iface za (mv m u)) g' m B a w ?_ Q hQ;have E:=R.emb;have sub:∀ i x,(⟨k,base⟩:Hp).blk? i=some x→(⟨N,extra++base⟩:Hp).blk? i=some x:=fun i x hx=>by
  rw[Zpd hN (Hp.blk_lt hx)];exact hx
 have mem:∀ i x,(⟨k,base⟩:Hp).blk? i=some x→x∈base:=fun i x hx=>by
  unfold Hp.blk? at hx;split at hx
  ·exact List.mem_of_getElem? hx
  ·cases hx
 have ltd:∀ v:Value,lt k (Value.iface za v)=true:=fun v=>by simp [lt,lt2,lt1,h0]
 have mvd:∀ v:Value,mv m (Value.iface za (mv m v))=mv m v:=fun v=>by simp [mv,mv2,mv1]
 refine⟨?_,R.dfr,⟨hk,fun b x hx ht=>E.lies b x (sub b x hx) ht,fun b x hx hro=>E.low b x (sub b x hx) hro,fun b x hx ht hro=>E.ros b x (sub b x hx) ht hro,fun b b' x x' hx hx' hro hro' he=>E.inj b b' x x' (sub b x hx) (sub b' x' hx') hro hro' he,fun b x hx v hv=>hb x (mem b x hx) v hv,E.base,E.ice,fun b x hx ha=>E.abs b x (sub b x hx) ha⟩,?_⟩
 ·rw[R.tmps];simp only[List.map_append,List.map_cons,mvd,← hg',List.map_map];congr 2
 ·intro v hv;rcases List.mem_append.1 hv with hv | hv
  ·rcases List.mem_append.1 hv with hv | hv
   ·exact h1 v hv
   ·rcases List.mem_cons.1 hv with rfl | hv
    ·exact ltd _
    ·exact h2 v hv
  ·rw[← hg'] at hv;obtain⟨y,_,rfl⟩:=List.mem_map.1 hv;exact ltd _
theorem ZcW {T:Tab}{f:Nat}{F:Func}{c:Code}(hF:T.P.funcs[f]? =some F) (hc:F.body=some c) {h0:Hp}(hr:h0.rows) {vals:List Value}(hvals:∀ v∈vals,lt h0.n v=true) {v:Nat→Value}
  {cs:List Value}{ty:TypeId}(hcs:∀ u∈cs,lt1 0 u=true) (hty:ro ty=false)
  (hrun:RunsW T c (vals++List.replicate (F.ntmps-vals.length) uZ,h0,[]) fun e y=>(e=none∨e=some none)∧∃ k,ZV T.P F y.1 y.2.1=some (v k)∧∃ r,y.2.1.blk? k=some (cs++r,ty))
  (hv0:∀ k,oc [k] (v k)=true)
  {m:Mp}{B:Nat}{h:Hp}{w:World}(E:Emb m B h w) {s:Nat→Nat}(hf:h0.fits s h) (hv1:∀ k,rn (fun _=>h.n) (v k)=v h.n):
  Calls T.P f ((vals.map (rn s)).map (mv m)).toArray w fun e w'=>∃ m',e= .returned (mv m' (v h.n))∧Came m B h w (v h.n) (h.push cs ty) m' w':=by
 have E0:=E.small hr hf;have ev:(vals.map (rn s)).map (mv m)=vals.map (mv fun i=>m (s i)):=by
  rw[List.map_map];exact List.map_congr_left fun y _=>Zdx m s y
 rw[ev];refine calls_of_wp hF hc ?_;have R:Rel (fun i=>m (s i)) w.heap.size (vals++List.replicate (F.ntmps-vals.length) uZ,h0,[]) {tmps:=(vals.map (mv fun i=>m (s i))).toArray++Array.replicate (F.ntmps-(vals.map (mv fun i=>m (s i))).toArray.size) uZ,defers:=[]} w:=by
  refine⟨?_,rfl,E0,?_⟩
  ·simp [zm]
  ·intro y hy;rcases List.mem_append.1 hy with hy | hy
   ·exact hvals y hy
   ·rw[List.eq_of_mem_replicate hy];simp [uZ,lt]
 refine hrun _ _ _ w R _ fun e y he m1 a' w' k2 k3=> ?_;obtain⟨hex,k,hres,r,hblk⟩:=he;obtain⟨r1,r2⟩:=Zac k2.emb k2.wf hres;rw[← k2.tmps] at r1;have td:Zal w w':=⟨k3,fun k h1 h2=>k2.emb.ice k h1 h2⟩;obtain⟨E',hb⟩:=zc E td;have hlow:w.heap.size≤(m1 k).1:=k2.emb.low k _ hblk hty;have hlie:lie w' (m1 k) (cs.map (mv1 m)) ty:=by
  obtain⟨r',z,l0,l1,l2⟩:=k2.emb.lies k _ hblk (Zao hty);have e:cs.map (mv1 m1)=cs.map (mv1 m):=Zb8 hcs;simp only[List.map_append] at l0 l1;refine⟨r.map (mv1 m1)++r',z,?_,?_,l2⟩
  ·simp at l0 ⊢;omega
  ·rw[← e,l1,List.append_assoc]
 have Ea:=E'.adopt cs ty hty (fun u hu=>zl (Nat.zero_le _) (hcs u hu)) hlie (Nat.le_trans E.base hlow) (fun b x hbx hx heq=>by
  have:=E.here hbx (Zao hx);omega)
 have e1:mv m1 (v k)=mv (upd m h.n (m1 k)) (v h.n):=by
  rw[← hv1 k,Zdx];refine Zpb (fun b hb=> ?_) (hv0 k);rw[List.mem_singleton.1 hb];simp [upd]
 rw[e1] at r1;have hlt:lt (h.n+1) (v h.n)=true:=by rw[← hv1 k];exact Zid (bs:=[k]) (fun b hb=>by show h.n<h.n+1;omega) (hv0 k)
 have post:a'.defers=[]∧∃ v',(results F a'.tmps).run T.P w'= .ok v' w'∧∃ m',Ending.returned v'= .returned (mv m' (v h.n))∧Came m B h w (v h.n) (h.push cs ty) m' w':=
  ⟨k2.dfr,_,r1,upd m h.n (m1 k),rfl,⟨ZP _ _ _,Ea,hb,Nat.le_succ _,hlt⟩⟩
 rcases hex with rfl | rfl<;>exact post
end Go.KRun
namespace Go.Proofs.YtjlponbdflkbjaaGreatDoor.Na
open Go.KRun
set_option maxRecDepth 100000
theorem ZyO:Z3 []:=fun _ h=>by cases h
def bS (l:List UInt8):Value:= .string ⟨⟨l⟩⟩
theorem Zjz (l l':List UInt8):((⟨⟨l⟩⟩:ByteArray)==⟨⟨l'⟩⟩)=decide (l=l'):=by
 rw[beq_toListBytes,ByteArray.toList_eq,ByteArray.toList_eq];show (l==l')=decide (l=l');by_cases h:l=l'
 ·rw[dT h];simpa using h
 ·rw[dF h];simpa using h
end Go.Proofs.YtjlponbdflkbjaaGreatDoor.Na
namespace Go.Proofs.YtjlponbdflkbjaaGreatDoor.Na
open Go.Proofs.Tryz
open Go.KRun
set_option maxRecDepth 100000
def tlP (F:Func):Code:=Z2 (Zs F)
def tlL (F:Func):Code:=cIn (cIn (Z2 (Zz (Zs F))))
def tlE (F:Func):Code:=Zz (Zz (Zs F))
theorem ZtY:f101.body=some (ZW [tlP f101] (.seq (.block 0 (.loop (tlL f101))) (tlE f101))):=by kernel_rfl
def tlF (l:List UInt8) (c:Int):List Value:=[bS l,.int .u8 c,uZ,uZ,bS []]
theorem Zz2 (l:List UInt8) (c:Int):Zg (evL (Zk prog Zf Zn true) 100 [tlP f101] ([bS l,.int .u8 c]++List.replicate 15 uZ,⟨0,[]⟩,[]) ⟨[],[],[]⟩) 5 12 none (tlF l c) ⟨0,[]⟩ []:=by and_intros<;>kernel_rfl
theorem Z4I (x:UInt8) (l:List UInt8) (c:Int) (g:Nat→Value):Zg (evC (Zk prog Zf Zn true) 100 false (tlL f101) (tlF (x::l) c++tl 12 g,⟨0,[]⟩,[cmp true,cmp true,sam true]) ⟨[],[],[]⟩) 5 12 none (tlF l c) ⟨0,[]⟩ [(decide ((0:Int)≤1∧(1:Int)≤((x::l).length:Nat)),true),(((x.toNat:Nat):Int)==c,true),(decide ((0:Int)≤0∧0<(x::l).length),true),(decide ((((x::l).length:Nat):Int)>0),true)]:=by and_intros<;>kernel_rfl
theorem Zz3 (x:UInt8) (l:List UInt8) (c:Int) (g:Nat→Value):Zg (evC (Zk prog Zf Zn true) 100 false (tlL f101) (tlF (x::l) c++tl 12 g,⟨0,[]⟩,[cmp true,cmp false]) ⟨[],[],[]⟩) 5 12 (some (some 0)) (tlF (x::l) c) ⟨0,[]⟩ [(((x.toNat:Nat):Int)==c,false),(decide ((0:Int)≤0∧0<(x::l).length),true),(decide ((((x::l).length:Nat):Int)>0),true)]:=by and_intros<;>kernel_rfl
theorem Zz4 (c:Int) (g:Nat→Value):Zg (evC (Zk prog Zf Zn true) 100 false (tlL f101) (tlF [] c++tl 12 g,⟨0,[]⟩,[cmp false]) ⟨[],[],[]⟩) 5 12 (some (some 0)) (tlF [] c) ⟨0,[]⟩ [(decide (((0:Nat):Int)>0),false)]:=by and_intros<;>kernel_rfl
theorem Zz5 (l:List UInt8) (c:Int) (g:Nat→Value):Zg (evC (Zk prog Zf Zn true) 100 false (tlE f101) (tlF l c++tl 12 g,⟨0,[]⟩,[]) ⟨[],[],[]⟩) 5 12 (some none) [bS l,.int .u8 c,uZ,uZ,bS l] ⟨0,[]⟩ []:=by and_intros<;>kernel_rfl
def trL (c:Int) (l:List UInt8):List UInt8:=l.dropWhile fun x=>((x.toNat:Nat):Int)==c
theorem ZtZ (c:Int) (L:List UInt8) (n:Nat) (x:Lf) (h:∃ (l:List UInt8) (g:Nat→Value),x.1=tlF l c++tl 12 g∧x.2.1=⟨0,[]⟩∧trL c l=trL c L∧n=l.length):Runs (Zk prog Zf Zn true) (tlL f101) x fun e y=>match e with | none=>∃ n',n'<n∧∃ (l:List UInt8) (g:Nat→Value),y.1=tlF l c++tl 12 g∧y.2.1=⟨0,[]⟩∧trL c l=trL c L∧n'=l.length | some none=>False | some (some id')=>id'=0∧∃ g:Nat→Value,y.1=tlF (trL c L) c++tl 12 g∧y.2.1=⟨0,[]⟩:=by
 obtain⟨l,g,e1,e2,h1,h2⟩:=h;obtain⟨t,hh,s⟩:=x;have e1:t=_:=e1;have e2:hh=_:=e2;subst e1 e2;have T:=Zj Zd;cases l with
 | nil=>
  refine (Zb T (Zz4 c g) (Z4 (by decide))).mono fun e z he=> ?_;obtain⟨rfl,⟨g',z1⟩,z2⟩:=he;have:trL c L=[]:=h1.symm;rw[this];exact⟨rfl,g',z1,z2⟩
 | cons x l=>
  by_cases hx:((x.toNat:Nat):Int)=c
  ·refine (Zb T (Z4I x l c g) (Za (dT (by rw[List.length_cons];omega)) (Za (by simpa using hx) (Za (dT (by rw[List.length_cons];omega)) (Z4 (dT (by rw[List.length_cons];omega))))))).mono fun e z he=> ?_;obtain⟨rfl,⟨g',z1⟩,z2⟩:=he;refine⟨l.length,by rw[h2,List.length_cons];omega,l,g',z1,z2,?_,rfl⟩;rw[← h1];unfold trL;rw[List.dropWhile_cons_of_pos (by simpa using hx)]
  ·refine (Zb T (Zz3 x l c g) (Za (by simpa using hx) (Za (dT (by rw[List.length_cons];omega)) (Z4 (dT (by rw[List.length_cons];omega)))))).mono fun e z he=> ?_;obtain⟨rfl,⟨g',z1⟩,z2⟩:=he;have:trL c L=x::l:=by
    rw[← h1];unfold trL;rw[List.dropWhile_cons_of_neg (by simpa using hx)]
   rw[this];exact⟨rfl,g',z1,z2⟩
theorem ZkY (l:List UInt8) (c:Int) (w:World):Calls prog 101 #[bS l,.int .u8 c] w fun r w'=>r= .returned (bS (trL c l))∧Zal w w':=by
 have hT:=Zj Zd;refine ZJ (T:=Zk prog Zf Zn true) func101 ZtY (by rfl) (by rfl) ?_ w;refine Zv hT (Zz2 l c) ZyO fun g=> ?_;refine Runs.seq (P1:=fun e y=>e=none∧∃ g:Nat→Value,y.1=tlF (trL c l) c++tl 12 g∧y.2.1=⟨0,[]⟩) ?_ ?_ (fun e y he=>by cases he.1)
 ·refine (Runs.forLoop (R:=fun _=>False) (P:=fun y=>∃ g:Nat→Value,y.1=tlF (trL c l) c++tl 12 g∧y.2.1=⟨0,[]⟩) (fun n x=>∃ (l':List UInt8) (g:Nat→Value),x.1=tlF l' c++tl 12 g∧x.2.1=⟨0,[]⟩∧trL c l'=trL c l∧n=l'.length) (ZtZ c l) (n:=l.length) ⟨l,g,rfl,rfl,rfl,rfl⟩).mono fun e z hz=> ?_
  match e,hz with
  | none,hz=>exact⟨rfl,hz⟩
 ·intro y he;obtain⟨_,g',e1,e2⟩:=he;obtain⟨t,hh,s⟩:=y;have e1:t=_:=e1;have e2:hh=_:=e2;subst e1 e2;refine (Zb hT (Zz5 (trL c l) c g') ZyO).mono fun e z hz=> ?_;obtain⟨rfl,⟨g2,z1⟩,z2⟩:=hz;exact⟨.inr rfl,by rw[z1,z2];rfl⟩
def Z4J:Ans:=fun vals s=>
 match vals with
 | [.string b,.int .u8 c]=>some (bS (trL c b.data.toList),s,[])
 | _=>none
theorem Zua:ZR 101 Z4J:=by
 intro vals s v s' lg h hl w;unfold Z4J at h;split at h
 ·cases h;exact ZkY _ _ w
 ·cases h
def Zub:Con:=alt 101 Z4J Zn
theorem Zie:ConOk Zub:=Z9 func101 rfl Zua Zd
theorem Z8I (l:List UInt8):Z7 (Zm (Zk prog Zf Zub true) 100 71 [bS l,bS [48]] [sam true]) (bS l) [((⟨⟨l⟩⟩:ByteArray)==⟨⟨[]⟩⟩,true)]:=by and_intros<;>kernel_rfl
theorem Z8J (l:List UInt8):Z7 (Zm (Zk prog Zf Zub true) 100 71 [bS l,bS [48]] [sam false]) (bS (trL 48 l)) [(true,true),(true,true),((⟨⟨l⟩⟩:ByteArray)==⟨⟨[]⟩⟩,false)]:=by and_intros<;>kernel_rfl
def Z4K:Ans:=fun vals s=>
 match vals with
 | [.string b,.string ⟨⟨[c]⟩⟩]=>some (bS (trL 48 b.data.toList),s,[(decide (c=48),true)])
 | _=>none
theorem Zuc:ZR 71 Z4K:=by
 intro vals s v s' lg h hl w;unfold Z4K at h;split at h
 ·rename_i b c;cases h;have hc:=oT (hl _ mS);subst hc;by_cases hn:b.data.toList=[]
  ·have:=Zc (Zj Zie) (Z8I b.data.toList) (Z4 ((Zjz _ _).trans (dT hn))) (by rfl) (by rfl) w;rw[hn] at this ⊢;have hb:b=⟨⟨[]⟩⟩:=by
    apply ByteArray.ext;apply Array.ext';exact hn
   rw[hb];exact this
  ·exact Zc (Zj Zie) (Z8J b.data.toList) (Za rfl (Za rfl (Z4 ((Zjz _ _).trans (dF hn))))) (by rfl) (by rfl) w
 ·cases h
end Go.Proofs.YtjlponbdflkbjaaGreatDoor.Na
namespace Go.Proofs.YtjlponbdflkbjaaGreatDoor.Na
open Go.KRun
set_option maxRecDepth 100000
def uu (n:Int):Value:= .int .u32 n
def inR (i:Int) (n:Nat):Bool×Bool:=(decide (0≤i∧i<n),true)
def Zdr (l:List Value) (o:Nat) (i x:Int):Bool×Bool:=(Z5 (l[o+i.toNat*1]?) (uu x),true)
end Go.Proofs.YtjlponbdflkbjaaGreatDoor.Na
namespace Go.Nt
def Zl:List Int→Nat
 | []=>0
 | x::r=>if Zl r=0 then (if x=0 then 0 else 1) else Zl r+1
theorem Za4:∀ L:List Int,Zl L≤L.length
 | []=>Nat.le_refl _
 | x::r=>by
  have:=Za4 r;unfold Zl;split
  ·split<;>simp
  ·simp;omega
theorem ZeO:∀ (L:List Int) (i:Nat),Zl L≤i→L.getD i 0=0
 | [],i,_=>by simp
 | x::r,i,h=>by
  unfold Zl at h;cases i with
  | zero=>
   split at h
   ·split at h
    ·rename_i h1;simp [h1]
    ·omega
   ·omega
  | succ i=>
   have:=ZeO r i (by split at h<;>(try split at h)<;>omega);simpa using this
theorem Zct:∀ L:List Int,Zl L=0∨L.getD (Zl L-1) 0≠0
 | []=> .inl rfl
 | x::r=>by
  have ih:=Zct r;unfold Zl;split
  ·split
   ·exact .inl rfl
   ·rename_i h;exact .inr (by simpa using h)
  ·rename_i h;rcases ih with ih | ih
   ·exact absurd ih h
   ·refine .inr ?_;obtain⟨k,hk⟩:∃ k,Zl r=k+1:=⟨Zl r-1,by omega⟩;rw[hk] at ih ⊢;simpa using ih
theorem ZbS {L:List Int}{k:Nat}(h1:∀ i,k≤i→L.getD i 0=0) (h2:k=0∨L.getD (k-1) 0≠0):Zl L=k:=by
 rcases Nat.lt_trichotomy (Zl L) k with h | h | h
 ·rcases h2 with h2 | h2
  ·omega
  ·exact absurd (ZeO L (k-1) (by omega)) h2
 ·exact h
 ·rcases Zct L with h3 | h3
  ·omega
  ·exact absurd (h1 (Zl L-1) (by omega)) h3
def Zan (L M:List Int):Nat→Int
 | 0=>0
 | k+1=>if L.getD k 0=M.getD k 0 then Zan L M k else if L.getD k 0<M.getD k 0 then -1 else 1
def Zci (L M:List Int):Int:=if L.length=M.length then Zan L M L.length else if L.length<M.length then -1 else 1
end Go.Nt
