/-
  RunT, RunU, RunV, RunW, RunH, Tab, Hcs, Okl, NumZ, NumU, NumY, NumN, NumV, NumW, NumL, NumS, NumT, Num
-/
import Derived.Test.YtjlponbdflkbjaaGreatDoorG04
import Derived.OneCell
import Derived.Laws.Externs
import Derived.Test.YtjlponbdflkbjaaGreatDoorProg
import Derived.Test.YtjlponbdflkbjaaGreatDoorG01
import GoSem.Core.Sem
import Derived.Laws.MathBits
namespace Go.KRun
open Go.RowKit
def tl(n:Nat)(g:Nat→Value):List Value:=(List.range n).map g
theorem Zj0{J:List Value}{n:Nat}(h:J.length=n):∃ g,J=tl n g:=by
 refine⟨fun i=>J.getD i undef,?_⟩
 unfold tl
 refine List.ext_getElem(by simp [h]) fun i h1 h2=> ?_
 simp [h1]
def Zg(r:Option(Ex×Lf×Lg))(k n:Nat)(e:Ex)(front:List Value)(h:Hp)(cs:Log):Prop:=
 r.map(fun r=>(r.1,r.2.1.1.take k,(r.2.1.1.drop k).length,r.2.1.2.1,r.2.2.cs))=some(e,front,n,h,cs)∧
  r.map(fun r=>r.2.2.es.map Prod.fst)=r.map(fun r=>r.2.2.es.map Prod.snd)∧r.map(fun r=>r.2.2.bs.map Prod.fst)=r.map(fun r=>r.2.2.bs.map Prod.snd)
def GoesE(r:Option(Ex×Lf×Lg))(k n:Nat)(e:Ex)(front:List Value)(h:Hp)(cs:Log):Prop:=
 r.map(fun r=>(r.1,r.2.1.1.take k,(r.2.1.1.drop k).length,r.2.1.2.1,r.2.2.cs,r.2.2.es,r.2.2.bs))=some(e,front,n,h,cs,[],[])
theorem GoesE.t{r:Option(Ex×Lf×Lg)}{k n:Nat}{e:Ex}{front:List Value}{h:Hp}{cs:Log}(hG:GoesE r k n e front h cs):Zg r k n e front h cs:=by
 unfold GoesE at hG
 cases r with
 | none=>cases hG
 | some r=>
  simp only[Option.map_some,Option.some.injEq,Prod.mk.injEq] at hG
  obtain⟨h1,h2,h3,h4,h5,h6,h7⟩:=hG
  refine⟨?_,?_,?_⟩
  ·rw[Option.map_some,h1,h2,h3,h4,h5]
  ·simp [h6]
  ·simp [h7]
theorem ZcV{r:Option(Ex×Lf×Lg)}{k n:Nat}{e:Ex}{front:List Value}{h:Hp}{cs:Log}(hG:Zg r k n e front h cs)(hcs:Z4 cs):∃ g s L,r=some(e,(front++tl n g,h,s),L)∧L.ok:=by
 obtain⟨h1,h5,h6⟩:=hG
 cases r with
 | none=>cases h1
 | some r=>
  simp only[Option.map_some,Option.some.injEq,Prod.mk.injEq] at h1 h5 h6
  obtain⟨e',⟨t',h',s'⟩,L⟩:=r
  simp only at h1 h5 h6
  obtain⟨h1,h2,h3,h4,h7⟩:=h1
  subst h1 h4
  obtain⟨g,hg⟩:=Zj0 h3
  refine⟨g,s',L,?_,by rw[h7];exact hcs,ZdR _ h5,ZdR _ h6⟩
  rw[← h2,← hg,List.take_append_drop]
theorem Zb{T:Tab}(hT:TabOk T){N:Nat}{c:Code}{t:List Value}{h h':Hp}{s s0:List Dec}{k n:Nat}{e:Ex}{front:List Value}{cs:Log}(hG:Zg(evC T N false c(t,h,s)⟨[],[],[]⟩) k n e front h' cs)(hcs:Z4 cs):
  Runs T c(t,h,s0) fun e' y=>e'=e∧(∃ g,y.1=front++tl n g)∧y.2.1=h':=by
 obtain⟨g,s',L,hr,hL⟩:=ZcV hG hcs
 refine Runs.script((Runs.ev hT hr hL).mono fun e2 y he=> ?_)
 obtain⟨rfl,rfl⟩:=he
 exact⟨rfl,⟨g,rfl⟩,rfl⟩
theorem Zx{T:Tab}(hT:TabOk T){N:Nat}{l:List Code}{X:Code}{t:List Value}{h h':Hp}{s s0:List Dec}{k n:Nat}{e:Ex}{front:List Value}{cs:Log}{P:Ex→Lf→Prop}(hG:Zg(evL T N l(t,h,s)⟨[],[],[]⟩) k n e front h' cs)(hcs:Z4 cs)
  (hX:∀ g,Runs T X(front++tl n g,h',[]) P):Runs T(za l X)(t,h,s0) P:=by
 obtain⟨g,s',L,hr,hL⟩:=ZcV hG hcs
 obtain⟨_,_,h3⟩:=Zs8(X:=X)(P:=P) hT l _ _ _ _ _ hr hL
 exact Runs.script(h3(Runs.script(hX g)))
theorem zg{T:Tab}{f:Nat}{F:Func}{c:Code}(hF:T.P.funcs[f]? =some F)(hc:F.body=some c){vals:List Value}{v:Value}{h h':Hp}(hv:lt 0 v=true)(ht:h'.tight=true)
  (hr:Runs T c(vals++List.replicate(F.ntmps-vals.length) undef,h,[]) fun e y=>(e=none∨e=some none)∧ZZ T.P F y.1 y.2.1=some v∧y.2.1.cut h.n=h')(m:Mp)(B:Nat)(w:World)(E:Emb m B h w)(hvals:∀ v∈vals,lt h.n v=true):
  Calls T.P f(vals.map(mv m)).toArray w fun e w'=>∃ m',e= .returned(mv m' v)∧Came m B h w v h' m' w':=by
 refine calls_of_wp hF hc ?_
 have R:Rel m B(vals++List.replicate(F.ntmps-vals.length) undef,h,[]){tmps:=(vals.map(mv m)).toArray++Array.replicate(F.ntmps-(vals.map(mv m)).toArray.size) undef,defers:=[]} w:=by
  refine⟨?_,rfl,E,?_⟩
  ·simp [zo]
  ·intro y hy
   rcases List.mem_append.1 hy with hy | hy
   ·exact hvals y hy
   ·rw[List.eq_of_mem_replicate hy];simp [undef,lt]
 refine hr _ _ _ w R _ fun e y he a' w' hR=> ?_
 obtain⟨hex,hres,hcut⟩:=he
 obtain⟨m',k1,k2,k3,k4⟩:=hR
 obtain⟨r1,r2⟩:=Zae k2.emb k2.wf hres
 rw[← k2.tmps,ZE hv] at r1
 have k4':h.n≤y.2.1.n:=k4
 have C:Came m B h w v h' m w':=by
  subst hcut
  exact⟨Agree.refl _ _,k2.emb.cut k1 k4' ht,k3,by simp [Hp.cut],zT(Nat.zero_le _) hv⟩
 have post:a'.defers=[]∧∃ v',(results F a'.tmps).run T.P w'= .ok v' w'∧∃ m',Ending.returned v'= .returned(mv m' v)∧Came m B h w v h' m' w':=
  ⟨k2.dfr,_,r1,m,by rw[ZE hv],C⟩
 rcases hex with rfl | rfl<;>exact post
theorem Runs.forLoop{T:Tab}{c:Code}{id:Nat}{x:Lf}{P:Lf→Prop}{R:Lf→Prop}(Inv:Nat→Lf→Prop)
  (round:∀ n x,Inv n x→Runs T c x fun e y=>match e with | none=>∃ n',n'<n∧Inv n' y | some none=>R y | some(some id')=>id'=id∧P y){n:Nat}(h0:Inv n x):
  Runs T(.block id(.loop c)) x fun e y=>match e with | none=>P y | some none=>R y | some(some _)=>False:=by
 refine Runs.block(P1:=fun e y=>match e with | none=>False | some none=>R y | some(some id')=>id'=id∧P y) ?_(fun y he=>he.elim)(fun y he=>he)(fun y he=>he.2)(fun id' y hid he=>absurd he.1 hid)
 refine Runs.loop Inv(fun n x hI=>(round n x hI).mono fun e y he=> ?_) h0
 match e,he with
 | none,he=>exact he
 | some none,he=>exact he
 | some(some id'),he=>exact he
def RunsW(T:Tab)(c:Code)(x:Lf)(Post:Ex→Lf→Prop):Prop:=
 ∀ m B a w,Rel m B x a w→∀ Q:Exit→Act→World→Prop,(∀ e y,Post e y→∀ m' a' w',Rel m' B y a' w'→Below B w w'→Q(out e) a' w')→c.wp T.P Q a w
theorem Runs.w{T:Tab}{c:Code}{x:Lf}{P:Ex→Lf→Prop}(h:Runs T c x P):RunsW T c x P:=fun m B a w R Q hQ=>h m B a w R Q fun e y he a' w' hR=>by
 obtain⟨m',_,k2,k3,_⟩:=hR
 exact hQ e y he m' a' w' k2 k3
theorem RunsW.post{T:Tab}{c:Code}{x:Lf}{P P':Ex→Lf→Prop}(h:RunsW T c x P)(hp:∀ e y,P e y→∃ y',P' e y'∧∀ m B a w,Rel m B y a w→∃ m',Rel m' B y' a w):RunsW T c x P':=
 fun m B a w R Q hQ=>h m B a w R Q fun e y he m' a' w' hR hb=>by
  obtain⟨y',h1,h2⟩:=hp e y he
  obtain⟨m2,h3⟩:=h2 m' B a' w' hR
  exact hQ e y' h1 m2 a' w' h3 hb
theorem RunsW.mono{T:Tab}{c:Code}{x:Lf}{P P':Ex→Lf→Prop}(h:RunsW T c x P)(hp:∀ e y,P e y→P' e y):RunsW T c x P':=h.post fun e y he=>⟨y,hp e y he,fun m _ _ _ R=>⟨m,R⟩⟩
theorem RunsW.seq{T:Tab}{c1 c2:Code}{x:Lf}{P1 P:Ex→Lf→Prop}(h1:RunsW T c1 x P1)(h2:∀ y,P1 none y→RunsW T c2 y P)(h3:∀ e y,P1(some e) y→P(some e) y):RunsW T(.seq c1 c2) x P:=by
 intro m B a w R Q hQ
 refine wp_seq(h1 m B a w R _ fun e y he m' a' w' hR hb=> ?_)
 match e,he with
 | none,he=>exact h2 y he m' B a' w' hR Q fun e' y' he' m'' a'' w'' hR' hb'=>hQ e' y' he' m'' a'' w'' hR'(hb.trans hb')
 | some none,he=>exact hQ _ _(h3 none y he) m' a' w' hR hb
 | some(some id),he=>exact hQ _ _(h3(some id) y he) m' a' w' hR hb
theorem RunsW.block{T:Tab}{c:Code}{id:Nat}{x:Lf}{P1 P:Ex→Lf→Prop}(h1:RunsW T c x P1)(h2:∀ y,P1 none y→P none y)(h3:∀ y,P1(some none) y→P(some none) y)
  (h4:∀ y,P1(some(some id)) y→P none y)(h5:∀ id' y,id'≠id→P1(some(some id')) y→P(some(some id')) y):RunsW T(.block id c) x P:=by
 intro m B a w R Q hQ
 refine wp_block(h1 m B a w R _ fun e y he m' a' w' hR hb=> ?_)
 match e,he with
 | none,he=>exact hQ _ _(h2 y he) m' a' w' hR hb
 | some none,he=>exact hQ _ _(h3 y he) m' a' w' hR hb
 | some(some id'),he=>
  simp only[out,Exit.inBlock]
  by_cases hid:id'=id
  ·subst hid
   rw[if_pos rfl]
   exact hQ _ _(h4 y he) m' a' w' hR hb
  ·rw[if_neg hid]
   exact hQ _ _(h5 id' y hid he) m' a' w' hR hb
theorem RunsW.loop{T:Tab}{c:Code}{P:Ex→Lf→Prop}(Inv:Nat→Lf→Prop)(round:∀ n x,Inv n x→RunsW T c x fun e y=>match e with | none=>∃ n',n'<n∧Inv n' y | some e=>P(some e) y){n:Nat}{x:Lf}(h0:Inv n x):
  RunsW T(.loop c) x P:=by
 have key:∀ N n x,n<N→Inv n x→∀ m B a w,Rel m B x a w→∀ Q:Exit→Act→World→Prop,(∀ e y,P e y→∀ m' a' w',Rel m' B y a' w'→Below B w w'→Q(out e) a' w')→Code.rounds T.P c Q N a w:=by
  intro N
  induction N with
  | zero=>intro n x hn;omega
  | succ N ih=>
   intro n x hn hI m B a w R Q hQ
   rw[rounds_succ]
   refine round n x hI m B a w R _ fun e y he m' a' w' hR hb=> ?_
   match e,he with
   | none,he=>
    obtain⟨n',hn',hI'⟩:=he
    exact ih n' y(by omega) hI' m' B a' w' hR Q fun e' y' he' m'' a'' w'' hR' hb'=>hQ e' y' he' m'' a'' w'' hR'(hb.trans hb')
   | some none,he=>exact hQ _ _ he m' a' w' hR hb
   | some(some id),he=>exact hQ _ _ he m' a' w' hR hb
 intro m B a w R Q hQ
 exact wp_loop_rounds(n+1)(key(n+1) n x(by omega) h0 m B a w R Q hQ)
theorem Ze4{T:Tab}{f:Nat}{F:Func}{c:Code}(hF:T.P.funcs[f]? =some F)(hc:F.body=some c){vals:List Value}{v:Value}(hvals:(vals.all(lt 0))=true)(hv:lt 0 v=true)
  (h:RunsW T c(vals++List.replicate(F.ntmps-vals.length) undef,⟨0,[]⟩,[]) fun e y=>(e=none∨e=some none)∧ZZ T.P F y.1 y.2.1=some v)(w:World):
  Calls T.P f vals.toArray w fun e w'=>e= .returned v∧Zad w w':=by
 have E:Emb(fun b=>(b,0)) w.heap.size⟨0,[]⟩ w:=
  Emb.none w
 have hst:∀ y∈vals,lt 0 y=true:=List.all_eq_true.1 hvals
 have e0:vals.map(mv fun b=>(b,0))=vals:=(List.map_congr_left fun y hy=>ZE(hst y hy)).trans(List.map_id' _)
 refine calls_of_wp hF hc ?_
 have R:Rel(fun b=>(b,0)) w.heap.size(vals++List.replicate(F.ntmps-vals.length) undef,⟨0,[]⟩,[]){tmps:=vals.toArray++Array.replicate(F.ntmps-vals.toArray.size) undef,defers:=[]} w:=by
  refine⟨?_,rfl,E,?_⟩
  ·simp [zo,e0]
  ·intro y hy
   rcases List.mem_append.1 hy with hy | hy
   ·exact hst y hy
   ·rw[List.eq_of_mem_replicate hy];simp [undef,lt]
 refine h _ _ _ w R _ fun e y he m' a' w' k2 k3=> ?_
 obtain⟨hex,hres⟩:=he
 obtain⟨r1,r2⟩:=Zae k2.emb k2.wf hres
 rw[← k2.tmps,ZE hv] at r1
 have post:a'.defers=[]∧∃ v',(results F a'.tmps).run T.P w'= .ok v' w'∧(Ending.returned v'= .returned v∧Zad w w'):=
  ⟨k2.dfr,_,r1,rfl,k3,fun k h1 h2=>k2.emb.ice k h1 h2⟩
 rcases hex with rfl | rfl<;>exact post
theorem RunsW.script{T:Tab}{c:Code}{t:List Value}{h:Hp}{s s':List Dec}{P:Ex→Lf→Prop}(hr:RunsW T c(t,h,s) P):RunsW T c(t,h,s') P:=
 fun m B a w R Q hQ=>hr m B a w⟨R.tmps,R.dfr,R.emb,R.wf⟩ Q hQ
theorem Z1{T:Tab}(hT:TabOk T){N:Nat}{l:List Code}{X:Code}{t:List Value}{h h':Hp}{s s0:List Dec}{k n:Nat}{e:Ex}{front:List Value}{cs:Log}{P:Ex→Lf→Prop}(hG:Zg(evL T N l(t,h,s)⟨[],[],[]⟩) k n e front h' cs)(hcs:Z4 cs)
  (hX:∀ g,RunsW T X(front++tl n g,h',[]) P):RunsW T(za l X)(t,h,s0) P:=by
 obtain⟨g,s',L,hr,hL⟩:=ZcV hG hcs
 have key:∀ (cs:List Code)(x x':Lf)(L L':Lg)(e:Ex),evL T N cs x L=some(e,x',L')→L'.ok→L.ok∧(RunsW T X x' P→RunsW T(za cs X) x P):=by
  intro cs
  induction cs with
  | nil=>
   intro x x' L L' e h hL
   simp only[evL] at h
   cases h
   exact⟨hL,id⟩
  | cons c cs ih=>
   intro x x' L L' e h hL
   simp only[evL] at h
   split at h
   ·rename_i x1 L1 h1
    obtain⟨g1,g3⟩:=ih x1 x' L1 L' e h hL
    obtain⟨g4,g5⟩:=(Zie hT N).1 _ _ _ _ _ _ h1 g1
    refine⟨g4,fun hX m B a w R Q hQ=>wp_seq(g5 m B a w R _ fun a' w' hR=> ?_)⟩
    obtain⟨m',_,k2,k3,_⟩:=hR
    exact g3 hX m' B a' w' k2 Q fun e' y' he' m'' a'' w'' hR' hb'=>hQ e' y' he' m'' a'' w'' hR'(k3.trans hb')
   ·cases h
 have r:=(key l _ _ _ _ _ hr hL).2(RunsW.script(hX g))
 exact RunsW.script r
def RunsAt(G:World→Prop)(T:Tab)(c:Code)(x:Lf)(Post:Ex→Lf→Prop):Prop:=
 ∀ m B a w,Rel m B x a w→(∀ w',Below B w w'→G w')→∀ Q:Exit→Act→World→Prop,(∀ e y,Post e y→∀ m' a' w',Rel m' B y a' w'→Below B w w'→Q(out e) a' w')→c.wp T.P Q a w
theorem RunsAt.mono{G:World→Prop}{T:Tab}{c:Code}{x:Lf}{P P':Ex→Lf→Prop}(h:RunsAt G T c x P)(hp:∀ e y,P e y→P' e y):RunsAt G T c x P':=
 fun m B a w R hG Q hQ=>h m B a w R hG Q fun e y he=>hQ e y(hp e y he)
theorem RunsAt.seq{G:World→Prop}{T:Tab}{c1 c2:Code}{x:Lf}{P1 P:Ex→Lf→Prop}(h1:RunsAt G T c1 x P1)(h2:∀ y,P1 none y→RunsAt G T c2 y P)(h3:∀ e y,P1(some e) y→P(some e) y):RunsAt G T(.seq c1 c2) x P:=by
 intro m B a w R hG Q hQ
 refine wp_seq(h1 m B a w R hG _ fun e y he m' a' w' hR hb=> ?_)
 match e,he with
 | none,he=>exact h2 y he m' B a' w' hR(fun w'' hb'=>hG w''(hb.trans hb')) Q fun e' y' he' m'' a'' w'' hR' hb'=>hQ e' y' he' m'' a'' w'' hR'(hb.trans hb')
 | some none,he=>exact hQ _ _(h3 none y he) m' a' w' hR hb
 | some(some id),he=>exact hQ _ _(h3(some id) y he) m' a' w' hR hb
theorem RunsAt.yes{G:World→Prop}{T:Tab}{b:Operand}{c1 c2:Code}{x:Lf}{P:Ex→Lf→Prop}(hb:okX b=true)(hv:ev x.1 b= .bool true)(h:RunsAt G T c1 x P):RunsAt G T(.cond b c1 c2) x P:=
 fun m B a w R hG Q hQ=>wp_cond_true(by rw[Zz R.tmps hb,hv];rfl)(h m B a w R hG Q hQ)
def oc1(bs:List Nat):Value→Bool
 | .pointer(some a)=>bs.contains a.block
 | .slice(some a) _ _=>bs.contains a.block
 | .iface t _=> !(Nat.beq t ZW)
 | _=>true
def oc2(bs:List Nat):Value→Bool
 | .agg cs=>cs.toList.all(oc1 bs)
 | v=>oc1 bs v
def oc(bs:List Nat):Value→Bool
 | .tuple vs=>vs.toList.all(oc2 bs)
 | v=>oc2 bs v
theorem Zs9{m m':Mp}{bs:List Nat}(h:∀ b∈bs,m b=m' b){v:Value}(hv:oc1 bs v=true):mv1 m v=mv1 m' v:=by
 unfold mv1
 split
 ·simp only[oc1,List.contains_iff_mem] at hv;simp [mvA,h _ hv]
 ·simp only[oc1,List.contains_iff_mem] at hv;simp [mvA,h _ hv]
 ·rfl
 ·rfl
theorem ZsA{m m':Mp}{bs:List Nat}(h:∀ b∈bs,m b=m' b){v:Value}(hv:oc2 bs v=true):mv2 m v=mv2 m' v:=by
 unfold mv2
 split
 ·rename_i cs
  simp only[oc2,List.all_eq_true] at hv
  congr 1
  exact Array.map_congr_left fun x hx=>Zs9 h(hv x(by simpa using hx))
 ·rename_i hna
  refine Zs9 h ?_
  unfold oc2 at hv
  split at hv
  ·rename_i cs;exact absurd rfl(hna cs)
  ·exact hv
theorem Zpe{m m':Mp}{bs:List Nat}(h:∀ b∈bs,m b=m' b){v:Value}(hv:oc bs v=true):mv m v=mv m' v:=by
 unfold mv
 split
 ·rename_i vs
  simp only[oc,List.all_eq_true] at hv
  congr 1
  exact Array.map_congr_left fun x hx=>ZsA h(hv x(by simpa using hx))
 ·rename_i hna
  refine ZsA h ?_
  unfold oc at hv
  split at hv
  ·rename_i cs;exact absurd rfl(hna cs)
  ·exact hv
theorem Zif{bs:List Nat}{f:Nat→Nat}{n:Nat}(hf:∀ b∈bs,f b<n){v:Value}(hv:oc bs v=true):lt n(rn f v)=true:=by
 have h1:∀ v,oc1 bs v=true→lt1 n(rn1 f v)=true:=fun v h=>by
  cases v with
  | pointer a=>
   cases a with
   | none=>rfl
   | some a=>simp only[oc1,List.contains_iff_mem] at h;exact Zp.2(hf _ h)
  | slice a l c=>
   cases a with
   | none=>rfl
   | some a=>simp only[oc1,List.contains_iff_mem] at h;exact Zp.2(hf _ h)
  | iface t u=>simp only[oc1,Bool.not_eq_true'] at h;simp [rn1,lt1,h]
  | _=>rfl
 have h2:∀ v,oc2 bs v=true→lt2 n(rn2 f v)=true:=fun v h=>by
  cases v with
  | agg cs=>
   simp only[oc2,lt2,rn2,Array.toList_map,List.all_eq_true,List.mem_map] at*
   rintro _⟨y,hy,rfl⟩
   exact h1 y(h y hy)
  | pointer a=>
   cases a with
   | none=>rfl
   | some a=>exact h1(.pointer(some a)) h
  | slice a l c=>
   cases a with
   | none=>rfl
   | some a=>exact h1(.slice(some a) l c) h
  | iface t u=>exact h1(.iface t u) h
  | _=>rfl
 cases v with
 | tuple cs=>
  simp only[oc,lt,rn,Array.toList_map,List.all_eq_true,List.mem_map] at*
  rintro _⟨y,hy,rfl⟩
  exact h2 y(hv y hy)
 | agg cs=>exact h2(.agg cs) hv
 | pointer a=>
  cases a with
  | none=>rfl
  | some a=>exact h1(.pointer(some a)) hv
 | slice a l c=>
  cases a with
  | none=>rfl
  | some a=>exact h1(.slice(some a) l c) hv
 | iface t u=>exact h1(.iface t u) hv
 | _=>rfl
def Hp.rows(h:Hp):Prop:=h.l.length=h.n∧∀ b x,h.blk? b=some x→ro x.2=true∧(∀ v∈x.1,still v=true)∧ab x.2=false
def Hp.fits(h0:Hp)(s:Nat→Nat)(h:Hp):Prop:=∀ i x,h0.blk? i=some x→Zal x.2=false→∃ y r,h.blk?(s i)=some y∧Zal y.2=false∧rt y.2=rt x.2∧y.1=x.1++r
theorem Emb.small{m:Mp}{B:Nat}{h h0:Hp}{w:World}{s:Nat→Nat}(E:Emb m B h w)(hr:h0.rows)(hf:h0.fits s h):Emb(fun i=>m(s i)) w.heap.size h0 w where
 len:=hr.1
 lies:=fun b x hb hx=>by
  obtain⟨y,r,h1,h2,h3,h4⟩:=hf b x hb hx
  obtain⟨r',z,l0,l1,_⟩:=E.lies _ _ h1 h2
  have calm:=(hr.2 b x hb).2.1
  have e:x.1.map(mv1 m)=x.1.map(mv1 fun i=>m(s i)):=ZdI calm
  rw[h4,List.map_append] at l0 l1
  refine⟨r.map(mv1 m)++r',z,?_,?_,fun hro=> ?_⟩
  ·simp at l0 ⊢;omega
  ·rw[← e,l1,List.append_assoc]
  ·rw[(hr.2 b x hb).1] at hro;cases hro
 low:=fun b x hb hro=>by rw[(hr.2 b x hb).1] at hro;cases hro
 ros:=fun b x hb hx _=>by
  obtain⟨y,r,h1,h2,_,_⟩:=hf b x hb hx
  exact E.here h1 h2
 inj:=fun b b' x x' hb _ hro=>by rw[(hr.2 b x hb).1] at hro;cases hro
 wf:=fun b x hb v hv=>zj(Nat.lt_of_le_of_lt(Nat.zero_le _)(Hp.blk_lt hb))((hr.2 b x hb).2.1 v hv)
 base:=Nat.le_refl _
 ice:=fun k h1 h2=>by omega
 abs:=fun b x hb hx=>by rw[(hr.2 b x hb).2.2] at hx;cases hx
theorem zk{T:Tab}{f:Nat}{F:Func}{c:Code}(hF:T.P.funcs[f]? =some F)(hc:F.body=some c){h0:Hp}(hr:h0.rows){vals:List Value}(hvals:∀ v∈vals,lt h0.n v=true){v:Value}(hv:oc(List.range h0.n) v=true)
  (hrun:Runs T c(vals++List.replicate(F.ntmps-vals.length) undef,h0,[]) fun e y=>(e=none∨e=some none)∧ZZ T.P F y.1 y.2.1=some v)
  {m:Mp}{B:Nat}{h:Hp}{w:World}(E:Emb m B h w){s:Nat→Nat}(hs:∀ i,i<h0.n→s i<h.n)(hf:h0.fits s h):
  Calls T.P f((vals.map(rn s)).map(mv m)).toArray w fun e w'=>e= .returned(mv m(rn s v))∧Came m B h w(rn s v) h m w':=by
 have E0:=E.small hr hf
 have ev:(vals.map(rn s)).map(mv m)=vals.map(mv fun i=>m(s i)):=by
  rw[List.map_map]
  exact List.map_congr_left fun y _=>Zdx m s y
 rw[ev]
 refine calls_of_wp hF hc ?_
 have R:Rel(fun i=>m(s i)) w.heap.size(vals++List.replicate(F.ntmps-vals.length) undef,h0,[]){tmps:=(vals.map(mv fun i=>m(s i))).toArray++Array.replicate(F.ntmps-(vals.map(mv fun i=>m(s i))).toArray.size) undef,defers:=[]} w:=by
  refine⟨?_,rfl,E0,?_⟩
  ·simp [zo]
  ·intro y hy
   rcases List.mem_append.1 hy with hy | hy
   ·exact hvals y hy
   ·rw[List.eq_of_mem_replicate hy];simp [undef,lt]
 refine hrun _ _ _ w R _ fun e y he a' w' hR=> ?_
 obtain⟨hex,hres⟩:=he
 obtain⟨m1,k1,k2,k3,_⟩:=hR
 obtain⟨r1,r2⟩:=Zae k2.emb k2.wf hres
 rw[← k2.tmps] at r1
 have e1:mv m1 v=mv m(rn s v):=by
  rw[Zdx]
  exact Zpe(fun b hb=>k1 b(by simpa using hb)) hv
 rw[e1] at r1
 have td:Zad w w':=⟨k3,fun k h1 h2=>k2.emb.ice k h1 h2⟩
 obtain⟨E',hb⟩:=zf E td
 have post:a'.defers=[]∧∃ v',(results F a'.tmps).run T.P w'= .ok v' w'∧(Ending.returned v'= .returned(mv m(rn s v))∧Came m B h w(rn s v) h m w'):=
  ⟨k2.dfr,_,r1,rfl,⟨Agree.refl _ _,E',hb,Nat.le_refl _,Zif(fun b hb=>hs b(by simpa using hb)) hv⟩⟩
 rcases hex with rfl | rfl<;>exact post
theorem ZG{T:Tab}{f:Nat}{F:Func}{c:Code}(hF:T.P.funcs[f]? =some F)(hc:F.body=some c){h0:Hp}(hr:h0.rows){vals:List Value}(hvals:∀ v∈vals,lt h0.n v=true){v:Value}{k:Nat}
  {cs:List Value}{ty:TypeId}(hcs:∀ u∈cs,lt1 0 u=true)(hty:ro ty=false)
  (hrun:RunsW T c(vals++List.replicate(F.ntmps-vals.length) undef,h0,[]) fun e y=>(e=none∨e=some none)∧ZZ T.P F y.1 y.2.1=some v∧∃ r,y.2.1.blk? k=some(cs++r,ty))
  (hv0:oc [k] v=true)
  {m:Mp}{B:Nat}{h:Hp}{w:World}(E:Emb m B h w){s:Nat→Nat}(hf:h0.fits s h):
  Calls T.P f((vals.map(rn s)).map(mv m)).toArray w fun e w'=>∃ m',e= .returned(mv m'(rn(fun _=>h.n) v))∧Came m B h w(rn(fun _=>h.n) v)(h.push cs ty) m' w':=by
 have E0:=E.small hr hf
 have ev:(vals.map(rn s)).map(mv m)=vals.map(mv fun i=>m(s i)):=by
  rw[List.map_map]
  exact List.map_congr_left fun y _=>Zdx m s y
 rw[ev]
 refine calls_of_wp hF hc ?_
 have R:Rel(fun i=>m(s i)) w.heap.size(vals++List.replicate(F.ntmps-vals.length) undef,h0,[]){tmps:=(vals.map(mv fun i=>m(s i))).toArray++Array.replicate(F.ntmps-(vals.map(mv fun i=>m(s i))).toArray.size) undef,defers:=[]} w:=by
  refine⟨?_,rfl,E0,?_⟩
  ·simp [zo]
  ·intro y hy
   rcases List.mem_append.1 hy with hy | hy
   ·exact hvals y hy
   ·rw[List.eq_of_mem_replicate hy];simp [undef,lt]
 refine hrun _ _ _ w R _ fun e y he m1 a' w' k2 k3=> ?_
 obtain⟨hex,hres,r,hblk⟩:=he
 obtain⟨r1,r2⟩:=Zae k2.emb k2.wf hres
 rw[← k2.tmps] at r1
 have td:Zad w w':=⟨k3,fun k h1 h2=>k2.emb.ice k h1 h2⟩
 obtain⟨E',hb⟩:=zf E td
 have hlow:w.heap.size≤(m1 k).1:=k2.emb.low k _ hblk hty
 have hlie:lie w'(m1 k)(cs.map(mv1 m)) ty:=by
  obtain⟨r',z,l0,l1,l2⟩:=k2.emb.lies k _ hblk(Zao hty)
  have e:cs.map(mv1 m1)=cs.map(mv1 m):=ZbB hcs
  simp only[List.map_append] at l0 l1
  refine⟨r.map(mv1 m1)++r',z,?_,?_,l2⟩
  ·simp at l0 ⊢;omega
  ·rw[← e,l1,List.append_assoc]
 have Ea:=E'.adopt cs ty hty(fun u hu=>zn(Nat.zero_le _)(hcs u hu)) hlie(Nat.le_trans E.base hlow)(fun b x hbx hx heq=>by
  have:=E.here hbx(Zao hx)
  omega)
 have e1:mv m1 v=mv(upd m h.n(m1 k))(rn(fun _=>h.n) v):=by
  rw[Zdx]
  refine Zpe(fun b hb=> ?_) hv0
  rw[List.mem_singleton.1 hb]
  simp [upd]
 rw[e1] at r1
 have post:a'.defers=[]∧∃ v',(results F a'.tmps).run T.P w'= .ok v' w'∧∃ m',Ending.returned v'= .returned(mv m'(rn(fun _=>h.n) v))∧Came m B h w(rn(fun _=>h.n) v)(h.push cs ty) m' w':=
  ⟨k2.dfr,_,r1,upd m h.n(m1 k),rfl,⟨ZR _ _ _,Ea,hb,Nat.le_succ _,Zif(bs:=[k])(fun b hb=>by show h.n<h.n+1;omega) hv0⟩⟩
 rcases hex with rfl | rfl<;>exact post
def Z43:List Value→Option(Value×Log)
 | [.int .u64 x,.int .u64 y,.int .u64 c]=>
  some(.tuple #[.int .u64((x+y+c) % 18446744073709551616),.int .u64((x+y+c)/18446744073709551616)],[(decide(0≤x∧0≤y∧0≤c∧c≤1),true)])
 | _=>none
theorem Zpf{P:Program}{f:Nat}{F:Func}(hf:P.funcs[f]? =some F)(hn:(F.name== "runtime.NumGoroutine")=false)(hb:F.body.isNone=true)(hx:Extern.findNext F=none)(he:Extern.find F=some add64Entry)
  {vals:List Value}{v:Value}{lg:Log}(h:Z43 vals=some(v,lg))(hl:Z4 lg)(w:World):(callFunc f vals.toArray).run P w= .ok(.value v) w:=by
 unfold Z43 at h
 split at h
 ·rename_i x y c
  cases h
  have:=hl _(List.mem_singleton.2 rfl)
  simp only[decide_eq_true_eq] at this
  rw[run_callFunc_extern hf hn hb hx he,run_add64 x y c this.1 this.2.1 this.2.2.1 this.2.2.2]
  rfl
 ·cases h
end Go.KRun
namespace Go.Proofs.YtjlponbdflkbjaaGreatDoor
open Go.KRun
theorem Z5d:(Tryz.prog.funcs.toList.all fun F=> !(F.name== "runtime.NumGoroutine"))=true:=by kernel_rfl
theorem ZbD(f:Nat)(F:Func)(h:Tryz.prog.funcs[f]? =some F):Tryz.prog.funcs[f]? =some F∧(F.name== "runtime.NumGoroutine")=false:=
 ⟨h,by simpa using List.all_eq_true.1 Z5d F(by simpa using Array.mem_of_getElem? h)⟩
def Zf:Nat→List Value→Option(Value×Log):=fun f vals=>if f=108 then Z43 vals else none
theorem ZtV{vals:List Value}{v:Value}{lg:Log}(h:Z43 vals=some(v,lg))(hl:Z4 lg)(w:World):(callFunc 108 vals.toArray).run Tryz.prog w= .ok(.value v) w:=
 Zpf Tryz.func108(by kernel_rfl)(by kernel_rfl)(by kernel_rfl)(by kernel_rfl) h hl w
theorem Zla(f:Nat)(vals:List Value)(v:Value)(lg:Log)(h:Zf f vals=some(v,lg))(hl:Z4 lg)(w:World):(callFunc f vals.toArray).run Tryz.prog w= .ok(.value v) w:=by
 unfold Zf at h
 split at h
 ·rename_i hf;subst hf;exact ZtV h hl w
 ·cases h
abbrev Con:=Nat→List Value→List Dec→Option(Value×List Dec×Log)
structure ConOk(con:Con):Prop where
 fn:∀ f vals s v s' lg,con f vals s=some(v,s',lg)→∃ F,Tryz.prog.funcs[f]? =some F∧F.body.isSome=true
 calls:∀ f vals s v s' lg,con f vals s=some(v,s',lg)→Z4 lg→∀ w,Calls Tryz.prog f vals.toArray w fun e w'=>e= .returned v∧Zad w w'
def Zo:Con:=fun _ _ _=>none
theorem Zd:ConOk Zo where
 fn:=fun _ _ _ _ _ _ h=>by simp [Zo] at h
 calls:=fun _ _ _ _ _ _ h=>by simp [Zo] at h
def Zi(P:Program)(ext:Nat→List Value→Option(Value×Log))(con:Con)(sym:Bool):Tab:={P:=P,fn:=fun f=>P.funcs[f]?,ext:=ext,con:=con,sym:=sym}
theorem mixed:Tryz.prog.follows .mixedOrders=true:=by kernel_rfl
theorem Zk{con:Con}(h:ConOk con):TabOk(Zi Tryz.prog Zf con true) where
 mixed:=mixed
 ext:=Zla
 con:=fun f vals s v s' lg hc hl=>⟨by obtain⟨F,h1,h2⟩:=h.fn f vals s v s' lg hc;exact⟨F,(ZbD f F h1).1,(ZbD f F h1).2,h2⟩,h.calls f vals s v s' lg hc hl⟩
 fn:=ZbD
 hc:=fun _ _ _ _ _ _ _ _ h=>by cases h
abbrev Ans:=List Value→List Dec→Option(Value×List Dec×Log)
def ZT(f:Nat)(g:Ans):Prop:=∀ vals s v s' lg,g vals s=some(v,s',lg)→Z4 lg→∀ w,Calls Tryz.prog f vals.toArray w fun e w'=>e= .returned v∧Zad w w'
def alt(f:Nat)(g:Ans)(rest:Con):Con:=fun f' vals s=>if f'=f then g vals s else rest f' vals s
theorem ZA{f:Nat}{g:Ans}{rest:Con}{F:Func}(hf:Tryz.prog.funcs[f]? =some F)(hb:F.body.isSome=true)(hg:ZT f g)(hr:ConOk rest):ConOk(alt f g rest) where
 fn:=fun f' vals s v s' lg h=>by
  unfold alt at h
  split at h
  ·rename_i he;subst he;exact⟨F,hf,hb⟩
  ·exact hr.fn _ _ _ _ _ _ h
 calls:=fun f' vals s v s' lg h hl w=>by
  unfold alt at h
  split at h
  ·rename_i he;subst he;exact hg _ _ _ _ _ h hl w
  ·exact hr.calls _ _ _ _ _ _ h hl w
end Go.Proofs.YtjlponbdflkbjaaGreatDoor
namespace Go.Proofs.YtjlponbdflkbjaaGreatDoor
open Go.KRun
set_option maxRecDepth 100000
theorem Zu{p:Bool×Bool}(h:p.1=p.2):Z4 [p]:=fun x hx=>by rw[List.mem_singleton.1 hx];exact h
theorem Zj{p:Bool×Bool}{l:Log}(h:p.1=p.2)(hl:Z4 l):Z4(p::l):=fun x hx=>by
 rcases List.mem_cons.1 hx with rfl | hx
 ·exact h
 ·exact hl x hx
theorem Zw{n:Int}(h0: -9223372036854775808≤n)(h1:n≤9223372036854775807):IntKind.i64.wrap n=n:=by
 simp [IntKind.wrap,IntKind.bits,IntKind.signed];omega
abbrev Hc:=Nat→List Value→Hp→List Dec→Option(Value×Hp×List Dec×Log)
abbrev Zaf:=List Value→Hp→List Dec→Option(Value×Hp×List Dec×Log)
def Z9(f:Nat)(g:Zaf):Prop:=∀ vals h s v h' s' lg,g vals h s=some(v,h',s',lg)→Z4 lg→∀ m B w,Emb m B h w→(∀ v∈vals,lt h.n v=true)→Calls Tryz.prog f(vals.map(mv m)).toArray w fun e w'=>∃ m',e= .returned(mv m' v)∧Came m B h w v h' m' w'
structure HcOk(hc:Hc):Prop where
 fn:∀ f vals h s r,hc f vals h s=some r→∃ F,Tryz.prog.funcs[f]? =some F∧F.body.isSome=true
 calls:∀ f,Z9 f(hc f)
def hcN:Hc:=fun _ _ _ _=>none
theorem Zam:HcOk hcN:=⟨fun _ _ _ _ _ h=>(by cases h),fun _ _ _ _ _ _ _ _ h=>(by cases h)⟩
def zS(f:Nat)(g:Zaf)(hc:Hc):Hc:=fun f' vals h s=>if Nat.beq f' f=true then g vals h s else hc f' vals h s
theorem Z2{f:Nat}{F:Func}(hF:Tryz.prog.funcs[f]? =some F)(hb:F.body.isSome=true){g:Zaf}(hg:Z9 f g){hc:Hc}(h:HcOk hc):HcOk(zS f g hc) where
 fn:=fun f' vals h' s r hr=>by
  unfold zS at hr
  split at hr
  ·rename_i e
   rw[Nat.eq_of_beq_eq_true e]
   exact⟨F,hF,hb⟩
  ·exact h.fn _ _ _ _ _ hr
 calls:=fun f' vals h' s v h'' s' lg hr=>by
  unfold zS at hr
  split at hr
  ·rename_i e
   rw[Nat.eq_of_beq_eq_true e]
   exact hg _ _ _ _ _ _ _ hr
  ·exact h.calls f' _ _ _ _ _ _ _ hr
def Zs(P:Program)(ext:Nat→List Value→Option(Value×Log))(con:Con)(hc:Hc):Tab:={P:=P,fn:=fun f=>P.funcs[f]?,ext:=ext,con:=con,sym:=true,hc:=hc}
theorem Zh{con:Con}(h:ConOk con){hc:Hc}(hh:HcOk hc):TabOk(Zs Tryz.prog Zf con hc) where
 mixed:=mixed
 ext:=Zla
 con:=fun f vals s v s' lg hc hl=>⟨by obtain⟨F,h1,h2⟩:=h.fn f vals s v s' lg hc;exact⟨F,(ZbD f F h1).1,(ZbD f F h1).2,h2⟩,h.calls f vals s v s' lg hc hl⟩
 fn:=ZbD
 hc:=fun f vals h0 s v h' s' lg hr hl=>⟨by obtain⟨F,h1,h2⟩:=hh.fn f vals h0 s _ hr;exact⟨F,(ZbD f F h1).1,(ZbD f F h1).2,h2⟩,hh.calls f vals h0 s v h' s' lg hr hl⟩
end Go.Proofs.YtjlponbdflkbjaaGreatDoor
namespace Go.Proofs.YtjlponbdflkbjaaGreatDoor
open Go.KRun
theorem Z3{a b:Bool}(h:a=b):Z4 [(a,b)]:=fun p hp=>by rw[List.mem_singleton.1 hp];exact h
theorem Za{a b:Bool}{l:Log}(h:a=b)(hl:Z4 l):Z4((a,b)::l):=fun p hp=>by
 rcases List.mem_cons.1 hp with rfl | hp
 ·exact h
 ·exact hl p hp
theorem ZcQ{a b:Bool}{l:Log}:Z4((a,b)::l)↔a=b∧Z4 l:=⟨fun h=>⟨h _(List.mem_cons_self),fun x hx=>h x(List.mem_cons_of_mem _ hx)⟩,fun h=>Za h.1 h.2⟩
theorem ZoD:Z4 []:=fun x hx=>by cases hx
end Go.Proofs.YtjlponbdflkbjaaGreatDoor
namespace Go.Rn
def upR(m:Int)(neg odd:Bool)(c:Int):Bool:=
 if c=0 then false else if m=2 then false else if m=3 then !neg else if m=4 then neg else if m=1 then decide(2≤c) else decide(2<c) || (decide(c=2) && odd)
def z9(r P:Nat):Int:=if r=0 then 0 else if 2*r<P then 1 else if 2*r=P then 2 else 3
def odd(q:Nat):Bool:=decide(q % 2=1)
def rq(m:Int)(neg:Bool)(T k:Nat):Nat:=T/2^k+(if upR m neg(odd(T/2^k))(z9(T % 2^k)(2^k))=true then 1 else 0)
def toQ(m:Int)(neg:Bool)(T:Nat)(E e:Int):Nat:=if e≤E then T*2^(E-e).toNat else rq m neg T(e-E).toNat
def toL(T:Nat)(E e:Int):Bool:=if e≤E then false else decide(T % 2^(e-E).toNat≠0)
def lgN(T:Nat)(E:Int):Int:=E+(bitLen T:Nat)-1
def zx(T:Nat)(E:Int):Int:=if lgN T E-52≤ -1074 then -1074 else lgN T E-52
def p0(m:Int)(neg:Bool)(T:Nat)(E:Int):Int:=(zx T E+1074)*4503599627370496+(toQ m neg T E(zx T E):Nat)
def Zd6(m:Int)(neg:Bool)(T:Nat)(E:Int):Bool:=if lgN T E= -1023 then decide(toQ m neg T E(-1075)<9007199254740992) else decide(lgN T E< -1022)
def bey(m:Int)(neg:Bool):Int:=if upR m neg true 3=true then 9218868437227405312 else 9218868437227405311
def rnP(m:Int)(neg:Bool)(T:Nat)(E:Int):Int:=if T=0 then 0 else if 9218868437227405312≤p0 m neg T E then bey m neg else p0 m neg T E
def rnF(m:Int)(neg:Bool)(T:Nat)(E:Int):Int:=if T=0 then 0 else if 9218868437227405312≤p0 m neg T E then 20 else if toL T E(zx T E)=true then(if Zd6 m neg T E=true then 24 else 16) else 0
theorem Za1{T:Nat}(h:T≠0):1≤bitLen T:=by unfold bitLen;rw[if_neg h];omega
theorem Zbk{T k:Nat}(h0:2^k≤T)(h1:T<2^(k+1)):bitLen T=k+1:=by
 have hp:0<2^k:=Nat.pow_pos(by omega)
 obtain⟨a1,a2⟩:=bitLen_spec T
 have a2:=a2(by omega)
 have a3:=Za1(show T≠0 by omega)
 rcases Nat.lt_or_ge(bitLen T)(k+1) with h | h
 ·have:=Nat.pow_le_pow_right(show 0<2 by omega)(show bitLen T≤k by omega)
  omega
 ·rcases Nat.lt_or_ge(k+1)(bitLen T) with h' | h'
  ·have:=Nat.pow_le_pow_right(show 0<2 by omega)(show k+1≤bitLen T-1 by omega)
   omega
  ·omega
theorem len_le{T k:Nat}(h:T<2^k):bitLen T≤k:=by
 by_cases h0:T=0
 ·subst h0;simp [bitLen]
 ·have a2:=(bitLen_spec T).2 h0
  rcases Nat.lt_or_ge k(bitLen T) with h' | h'
  ·have:=Nat.pow_le_pow_right(show 0<2 by omega)(show k≤bitLen T-1 by omega)
   omega
  ·exact h'
theorem Zct{T k:Nat}(h:2^k≤T):k+1≤bitLen T:=by
 have a1:=(bitLen_spec T).1
 rcases Nat.lt_or_ge(bitLen T)(k+1) with h' | h'
 ·have:=Nat.pow_le_pow_right(show 0<2 by omega)(show bitLen T≤k by omega)
  omega
 ·exact h'
theorem ZtW{T:Nat}(h:T≠0)(j:Nat):bitLen(T*2^j)=bitLen T+j:=by
 have hp:0<2^j:=Nat.pow_pos(by omega)
 obtain⟨a1,a2⟩:=bitLen_spec T
 have a2:=a2 h
 have a3:=Za1 h
 have e:bitLen T+j=(bitLen T-1+j)+1:=by omega
 rw[e]
 apply Zbk
 ·rw[Nat.pow_add];exact Nat.mul_le_mul_right _ a2
 ·rw[show bitLen T-1+j+1=bitLen T+j by omega,Nat.pow_add];exact Nat.mul_lt_mul_of_pos_right a1 hp
theorem Zpg(m:Int)(neg o:Bool):upR m neg o 0=false:=by simp [upR]
theorem Zj1(P:Nat):z9 0 P=0:=by simp [z9]
theorem Zgn{r P:Nat}:z9 r P=0↔r=0:=by
 unfold z9
 split
 ·simp_all
 ·rename_i h;simp only[h,iff_false];split<;>(try split)<;>omega
theorem Zhg(r P j:Nat):z9(r*2^j)(P*2^j)=z9 r P:=by
 have hp:0<2^j:=Nat.pow_pos(by omega)
 unfold z9
 have e0:(r*2^j=0)↔r=0:=by rw[Nat.mul_eq_zero];omega
 have e1:(2*(r*2^j)<P*2^j)↔2*r<P:=by rw[← Nat.mul_assoc];exact Nat.mul_lt_mul_right hp
 have e2:(2*(r*2^j)=P*2^j)↔2*r=P:=by rw[← Nat.mul_assoc];exact Nat.mul_left_inj(by omega)
 simp only[e0,e1,e2]
theorem Zz6(m:Int)(neg:Bool)(T k:Nat):T/2^k≤rq m neg T k∧rq m neg T k≤T/2^k+1:=by unfold rq;split<;>omega
theorem Zfw{m:Int}{neg:Bool}{T k:Nat}(h:T % 2^k=0):rq m neg T k=T/2^k:=by
 unfold rq
 rw[h,Zj1,Zpg]
 simp
theorem Zph(m:Int)(neg:Bool)(T k j:Nat):rq m neg(T*2^j)(k+j)=rq m neg T k:=by
 have hp:0<2^j:=Nat.pow_pos(by omega)
 unfold rq
 rw[Nat.pow_add,Nat.mul_div_mul_right _ _ hp,Nat.mul_mod_mul_right,Zhg]
theorem Zgo(m:Int)(neg:Bool)(T j:Nat)(E e:Int):toQ m neg(T*2^j)(E-j) e=toQ m neg T E e:=by
 unfold toQ
 by_cases h1:e≤E
 ·rw[if_pos h1]
  by_cases h2:e≤E-j
  ·rw[if_pos h2,Nat.mul_assoc,← Nat.pow_add]
   congr 2;omega
  ·rw[if_neg h2]
   have ej:j=(E-e).toNat+(e-(E-j)).toNat:=by omega
   have e1:T*2^j=T*2^(E-e).toNat*2^(e-(E-j)).toNat:=by rw[Nat.mul_assoc,← Nat.pow_add,← ej]
   have hp:0<2^(e-(E-j)).toNat:=Nat.pow_pos(by omega)
   rw[e1,Zfw(Nat.mul_mod_left _ _),Nat.mul_div_cancel _ hp]
 ·rw[if_neg h1,if_neg(by omega),show(e-(E-j)).toNat=(e-E).toNat+j by omega,Zph]
theorem Zlb(T j:Nat)(E e:Int):toL(T*2^j)(E-j) e=toL T E e:=by
 have hp:0<2^j:=Nat.pow_pos(by omega)
 unfold toL
 by_cases h1:e≤E
 ·rw[if_pos h1]
  by_cases h2:e≤E-j
  ·rw[if_pos h2]
  ·rw[if_neg h2]
   have ej:j=(E-e).toNat+(e-(E-j)).toNat:=by omega
   have e1:T*2^j=T*2^(E-e).toNat*2^(e-(E-j)).toNat:=by rw[Nat.mul_assoc,← Nat.pow_add,← ej]
   rw[e1,Nat.mul_mod_left]
   simp
 ·rw[if_neg h1,if_neg(by omega),show(e-(E-j)).toNat=(e-E).toNat+j by omega,Nat.pow_add,Nat.mul_mod_mul_right]
  congr 1
  rw[ne_eq,ne_eq,Nat.mul_eq_zero]
  simp only[eq_iff_iff]
  omega
theorem Zgp{T:Nat}(h:T≠0)(j:Nat)(E:Int):lgN(T*2^j)(E-j)=lgN T E:=by
 unfold lgN
 rw[ZtW h]
 omega
theorem ZeO{T:Nat}(h:T≠0)(j:Nat)(E:Int):zx(T*2^j)(E-j)=zx T E:=by unfold zx;rw[Zgp h]
theorem Zig{T:Nat}(h:T≠0)(m:Int)(neg:Bool)(j:Nat)(E:Int):p0 m neg(T*2^j)(E-j)=p0 m neg T E:=by unfold p0;rw[ZeO h,Zgo]
theorem Zj2{T:Nat}(h:T≠0)(m:Int)(neg:Bool)(j:Nat)(E:Int):Zd6 m neg(T*2^j)(E-j)=Zd6 m neg T E:=by unfold Zd6;rw[Zgp h,Zgo]
theorem Zih{T:Nat}(j:Nat):(T*2^j=0)=(T=0):=by
 have hp:0<2^j:=Nat.pow_pos(by omega)
 rw[Nat.mul_eq_zero]
 simp only[eq_iff_iff]
 omega
theorem ZaB(m:Int)(neg:Bool)(T j:Nat)(E:Int):rnP m neg(T*2^j)(E-j)=rnP m neg T E:=by
 unfold rnP
 simp only[Zih]
 by_cases h:T=0
 ·rw[if_pos h,if_pos h]
 ·rw[if_neg h,if_neg h,Zig h]
theorem ZaC(m:Int)(neg:Bool)(T j:Nat)(E:Int):rnF m neg(T*2^j)(E-j)=rnF m neg T E:=by
 unfold rnF
 simp only[Zih]
 by_cases h:T=0
 ·rw[if_pos h,if_pos h]
 ·rw[if_neg h,if_neg h,Zig h,Zj2 h,ZeO h,Zlb]
end Go.Rn
namespace Go.Pt
def bOr(x y:Int):Int:=IntKind.u64.wrap((BitVec.ofInt 64 x ||| BitVec.ofInt 64 y).toNat:Nat)
def Z5e(x y:Int):Int:=IntKind.u64.wrap((BitVec.ofInt 64 x ^^^ BitVec.ofInt 64 y).toNat:Nat)
def Z8Q(x y:Int):Int:=IntKind.u64.wrap((BitVec.ofInt 64 x &&& ~~~(BitVec.ofInt 64 y)).toNat:Nat)
abbrev U(p:Int):Prop:=0≤p∧p<18446744073709551616
abbrev I(n:Int):Prop:= -9223372036854775808≤n∧n≤9223372036854775807
theorem Z5f(n:Int):IntKind.u64.wrap n=n % 18446744073709551616:=by simp [IntKind.wrap,IntKind.bits,IntKind.signed]
theorem wrapU'{n:Int}(h:U n):IntKind.u64.wrap n=n:=by rw[Z5f];unfold U at h;omega
theorem Zbx{n:Int}(h:I n):IntKind.i64.wrap n=n:=by
 unfold I at h
 simp [IntKind.wrap,IntKind.bits,IntKind.signed];omega
theorem ofU{Z:Nat}(h:Z<18446744073709551616):(BitVec.ofInt 64(Z:Int)).toNat=Z:=by simp;omega
theorem Zpi{V:BitVec 64}:IntKind.u64.wrap(V.toNat:Nat)=(V.toNat:Int):=by
 have:=V.isLt
 exact wrapU'⟨by omega,by omega⟩
theorem or_low{p q:Int}(k:Nat){z:Int}(hz:0≤z)(hq:q=2^k*z)(hp:0≤p)(hk:p<2^k)(hs:q+p<18446744073709551616):bOr p q=q+p:=by
 obtain⟨Z,rfl⟩:=Int.eq_ofNat_of_zero_le hz
 obtain⟨Y,rfl⟩:=Int.eq_ofNat_of_zero_le hp
 have ex:(2:Int)^k*(Z:Nat)=((2^k*Z:Nat):Int):=by simp
 have hY:Y<2^k:=by
  have:((Y:Nat):Int)<((2^k:Nat):Int):=by simpa using hk
  exact Int.ofNat_lt.1 this
 subst hq
 rw[ex] at hs ⊢
 have hX:2^k*Z+Y<18446744073709551616:=by omega
 unfold bOr
 rw[Zpi,BitVec.toNat_or,ofU(by omega),ofU(by omega),Nat.or_comm,← Nat.two_pow_add_eq_or_of_lt hY]
 omega
theorem Zz7{p:Int}(hp:U p):Z8Q p 9223372036854775808=p % 9223372036854775808:=by
 obtain⟨h0,h1⟩:=hp
 obtain⟨Z,rfl⟩:=Int.eq_ofNat_of_zero_le h0
 unfold Z8Q
 have e:(~~~(BitVec.ofInt 64 9223372036854775808)).toNat=2^63-1:=by decide
 rw[Zpi,BitVec.toNat_and,ofU(by omega),e,Nat.and_two_pow_sub_one_eq_mod]
 omega
theorem Zii(r:Nat)(h:r<2^63):r ^^^ 2^63=2^63+r:=by
 have e:2^63+r=2^63 ||| r:=by
  have:=Nat.two_pow_add_eq_or_of_lt h 1
  simpa using this
 rw[e]
 refine Nat.eq_of_testBit_eq fun i=> ?_
 rw[Nat.testBit_xor,Nat.testBit_or,Nat.testBit_two_pow]
 by_cases hi:63=i
 ·subst hi
  rw[Nat.testBit_lt_two_pow h]
  simp
 ·simp [hi]
theorem Zlc{p:Int}(hp:U p):Z5e p 9223372036854775808=(p+9223372036854775808) % 18446744073709551616:=by
 obtain⟨h0,h1⟩:=hp
 obtain⟨Z,rfl⟩:=Int.eq_ofNat_of_zero_le h0
 unfold Z5e
 have e:(BitVec.ofInt 64 9223372036854775808).toNat=2^63:=by decide
 rw[Zpi,BitVec.toNat_xor,ofU(by omega),e]
 by_cases hz:Z<2^63
 ·rw[Zii Z hz]
  omega
 ·have h2:=Zii(Z-2^63)(by omega)
  have e2:Z=(Z-2^63) ^^^ 2^63:=by rw[h2];omega
  have e3:Z ^^^ 2^63=Z-2^63:=by
   rw[e2,Nat.xor_assoc,Nat.xor_self,Nat.xor_zero,← e2]
  rw[e3]
  omega
end Go.Pt
namespace Go.Rn
open Go.Pt
theorem Zij{m:Int}{neg:Bool}{T:Nat}{E e:Int}{n:Nat}(h:(bitLen T:Int)+(E-e)≤n):toQ m neg T E e≤2^n:=by
 have a1:=(bitLen_spec T).1
 unfold toQ
 by_cases he:e≤E
 ·rw[if_pos he]
  have hp:0<2^(E-e).toNat:=Nat.pow_pos(by omega)
  have:=Nat.mul_le_mul_right(2^(E-e).toNat)(Nat.le_of_lt a1)
  rw[← Nat.pow_add] at this
  have h2:=Nat.pow_le_pow_right(show 0<2 by omega)(show bitLen T+(E-e).toNat≤n by omega)
  omega
 ·rw[if_neg he]
  have b:=(Zz6 m neg T(e-E).toNat).2
  have h2:=Nat.pow_le_pow_right(show 0<2 by omega)(show bitLen T≤n+(e-E).toNat by omega)
  have h3:T/2^(e-E).toNat<2^n:=by
   apply Nat.div_lt_of_lt_mul
   rw[Nat.pow_add,Nat.mul_comm] at h2
   omega
  omega
theorem ZsB{m:Int}{neg:Bool}{T:Nat}{E e:Int}{n:Nat}(hT:T≠0)(h:(n:Int)+1≤(bitLen T:Int)+(E-e)):2^n≤toQ m neg T E e:=by
 have a2:=(bitLen_spec T).2 hT
 have a3:=Za1 hT
 unfold toQ
 by_cases he:e≤E
 ·rw[if_pos he]
  have:=Nat.mul_le_mul_right(2^(E-e).toNat) a2
  rw[← Nat.pow_add] at this
  have h2:=Nat.pow_le_pow_right(show 0<2 by omega)(show n≤bitLen T-1+(E-e).toNat by omega)
  omega
 ·rw[if_neg he]
  have b:=(Zz6 m neg T(e-E).toNat).1
  have hp:0<2^(e-E).toNat:=Nat.pow_pos(by omega)
  have h2:=Nat.pow_le_pow_right(show 0<2 by omega)(show n+(e-E).toNat≤bitLen T-1 by omega)
  have h3:2^n≤T/2^(e-E).toNat:=by
   rw[Nat.le_div_iff_mul_le hp,← Nat.pow_add]
   omega
  omega
theorem Zgq(m:Int)(neg:Bool)(T:Nat)(E:Int):toQ m neg T E(zx T E)≤9007199254740992:=by
 refine Zij(n:=53) ?_
 unfold zx lgN
 split<;>omega
theorem Zld{m:Int}{neg:Bool}{T:Nat}{E:Int}(hT:T≠0)(h: -1074≤lgN T E-52):4503599627370496≤toQ m neg T E(zx T E):=by
 refine ZsB(n:=52) hT ?_
 unfold zx lgN at*
 split<;>omega
theorem Zfx(T:Nat)(E:Int): -1074≤zx T E:=by unfold zx;split<;>omega
theorem Zle(m:Int)(neg:Bool)(T:Nat)(E:Int):0≤p0 m neg T E:=by
 have:=Zfx T E
 unfold p0
 omega
theorem Zz8(m:Int)(neg:Bool):bey m neg=9218868437227405312∨bey m neg=9218868437227405311:=by unfold bey;split<;>simp
end Go.Rn
namespace Go.Nt
def Zm:List Int→Nat
 | []=>0
 | x::r=>if Zm r=0 then(if x=0 then 0 else 1) else Zm r+1
theorem Za4:∀ L:List Int,Zm L≤L.length
 | []=>Nat.le_refl _
 | x::r=>by
  have:=Za4 r
  unfold Zm
  split
  ·split<;>simp
  ·simp;omega
theorem ZeP:∀ (L:List Int)(i:Nat),Zm L≤i→L.getD i 0=0
 | [],i,_=>by simp
 | x::r,i,h=>by
  unfold Zm at h
  cases i with
  | zero=>
   split at h
   ·split at h
    ·rename_i h1;simp [h1]
    ·omega
   ·omega
  | succ i=>
   have:=ZeP r i(by split at h<;>(try split at h)<;>omega)
   simpa using this
theorem Zcu:∀ L:List Int,Zm L=0∨L.getD(Zm L-1) 0≠0
 | []=> .inl rfl
 | x::r=>by
  have ih:=Zcu r
  unfold Zm
  split
  ·split
   ·exact .inl rfl
   ·rename_i h;exact .inr(by simpa using h)
  ·rename_i h
   rcases ih with ih | ih
   ·exact absurd ih h
   ·refine .inr ?_
    obtain⟨k,hk⟩:∃ k,Zm r=k+1:=⟨Zm r-1,by omega⟩
    rw[hk] at ih ⊢
    simpa using ih
theorem ZbT{L:List Int}{k:Nat}(h1:∀ i,k≤i→L.getD i 0=0)(h2:k=0∨L.getD(k-1) 0≠0):Zm L=k:=by
 rcases Nat.lt_trichotomy(Zm L) k with h | h | h
 ·rcases h2 with h2 | h2
  ·omega
  ·exact absurd(ZeP L(k-1)(by omega)) h2
 ·exact h
 ·rcases Zcu L with h3 | h3
  ·omega
  ·exact absurd(h1(Zm L-1)(by omega)) h3
def Zan(L M:List Int):Nat→Int
 | 0=>0
 | k+1=>if L.getD k 0=M.getD k 0 then Zan L M k else if L.getD k 0<M.getD k 0 then -1 else 1
def Zci(L M:List Int):Int:=if L.length=M.length then Zan L M L.length else if L.length<M.length then -1 else 1
def vb(b:Nat):List Int→Nat
 | []=>0
 | x::l=>x.toNat+b*vb b l
def db(b V:Nat):List Int:=if _h:V=0∨b<2 then [] else((V % b:Nat):Int)::db b(V/b)
 termination_by V
 decreasing_by exact Nat.div_lt_self(by omega)(by omega)
abbrev Dg(b:Nat)(x:Int):Prop:=0≤x∧x<b
theorem zp(b:Nat):db b 0=[]:=by rw[db];simp
theorem Zcv{b V:Nat}(hb:2≤b)(hV:V≠0):db b V=((V % b:Nat):Int)::db b(V/b):=by
 rw[db]
 rw[dif_neg(by omega)]
theorem Zb0{b:Nat}(hb:2≤b)(V:Nat):vb b(db b V)=V:=by
 induction V using Nat.strongRecOn with
 | ind V ih=>
  by_cases hV:V=0
  ·subst hV;rw[zp];rfl
  ·rw[Zcv hb hV]
   simp only[vb]
   rw[ih(V/b)(Nat.div_lt_self(by omega)(by omega)),Int.toNat_natCast]
   exact Nat.mod_add_div V b
theorem Zfy{b:Nat}(hb:2≤b)(V:Nat):∀ x∈db b V,Dg b x:=by
 induction V using Nat.strongRecOn with
 | ind V ih=>
  by_cases hV:V=0
  ·subst hV;rw[zp];intro x hx;cases hx
  ·rw[Zcv hb hV]
   intro x hx
   rcases List.mem_cons.1 hx with rfl | hx
   ·have:=Nat.mod_lt V(show b>0 by omega)
    exact⟨by omega,by omega⟩
   ·exact ih(V/b)(Nat.div_lt_self(by omega)(by omega)) x hx
theorem Zcw{b V:Nat}(hb:2≤b):db b V=[]↔V=0:=by
 constructor
 ·intro h
  by_cases hV:V=0
  ·exact hV
  ·rw[Zcv hb hV] at h;cases h
 ·rintro rfl;exact zp b
theorem zl{b:Nat}(hb:2≤b):∀ (L:List Int),(∀ x∈L,Dg b x)→L.take(Zm L)=db b(vb b L)
 | [],_=>by simp [vb,zp]
 | x::r,h=>by
  have ih:=zl hb r(fun y hy=>h y(List.mem_cons_of_mem _ hy))
  have hx:=h x(List.mem_cons_self)
  have hxn:((x.toNat:Nat):Int)=x:=Int.toNat_of_nonneg hx.1
  have hlt:x.toNat<b:=by omega
  have e1:(x.toNat+b*vb b r) % b=x.toNat:=by rw[Nat.add_mul_mod_self_left,Nat.mod_eq_of_lt hlt]
  have e2:(x.toNat+b*vb b r)/b=vb b r:=by rw[Nat.add_mul_div_left _ _(by omega),Nat.div_eq_of_lt hlt,Nat.zero_add]
  unfold Zm
  by_cases h0:Zm r=0
  ·rw[if_pos h0]
   rw[h0,List.take_zero] at ih
   have hv:vb b r=0:=(Zcw hb).1 ih.symm
   by_cases hx0:x=0
   ·rw[if_pos hx0]
    simp only[List.take_zero,vb,hv,hx0]
    simp [zp]
   ·rw[if_neg hx0]
    have hx1:x.toNat≠0:=by omega
    show [x]=_
    simp only[vb]
    rw[Zcv hb(by rw[hv];omega),e1,e2,hv,zp,hxn]
  ·rw[if_neg h0]
   have hv:vb b r≠0:=fun hv=>by
    rw[hv,zp] at ih
    have hl:=congrArg List.length ih
    have:=Za4 r
    simp at hl
    rcases hl with hl | hl
    ·exact h0 hl
    ·subst hl;exact h0 rfl
   have hpos:0<b*vb b r:=Nat.mul_pos(by omega)(by omega)
   show x::r.take(Zm r)=_
   simp only[vb]
   rw[Zcv hb(by omega),e1,e2,hxn,ih]
theorem Zat{b:Nat}(hb:2≤b){L:List Int}(h:∀ x∈L,Dg b x):Zm L=(db b(vb b L)).length:=by
 rw[← zl hb L h]
 have:=Za4 L
 simp
 omega
def Zbl(b:Nat)(L:List Int):Prop:=(∀ x∈L,Dg b x)∧Zm L=L.length
theorem ZdS{b:Nat}(hb:2≤b)(V:Nat):Zbl b(db b V):=by
 have h:=Zfy hb V
 refine⟨h,?_⟩
 have:=Zat hb h
 rw[Zb0 hb] at this
 exact this
theorem Zlf{b:Nat}(hb:2≤b){L:List Int}(h:Zbl b L):db b(vb b L)=L:=by
 rw[← zl hb L h.1,h.2,List.take_length]
theorem ZaY{b:Nat}(hb:2≤b):∀ (k V:Nat),V<b^k→(db b V).length≤k
 | 0,V,h=>by
  have:V=0:=by simpa using h
  subst this;rw[zp];exact Nat.le_refl _
 | k+1,V,h=>by
  by_cases hV:V=0
  ·subst hV;rw[zp];exact Nat.zero_le _
  ·rw[Zcv hb hV]
   have:V/b<b^k:=Nat.div_lt_of_lt_mul(by rw[Nat.pow_succ] at h;rw[Nat.mul_comm];exact h)
   have:=ZaY hb k(V/b) this
   simp
   omega
theorem Zbm{b:Nat}(hb:2≤b):∀ (L:List Int),(∀ x∈L,Dg b x)→vb b L<b^L.length
 | [],_=>by simp [vb]
 | x::r,h=>by
  have ih:=Zbm hb r(fun y hy=>h y(List.mem_cons_of_mem _ hy))
  have hx:=h x(List.mem_cons_self)
  have hlt:x.toNat<b:=by omega
  simp only[vb,List.length_cons,Nat.pow_succ]
  calc x.toNat+b*vb b r<b+b*vb b r:=by omega
   _=b*(vb b r+1):=by rw[Nat.mul_add,Nat.mul_one,Nat.add_comm]
   _≤b*b^r.length:=Nat.mul_le_mul_left _ ih
   _=b^r.length*b:=Nat.mul_comm _ _
theorem Zav(b:Nat):∀ (L M:List Int),vb b(L++M)=vb b L+b^L.length*vb b M
 | [],M=>by simp [vb]
 | x::r,M=>by
  simp only[List.cons_append,vb,Zav b r M,List.length_cons,Nat.pow_succ]
  rw[Nat.mul_add,← Nat.mul_assoc,Nat.mul_comm b(b^r.length)]
  omega
def fl:List Int→List Int
 | []=>[]
 | x::l=>x % 65536::x/65536::fl l
theorem ZsC(b:Nat)(x:Int):vb b [x]=x.toNat:=by simp [vb]
theorem Zag(b:Nat)(L:List Int)(i:Nat):vb b(L.take(i+1))=vb b(L.take i)+b^i*(L.getD i 0).toNat:=by
 by_cases h:i<L.length
 ·have e:L.take(i+1)=L.take i++[L.getD i 0]:=by
   rw[List.take_add_one,List.getElem?_eq_getElem h]
   simp [List.getD,List.getElem?_eq_getElem h]
  rw[e,Zav,ZsC,List.length_take]
  rw[show min i L.length=i from by omega]
 ·rw[List.take_of_length_le(by omega),List.take_of_length_le(by omega)]
  simp [List.getD,List.getElem?_eq_none(show L.length≤i by omega)]
theorem ZcW(b:Nat)(O:List Int)(x:Int):vb b(O++[x])=vb b O+b^O.length*x.toNat:=by rw[Zav,ZsC]
theorem Zlg{b:Nat}{O:List Int}{X Y:Nat}{k a c:Nat}(h:vb b O+b^O.length*k=X+Y):
  vb b(O++[(((k+a+c) % b:Nat):Int)])+b^(O.length+1)*((k+a+c)/b)=(X+b^O.length*a)+(Y+b^O.length*c):=by
 rw[ZcW,Int.toNat_natCast,Nat.pow_succ,Nat.mul_assoc]
 have e:=Nat.mod_add_div(k+a+c) b
 generalize hP:b^O.length=P at*
 have e1:P*((k+a+c) % b)+P*(b*((k+a+c)/b))=P*(k+a+c):=by rw[← Nat.mul_add,e]
 have e2:P*(k+a+c)=P*k+P*a+P*c:=by rw[Nat.mul_add,Nat.mul_add]
 omega
def bl(V:Nat):Nat:=if _h:V=0 then 0 else bl(V/2)+1
 termination_by V
 decreasing_by omega
theorem ZcX:bl 0=0:=by rw[bl];simp
theorem ZeQ{V:Nat}(h:V≠0):bl V=bl(V/2)+1:=by rw[bl];rw[dif_neg h]
theorem ZtX(V:Nat):V<2^bl V:=by
 induction V using Nat.strongRecOn with
 | ind V ih=>
  by_cases h:V=0
  ·subst h;rw[ZcX];decide
  ·rw[ZeQ h,Nat.pow_succ]
   have:=ih(V/2)(by omega)
   omega
theorem ZtY{V:Nat}(h:V≠0):2^(bl V-1)≤V:=by
 induction V using Nat.strongRecOn with
 | ind V ih=>
  rw[ZeQ h,Nat.add_sub_cancel]
  by_cases h2:V/2=0
  ·rw[h2,ZcX];omega
  ·have i:=ih(V/2)(by omega) h2
   have e:bl(V/2)=(bl(V/2)-1)+1:=by
    have:=ZeQ h2
    omega
   rw[e,Nat.pow_succ]
   omega
theorem Zlh{V k:Nat}(h0:2^k≤V)(h1:V<2^(k+1)):bl V=k+1:=by
 have hp:0<2^k:=Nat.pow_pos(by omega)
 have hV:V≠0:=by omega
 have a1:=ZtX V
 have a2:=ZtY hV
 have a3:bl V≠0:=by have:=ZeQ hV;omega
 rcases Nat.lt_or_ge(bl V)(k+1) with h | h
 ·have:=Nat.pow_le_pow_right(show 0<2 by omega)(show bl V≤k by omega)
  omega
 ·rcases Nat.lt_or_ge(k+1)(bl V) with h' | h'
  ·have:=Nat.pow_le_pow_right(show 0<2 by omega)(show k+1≤bl V-1 by omega)
   omega
  ·omega
theorem Zpj{V k:Nat}(h:V<2^k):bl V≤k:=by
 by_cases hV:V=0
 ·subst hV;rw[ZcX];omega
 ·have a:=ZtY hV
  rcases Nat.lt_or_ge k(bl V) with h' | h'
  ·have:=Nat.pow_le_pow_right(show 0<2 by omega)(show k≤bl V-1 by omega)
   omega
  ·exact h'
theorem Zfz(k:Nat):65536^k=2^(16*k):=by rw[show(65536:Nat)=2^16 from rfl,← Nat.pow_mul]
theorem Zz9{t lo k:Nat}(ht:t≠0)(hlo:lo<65536^k):bl(lo+65536^k*t)=16*k+bl t:=by
 have a1:=ZtX t
 have a2:=ZtY ht
 have a3:bl t≠0:=by have:=ZeQ ht;omega
 rw[Zfz] at*
 have e:16*k+bl t=(16*k+(bl t-1))+1:=by omega
 rw[e]
 refine Zlh ?_ ?_
 ·rw[Nat.pow_add]
  have:=Nat.mul_le_mul_left(2^(16*k)) a2
  omega
 ·rw[Nat.add_assoc,show bl t-1+1=bl t by omega,Nat.pow_add]
  have:=Nat.mul_le_mul_left(2^(16*k))(show t+1≤2^bl t by omega)
  rw[Nat.mul_add,Nat.mul_one] at this
  omega
def dgS(L:List Int)(i:Nat):Nat:=(L.getD i 0).toNat
theorem Zcj(k:Nat):2^k=65536^(k/16)*2^(k % 16):=by
 rw[Zfz,← Nat.pow_add]
 congr 1
 omega
theorem Z5g{L:List Int}(h:∀ x∈L,Dg 65536 x)(i:Nat):dgS L i<65536:=by
 unfold dgS
 by_cases hi:i<L.length
 ·have:=h(L.getD i 0)(by simp [List.getD,List.getElem?_eq_getElem hi])
  omega
 ·simp [List.getD,List.getElem?_eq_none(show L.length≤i by omega)]
theorem Zli{L:List Int}(h:∀ x∈L,Dg 65536 x)(z:Nat):vb 65536 L/65536^z=vb 65536(L.drop z)∧vb 65536 L % 65536^z=vb 65536(L.take z):=by
 have hp:0<65536^z:=Nat.pow_pos(by omega)
 by_cases hz:z≤L.length
 ·have e:vb 65536 L=vb 65536(L.take z)+65536^z*vb 65536(L.drop z):=by
   conv=>lhs;rw[← List.take_append_drop z L]
   rw[Zav,List.length_take,show min z L.length=z by omega]
  have hl:vb 65536(L.take z)<65536^z:=by
   have:=Zbm(b:=65536)(by omega)(L.take z)(fun x hx=>h x(List.mem_of_mem_take hx))
   rw[List.length_take,show min z L.length=z by omega] at this
   exact this
  rw[e]
  exact⟨by rw[Nat.add_mul_div_left _ _ hp,Nat.div_eq_of_lt hl,Nat.zero_add],by rw[Nat.add_mul_mod_self_left,Nat.mod_eq_of_lt hl]⟩
 ·have hl:vb 65536 L<65536^z:=by
   have h1:=Zbm(b:=65536)(by omega) L h
   have h2:=Nat.pow_le_pow_right(show 0<65536 by omega)(show L.length≤z by omega)
   omega
  rw[List.drop_of_length_le(by omega),List.take_of_length_le(by omega)]
  exact⟨Nat.div_eq_of_lt hl,Nat.mod_eq_of_lt hl⟩
theorem Zck{L:List Int}{z:Nat}:vb 65536(L.drop z)=dgS L z+65536*vb 65536(L.drop(z+1)):=by
 by_cases hz:z<L.length
 ·rw[List.drop_eq_getElem_cons hz]
  simp only[vb,dgS]
  simp [List.getD,List.getElem?_eq_getElem hz]
 ·rw[List.drop_of_length_le(by omega),List.drop_of_length_le(by omega)]
  simp [vb,dgS,List.getD,List.getElem?_eq_none(show L.length≤z by omega)]
theorem Zhh{s:Nat}(h:s≤16):2^s*2^(16-s)=65536:=by rw[← Nat.pow_add,show s+(16-s)=16 by omega]
theorem ZzA{L:List Int}(h:∀ x∈L,Dg 65536 x)(k:Nat):vb 65536 L/2^k % 2=dgS L(k/16)/2^(k % 16) % 2:=by
 obtain⟨e,_⟩:=Zli h(k/16)
 rw[Zcj,← Nat.div_div_eq_div_mul,e,Zck]
 have hd:=Zhh(s:=k % 16+1)(by omega)
 have e2:65536*vb 65536(L.drop(k/16+1))=2^(k % 16)*(2*(2^(16-(k % 16+1))*vb 65536(L.drop(k/16+1)))):=by
  rw[← hd,Nat.pow_succ]
  simp only[Nat.mul_assoc]
 have hp:0<2^(k % 16):=Nat.pow_pos(by omega)
 rw[e2,Nat.add_mul_div_left _ _ hp]
 omega
theorem lost_iff{L:List Int}(h:∀ x∈L,Dg 65536 x)(k:Nat):(vb 65536 L % 2^k≠0)↔(vb 65536(L.take(k/16))≠0∨dgS L(k/16) % 2^(k % 16)≠0):=by
 obtain⟨e1,e2⟩:=Zli h(k/16)
 have hp:0<65536^(k/16):=Nat.pow_pos(by omega)
 rw[Zcj,Nat.mod_mul,e1,e2,Zck]
 have hd:=Zhh(s:=k % 16)(by omega)
 have e3:(dgS L(k/16)+65536*vb 65536(L.drop(k/16+1))) % 2^(k % 16)=dgS L(k/16) % 2^(k % 16):=by
  rw[← hd,Nat.mul_assoc,Nat.add_mul_mod_self_left]
 rw[e3]
 generalize dgS L(k/16) % 2^(k % 16)=r
 generalize vb 65536(L.take(k/16))=u
 constructor
 ·intro h0
  by_cases hu:u=0
  ·right
   intro hr
   apply h0
   rw[hu,hr,Nat.mul_zero]
  ·exact .inl hu
 ·rintro(h0 | h0) hh
  ·omega
  ·have:0<65536^(k/16)*r:=Nat.mul_pos hp(by omega)
   omega
theorem Zlj{O:List Int}{P R y x0 x1 j W:Nat}(hPR:P*R=65536)(hO:O.length=j)(h:vb 65536 O*P+y=W+65536^j*(x0 % P)):
  vb 65536(O++[((x0/P+x1 % P*R:Nat):Int)])*P+y=(W+65536^j*x0)+65536^(j+1)*(x1 % P):=by
 have e:vb 65536(O++[((x0/P+x1 % P*R:Nat):Int)])=vb 65536 O+65536^j*(x0/P+x1 % P*R):=by
  rw[ZcW,hO,Int.toNat_natCast]
 have e2:=Nat.div_add_mod x0 P
 have e3:65536^j*(x0/P+x1 % P*R)*P=65536^j*(P*(x0/P))+65536^(j+1)*(x1 % P):=by
  rw[Nat.mul_assoc,Nat.add_mul,Nat.mul_add,Nat.mul_comm(x0/P) P,Nat.mul_assoc(x1 % P),Nat.mul_comm R P,hPR,Nat.pow_succ,Nat.mul_comm(x1 % P),Nat.mul_assoc]
 have e4:65536^j*x0=65536^j*(P*(x0/P))+65536^j*(x0 % P):=by rw[← Nat.mul_add,e2]
 rw[e,Nat.add_mul,e3]
 omega
theorem Zlk{P R x0 x1:Nat}(hP:0<P)(hPR:P*R=65536)(h0:x0<65536):x0/P+x1 % P*R<65536:=by
 have h1:x0/P<R:=Nat.div_lt_of_lt_mul(by omega)
 have h2:x1 % P+1≤P:=Nat.mod_lt _ hP
 have h3:=Nat.mul_le_mul_right R h2
 rw[Nat.add_mul,Nat.one_mul,hPR] at h3
 omega
theorem Zpk{L:List Int}(h:∀ x∈L,Dg 65536 x){k V':Nat}(e:V'*2^(k % 16)+dgS L(k/16) % 2^(k % 16)=vb 65536(L.drop(k/16))):V'=vb 65536 L/2^k:=by
 have hp:0<2^(k % 16):=Nat.pow_pos(by omega)
 obtain⟨e1,_⟩:=Zli h(k/16)
 rw[Zcj,← Nat.div_div_eq_div_mul,e1,← e,Nat.add_comm,Nat.mul_comm,Nat.add_mul_div_left _ _ hp,Nat.div_eq_of_lt(Nat.mod_lt _ hp),Nat.zero_add]
end Go.Nt
namespace Go.Rn
open Go.Nt
theorem ZbE(V:Nat):bl V=bitLen V:=by
 by_cases h:V=0
 ·subst h;rw[ZcX];rfl
 ·have h1:=(bitLen_spec V).1
  have h2:=(bitLen_spec V).2 h
  have h3:=Za1 h
  obtain⟨k,hk⟩:∃ k,bitLen V=k+1:=⟨bitLen V-1,by omega⟩
  rw[hk] at h1 h2 ⊢
  exact Zlh h2 h1
theorem Zpl(T k:Nat):(T/2^k % 2=1)↔2^k≤T % 2^(k+1):=by
 have hp:0<2^k:=Nat.pow_pos(by omega)
 have e:T % 2^(k+1)=T % 2^k+2^k*(T/2^k % 2):=by rw[Nat.pow_succ,Nat.mod_mul]
 have hl:=Nat.mod_lt T hp
 have h2:T/2^k % 2=0∨T/2^k % 2=1:=by omega
 rw[e]
 clear e
 generalize T % 2^k=r at hl
 generalize T/2^k % 2=b at h2
 generalize 2^k=P at hl hp
 rcases h2 with h | h
 ·subst h
  simp only[Nat.mul_zero,Nat.add_zero]
  omega
 ·subst h
  rw[Nat.mul_one]
  exact⟨fun _=>Nat.le_add_left _ _,fun _=>rfl⟩
theorem ZzB{r k:Nat}(hr:r≠0)(M:Int)(neg o:Bool):
  upR M neg o(z9 r(2^(k+1)))=(if M=2 then false else if M=3 then !neg else if M=4 then neg else if M=1 then decide(2^k≤r) else(decide(2^k≤r) && (!decide(r=2^k) || o))):=by
 have hc:¬ z9 r(2^(k+1))=0:=by rw[Zgn];exact hr
 unfold upR
 rw[if_neg hc]
 by_cases h2:M=2
 ·rw[if_pos h2,if_pos h2]
 ·rw[if_neg h2,if_neg h2]
  by_cases h3:M=3
  ·rw[if_pos h3,if_pos h3]
  ·rw[if_neg h3,if_neg h3]
   by_cases h4:M=4
   ·rw[if_pos h4,if_pos h4]
   ·rw[if_neg h4,if_neg h4]
    have e:2^(k+1)=2*2^k:=by rw[Nat.pow_succ,Nat.mul_comm]
    unfold z9
    rw[if_neg hr,e]
    generalize 2^k=P
    by_cases a:2*r<2*P
    ·rw[if_pos a]
     have:decide(P≤r)=false:=decide_eq_false(by omega)
     rw[this]
     split<;>simp
    ·rw[if_neg a]
     by_cases b:2*r=2*P
     ·rw[if_pos b]
      have h1:decide(P≤r)=true:=decide_eq_true(by omega)
      have h5:decide(r=P)=true:=decide_eq_true(by omega)
      rw[h1,h5]
      split<;>simp
     ·rw[if_neg b]
      have h1:decide(P≤r)=true:=decide_eq_true(by omega)
      have h5:decide(r=P)=false:=decide_eq_false(by omega)
      rw[h1,h5]
      split<;>simp
end Go.Rn
namespace Go.Wd
structure W4 where
 a:Int
 b:Int
 c:Int
 d:Int
def W4.val(x:W4):Int:=x.a+18446744073709551616*x.b+340282366920938463463374607431768211456*x.c+6277101735386680763835789423207666416102355444464034512896*x.d
abbrev W4.ok(x:W4):Prop:=(0≤x.a∧x.a<18446744073709551616)∧(0≤x.b∧x.b<18446744073709551616)∧(0≤x.c∧x.c<18446744073709551616)∧(0≤x.d∧x.d<18446744073709551616)
def W4.of(n:Int):W4:=
 ⟨n % 18446744073709551616,n/18446744073709551616 % 18446744073709551616,n/340282366920938463463374607431768211456 % 18446744073709551616,n/6277101735386680763835789423207666416102355444464034512896 % 18446744073709551616⟩
def eqW(x y:W4):Bool:=x.a==y.a && (x.b==y.b && (x.c==y.c && (x.d==y.d && true)))
theorem Zf0{x y:W4}:eqW x y=true↔x=y:=by
 cases x;cases y;simp [eqW]
theorem W4.ext'{x y:W4}(h1:x.a=y.a)(h2:x.b=y.b)(h3:x.c=y.c)(h4:x.d=y.d):x=y:=by
 cases x;cases y;simp_all
theorem W4.ok_of(n:Int):(W4.of n).ok:=by
 unfold W4.of W4.ok
 refine⟨⟨?_,?_⟩,⟨?_,?_⟩,⟨?_,?_⟩,⟨?_,?_⟩⟩<;>dsimp only<;>omega
theorem W4.of_val{x:W4}(h:x.ok):W4.of x.val=x:=by
 obtain⟨a,b,c,d⟩:=x
 unfold W4.ok at h
 unfold W4.val W4.of
 dsimp only at*
 refine W4.ext' ?_ ?_ ?_ ?_<;>dsimp only<;>omega
theorem W4.val_of(n:Int):(W4.of n).val=n % 115792089237316195423570985008687907853269984665640564039457584007913129639936:=by
 unfold W4.val W4.of
 dsimp only
 omega
theorem W4.val_bd{x:W4}(h:x.ok):0≤x.val∧x.val<115792089237316195423570985008687907853269984665640564039457584007913129639936:=by
 obtain⟨a,b,c,d⟩:=x
 unfold W4.ok at h
 unfold W4.val
 dsimp only at*
 omega
theorem W4.val_inj{x y:W4}(hx:x.ok)(hy:y.ok)(h:x.val=y.val):x=y:=by
 rw[← W4.of_val hx,← W4.of_val hy,h]
def ad(x y c:Int):Int:=(x+y+c) % 18446744073709551616
def ca(x y c:Int):Int:=(x+y+c)/18446744073709551616
def Z5h(x y:W4):W4:=⟨ad x.a y.a 0,ad x.b y.b(ca x.a y.a 0),ad x.c y.c(ca x.b y.b(ca x.a y.a 0)),ad x.d y.d(ca x.c y.c(ca x.b y.b(ca x.a y.a 0)))⟩
def Z5i(x y:W4):Int:=ca x.d y.d(ca x.c y.c(ca x.b y.b(ca x.a y.a 0)))
theorem ZtZ{x y:W4}(hx:x.ok)(hy:y.ok):Z5h x y=W4.of(x.val+y.val):=by
 obtain⟨a,b,c,d⟩:=x
 obtain⟨a',b',c',d'⟩:=y
 unfold W4.ok at hx hy
 unfold W4.val W4.of Z5h ad ca
 dsimp only at*
 refine W4.ext' ?_ ?_ ?_ ?_<;>dsimp only<;>omega
theorem Zua{x y:W4}(hx:x.ok)(hy:y.ok):(Z5i x y !=0)=decide(115792089237316195423570985008687907853269984665640564039457584007913129639936≤x.val+y.val):=by
 obtain⟨a,b,c,d⟩:=x
 obtain⟨a',b',c',d'⟩:=y
 unfold W4.ok at hx hy
 unfold W4.val Z5i ca
 dsimp only at*
 rw[Bool.eq_iff_iff]
 simp only[bne_iff_ne,ne_eq,decide_eq_true_eq]
 omega
def sb(x y c:Int):Int:=(x+18446744073709551616-y-c) % 18446744073709551616
end Go.Wd
