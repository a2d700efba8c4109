/-
  RunE, RunF, RunG, RunH, Tab
-/
import Derived.Test.YtdlpffgekmidnabDoorG03
import Derived.Laws.Externs
import Derived.Test.YtdlpffgekmidnabDoorProg
namespace Go.KRun
open Go.RowKit
abbrev Lf:=List Value×Hp×List Dec
abbrev Bp:=Option (List Value×TypeId)
structure Lg where
 cs:Log
 es:List (Lf×Lf)
 bs:List (Bp×Bp)
def Lg.ok (L:Lg):Prop:=okLog L.cs∧(∀ e∈L.es,e.1=e.2)∧∀ e∈L.bs,e.1=e.2
def Lg.add (lg:Log) (L:Lg):Lg:=⟨lg++L.cs,L.es,L.bs⟩
theorem Lg.add_ok {lg:Log}{L:Lg}(h:(Lg.add lg L).ok):okLog lg∧L.ok:=
 ⟨fun x hx=>h.1 x (List.mem_append_left _ hx),fun x hx=>h.1 x (List.mem_append_right _ hx),h.2⟩
abbrev CallF:=Nat→List Value→Hp→List Dec→Lg→Option (Value×Hp×List Dec×Lg)
def Tidy (w w':World):Prop:=Below w.heap.size w w'∧∀ k,w.heap.size≤k→k<w'.heap.size→iced w'.heap[k]?
structure TabOk (T:Tab):Prop where
 mixed:T.P.follows .mixedOrders=true
 ext:∀ f vals v lg,T.ext f vals=some (v,lg)→okLog lg→∀ w,(callFunc f vals.toArray).run T.P w= .ok (.value v) w
 con:∀ f vals s v s' lg,T.con f vals s=some (v,s',lg)→okLog lg→(∃ F,T.P.funcs[f]? =some F∧(F.name== "runtime.NumGoroutine")=false∧F.body.isSome=true)∧∀ w,Calls T.P f vals.toArray w fun e w'=>e= .returned v∧Tidy w w'
 fn:∀ f F,T.fn f=some F→T.P.funcs[f]? =some F∧(F.name== "runtime.NumGoroutine")=false
 hc:∀ f vals h s v h' s' lg,T.hc f vals h s=some (v,h',s',lg)→okLog lg→(∃ F,T.P.funcs[f]? =some F∧(F.name== "runtime.NumGoroutine")=false∧F.body.isSome=true)∧
  ∀ m B w,Emb m B h w→(∀ v∈vals,lt h.n v=true)→Calls T.P f (vals.map (mv m)).toArray w fun e w'=>∃ m',e= .returned (mv m' v)∧Came m B h w v h' m' w'
structure Rel (m:Mp) (B:Nat) (x:Lf) (a:Act) (w:World):Prop where
 tmps:a.tmps=(x.1.map (mv m)).toArray
 dfr:a.defers=[]
 emb:Emb m B x.2.1 w
 wf:∀ v∈x.1,lt x.2.1.n v=true
def Reach (m:Mp) (B n:Nat) (w:World) (x':Lf) (a':Act) (w':World):Prop:=
 ∃ m',Agree m m' n∧Rel m' B x' a' w'∧Below B w w'∧n≤x'.2.1.n
theorem Reach.trans {m m':Mp}{B n n':Nat}{w w':World}{x:Lf}{a:Act}{w'':World}(h1:Agree m m' n) (h2:Below B w w') (h3:n≤n') (h:Reach m' B n' w' x a w''):Reach m B n w x a w'':=by
 obtain⟨m'',k1,k2,k3,k4⟩:=h;exact⟨m'',h1.trans k1 h3,k2,h2.trans k3,Nat.le_trans h3 k4⟩
def putL (t:List Value):Option Tmp→Value→List Value
 | none,_=>t
 | some d,v=>t.set d v
theorem Rel.put {m m':Mp}{B:Nat}{x:Lf}{a:Act}{w w':World}(R:Rel m B x a w) {v:Value}{h':Hp}(hm:Agree m m' x.2.1.n) (E:Emb m' B h' w') (hn:x.2.1.n≤h'.n) (hv:lt h'.n v=true) (d:Option Tmp) (s':List Dec):
  Rel m' B (putL x.1 d v,h',s') (a.put d (mv m' v)) w':=by
 have e:x.1.map (mv m)=x.1.map (mv m'):=List.map_congr_left fun y hy=>(mv_agree hm (R.wf y hy)).symm;refine⟨?_,?_,E,?_⟩
 ·cases d with
  | none=>simp only[Act.put,putL];rw[R.tmps,e]
  | some d=>simp only[Act.put,putL];rw[R.tmps,e,List.map_set,List.setIfInBounds_toArray]
 ·cases d<;>exact R.dfr
 ·intro y hy;cases d with
  | none=>exact lt_mono hn (R.wf y hy)
  | some d=>
   simp only[putL] at hy;rcases List.mem_or_eq_of_mem_set hy with hy | hy
   ·exact lt_mono hn (R.wf y hy)
   ·subst hy;exact hv
theorem Reach.put {m m':Mp}{B:Nat}{x:Lf}{a:Act}{w w':World}(R:Rel m B x a w) {v:Value}{h':Hp}(C:Came m B x.2.1 w v h' m' w') (d:Option Tmp) (s':List Dec):
  Reach m B x.2.1.n w (putL x.1 d v,h',s') (a.put d (mv m' v)) w':=
 ⟨m',C.agree,R.put C.agree C.emb C.grown C.val d s',C.below,C.grown⟩
theorem Reach.undef {m:Mp}{B:Nat}{x:Lf}{a:Act}{w:World}(R:Rel m B x a w) (d:Option Tmp) (s':List Dec):
  Reach m B x.2.1.n w (putL x.1 d undef,x.2.1,s') (a.put d undef) w:=by
 have:=Reach.put (v:=Go.undef) R ⟨Agree.refl _ _,R.emb,Below.refl _ _,Nat.le_refl _,by simp [Go.undef,lt]⟩ d s';rw[mv_undef] at this;exact this
def wantS (ops:Array Oper) (t:List Value) (s:List Dec) (o:Oper):Bool×List Dec×Log:=
 match o.guard with
 | none=>(true,s,[])
 | some g=>
  match (ops[g.1]?).bind (·.dst) with
  | none=>(false,s,[])
  | some d=>
   match t[d]? with
   | some (.bool b)=>((pickB b s).1==g.2,(pickB b s).2.1,(pickB b s).2.2)
   | some (.iface _ _)=>(false,s,[(true,false)])
   | _=>(false,s,[])
theorem mv_bool {m:Mp}{v:Value}{b:Bool}(hv:∀ t u,v≠ .iface t u) (h:mv m v= .bool b):v= .bool b:=by
 cases v with
 | bool c=>simpa [mv,mv2,mv1] using h
 | pointer a=>cases a<;>simp [mv,mv2,mv1] at h
 | map a=>cases a<;>simp [mv,mv2,mv1] at h
 | slice a l c=>cases a<;>simp [mv,mv2,mv1] at h
 | iface t u=>exact absurd rfl (hv t u)
 | _=>simp [mv,mv2,mv1] at h
theorem wantS_ok {m:Mp}{ops:Array Oper}{t:List Value}{a:Act}(ha:a.tmps=(t.map (mv m)).toArray) {s:List Dec}{o:Oper}(h:okLog (wantS ops t s o).2.2):
  (wantS ops t s o).1=Region.wanted o (yielded ops a.tmps):=by
 unfold wantS Region.wanted yielded at*;cases hg:o.guard with
 | none=>rfl
 | some g=>
  rw[hg] at h;obtain⟨j,want⟩:=g;simp only at h ⊢;cases hd:(ops[j]?).bind (·.dst) with
  | none=>simp
  | some d=>
   simp only[hd] at h ⊢;rw[ha];simp only[Option.bind_some,List.getElem?_toArray,List.getElem?_map];cases ht:t[d]? with
   | none=>simp
   | some v=>
    simp only[ht] at h;simp only[Option.map_some];split at h
    ·rename_i b hb;cases hb;have e:=pickB_ok h;simp only[mv,mv2,mv1];rw[e];rfl
    ·have:=h _ Xf;cases this
    ·rename_i hb hi;have:∀ b,mv m v≠ .bool b:=fun b hbb=>hb b (by rw[mv_bool (fun t u e=>hi t u (by rw[e])) hbb]);split
     ·rename_i b hbb;exact absurd (Option.some.inj hbb) (this b)
     ·rfl
def goCall (t:List Value):Op→Option (Nat×List Operand)
 | .call ⟨.value (.func f),args,_⟩=>some (f,args.toList)
 | .call ⟨.value (.tmp k),args,_⟩=>
  match t.getD k undef with
  | .func (.func f) ⟨[]⟩ ⟨[]⟩=>some (f,args.toList)
  | _=>none
 | _=>none
def execS (T:Tab) (call:CallF) (o:Oper) (x:Lf) (L:Lg):Option (Lf×Lg):=
 match goCall x.1 o.op with
 | some c=>
  if (c.2.all okX)=true then
   match T.ext c.1 (c.2.map (ev x.1)) with
   | some r=>if ((c.2.map (ev x.1)).all (lt 0) && lt 0 r.1)=true then some ((putL x.1 o.dst r.1,x.2.1,x.2.2),Lg.add r.2 L) else none
   | none=>
    match T.con c.1 (c.2.map (ev x.1)) x.2.2 with
    | some r=>if ((c.2.map (ev x.1)).all (lt 0) && lt 0 r.1)=true then some ((putL x.1 o.dst r.1,x.2.1,r.2.1),Lg.add r.2.2 L) else none
    | none=>
     match T.hc c.1 (c.2.map (ev x.1)) x.2.1 x.2.2 with
     | some r=>some ((putL x.1 o.dst r.1,r.2.1,r.2.2.1),Lg.add r.2.2.2 L)
     | none=>
      match call c.1 (c.2.map (ev x.1)) x.2.1 x.2.2 L with
      | some (v,h',s',L')=>
       match Nat.beq h'.n x.2.1.n with
       | true=>some ((putL x.1 o.dst v,h',s'),L')
       | false=>if (lt 0 v && (h'.cut x.2.1.n).tight)=true then some ((putL x.1 o.dst v,h'.cut x.2.1.n,s'),L') else some ((putL x.1 o.dst v,h',s'),L')
      | none=>none
  else none
 | none=>
  match stepOp T x.1 x.2.1 x.2.2 o with
  | some r=>some ((putL x.1 o.dst r.1,r.2.1,r.2.2.1),Lg.add r.2.2.2 L)
  | none=>none
def CallOk (T:Tab) (call:CallF):Prop:=∀ f vals h s L v h' s' L',call f vals h s L=some (v,h',s',L')→L'.ok→L.ok∧
 (∃ F,T.P.funcs[f]? =some F∧(F.name== "runtime.NumGoroutine")=false∧F.body.isSome=true)∧
 ∀ m B w,Emb m B h w→(∀ v∈vals,lt h.n v=true)→Calls T.P f (vals.map (mv m)).toArray w fun e w'=>∃ m',e= .returned (mv m' v)∧Came m B h w v h' m' w'
theorem callFunc_run {P:Program}{f:Nat}{F:Func}(hf:P.funcs[f]? =some F) (hn:(F.name== "runtime.NumGoroutine")=false) (hb:F.body.isSome=true) (args:Array Value) (w:World):
  (callFunc f args).run P w= .ok (.enter f args) w:=by
 have h1:F.name≠ "runtime.NumGoroutine" :=by simpa using hn
 obtain⟨c,hc⟩:=Option.isSome_iff_exists.1 hb;simp [callFunc,hf,h1,hc]
theorem execCall {P:Program}{a:Act}{o:Oper}{f:Nat}{cal:Operand}{args:Array Operand}{tys:Array TypeId}(ho:o.op= .call ⟨.value cal,args,tys⟩) (he:a.eval cal= .func (.func f) #[] #[]) (w:World):
  (execOp a.eval o).run P w=(callFunc f (args.map a.eval)).run P w:=by
 unfold execOp;rw[ho];simp [resolve,he,Deferred.ofValue,invoke]
theorem clean_emb {m:Mp}{B:Nat}{h:Hp}{w w':World}(E:Emb m B h w) (C:Tidy w w'):Emb m B h w'∧Below B w w':=by
 refine⟨⟨E.len,fun b x hb hx=> ?_,E.low,E.ros,E.inj,E.wf,Nat.le_trans E.base C.1.size,fun k hk hk'=> ?_,fun b x hb hx=> ?_⟩,C.1.mono E.base⟩
 ·exact (E.lies b x hb hx).congr (C.1.block _ (E.here hb hx))
 ·by_cases h1:k<w.heap.size
  ·rw[C.1.block k h1];exact E.ice k hk h1
  ·exact C.2 k (by omega) hk'
 ·exact (E.abs b x hb hx).heap E.base C.1.size fun k hk=>C.1.block _ hk
theorem evs_mv {m:Mp}{t:List Value}{a:Act}(ha:a.tmps=(t.map (mv m)).toArray) {args:Array Operand}(h:∀ x∈args.toList,okX x=true):
  args.map a.eval=((args.toList.map (ev t)).map (mv m)).toArray:=by
 have:args.map a.eval=args.map fun x=>mv m (ev t x):=Array.map_congr_left fun x hx=>eval_mv ha (h x (by simpa using hx));rw[this];cases args;simp
theorem execS_ok {T:Tab}(hT:TabOk T) {call:CallF}(hC:CallOk T call) {o:Oper}{x x':Lf}{L L':Lg}(hs:execS T call o x L=some (x',L')) (hL:L'.ok):
  L.ok∧∀ m B a w,Rel m B x a w→∀ (Q:Exit→Act→World→Prop) (K:Act→World→Prop),(∀ a' w',Reach m B x.2.1.n w x' a' w'→K a' w')→o.wp T.P a w K Q:=by
 unfold execS at hs;split at hs
 ·rename_i c hc;have hop:∃ cal args tys,o.op= .call ⟨.value cal,args,tys⟩∧c.2=args.toList∧okX cal=true∧ev x.1 cal= .func (.func c.1) #[] #[]:=by
   unfold goCall at hc;split at hc
   ·rename_i f args tys hop;cases hc;exact⟨_,args,tys,hop,rfl,rfl,rfl⟩
   ·rename_i k args tys hop;split at hc
    ·rename_i f hk;cases hc;exact⟨_,args,tys,hop,rfl,rfl,hk⟩
    ·cases hc
   ·cases hc
  obtain⟨cal,args,tys,hop,hargs,hox,hoe⟩:=hop;have hev:∀ (m:Mp) (a:Act) (_:a.tmps=(x.1.map (mv m)).toArray),a.eval cal= .func (.func c.1) #[] #[]:=fun m a ha=>by
   rw[eval_mv ha hox,hoe];simp [mv,mv2,mv1]
  split at hs
  ·rename_i hall;simp only[List.all_eq_true] at hall;rw[hargs] at hall;have stillArgs:∀ (m:Mp) (a:Act) (_:a.tmps=(x.1.map (mv m)).toArray),((c.2.map (ev x.1)).all (lt 0))=true→args.map a.eval=(c.2.map (ev x.1)).toArray:=by
    intro m a ha hst;rw[evs_mv ha hall,hargs];congr 1;refine (List.map_congr_left fun y hy=>mv_still (List.all_eq_true.1 hst y ?_)).trans (List.map_id' _);rw[hargs];exact hy
   split at hs
   ·rename_i r hr;split at hs
    ·rename_i hst;simp only[Xh] at hst;cases hs;obtain⟨h1,h2⟩:=Lg.add_ok hL;refine⟨h2,fun m B a w R Q K hK=> ?_⟩;have hrun:=hT.ext _ _ _ _ hr h1 w;rw[← stillArgs m a R.tmps hst.1] at hrun;unfold Oper.wp;rw[execCall hop (hev m a R.tmps),hrun];simp only[Oper.upon];have:=Reach.put R ⟨Agree.refl m _,R.emb,Below.refl _ _,Nat.le_refl _,lt_mono (Nat.zero_le _) hst.2⟩ o.dst x.2.2;rw[mv_still hst.2] at this;exact hK _ _ this
    ·cases hs
   ·split at hs
    ·rename_i r hr;split at hs
     ·rename_i hst;simp only[Xh] at hst;cases hs;obtain⟨h1,h2⟩:=Lg.add_ok hL;refine⟨h2,fun m B a w R Q K hK=> ?_⟩;obtain⟨⟨F,hF,hFn,hFb⟩,hcalls⟩:=hT.con _ _ _ _ _ _ hr h1;have hrun:=callFunc_run hF hFn hFb (args.map a.eval) w;unfold Oper.wp;rw[execCall hop (hev m a R.tmps),hrun];simp only[Oper.upon];rw[stillArgs m a R.tmps hst.1];refine (hcalls w).mono fun e w' he=> ?_;obtain⟨rfl,hcl⟩:=he;obtain⟨E',hb⟩:=clean_emb R.emb hcl;have:=Reach.put R ⟨Agree.refl m _,E',hb,Nat.le_refl _,lt_mono (Nat.zero_le _) hst.2⟩ o.dst r.2.1;rw[mv_still hst.2] at this;exact hK _ _ this
     ·cases hs
    ·split at hs
     ·rename_i r hr;cases hs;obtain⟨h1,h2⟩:=Lg.add_ok hL;refine⟨h2,fun m B a w R Q K hK=> ?_⟩;obtain⟨⟨F,hF,hFn,hFb⟩,hcalls⟩:=hT.hc _ _ _ _ _ _ _ _ hr h1;have hrun:=callFunc_run hF hFn hFb (args.map a.eval) w;unfold Oper.wp;rw[execCall hop (hev m a R.tmps),hrun];simp only[Oper.upon];rw[evs_mv R.tmps hall,← hargs];refine (hcalls m B w R.emb (fun y hy=> ?_)).mono fun e w' he=> ?_
      ·obtain⟨z,hz,rfl⟩:=List.mem_map.1 hy;exact ev_lt R.wf (hall z (hargs ▸ hz))
      ·obtain⟨m',rfl,C⟩:=he;exact hK _ _ (Reach.put R C o.dst _)
     ·split at hs
      ·rename_i v h' s' L1 hcall;have hres:L1=L':=by
        split at hs
        ·cases hs;rfl
        ·split at hs<;>(cases hs;rfl)
       subst hres;obtain⟨h2,⟨F,hF,hFn,hFb⟩,hcalls⟩:=hC _ _ _ _ _ _ _ _ _ hcall hL;refine⟨h2,fun m B a w R Q K hK=> ?_⟩;have hrun:=callFunc_run hF hFn hFb (args.map a.eval) w;unfold Oper.wp;rw[execCall hop (hev m a R.tmps),hrun];simp only[Oper.upon];rw[evs_mv R.tmps hall,← hargs];refine (hcalls m B w R.emb (fun y hy=> ?_)).mono fun e w' he=> ?_
       ·obtain⟨z,hz,rfl⟩:=List.mem_map.1 hy;exact ev_lt R.wf (hall z (hargs ▸ hz))
       ·obtain⟨m',rfl,C⟩:=he;split at hs
        ·cases hs;exact hK _ _ (Reach.put R C o.dst s')
        split at hs
        ·rename_i hcut;simp only[Xh] at hcut;cases hs;have:=Reach.put R ⟨Agree.refl m _,C.emb.cut C.agree C.grown hcut.2,C.below,by simp [Hp.cut],lt_mono (Nat.zero_le _) hcut.1⟩ o.dst s';rw[mv_still hcut.1] at this;rw[mv_still hcut.1];exact hK _ _ this
        ·cases hs;exact hK _ _ (Reach.put R C o.dst s')
      ·cases hs
  ·cases hs
 ·split at hs
  ·rename_i r hr;cases hs;obtain⟨h1,h2⟩:=Lg.add_ok hL;refine⟨h2,fun m B a w R Q K hK=> ?_⟩;obtain⟨m',w',nx,hrun,hnx,C⟩:=stepOp_ok (v:=r.1) (h':=r.2.1) (s':=r.2.2.1) (lg:=r.2.2.2) R.tmps R.emb R.wf hr h1;unfold Oper.wp;rw[hrun];rcases hnx with rfl | ⟨rfl,hv⟩
   ·simp only[Oper.upon];exact hK _ _ (Reach.put R C o.dst _)
   ·simp only[Oper.upon];have:=Reach.put R C o.dst r.2.2.1;rw[hv,mv_undef] at this;rw[← hv] at this;exact hK _ _ (by rw[← hv] at*;exact this)
  ·cases hs
def opS (T:Tab) (call:CallF) (ops:Array Oper) (o:Oper) (x:Lf) (L:Lg):Option (Lf×Lg):=
 match (wantS ops x.1 x.2.2 o).1 with
 | true=>execS T call o (x.1,x.2.1,(wantS ops x.1 x.2.2 o).2.1) (Lg.add (wantS ops x.1 x.2.2 o).2.2 L)
 | false=>some ((putL x.1 o.dst undef,x.2.1,(wantS ops x.1 x.2.2 o).2.1),Lg.add (wantS ops x.1 x.2.2 o).2.2 L)
theorem opS_ok {T:Tab}(hT:TabOk T) {call:CallF}(hC:CallOk T call) {ops:Array Oper}{i:Nat}{o:Oper}(hi:ops[i]? =some o) {x x':Lf}{L L':Lg}(hs:opS T call ops o x L=some (x',L')) (hL:L'.ok):
  L.ok∧∀ m B a w,Rel m B x a w→∀ (Q:Exit→Act→World→Prop) (K:Act→World→Prop),(∀ a' w',Reach m B x.2.1.n w x' a' w'→K a' w')→wpOp T.P ops Q i K a w:=by
 unfold opS at hs;cases hw:(wantS ops x.1 x.2.2 o).1 with
 | true=>
  rw[hw] at hs;simp only at hs;obtain⟨h1,h2⟩:=execS_ok hT hC hs hL;obtain⟨h3,h4⟩:=Lg.add_ok h1;refine⟨h4,fun m B a w R Q K hK=> ?_⟩;have e:=wantS_ok R.tmps h3;rw[hw] at e;unfold wpOp;simp only[hi,← e,if_true];exact .inl (h2 m B a w ⟨R.tmps,R.dfr,R.emb,R.wf⟩ Q K hK)
 | false=>
  rw[hw] at hs;simp only at hs;cases hs;obtain⟨h3,h4⟩:=Lg.add_ok hL;refine⟨h4,fun m B a w R Q K hK=> ?_⟩;have e:=wantS_ok R.tmps h3;rw[hw] at e;unfold wpOp;simp only[hi,← e,Bool.false_eq_true,if_false];exact hK _ _ (Reach.undef R o.dst _)
def evOps (T:Tab) (call:CallF) (ops:Array Oper):List Oper→Lf→Lg→Option (Lf×Lg)
 | [],x,L=>some (x,L)
 | o::l,x,L=>
  match opS T call ops o x L with
  | some r=>evOps T call ops l r.1 r.2
  | none=>none
theorem evOps_ok {T:Tab}(hT:TabOk T) {call:CallF}(hC:CallOk T call) {ops:Array Oper}:∀ (l:List Oper) (k:Nat) (_:ops.toList.drop k=l) (x x':Lf) (L L':Lg),evOps T call ops l x L=some (x',L')→L'.ok→
  L.ok∧∀ m B a w,Rel m B x a w→∀ Q:Exit→Act→World→Prop,(∀ a' w',Reach m B x.2.1.n w x' a' w'→Q .normal a' w')→wpOps T.P ops Q (List.range' k l.length) a w:=by
 intro l
 induction l with
 | nil=>
  intro k _ x x' L L' hs hL;simp only[evOps] at hs;cases hs;exact⟨hL,fun m B a w R Q hQ=>hQ _ _ ⟨m,Agree.refl _ _,R,Below.refl _ _,Nat.le_refl _⟩⟩
 | cons o l ih=>
  intro k hk x x' L L' hs hL;simp only[evOps] at hs;split at hs
  ·rename_i r hr;have hi:ops[k]? =some o:=by
    have:(ops.toList.drop k)[0]? =some o:=by rw[hk];rfl
    rw[List.getElem?_drop] at this;simpa using this
   have hk':ops.toList.drop (k+1)=l:=by
    rw[← List.drop_drop,hk];rfl
   obtain⟨h1,h2⟩:=ih (k+1) hk' _ _ _ _ hs hL;obtain⟨h3,h4⟩:=opS_ok (x':=r.1) (L':=r.2) hT hC hi hr h1;refine⟨h3,fun m B a w R Q hQ=> ?_⟩;simp only[List.length_cons,List.range'_succ];rw[wpOps_cons];refine h4 m B a w R Q _ fun a' w' hR=> ?_;obtain⟨m',k1,k2,k3,k4⟩:=hR;exact h2 m' B a' w' k2 Q fun a'' w'' hR'=>hQ a'' w'' (Reach.trans k1 k3 k4 hR')
  ·cases hs
def pureK:Op→Bool
 | .load _ _ | .store _ _ _ | .box _ _ | .alloc _=>false
 | .call ⟨.builtin _,_,_⟩=>true
 | .call _=>false
 | _=>true
def tryTake (T:Tab) (ops:Array Oper) (ws:List Nat) (h0:Hp) (listed:Array Bool) (x:Lf) (i:Nat):Option (Lf×Log):=
 match ops[i]? with
 | none=>none
 | some o=>
  match pureK o.op with
  | true=>
   if Region.free .any ops listed i=true then
    match (wantS ops x.1 x.2.2 o).1 with
    | false=>some ((putL x.1 o.dst undef,x.2.1,(wantS ops x.1 x.2.2 o).2.1),(wantS ops x.1 x.2.2 o).2.2)
    | true=>
     match pureOp T x.1 (wantS ops x.1 x.2.2 o).2.1 o with
     | some r=>some ((putL x.1 o.dst r.1,x.2.1,r.2.1),r.2.2++(wantS ops x.1 x.2.2 o).2.2)
     | none=>none
   else none
  | false=>
   match o.op with
   | .load ty p=>
    match ev x.1 p with
    | .pointer (some ad)=>
     if (okX p && ws.contains ad.block && Region.free .any ops listed i)=true then
      match (wantS ops x.1 x.2.2 o).1 with
      | false=>some ((putL x.1 o.dst undef,x.2.1,(wantS ops x.1 x.2.2 o).2.1),(wantS ops x.1 x.2.2 o).2.2)
      | true=>
       match (wantS ops x.1 x.2.2 o).2.1 with
       | .inr (.inr (.inr (.inr (.inr v))))::s'=>
        match loadY T.P ty ad h0 v with
        | some lg=>some ((putL x.1 o.dst v,x.2.1,s'),lg++(wantS ops x.1 x.2.2 o).2.2)
        | none=>none
       | s'=>
        match loadS T.P ty ad h0 with
        | some v=>some ((putL x.1 o.dst v,x.2.1,s'),(wantS ops x.1 x.2.2 o).2.2)
        | none=>none
     else none
    | _=>none
   | _=>none
theorem okLog_append {a b:Log}(h:okLog (a++b)):okLog a∧okLog b:=
 ⟨fun x hx=>h x (List.mem_append_left _ hx),fun x hx=>h x (List.mem_append_right _ hx)⟩
structure Began (m0:Mp) (B:Nat) (h0:Hp) (w0:World) (ws:List Nat):Prop where
 emb:Emb m0 B h0 w0
 low:∀ b∈ws,b<h0.n
def Same (m0:Mp) (h0:Hp) (ws:List Nat) (w:World):Prop:=∀ b∈ws,∀ y,h0.blk? b=some y→tomb y.2=false→lie w (m0 b) (y.1.map (mv1 m0)) y.2
theorem tryTake_ok {T:Tab}{ops:Array Oper}(hsel:Region.noSelect ops=true) {ws:List Nat}{h0:Hp}{listed:Array Bool}{x x':Lf}{i:Nat}{lg:Log}(hs:tryTake T ops ws h0 listed x i=some (x',lg)) (hlg:okLog lg)
  (hr:i∈Region.ready .any ops listed) {m0:Mp}{w0:World}{B:Nat}(G:Began m0 B h0 w0 ws) {m:Mp}(hm:Agree m0 m h0.n) {a:Act}{w:World}(R:Rel m B x a w) (hn:h0.n≤x.2.1.n) (hS:Same m0 h0 ws w)
  {Q:Exit→Act→World→Prop}(hQ:∀ c a w,Q (.panic c) a w→False) {fuel:Nat}
  (H:∀ a',Reach m B x.2.1.n w x' a' w→wpAnyH T.P .any ops Q (Same m0 h0 ws) fuel (listed.setIfInBounds i true) a' w):wpAnyH T.P .any ops Q (Same m0 h0 ws) (fuel+1) listed a w:=by
 unfold tryTake at hs;split at hs
 ·cases hs
 ·rename_i o hi;split at hs
  ·split at hs
   ·rename_i hfree;split at hs
    ·rename_i hw;cases hs;have e:=wantS_ok R.tmps hlg;rw[hw] at e;exact wpAnyH_take (v:=undef) hi hsel hfree (by simpa using hr) (fun c a w h=>(hQ _ _ _ h).elim) (.inr ⟨e.symm,rfl⟩) hS (H _ (Reach.undef R o.dst _))
    ·rename_i hw;split at hs
     ·rename_i r hr';cases hs;obtain⟨l1,l2⟩:=okLog_append hlg;have e:=wantS_ok R.tmps l2;rw[hw] at e;obtain⟨g1,g2⟩:=pureOp_ok (v:=r.1) (s':=r.2.1) (lg:=r.2.2) R.tmps R.wf hr' l1;exact wpAnyH_take (v:=mv m r.1) hi hsel hfree (by simpa using hr) (fun c a w h=>(hQ _ _ _ h).elim) (.inl ⟨e.symm,fun w _=>g1 w⟩) hS
       (H _ (Reach.put R ⟨Agree.refl _ _,R.emb,Below.refl _ _,Nat.le_refl _,g2⟩ o.dst _))
     ·cases hs
   ·cases hs
  ·split at hs
   ·rename_i ty p hop;split at hs
    ·rename_i ad had;split at hs
     ·rename_i hc;simp only[Xh,List.contains_iff_mem] at hc;obtain⟨⟨hx,hmem⟩,hfree⟩:=hc;split at hs
      ·rename_i hw;cases hs;have e:=wantS_ok R.tmps hlg;rw[hw] at e;exact wpAnyH_take (v:=undef) hi hsel hfree (by simpa using hr) (fun c a w h=>(hQ _ _ _ h).elim) (.inr ⟨e.symm,rfl⟩) hS (H _ (Reach.undef R o.dst _))
      ·rename_i hw;have e2:a.eval p= .pointer (some (mvA m ad)):=by rw[eval_mv R.tmps hx,had];rfl
       have lies:∀ w',Same m0 h0 ws w'→∀ y,h0.blk? ad.block=some y→tomb y.2=false→lie w' (m ad.block) (y.1.map (mv1 m)) y.2:=fun w' hw' y hy hty=>by
        rw[hm _ (G.low _ hmem),map_agree hm (G.emb.wf _ y hy)];exact hw' _ hmem y hy hty
       split at hs
       ·rename_i v s' hsv;split at hs
        ·rename_i lg' hv;cases hs;obtain⟨l1,l2⟩:=okLog_append hlg;have e:=wantS_ok R.tmps l2;rw[hw] at e;have g:∀ w',Same m0 h0 ws w'→(Instr.loadAt ty (.pointer (some (mvA m ad)))).run T.P w'= .ok (mv m v) w'∧lt h0.n v=true:=fun w' hw'=>
          loadY_at (lies w' hw') (fun y hy=>G.emb.wf _ y hy) hv l1
         refine wpAnyH_take (v:=mv m v) hi hsel hfree (by simpa using hr) (fun c a w h=>(hQ _ _ _ h).elim) (.inl ⟨e.symm,fun w' hw'=> ?_⟩) hS
          (H _ (Reach.put R ⟨Agree.refl _ _,R.emb,Below.refl _ _,Nat.le_refl _,lt_mono hn (g w hS).2⟩ o.dst _))
         simp only[execOp,hop,e2,Sem.run_bind,(g w' hw').1,Result.andThen_ok,Sem.run_pure]
        ·cases hs
       ·split at hs
        ·rename_i v hv;cases hs;have e:=wantS_ok R.tmps hlg;rw[hw] at e;have g:∀ w',Same m0 h0 ws w'→(Instr.loadAt ty (.pointer (some (mvA m ad)))).run T.P w'= .ok (mv m v) w'∧lt h0.n v=true:=fun w' hw'=>
          loadS_at (lies w' hw') (fun y hy=>G.emb.wf _ y hy) hv
         refine wpAnyH_take (v:=mv m v) hi hsel hfree (by simpa using hr) (fun c a w h=>(hQ _ _ _ h).elim) (.inl ⟨e.symm,fun w' hw'=> ?_⟩) hS
          (H _ (Reach.put R ⟨Agree.refl _ _,R.emb,Below.refl _ _,Nat.le_refl _,lt_mono hn (g w hS).2⟩ o.dst _))
         simp only[execOp,hop,e2,Sem.run_bind,(g w' hw').1,Result.andThen_ok,Sem.run_pure]
        ·cases hs
     ·cases hs
    ·cases hs
   ·cases hs
def takeP (T:Tab) (ops:Array Oper) (ws:List Nat) (h0:Hp) (listed:Array Bool) (x:Lf):List Nat→Option (Nat×Lf×Log)
 | []=>none
 | i::rs=>
  match tryTake T ops ws h0 listed x i with
  | some r=>some (i,r.1,r.2)
  | none=>takeP T ops ws h0 listed x rs
theorem takeP_spec {T:Tab}{ops:Array Oper}{ws:List Nat}{h0:Hp}{listed:Array Bool}{x:Lf}:∀ {rs:List Nat}{i:Nat}{x':Lf}{lg:Log},takeP T ops ws h0 listed x rs=some (i,x',lg)→i∈rs∧tryTake T ops ws h0 listed x i=some (x',lg)
 | [],_,_,_,h=>by cases h
 | j::rs,i,x',lg,h=>by
  simp only[takeP] at h;split at h
  ·rename_i r hr;cases h;exact⟨Xe,hr⟩
  ·have:=takeP_spec h;exact⟨Xd _ this.1,this.2⟩
def brs (f:Nat→Lf→Lg→Option (List Lf×Lg)) (x:Lf):List Nat→Lg→Option (List Lf×Lg)
 | [],L=>some ([],L)
 | i::rs,L=>
  match f i x L with
  | some r=>
   match brs f x rs r.2 with
   | some q=>some (r.1++q.1,q.2)
   | none=>none
  | none=>none
def keepB (ws:List Nat) (h0 h:Hp):List (Bp×Bp):=ws.map fun b=>(h.blk? b,h0.blk? b)
def dfs (T:Tab) (call:CallF) (ops:Array Oper) (ws:List Nat) (h0:Hp):Nat→Array Bool→Lf→Lg→Option (List Lf×Lg)
 | 0,listed,x,L=>
  match Region.ready .any ops listed with
  | []=>some ([x],L)
  | _::_=>none
 | fuel+1,listed,x,L=>
  match Region.ready .any ops listed with
  | []=>some ([x],L)
  | i0::rs0=>
   match takeP T ops ws h0 listed x (i0::rs0) with
   | some r=>dfs T call ops ws h0 fuel (listed.setIfInBounds r.1 true) r.2.1 (Lg.add r.2.2 L)
   | none=>brs (fun i x L=>
     match ops[i]? with
     | some o=>
      match opS T call ops o x L with
      | some r=>dfs T call ops ws h0 fuel (listed.setIfInBounds i true) r.1 ⟨r.2.cs,r.2.es,keepB ws h0 r.1.2.1++r.2.bs⟩
      | none=>none
     | none=>none) x (i0::rs0) L
def DfsOk (T:Tab) (ops:Array Oper) (ws:List Nat) (h0:Hp) (fuel:Nat) (listed:Array Bool) (x:Lf) (L:Lg) (leaves:List Lf) (L':Lg):Prop:=
 L'.ok→L.ok∧leaves≠[]∧∀ m0 w0 B,Began m0 B h0 w0 ws→∀ m,Agree m0 m h0.n→∀ a w,Rel m B x a w→h0.n≤x.2.1.n→Same m0 h0 ws w→
  ∀ Q:Exit→Act→World→Prop,(∀ c a w,Q (.panic c) a w→False)→(∀ y∈leaves,∀ a' w',Reach m B x.2.1.n w y a' w'→Q .normal a' w')→wpAnyH T.P .any ops Q (Same m0 h0 ws) fuel listed a w
theorem brs_spec {f:Nat→Lf→Lg→Option (List Lf×Lg)}{x:Lf}:∀ {rs:List Nat}{L L':Lg}{ls:List Lf},brs f x rs L=some (ls,L')→
  (∀ i L ls' L1,f i x L=some (ls',L1)→L1.ok→L.ok)→L'.ok→L.ok∧∀ i∈rs,∃ Li li Li',f i x Li=some (li,Li')∧Li'.ok∧∀ l∈li,l∈ls
 | [],L,L',ls,h,_,hL=>by cases h;exact⟨hL,fun i hi=>absurd hi (by simp)⟩
 | j::rs,L,L',ls,h,hf,hL=>by
  simp only[brs] at h;split at h
  ·rename_i r hr;split at h
   ·rename_i q hq;cases h;obtain⟨h1,h2⟩:=brs_spec (ls:=q.1) (L':=q.2) hq hf hL;refine⟨hf _ _ _ _ hr h1,fun i hi=> ?_⟩;rcases List.mem_cons.1 hi with rfl | hi
    ·exact⟨L,r.1,r.2,hr,h1,fun l hl=>List.mem_append_left _ hl⟩
    ·obtain⟨Li,li,Li',g1,g2,g3⟩:=h2 i hi;exact⟨Li,li,Li',g1,g2,fun l hl=>List.mem_append_right _ (g3 l hl)⟩
   ·cases h
  ·cases h
theorem kept_ok {L:Lg}{ws:List Nat}{h0 h:Hp}(hL:(⟨L.cs,L.es,keepB ws h0 h++L.bs⟩:Lg).ok):L.ok∧∀ b∈ws,h.blk? b=h0.blk? b:=
 ⟨⟨hL.1,hL.2.1,fun e he=>hL.2.2 e (List.mem_append_right _ he)⟩,fun b hb=>hL.2.2 (h.blk? b,h0.blk? b) (List.mem_append_left _ (List.mem_map.2 ⟨b,hb,rfl⟩))⟩
theorem blk_some {m:Mp}{B:Nat}{h:Hp}{w:World}(E:Emb m B h w) {b:Nat}(hb:b<h.n):∃ x,h.blk? b=some x:=E.blk hb
theorem same_of {m0 m:Mp}{B:Nat}{h0 h:Hp}{w0 w:World}{ws:List Nat}(G:Began m0 B h0 w0 ws) (hm:Agree m0 m h0.n) (E:Emb m B h w) (hk:∀ b∈ws,h.blk? b=h0.blk? b):Same m0 h0 ws w:=by
 intro b hb y hy hty;have h1:=E.lies b y (by rw[hk b hb,hy]) hty;rw[hm b (G.low b hb),map_agree hm (G.emb.wf b y hy)] at h1;exact h1
theorem dfs_ok {T:Tab}(hT:TabOk T) {call:CallF}(hC:CallOk T call) {ops:Array Oper}(hsel:Region.noSelect ops=true) {ws:List Nat}{h0:Hp}:
  ∀ (fuel:Nat) (listed:Array Bool) (x:Lf) (L:Lg) (leaves:List Lf) (L':Lg),dfs T call ops ws h0 fuel listed x L=some (leaves,L')→DfsOk T ops ws h0 fuel listed x L leaves L':=by
 intro fuel
 induction fuel with
 | zero=>
  intro listed x L leaves L' h hL;simp only[dfs] at h;split at h
  ·rename_i hr;cases h;refine⟨hL,by simp,fun m0 w0 B G m hm a w R hn hS Q _ hQ=>⟨hr,?_⟩⟩;exact hQ x (by simp) _ _ ⟨m,Agree.refl _ _,R,Below.refl _ _,Nat.le_refl _⟩
  ·cases h
 | succ fuel ih=>
  intro listed x L leaves L' h hL;simp only[dfs] at h;split at h
  ·rename_i hr;cases h;refine⟨hL,by simp,fun m0 w0 B G m hm a w R hn hS Q _ hQ=>wpAnyH_done hr ?_ _⟩;exact hQ x (by simp) _ _ ⟨m,Agree.refl _ _,R,Below.refl _ _,Nat.le_refl _⟩
  ·rename_i i0 rs0 hr;split at h
   ·rename_i r htake;obtain⟨hmem,htry⟩:=takeP_spec (i:=r.1) (x':=r.2.1) (lg:=r.2.2) htake;obtain⟨h1,h2,h3⟩:=ih _ _ _ _ _ h hL;obtain⟨l1,l2⟩:=Lg.add_ok h1;refine⟨l2,h2,fun m0 w0 B G m hm a w R hn hS Q hP hQ=> ?_⟩;refine tryTake_ok hsel htry l1 (by rw[hr];exact hmem) G hm R hn hS hP fun a' hR=> ?_;obtain⟨m',k1,k2,k3,k4⟩:=hR;exact h3 m0 w0 B G m' (hm.trans k1 hn) a' w k2 (Nat.le_trans hn k4) hS Q hP fun y hy a'' w'' hR'=>hQ y hy _ _ (Reach.trans k1 k3 k4 hR')
   ·rename_i htake;obtain⟨h1,h2⟩:=brs_spec h (by
     intro i L ls' L1 hf hok;split at hf
     ·rename_i o hi;split at hf
      ·rename_i r hr';obtain⟨g1,_⟩:=ih _ _ _ _ _ hf hok;exact (opS_ok (x':=r.1) (L':=r.2) hT hC hi hr' (kept_ok g1).1).1
      ·cases hf
     ·cases hf) hL
    have each:∀ i∈i0::rs0,∃ o,ops[i]? =some o∧∃ Li li Li' r,opS T call ops o x Li=some r∧dfs T call ops ws h0 fuel (listed.setIfInBounds i true) r.1 ⟨r.2.cs,r.2.es,keepB ws h0 r.1.2.1++r.2.bs⟩=some (li,Li')∧Li'.ok∧∀ l∈li,l∈leaves:=by
     intro i hi;obtain⟨Li,li,Li',g1,g2,g3⟩:=h2 i hi;split at g1
     ·rename_i o hio;split at g1
      ·rename_i r hr';exact⟨o,hio,Li,li,Li',r,hr',g1,g2,g3⟩
      ·cases g1
     ·cases g1
    refine⟨h1,?_,fun m0 w0 B G m hm a w R hn hS Q hP hQ=> ?_⟩
    ·obtain⟨o,_,Li,li,Li',r,g1,g2,g3,g4⟩:=each i0 (by simp);obtain⟨_,hne,_⟩:=ih _ _ _ _ _ g2 g3;intro he;cases li with
     | nil=>exact hne rfl
     | cons l0 ls0=>exact absurd (he ▸ g4 l0 (by simp)) (by simp)
    ·refine wpAnyH_all hr (by simp) fun i hi=> ?_;obtain⟨o,hio,Li,li,Li',r,g1,g2,g3,g4⟩:=each i hi;obtain⟨q1,_,q3⟩:=ih _ _ _ _ _ g2 g3;obtain⟨q4,q5⟩:=kept_ok q1;refine (opS_ok (x':=r.1) (L':=r.2) hT hC hio g1 q4).2 m B a w R Q _ fun a' w' hR=> ?_;obtain⟨m',k1,k2,k3,k4⟩:=hR;have hm':=hm.trans k1 hn;have hS':=same_of G hm' k2.emb q5;exact⟨hS',q3 m0 w0 B G m' hm' a' w' k2 (Nat.le_trans hn k4) hS' Q hP fun y hy a'' w'' hR'=>hQ y (g4 y hy) _ _ (Reach.trans k1 k3 k4 hR')⟩
def swp (i j b:Nat):Nat:=if Nat.beq b i=true then j else if Nat.beq b j=true then i else b
theorem swp_swp (i j b:Nat):swp i j (swp i j b)=b:=by
 unfold swp;simp only[Nat.beq_eq];split
 ·split
  ·omega
  ·simp_all
 ·split
  ·simp_all
  ·simp_all
theorem swp_lt {i j n b:Nat}(hi:i<n) (hj:j<n) (hb:b<n):swp i j b<n:=by
 unfold swp;split
 ·exact hj
 ·split
  ·exact hi
  ·exact hb
def rn1 (f:Nat→Nat):Value→Value
 | .pointer (some a)=> .pointer (some {a with block:=f a.block})
 | .slice (some a) l c=> .slice (some {a with block:=f a.block}) l c
 | .map (some b)=> .map (some (f b))
 | v=>v
def rn2 (f:Nat→Nat):Value→Value
 | .agg cs=> .agg (cs.map (rn1 f))
 | v=>rn1 f v
def rn (f:Nat→Nat):Value→Value
 | .tuple vs=> .tuple (vs.map (rn2 f))
 | v=>rn2 f v
theorem mv1_rn (m:Mp) (f:Nat→Nat) (v:Value):mv1 m (rn1 f v)=mv1 (fun b=>m (f b)) v:=by
 cases v with
 | pointer a=>cases a<;>rfl
 | map a=>cases a<;>rfl
 | slice a l c=>cases a<;>rfl
 | _=>rfl
theorem mv2_rn (m:Mp) (f:Nat→Nat) (v:Value):mv2 m (rn2 f v)=mv2 (fun b=>m (f b)) v:=by
 cases v with
 | agg cs=>
  simp only[mv2,rn2,Array.map_map];congr 2
  funext x
  exact mv1_rn m f x
 | pointer a=>cases a<;>rfl
 | map a=>cases a<;>rfl
 | slice a l c=>cases a<;>rfl
 | _=>rfl
theorem mv_rn (m:Mp) (f:Nat→Nat) (v:Value):mv m (rn f v)=mv (fun b=>m (f b)) v:=by
 cases v with
 | tuple cs=>
  simp only[mv,rn,Array.map_map];congr 2
  funext x
  exact mv2_rn m f x
 | agg cs=>
  have:=mv2_rn m f (.agg cs);simpa [mv,mv2,rn,rn2] using this
 | pointer a=>cases a<;>rfl
 | map a=>cases a<;>rfl
 | slice a l c=>cases a<;>rfl
 | _=>rfl
theorem rn_still {f:Nat→Nat}{v:Value}(h:lt 0 v=true):rn f v=v:=by
 have h1:∀ v,lt1 0 v=true→rn1 f v=v:=fun v h=>by
  unfold rn1;split
  ·simp [lt1] at h
  ·simp [lt1] at h
  ·simp [lt1] at h
  ·rfl
 have h2:∀ v,lt2 0 v=true→rn2 f v=v:=fun v h=>by
  unfold rn2;split
  ·rename_i cs;simp only[lt2,List.all_eq_true] at h;congr 1;have:cs.map (rn1 f)=cs.map id:=Array.map_congr_left fun x hx=>h1 x (h x (by simpa using hx));rw[this,Array.map_id]
  ·rename_i hna;refine h1 _ ?_;unfold lt2 at h;split at h
   ·rename_i cs;exact absurd rfl (hna cs)
   ·exact h
 unfold rn;split
 ·rename_i cs;simp only[lt,List.all_eq_true] at h;congr 1;have:cs.map (rn2 f)=cs.map id:=Array.map_congr_left fun x hx=>h2 x (h x (by simpa using hx));rw[this,Array.map_id]
 ·rename_i hna;refine h2 _ ?_;unfold lt at h;split at h
  ·rename_i cs;exact absurd rfl (hna cs)
  ·exact h
theorem lt1_ren {n:Nat}{f:Nat→Nat}(hf:∀ b,b<n→f b<n) {v:Value}(h:lt1 n v=true):lt1 n (rn1 f v)=true:=by
 cases v with
 | pointer a=>cases a<;>simp_all [lt1,rn1]
 | map a=>cases a<;>simp_all [lt1,rn1]
 | slice a l c=>cases a<;>simp_all [lt1,rn1]
 | _=>simpa [rn1] using h
theorem lt2_ren {n:Nat}{f:Nat→Nat}(hf:∀ b,b<n→f b<n) {v:Value}(h:lt2 n v=true):lt2 n (rn2 f v)=true:=by
 cases v with
 | agg cs=>
  simp only[lt2,rn2,Array.toList_map,List.all_eq_true,List.mem_map] at*;rintro _ ⟨y,hy,rfl⟩;exact lt1_ren hf (h y hy)
 | pointer a=>cases a<;>simp_all [lt1,lt2,rn1,rn2]
 | map a=>cases a<;>simp_all [lt1,lt2,rn1,rn2]
 | slice a l c=>cases a<;>simp_all [lt1,lt2,rn1,rn2]
 | _=>simpa [rn1,rn2] using h
theorem lt_ren {n:Nat}{f:Nat→Nat}(hf:∀ b,b<n→f b<n) {v:Value}(h:lt n v=true):lt n (rn f v)=true:=by
 cases v with
 | tuple cs=>
  simp only[lt,rn,Array.toList_map,List.all_eq_true,List.mem_map] at*;rintro _ ⟨y,hy,rfl⟩;exact lt2_ren hf (h y hy)
 | agg cs=>
  have h':lt2 n (.agg cs)=true:=by simpa [lt] using h
  have:=lt2_ren hf h';simpa [lt,rn,rn2] using this
 | pointer a=>cases a<;>simp_all [lt,lt1,lt2,rn,rn1,rn2]
 | map a=>cases a<;>simp_all [lt,lt1,lt2,rn,rn1,rn2]
 | slice a l c=>cases a<;>simp_all [lt,lt1,lt2,rn,rn1,rn2]
 | _=>simpa [rn,rn1,rn2] using h
def Hp.calm (h:Hp):Bool:=h.l.all fun x=>x.1.all (lt1 0)
def swapLf (i j:Nat) (z:Lf):Lf:=
 match z.2.1.blk? i,z.2.1.blk? j with
 | some x,some y=>(z.1.map (rn (swp i j)),(z.2.1.put i y).put j x,z.2.2)
 | _,_=>z
def madeBy (ops:List Oper):List Tmp:=ops.filterMap fun o=>match o.op with | .alloc _=>o.dst | .box _ _=>o.dst | _=>none
def canon (ops:List Oper) (n:Nat) (z:Lf):Lf:=
 match madeBy ops with
 | [d1,d2]=>
  match blockOf (z.1.getD d1 undef),blockOf (z.1.getD d2 undef) with
  | some b1,some b2=>if (Nat.blt b2 b1 && Nat.ble n b2 && Nat.blt b1 z.2.1.n && z.2.1.calm)=true then swapLf b2 b1 z else z
  | _,_=>z
 | _=>z
theorem calm_spec {h:Hp}(ht:h.calm=true) {b:Nat}{x:List Value×TypeId}(hb:h.blk? b=some x):∀ v∈x.1,lt1 0 v=true:=by
 unfold Hp.calm at ht;simp only[List.all_eq_true] at ht;unfold Hp.blk? at hb;split at hb
 ·exact ht x (List.mem_of_getElem? hb)
 ·cases hb
theorem map_still {f g:Mp}{l:List Value}(h:∀ v∈l,lt1 0 v=true):l.map (mv1 f)=l.map (mv1 g):=
 List.map_congr_left fun v hv=>by rw[mv1_still (h v hv),mv1_still (h v hv)]
theorem swapLf_rel {m:Mp}{B:Nat}{z:Lf}{a:Act}{w:World}(R:Rel m B z a w) {i j:Nat}(hij:i<j) (hj:j<z.2.1.n) (hc:z.2.1.calm=true):Rel (fun b=>m (swp i j b)) B (swapLf i j z) a w∧(swapLf i j z).2.1.n=z.2.1.n:=by
 obtain⟨x,hx⟩:=blk_some R.emb (b:=i) (by omega);obtain⟨y,hy⟩:=blk_some R.emb hj;have hi:i<z.2.1.n:=by omega
 have hlt:∀ b,b<z.2.1.n→swp i j b<z.2.1.n:=fun b hb=>swp_lt hi hj hb;unfold swapLf;rw[hx,hy];have l1:(z.2.1.put i y).l.length=(z.2.1.put i y).n:=by simp [Hp.put,R.emb.len]
 have blk:∀ b,((z.2.1.put i y).put j x).blk? b=z.2.1.blk? (swp i j b):=by
  intro b;rw[Hp.blk_put l1 (by simpa [Hp.put] using hj),Hp.blk_put R.emb.len hi];unfold swp;simp only[Nat.beq_eq];by_cases h1:b=j
  ·have h2:b≠i:=by omega
   rw[if_pos h1,if_neg h2,if_pos h1,hx]
  ·rw[if_neg h1];by_cases h2:b=i
   ·rw[if_pos h2,if_pos h2,hy]
   ·rw[if_neg h2,if_neg h2,if_neg h1]
 refine⟨⟨?_,R.dfr,⟨?_,?_,?_,?_,?_,?_,R.emb.base,R.emb.ice,?_⟩,?_⟩,rfl⟩
 ·rw[R.tmps,List.map_map];congr 1;refine List.map_congr_left fun v _=> ?_;simp only[Function.comp];rw[mv_rn];congr 1
  funext b
  rw[swp_swp]
 ·simp [Hp.put,R.emb.len]
 ·intro b u hb hu;rw[blk] at hb;rw[map_still (g:=m) (calm_spec hc hb)];exact R.emb.lies _ u hb hu
 ·intro b u hb hu;rw[blk] at hb;exact R.emb.low _ u hb hu
 ·intro b u hb hu hr;rw[blk] at hb;exact R.emb.ros _ u hb hu hr
 ·intro b b' u u' hb hb' hu hu' h;rw[blk] at hb hb';have:=R.emb.inj _ _ u u' hb hb' hu hu' h;rw[← swp_swp i j b,this,swp_swp]
 ·intro b u hb;rw[blk] at hb;exact fun v hv=>lt1_mono (Nat.zero_le _) (calm_spec hc hb v hv)
 ·intro b u hb hu;rw[blk] at hb;exact (R.emb.abs _ u hb hu).ren (f:=swp i j) (r:=[]) rfl (by rw[List.append_nil];exact map_still (calm_spec hc hb)) (fun c z hz=>⟨z,by rw[← blk];exact hz,rfl⟩) fun c z _ _ _ he=>by rw[← swp_swp i j c,he,swp_swp]
 ·intro v hv;obtain⟨u,hu,rfl⟩:=List.mem_map.1 hv;exact lt_ren hlt (R.wf u hu)
theorem canon_reach {ops:List Oper}{m:Mp}{B n:Nat}{w:World}{z:Lf}{a':Act}{w':World}(h:Reach m B n w z a' w'):Reach m B n w (canon ops n z) a' w':=by
 unfold canon;split
 ·split
  ·split
   ·rename_i b1 b2 _ _ hc;simp only[Xh,blt_iff,Nat.ble_eq] at hc;obtain⟨⟨⟨c1,c2⟩,c3⟩,c4⟩:=hc;obtain⟨m',k1,k2,k3,k4⟩:=h;obtain⟨r1,r2⟩:=swapLf_rel k2 c1 c3 c4;refine⟨_,fun b hb=> ?_,r1,k3,by rw[r2];exact k4⟩;have:swp b2 b1 b=b:=by
     unfold swp;simp only[Nat.beq_eq];rw[if_neg (by omega),if_neg (by omega)]
    show m' (swp b2 b1 b)=m b;rw[this];exact k1 b hb
   ·exact h
  ·exact h
 ·exact h
def stS (x:Lf) (s:List Dec):Lf:=(x.1,x.2.1,s)
theorem Rel.stS {m:Mp}{B:Nat}{x:Lf}{a:Act}{w:World}(R:Rel m B x a w) (s:List Dec):Rel m B (stS x s) a w:=⟨R.tmps,R.dfr,R.emb,R.wf⟩
def takeK (T:Tab) (ops:Array Oper) (ws:List Nat) (h0:Hp) (sc:Nat→List Dec) (listed:Array Bool) (x:Lf):List Nat→Option (Nat×Lf×Log)
 | []=>none
 | i::rs=>
  match tryTake T ops ws h0 listed (stS x (sc i)) i with
  | some r=>some (i,r.1,r.2)
  | none=>takeK T ops ws h0 sc listed x rs
theorem takeK_spec {T:Tab}{ops:Array Oper}{ws:List Nat}{h0:Hp}{sc:Nat→List Dec}{listed:Array Bool}{x:Lf}:∀ {rs:List Nat}{i:Nat}{x':Lf}{lg:Log},takeK T ops ws h0 sc listed x rs=some (i,x',lg)→i∈rs∧tryTake T ops ws h0 listed (stS x (sc i)) i=some (x',lg)
 | [],_,_,_,h=>by cases h
 | j::rs,i,x',lg,h=>by
  simp only[takeK] at h;split at h
  ·rename_i r hr;cases h;exact⟨Xe,hr⟩
  ·have:=takeK_spec h;exact⟨Xd _ this.1,this.2⟩
def dfsK (T:Tab) (call:CallF) (ops:Array Oper) (ws:List Nat) (h0:Hp) (sc:Nat→List Dec):Nat→Array Bool→Lf→Lg→Option (List Lf×Lg)
 | 0,listed,x,L=>
  match Region.ready .any ops listed with
  | []=>some ([x],L)
  | _::_=>none
 | fuel+1,listed,x,L=>
  match Region.ready .any ops listed with
  | []=>some ([x],L)
  | i0::rs0=>
   match takeK T ops ws h0 sc listed x (i0::rs0) with
   | some r=>dfsK T call ops ws h0 sc fuel (listed.setIfInBounds r.1 true) r.2.1 (Lg.add r.2.2 L)
   | none=>brs (fun i x L=>
     match ops[i]? with
     | some o=>
      match opS T call ops o (stS x (sc i)) L with
      | some r=>dfsK T call ops ws h0 sc fuel (listed.setIfInBounds i true) r.1 ⟨r.2.cs,r.2.es,keepB ws h0 r.1.2.1++r.2.bs⟩
      | none=>none
     | none=>none) x (i0::rs0) L
theorem dfsK_ok {T:Tab}(hT:TabOk T) {call:CallF}(hC:CallOk T call) {ops:Array Oper}(hsel:Region.noSelect ops=true) {ws:List Nat}{h0:Hp}{sc:Nat→List Dec}:
  ∀ (fuel:Nat) (listed:Array Bool) (x:Lf) (L:Lg) (leaves:List Lf) (L':Lg),dfsK T call ops ws h0 sc fuel listed x L=some (leaves,L')→DfsOk T ops ws h0 fuel listed x L leaves L':=by
 intro fuel
 induction fuel with
 | zero=>
  intro listed x L leaves L' h hL;simp only[dfsK] at h;split at h
  ·rename_i hr;cases h;refine⟨hL,by simp,fun m0 w0 B G m hm a w R hn hS Q _ hQ=>⟨hr,?_⟩⟩;exact hQ x (by simp) _ _ ⟨m,Agree.refl _ _,R,Below.refl _ _,Nat.le_refl _⟩
  ·cases h
 | succ fuel ih=>
  intro listed x L leaves L' h hL;simp only[dfsK] at h;split at h
  ·rename_i hr;cases h;refine⟨hL,by simp,fun m0 w0 B G m hm a w R hn hS Q _ hQ=>wpAnyH_done hr ?_ _⟩;exact hQ x (by simp) _ _ ⟨m,Agree.refl _ _,R,Below.refl _ _,Nat.le_refl _⟩
  ·rename_i i0 rs0 hr;split at h
   ·rename_i r htake;obtain⟨hmem,htry⟩:=takeK_spec (i:=r.1) (x':=r.2.1) (lg:=r.2.2) htake;obtain⟨h1,h2,h3⟩:=ih _ _ _ _ _ h hL;obtain⟨l1,l2⟩:=Lg.add_ok h1;refine⟨l2,h2,fun m0 w0 B G m hm a w R hn hS Q hP hQ=> ?_⟩;refine tryTake_ok hsel htry l1 (by rw[hr];exact hmem) G hm (R.stS (sc r.1)) hn hS hP fun a' hR=> ?_;obtain⟨m',k1,k2,k3,k4⟩:=hR;exact h3 m0 w0 B G m' (hm.trans k1 hn) a' w k2 (Nat.le_trans hn k4) hS Q hP fun y hy a'' w'' hR'=>hQ y hy _ _ (Reach.trans k1 k3 k4 hR')
   ·rename_i htake;obtain⟨h1,h2⟩:=brs_spec h (by
     intro i L ls' L1 hf hok;split at hf
     ·rename_i o hi;split at hf
      ·rename_i r hr';obtain⟨g1,_⟩:=ih _ _ _ _ _ hf hok;exact (opS_ok (x':=r.1) (L':=r.2) hT hC hi hr' (kept_ok g1).1).1
      ·cases hf
     ·cases hf) hL
    have each:∀ i∈i0::rs0,∃ o,ops[i]? =some o∧∃ Li li Li' r,opS T call ops o (stS x (sc i)) Li=some r∧dfsK T call ops ws h0 sc fuel (listed.setIfInBounds i true) r.1 ⟨r.2.cs,r.2.es,keepB ws h0 r.1.2.1++r.2.bs⟩=some (li,Li')∧Li'.ok∧∀ l∈li,l∈leaves:=by
     intro i hi;obtain⟨Li,li,Li',g1,g2,g3⟩:=h2 i hi;split at g1
     ·rename_i o hio;split at g1
      ·rename_i r hr';exact⟨o,hio,Li,li,Li',r,hr',g1,g2,g3⟩
      ·cases g1
     ·cases g1
    refine⟨h1,?_,fun m0 w0 B G m hm a w R hn hS Q hP hQ=> ?_⟩
    ·obtain⟨o,_,Li,li,Li',r,g1,g2,g3,g4⟩:=each i0 (by simp);obtain⟨_,hne,_⟩:=ih _ _ _ _ _ g2 g3;intro he;cases li with
     | nil=>exact hne rfl
     | cons l0 ls0=>exact absurd (he ▸ g4 l0 (by simp)) (by simp)
    ·refine wpAnyH_all hr (by simp) fun i hi=> ?_;obtain⟨o,hio,Li,li,Li',r,g1,g2,g3,g4⟩:=each i hi;obtain⟨q1,_,q3⟩:=ih _ _ _ _ _ g2 g3;obtain⟨q4,q5⟩:=kept_ok q1;refine (opS_ok (x':=r.1) (L':=r.2) hT hC hio g1 q4).2 m B a w (R.stS (sc i)) Q _ fun a' w' hR=> ?_;obtain⟨m',k1,k2,k3,k4⟩:=hR;have hm':=hm.trans k1 hn;have hS':=same_of G hm' k2.emb q5;exact⟨hS',q3 m0 w0 B G m' hm' a' w' k2 (Nat.le_trans hn k4) hS' Q hP fun y hy a'' w'' hR'=>hQ y (g4 y hy) _ _ (Reach.trans k1 k3 k4 hR')⟩
def useT (P:Program) (t:TypeId):Bool:=
 if Nat.ble dead t=true then true else
  match P.underlying t with
  | some (.int _)=>true
  | _=>false
def renC (P:Program) (f:Nat→Nat) (x:List Value×TypeId):List Value×TypeId:=
 match useT P x.2 with
 | true=>x
 | false=>(x.1.map (rn1 f),x.2)
def calm1:Value→Bool
 | .pointer (some _)=>false
 | .slice (some _) _ _=>false
 | .map (some _)=>false
 | _=>true
theorem mv1_calm {f g:Mp}{v:Value}(h:calm1 v=true):mv1 f v=mv1 g v:=by
 cases v with
 | pointer a=>cases a<;>simp_all [calm1,mv1]
 | map a=>cases a<;>simp_all [calm1,mv1]
 | slice a l c=>cases a<;>simp_all [calm1,mv1]
 | _=>rfl
def testC (P:Program):List (List Value×TypeId)→Log
 | []=>[]
 | x::l=>
  match useT P x.2 with
  | true=>(x.1.all calm1,true)::testC P l
  | false=>testC P l
theorem testC_spec {P:Program}:∀ {l:List (List Value×TypeId)},okLog (testC P l)→∀ x∈l,useT P x.2=true→∀ v∈x.1,calm1 v=true
 | [],_,x,hx=>by cases hx
 | y::l,h,x,hx=>by
  intro hu;simp only[testC] at h;rcases List.mem_cons.1 hx with rfl | hx
  ·rw[hu] at h;have:=h _ Xe;simpa [List.all_eq_true] using this
  ·refine testC_spec (l:=l) ?_ x hx hu;split at h
   ·exact fun e he=>h e (Xd _ he)
   ·exact h
def Hp.ren (P:Program) (f:Nat→Nat) (h:Hp):Hp:=⟨h.n,h.l.map (renC P f)⟩
theorem Hp.blk_ren (P:Program) (f:Nat→Nat) (h:Hp) (b:Nat):(h.ren P f).blk? b=(h.blk? b).map (renC P f):=by
 unfold Hp.ren Hp.blk?;simp only;split
 ·simp
 ·rfl
theorem renC_ty (P:Program) (f:Nat→Nat) (x:List Value×TypeId):(renC P f x).2=x.2:=by unfold renC;split<;>rfl
theorem renC_mv {P:Program}{f:Nat→Nat}{m:Mp}{x:List Value×TypeId}(hff:∀ b,f (f b)=b) (h:useT P x.2=true→∀ v∈x.1,calm1 v=true):(renC P f x).1.map (mv1 (fun b=>m (f b)))=x.1.map (mv1 m):=by
 unfold renC;split
 ·rename_i hu;exact List.map_congr_left fun v hv=>mv1_calm (h hu v hv)
 ·simp only[List.map_map];refine List.map_congr_left fun v _=> ?_;simp only[Function.comp];rw[mv1_rn];congr 1
  funext b
  rw[hff]
theorem renC_lt {P:Program}{f:Nat→Nat}{n:Nat}{x:List Value×TypeId}(hf:∀ b,b<n→f b<n) (h:∀ v∈x.1,lt1 n v=true):∀ v∈(renC P f x).1,lt1 n v=true:=by
 unfold renC;split
 ·exact h
 ·intro v hv;obtain⟨u,hu,rfl⟩:=List.mem_map.1 hv;exact lt1_ren hf (h u hu)
def swapK (P:Program) (i j:Nat) (z:Lf):Lf×Log:=
 match z.2.1.blk? i,z.2.1.blk? j with
 | some x,some y=>((z.1.map (rn (swp i j)),((z.2.1.put i y).put j x).ren P (swp i j),z.2.2),testC P z.2.1.l)
 | _,_=>(z,[])
theorem swapK_rel {P:Program}{m:Mp}{B:Nat}{z:Lf}{a:Act}{w:World}(R:Rel m B z a w) {i j:Nat}(hij:i<j) (hj:j<z.2.1.n) (hlog:okLog (swapK P i j z).2):Rel (fun b=>m (swp i j b)) B (swapK P i j z).1 a w∧(swapK P i j z).1.2.1.n=z.2.1.n:=by
 obtain⟨x,hx⟩:=blk_some R.emb (b:=i) (by omega);obtain⟨y,hy⟩:=blk_some R.emb hj;have hi:i<z.2.1.n:=by omega
 have hlt:∀ b,b<z.2.1.n→swp i j b<z.2.1.n:=fun b hb=>swp_lt hi hj hb;unfold swapK at hlog ⊢;rw[hx,hy] at hlog ⊢;simp only at hlog ⊢;have l1:(z.2.1.put i y).l.length=(z.2.1.put i y).n:=by simp [Hp.put,R.emb.len]
 have blk:∀ b,((z.2.1.put i y).put j x).blk? b=z.2.1.blk? (swp i j b):=by
  intro b;rw[Hp.blk_put l1 (by simpa [Hp.put] using hj),Hp.blk_put R.emb.len hi];unfold swp;simp only[Nat.beq_eq];by_cases h1:b=j
  ·have h2:b≠i:=by omega
   rw[if_pos h1,if_neg h2,if_pos h1,hx]
  ·rw[if_neg h1];by_cases h2:b=i
   ·rw[if_pos h2,if_pos h2,hy]
   ·rw[if_neg h2,if_neg h2,if_neg h1]
 have mem:∀ b u,z.2.1.blk? b=some u→u∈z.2.1.l:=fun b u hb=>by
  unfold Hp.blk? at hb;split at hb
  ·exact List.mem_of_getElem? hb
  ·cases hb
 have blk':∀ b u,(((z.2.1.put i y).put j x).ren P (swp i j)).blk? b=some u→∃ v,z.2.1.blk? (swp i j b)=some v∧u=renC P (swp i j) v:=fun b u hb=>by
  rw[Hp.blk_ren,blk] at hb;cases hv:z.2.1.blk? (swp i j b) with
  | none=>rw[hv] at hb;cases hb
  | some v=>rw[hv] at hb;exact⟨v,rfl,(Option.some.inj hb).symm⟩
 have calm:∀ b v,z.2.1.blk? b=some v→useT P v.2=true→∀ c∈v.1,calm1 c=true:=fun b v hb=>testC_spec hlog v (mem b v hb);refine⟨⟨?_,R.dfr,⟨?_,?_,?_,?_,?_,?_,R.emb.base,R.emb.ice,?_⟩,?_⟩,rfl⟩
 ·rw[R.tmps,List.map_map];congr 1;refine List.map_congr_left fun v _=> ?_;simp only[Function.comp];rw[mv_rn];congr 1
  funext b
  rw[swp_swp]
 ·simp [Hp.put,Hp.ren,R.emb.len]
 ·intro b u hb hu;obtain⟨v,hv,rfl⟩:=blk' b u hb;rw[renC_ty] at hu ⊢;rw[renC_mv (swp_swp i j) (calm _ v hv)];exact R.emb.lies _ v hv hu
 ·intro b u hb hu;obtain⟨v,hv,rfl⟩:=blk' b u hb;rw[renC_ty] at hu;exact R.emb.low _ v hv hu
 ·intro b u hb hu hr;obtain⟨v,hv,rfl⟩:=blk' b u hb;rw[renC_ty] at hu hr;exact R.emb.ros _ v hv hu hr
 ·intro b b' u u' hb hb' hu hu' h;obtain⟨v,hv,rfl⟩:=blk' b u hb;obtain⟨v',hv',rfl⟩:=blk' b' u' hb';rw[renC_ty] at hu hu';have:=R.emb.inj _ _ v v' hv hv' hu hu' h;rw[← swp_swp i j b,this,swp_swp]
 ·intro b u hb;obtain⟨v,hv,rfl⟩:=blk' b u hb;exact renC_lt hlt (R.emb.wf _ v hv)
 ·intro b u hb hu;obtain⟨v,hv,rfl⟩:=blk' b u hb;have ht:=hu;rw[renC_ty] at ht;refine (R.emb.abs _ v hv ht).ren (f:=swp i j) (r:=[]) (renC_ty ..).symm (by rw[List.append_nil,renC_mv (swp_swp i j) (calm _ v hv)]) (fun c z hz=> ?_) fun c z _ _ _ he=>by rw[← swp_swp i j c,he,swp_swp]
  obtain⟨v',hv',rfl⟩:=blk' c z hz;exact⟨v',hv',(renC_ty ..).symm⟩
 ·intro v hv;obtain⟨u,hu,rfl⟩:=List.mem_map.1 hv;exact lt_ren hlt (R.wf u hu)
def firstC:List Value→Option Nat
 | []=>none
 | .pointer (some a)::_=>some a.block
 | .slice (some a) _ _::_=>some a.block
 | _::l=>firstC l
def firstT:List Value→Option Nat
 | []=>none
 | .pointer (some a)::_=>some a.block
 | .slice (some a) _ _::_=>some a.block
 | .agg cs::l=>
  match firstC cs.toList with
  | some b=>some b
  | none=>firstT l
 | _::l=>firstT l
def firstB:Value→Option Nat
 | .tuple vs=>firstT vs.toList
 | v=>firstT [v]
def sortK (P:Program) (n0:Nat):Nat→List Nat→Lf→Lf×Log
 | _,[],z=>(z,[])
 | i,d::ds,z=>
  match firstB (z.1.getD d undef) with
  | some b=>
   match Nat.blt (n0+i) b && Nat.blt b z.2.1.n with
   | true=>((sortK P n0 (i+1) ds (swapK P (n0+i) b z).1).1,(sortK P n0 (i+1) ds (swapK P (n0+i) b z).1).2++(swapK P (n0+i) b z).2)
   | false=>sortK P n0 (i+1) ds z
  | none=>sortK P n0 i ds z
theorem sortK_reach {P:Program}{m:Mp}{B n:Nat}{w:World}{a':Act}{w':World}:∀ (ds:List Nat) (i:Nat) {z:Lf},okLog (sortK P n i ds z).2→Reach m B n w z a' w'→Reach m B n w (sortK P n i ds z).1 a' w'
 | [],_,_,_,h=>h
 | d::ds,i,z,hl,h=>by
  simp only[sortK] at hl ⊢;split at hl
  ·rename_i b hb;split at hl
   ·rename_i hc;simp only[Xh,blt_iff] at hc;obtain⟨l1,l2⟩:=okLog_append hl;refine sortK_reach ds (i+1) l1 ?_;obtain⟨m',k1,k2,k3,k4⟩:=h;obtain⟨r1,r2⟩:=swapK_rel k2 hc.1 hc.2 l2;refine⟨_,fun c hcn=> ?_,r1,k3,by rw[r2];exact k4⟩;have:swp (n+i) b c=c:=by
     unfold swp;simp only[Nat.beq_eq];rw[if_neg (by omega),if_neg (by omega)]
    show m' (swp (n+i) b c)=m c;rw[this];exact k1 c hcn
   ·exact sortK_reach ds (i+1) hl h
  ·exact sortK_reach ds i hl h
def headA:Nat→List Dec→List (Nat×List Dec)×List Dec
 | 0,s=>([],s)
 | c+1,.inr (.inl i):: .inr (.inl l)::s=>((i.toNat,s.take l.toNat)::(headA c (s.drop l.toNat)).1,(headA c (s.drop l.toNat)).2)
 | _+1,s=>([],s)
def headN:Nat→List Dec→List Nat×List Dec
 | 0,s=>([],s)
 | c+1,.inr (.inl i)::s=>(i.toNat::(headN c s).1,(headN c s).2)
 | _+1,s=>([],s)
def scOf (A:List (Nat×List Dec)) (i:Nat):List Dec:=
 match A with
 | []=>[]
 | r::A=>if Nat.beq r.1 i=true then r.2 else scOf A i
def allK (P:Program) (n0:Nat) (ds:List Nat):List Lf→Log
 | []=>[]
 | z::l=>(sortK P n0 0 ds z).2++allK P n0 ds l
theorem allK_spec {P:Program}{n0:Nat}{ds:List Nat}:∀ {l:List Lf},okLog (allK P n0 ds l)→∀ z∈l,okLog (sortK P n0 0 ds z).2
 | [],_,z,hz=>by cases hz
 | y::l,h,z,hz=>by
  simp only[allK] at h;obtain⟨h1,h2⟩:=okLog_append h;rcases List.mem_cons.1 hz with rfl | hz
  ·exact h1
  ·exact allK_spec h2 z hz
def regK (T:Tab) (call:CallF) (ops:Array Oper) (A:List (Nat×List Dec)) (ds:List Nat) (rest:List Dec) (x:Lf) (L:Lg):Option (Lf×Lg):=
 if (Region.noSelect ops && (watch ops.toList x.1 x.2.1).all (fun b=>Nat.blt b x.2.1.n))=true then
  match dfsK T call ops (watch ops.toList x.1 x.2.1) x.2.1 (scOf A) ops.size (Array.replicate ops.size false) x L with
  | some (y::ys,L')=>some (stS (sortK T.P x.2.1.n 0 ds y).1 rest,⟨allK T.P x.2.1.n ds (y::ys)++L'.cs,ys.map (fun z=>(stS (sortK T.P x.2.1.n 0 ds z).1 rest,stS (sortK T.P x.2.1.n 0 ds y).1 rest))++L'.es,L'.bs⟩)
  | _=>none
 else none
theorem Reach.stS {m:Mp}{B n:Nat}{w:World}{x:Lf}{a:Act}{w':World}(h:Reach m B n w x a w') (s:List Dec):Reach m B n w (stS x s) a w':=by
 obtain⟨m',k1,k2,k3,k4⟩:=h;exact⟨m',k1,k2.stS s,k3,k4⟩
theorem regK_ok {T:Tab}(hT:TabOk T) {call:CallF}(hC:CallOk T call) {ops:Array Oper}{A:List (Nat×List Dec)}{ds:List Nat}{rest:List Dec}{id:Nat}{x x':Lf}{L L':Lg}(hs:regK T call ops A ds rest x L=some (x',L')) (hL:L'.ok):
  L.ok∧∀ m B a w,Rel m B x a w→∀ Q:Exit→Act→World→Prop,(∀ a' w',Reach m B x.2.1.n w x' a' w'→Q .normal a' w')→(Code.region id ops true).wp T.P Q a w:=by
 unfold regK at hs;split at hs
 ·rename_i hc;simp only[Xh,List.all_eq_true,blt_iff] at hc;obtain⟨hsel,hlow⟩:=hc;split at hs
  ·rename_i y ys L1 hd;cases hs;have hcs:okLog (allK T.P x.2.1.n ds (y::ys)++L1.cs):=hL.1;obtain⟨hk,hcs1⟩:=okLog_append hcs;have ok1:L1.ok:=⟨hcs1,fun e he=>hL.2.1 e (List.mem_append_right _ he),hL.2.2⟩;obtain⟨h1,_,h3⟩:=dfsK_ok hT hC hsel _ _ _ _ _ _ hd ok1;refine⟨h1,fun m B a w R Q hQ=> ?_⟩;have hall:∀ l∈y::ys,stS (sortK T.P x.2.1.n 0 ds l).1 rest=stS (sortK T.P x.2.1.n 0 ds y).1 rest:=fun l hl=>by
    rcases List.mem_cons.1 hl with rfl | hl
    ·rfl
    ·exact hL.2.1 (stS (sortK T.P x.2.1.n 0 ds l).1 rest,stS (sortK T.P x.2.1.n 0 ds y).1 rest) (List.mem_append_left _ (List.mem_map.2 ⟨l,hl,rfl⟩))
   have E1:Emb m B x.2.1 {w with drawn:=w.drawn+1}:=⟨R.emb.len,R.emb.lies,R.emb.low,R.emb.ros,R.emb.inj,R.emb.wf,R.emb.base,R.emb.ice,R.emb.abs⟩;have hh:=h3 m {w with drawn:=w.drawn+1} B ⟨E1,hlow⟩ m (Agree.refl _ _) a {w with drawn:=w.drawn+1} ⟨R.tmps,R.dfr,E1,R.wf⟩ (Nat.le_refl _) (fun b _ y hy hty=>E1.lies b y hy hty)
    (fun e a' w'=>e= .normal∧Reach m B x.2.1.n w (stS (sortK T.P x.2.1.n 0 ds y).1 rest) a' w') (fun c a w h=>by cases h.1) fun l hl a' w' hR=>
     ⟨rfl,hall l hl ▸ (sortK_reach ds 0 (allK_spec hk l hl) (Reach.trans (w:=w) (w':={w with drawn:=w.drawn+1}) (Agree.refl _ _) (Below.mk rfl rfl rfl (Nat.le_refl _) (fun _ _=>rfl)) (Nat.le_refl _) hR)).stS rest⟩
   exact wp_mono (wp_region_held hT.mixed hh) (fun e a' w' h=>by obtain⟨rfl,h⟩:=h;exact hQ _ _ h)
  ·cases hs
 ·cases hs
def regS (T:Tab) (call:CallF) (ops:Array Oper) (draw:Bool) (x:Lf) (L:Lg):Option (Lf×Lg):=
 match draw with
 | false=>evOps T call ops ops.toList x L
 | true=>
  match x.2.2 with
  | .inr (.inr (.inr (.inr (.inl ())))):: .inr (.inl c):: .inr (.inr (.inr (.inr (.inl ())))):: .inr (.inl k):: .inr (.inr (.inr (.inr (.inl ()))))::s=>
   regK T call ops (headA c.toNat s).1 (headN k.toNat (headA c.toNat s).2).1 (headN k.toNat (headA c.toNat s).2).2 x L
  | _=>
  if (Region.noSelect ops && (watch ops.toList x.1 x.2.1).all (fun b=>Nat.blt b x.2.1.n))=true then
   match dfs T call ops (watch ops.toList x.1 x.2.1) x.2.1 ops.size (Array.replicate ops.size false) x L with
   | some (y::ys,L')=>some (canon ops.toList x.2.1.n y,⟨L'.cs,ys.map (fun z=>(canon ops.toList x.2.1.n z,canon ops.toList x.2.1.n y))++L'.es,L'.bs⟩)
   | _=>none
  else none
theorem regS_ok {T:Tab}(hT:TabOk T) {call:CallF}(hC:CallOk T call) {ops:Array Oper}{draw:Bool}{id:Nat}{x x':Lf}{L L':Lg}(hs:regS T call ops draw x L=some (x',L')) (hL:L'.ok):
  L.ok∧∀ m B a w,Rel m B x a w→∀ Q:Exit→Act→World→Prop,(∀ a' w',Reach m B x.2.1.n w x' a' w'→Q .normal a' w')→(Code.region id ops draw).wp T.P Q a w:=by
 unfold regS at hs;split at hs
 ·obtain⟨h1,h2⟩:=evOps_ok hT hC ops.toList 0 (by simp) x x' L L' hs hL;refine⟨h1,fun m B a w R Q hQ=>wp_region ?_⟩;have:=h2 m B a w R Q hQ;rw[← List.range_eq_range'] at this;simpa using this
 ·split at hs
  ·exact regK_ok hT hC hs hL
  ·split at hs
   ·rename_i hc;simp only[Xh,List.all_eq_true,blt_iff] at hc;obtain⟨hsel,hlow⟩:=hc;split at hs
    ·rename_i y ys L1 hd;cases hs;have ok1:L1.ok:=⟨hL.1,fun e he=>hL.2.1 e (List.mem_append_right _ he),hL.2.2⟩;obtain⟨h1,_,h3⟩:=dfs_ok hT hC hsel _ _ _ _ _ _ hd ok1;refine⟨h1,fun m B a w R Q hQ=> ?_⟩;have hall:∀ l∈y::ys,canon ops.toList x.2.1.n l=canon ops.toList x.2.1.n y:=fun l hl=>by
      rcases List.mem_cons.1 hl with rfl | hl
      ·rfl
      ·exact hL.2.1 (canon ops.toList x.2.1.n l,canon ops.toList x.2.1.n y) (List.mem_append_left _ (List.mem_map.2 ⟨l,hl,rfl⟩))
     have E1:Emb m B x.2.1 {w with drawn:=w.drawn+1}:=⟨R.emb.len,R.emb.lies,R.emb.low,R.emb.ros,R.emb.inj,R.emb.wf,R.emb.base,R.emb.ice,R.emb.abs⟩;have hh:=h3 m {w with drawn:=w.drawn+1} B ⟨E1,hlow⟩ m (Agree.refl _ _) a {w with drawn:=w.drawn+1} ⟨R.tmps,R.dfr,E1,R.wf⟩ (Nat.le_refl _) (fun b _ y hy hty=>E1.lies b y hy hty)
      (fun e a' w'=>e= .normal∧Reach m B x.2.1.n w (canon ops.toList x.2.1.n y) a' w') (fun c a w h=>by cases h.1) fun l hl a' w' hR=>
       ⟨rfl,hall l hl ▸ canon_reach<| Reach.trans (w':={w with drawn:=w.drawn+1}) (Agree.refl _ _) (Below.mk rfl rfl rfl (Nat.le_refl _) (fun _ _=>rfl)) (Nat.le_refl _) hR⟩
     exact wp_mono (wp_region_held hT.mixed hh) (fun e a' w' h=>by obtain⟨rfl,h⟩:=h;exact hQ _ _ h)
    ·cases hs
   ·cases hs
abbrev Ex:=Option (Option Nat)
def out:Ex→Exit
 | none=> .normal
 | some (some id)=> .exit id
 | some none=> .ret
def resV (P:Program) (t:List Value) (h:Hp):ResultVar→Option Value
 | .tmp i=>some (t.getD i undef)
 | .cell i ty=>
  match t.getD i undef with
  | .pointer (some a)=>loadS P ty a h
  | _=>none
def resL (P:Program) (t:List Value) (h:Hp):List ResultVar→Option (List Value)
 | []=>some []
 | r::rs=>
  match resV P t h r with
  | some v=>
   match resL P t h rs with
   | some vs=>some (v::vs)
   | none=>none
  | none=>none
def resS (P:Program) (F:Func) (t:List Value) (h:Hp):Option Value:=
 match resL P t h F.results.toList with
 | some [v]=>some v
 | some vs=>if (vs.all noT)=true then some (.tuple vs.toArray) else none
 | none=>none
theorem getD_mv {m:Mp}(t:List Value) (i:Nat):(t.map (mv m)).toArray.getD i undef=mv m (t.getD i undef):=by
 simp only[List.getD];cases h:t[i]? with
 | none=>simp [h,mv_undef]
 | some v=>simp [h]
theorem resL_run {m:Mp}{B:Nat}{P:Program}{t:List Value}{h:Hp}{w:World}(E:Emb m B h w) (ht:∀ v∈t,lt h.n v=true):∀ (rs:List ResultVar) (vs:List Value),resL P t h rs=some vs→
  (rs.mapM (m:=Sem) fun
   | .tmp i=>pure ((t.map (mv m)).toArray.getD i undef)
   | .cell i ty=>do loadVar ty (← asAddr ((t.map (mv m)).toArray.getD i undef))).run P w= .ok (vs.map (mv m)) w∧∀ v∈vs,lt h.n v=true
 | [],vs,hs=>by
  simp only[resL] at hs;cases hs;exact⟨by simp,by simp⟩
 | r::rs,vs,hs=>by
  simp only[resL] at hs;split at hs
  ·rename_i v hv;split at hs
   ·rename_i vs' hvs;cases hs;obtain⟨h1,h2⟩:=resL_run E ht rs vs' hvs;rw[List.mapM_cons];cases r with
    | tmp i=>
     simp only[resV] at hv;cases hv;refine⟨?_,fun y hy=> ?_⟩
     ·simp only[getD_mv] at h1 ⊢;simp only[Sem.run_bind,Sem.run_pure,Result.andThen_ok,h1,List.map_cons]
     ·rcases List.mem_cons.1 hy with rfl | hy
      ·simp only[List.getD];cases hh:t[i]? with
       | none=>simp [undef,lt]
       | some u=>exact ht u (List.mem_of_getElem? hh)
      ·exact h2 y hy
    | cell i ty=>
     simp only[resV] at hv;split at hv
     ·rename_i a ha;obtain⟨g1,g2⟩:=loadS_run (P:=P) E hv;refine⟨?_,fun y hy=> ?_⟩
      ·have e:mv m (Value.pointer (some a))= .pointer (some (mvA m a)):=rfl;have g3:(loadVar ty (mvA m a)).run P w= .ok (mv m v) w:=by
        simpa [Instr.loadAt,Instr.sureAddr] using g1
       simp only[getD_mv] at h1 ⊢;have g4:(asAddr (.pointer (some (mvA m a)))).run P w= .ok (mvA m a) w:=rfl;simp only[Sem.run_bind,Sem.run_pure,Result.andThen_ok,h1,ha,e,g4,g3,List.map_cons]
      ·rcases List.mem_cons.1 hy with rfl | hy
       ·exact g2
       ·exact h2 y hy
     ·cases hv
   ·cases hs
  ·cases hs
theorem tuple_mv {m:Mp}{vs:List Value}(h:(vs.all noT)=true):mv m (.tuple vs.toArray)= .tuple (vs.map (mv m)).toArray:=by
 simp only[mv,List.map_toArray];congr 2;refine List.map_congr_left fun v hv=> ?_;have:=List.all_eq_true.1 h v hv;cases v<;>simp_all [noT,mv]
theorem resS_run {m:Mp}{B:Nat}{P:Program}{F:Func}{t:List Value}{h:Hp}{w:World}{v:Value}(E:Emb m B h w) (ht:∀ v∈t,lt h.n v=true) (hs:resS P F t h=some v):
  (results F (t.map (mv m)).toArray).run P w= .ok (mv m v) w∧lt h.n v=true:=by
 unfold resS at hs;have key:∀ vs,resL P t h F.results.toList=some vs→(results F (t.map (mv m)).toArray).run P w= .ok (if hh:(vs.map (mv m)).toArray.size=1 then (vs.map (mv m)).toArray[0] else .tuple (vs.map (mv m)).toArray) w∧∀ v∈vs,lt h.n v=true:=by
  intro vs hvs;obtain⟨h1,h2⟩:=resL_run E ht F.results.toList vs hvs;refine⟨?_,h2⟩;unfold results;have e:F.results=F.results.toList.toArray:=by simp
  rw[e];rw[List.mapM_toArray];simp only[Sem.run_bind,Sem.run_map,Sem.run_pure]
  erw [h1]
  rfl
 split at hs
 ·rename_i u hu;cases hs;obtain⟨h1,h2⟩:=key _ hu;exact⟨by simpa using h1,h2 _ (by simp)⟩
 ·rename_i vs hne hu;split at hs
  ·rename_i hall;cases hs;obtain⟨h1,h2⟩:=key _ hu;have hlen:¬ (vs.map (mv m)).toArray.size=1:=by
    intro hl;simp only[List.size_toArray,List.length_map] at hl;obtain⟨u,hu'⟩:=List.length_eq_one_iff.1 hl;exact hne u hu'
   rw[dif_neg hlen] at h1;refine⟨by rw[h1,tuple_mv hall],?_⟩;simp only[lt,List.all_eq_true];intro y hy;have h3:=h2 y hy;have h4:=List.all_eq_true.1 hall y hy;cases y<;>simp_all [lt,noT]
  ·cases hs
 ·cases hs
def callBy (T:Tab) (evc:Code→Lf→Lg→Option (Ex×Lf×Lg)):CallF:=fun f vals h s L=>
 match T.fn f with
 | none=>none
 | some F=>
  match F.body with
  | none=>none
  | some c=>
   match evc c (vals++List.replicate (F.ntmps-vals.length) undef,h,s) L with
   | some (some (some _),_,_)=>none
   | some (_,x,L')=>
    match resS T.P F x.1 x.2.1 with
    | some v=>some (v,x.2.1,x.2.2,L')
    | none=>none
   | none=>none
def evC (T:Tab):Nat→Bool→Code→Lf→Lg→Option (Ex×Lf×Lg)
 | 0,_,_,_,_=>none
 | n+1,true,c,x,L=>
  match evC T n false c x L with
  | some (none,x',L')=>evC T n true c x' L'
  | r=>r
 | n+1,false,c,x,L=>
  match c with
  | .skip=>some (none,x,L)
  | .label _=>some (none,x,L)
  | .region _ ops draw=>
   match regS T (callBy T (evC T n false)) ops draw x L with
   | some r=>some (none,r.1,r.2)
   | none=>none
  | .seq c1 c2=>
   match evC T n false c1 x L with
   | some (none,x',L')=>evC T n false c2 x' L'
   | r=>r
  | .cond b c1 c2=>
   if okX b=true then
    match ev x.1 b with
    | .bool v=>
     match (pickB v x.2.2).1 with
     | true=>evC T n false c1 (x.1,x.2.1,(pickB v x.2.2).2.1) (Lg.add (pickB v x.2.2).2.2 L)
     | false=>evC T n false c2 (x.1,x.2.1,(pickB v x.2.2).2.1) (Lg.add (pickB v x.2.2).2.2 L)
    | _=>none
   else none
  | .block id c=>
   match evC T n false c x L with
   | some (some (some id'),x',L')=>if id'=id then some (none,x',L') else some (some (some id'),x',L')
   | r=>r
  | .loop c=>evC T n true c x L
  | .exit id=>some (some (some id),x,L)
  | .ret=>some (some none,x,L)
  | .scope c=>evC T n false c x L
  | _=>none
def EvOk (T:Tab) (ev:Code→Lf→Lg→Option (Ex×Lf×Lg)):Prop:=∀ c x L e x' L',ev c x L=some (e,x',L')→L'.ok→L.ok∧
 ∀ m B a w,Rel m B x a w→∀ Q:Exit→Act→World→Prop,(∀ a' w',Reach m B x.2.1.n w x' a' w'→Q (out e) a' w')→c.wp T.P Q a w
def RdOk (T:Tab) (r:Nat) (ev:Code→Lf→Lg→Option (Ex×Lf×Lg)):Prop:=∀ c x L e x' L',ev c x L=some (e,x',L')→L'.ok→L.ok∧
 ∀ m B a w,Rel m B x a w→∀ Q:Exit→Act→World→Prop,(∀ a' w',Reach m B x.2.1.n w x' a' w'→Q (out e) a' w')→Code.rounds T.P c Q r a w
theorem callBy_ok {T:Tab}(hT:TabOk T) {evc:Code→Lf→Lg→Option (Ex×Lf×Lg)}(hE:EvOk T evc):CallOk T (callBy T evc):=by
 intro f vals h s L v h' s' L' hs hL;unfold callBy at hs;split at hs
 ·cases hs
 ·rename_i F hF;split at hs
  ·cases hs
  ·rename_i c hc;obtain⟨hP,hN⟩:=hT.fn _ _ hF;have main:∀ e x,evc c (vals++List.replicate (F.ntmps-vals.length) undef,h,s) L=some (e,x,L')→(e=none∨e=some none)→resS T.P F x.1 x.2.1=some v→x.2.1=h'→
     L.ok∧(∃ F,T.P.funcs[f]? =some F∧(F.name== "runtime.NumGoroutine")=false∧F.body.isSome=true)∧
     ∀ m B w,Emb m B h w→(∀ v∈vals,lt h.n v=true)→Calls T.P f (vals.map (mv m)).toArray w fun e w'=>∃ m',e= .returned (mv m' v)∧Came m B h w v h' m' w':=by
    intro e x he hex hres hh;subst hh;obtain⟨h1,h2⟩:=hE _ _ _ _ _ _ he hL;refine⟨h1,⟨F,hP,hN,by simp [hc]⟩,fun m B w E hv=>calls_of_wp hP hc ?_⟩;have R:Rel m B (vals++List.replicate (F.ntmps-vals.length) undef,h,s) {tmps:=(vals.map (mv m)).toArray++Array.replicate (F.ntmps-(vals.map (mv m)).toArray.size) undef,defers:=[]} w:=by
     refine⟨?_,rfl,E,?_⟩
     ·simp [mv_undef]
     ·intro y hy;rcases List.mem_append.1 hy with hy | hy
      ·exact hv y hy
      ·rw[List.eq_of_mem_replicate hy];simp [undef,lt]
    refine h2 m B _ w R _ fun a' w' hR=> ?_;obtain⟨m',k1,k2,k3,k4⟩:=hR;obtain⟨r1,r2⟩:=resS_run k2.emb k2.wf hres;rw[← k2.tmps] at r1;have post:a'.defers=[]∧∃ v',(results F a'.tmps).run T.P w'= .ok v' w'∧∃ m',Ending.returned v'= .returned (mv m' v)∧Came m B h w v x.2.1 m' w':=
     ⟨k2.dfr,_,r1,m',rfl,⟨k1,k2.emb,k3,k4,r2⟩⟩
    rcases hex with rfl | rfl<;>exact post
   split at hs
   ·cases hs
   ·rename_i e x L1 hne he;split at hs
    ·rename_i u hu;cases hs;refine main e x he ?_ hu rfl
     match e,hne with
     | none,_=>exact .inl rfl
     | some none,_=>exact .inr rfl
     | some (some id),hne=>exact absurd rfl (hne id)
    ·cases hs
   ·cases hs
theorem evC_ok {T:Tab}(hT:TabOk T):∀ n,EvOk T (evC T n false)∧RdOk T n (evC T n true):=by
 intro n
 induction n with
 | zero=>exact⟨fun c x L e x' L' h=>by simp [evC] at h,fun c x L e x' L' h=>by simp [evC] at h⟩
 | succ n ih=>
  obtain⟨ihE,ihR⟩:=ih;refine⟨?_,?_⟩
  ·intro c x L e x' L' h hL;cases c with
   | skip=>
    simp only[evC] at h;cases h;exact⟨hL,fun m B a w R Q hQ=>wp_skip (hQ _ _ ⟨m,Agree.refl _ _,R,Below.refl _ _,Nat.le_refl _⟩)⟩
   | label l=>
    simp only[evC] at h;cases h;exact⟨hL,fun m B a w R Q hQ=>wp_label (hQ _ _ ⟨m,Agree.refl _ _,R,Below.refl _ _,Nat.le_refl _⟩)⟩
   | region id ops draw=>
    simp only[evC] at h;split at h
    ·rename_i r hr;cases h;exact regS_ok (x':=r.1) (L':=r.2) hT (callBy_ok hT ihE) hr hL
    ·cases h
   | seq c1 c2=>
    simp only[evC] at h;split at h
    ·rename_i x1 L1 h1;obtain⟨g1,g2⟩:=ihE _ _ _ _ _ _ h hL;obtain⟨g3,g4⟩:=ihE _ _ _ _ _ _ h1 g1;refine⟨g3,fun m B a w R Q hQ=>wp_seq (g4 m B a w R _ fun a' w' hR=> ?_)⟩;obtain⟨m',k1,k2,k3,k4⟩:=hR;exact g2 m' B a' w' k2 Q fun a'' w'' hR'=>hQ _ _ (Reach.trans k1 k3 k4 hR')
    ·rename_i hne;obtain⟨g3,g4⟩:=ihE _ _ _ _ _ _ h hL;refine⟨g3,fun m B a w R Q hQ=>wp_seq (g4 m B a w R _ fun a' w' hR=> ?_)⟩;have:=hQ a' w' hR
     match e,h,this with
     | none,h,_=>exact absurd h (hne x' L')
     | some (some id),_,this=>exact this
     | some none,_,this=>exact this
   | cond b c1 c2=>
    simp only[evC] at h;split at h
    ·rename_i hb;split at h
     ·rename_i v hv;split at h
      ·rename_i hp;obtain⟨g1,g2⟩:=ihE _ _ _ _ _ _ h hL;obtain⟨l1,l2⟩:=Lg.add_ok g1;have e1:=pickB_ok l1;rw[hp] at e1;refine⟨l2,fun m B a w R Q hQ=> ?_⟩;have hev:a.eval b= .bool true:=by rw[eval_mv R.tmps hb,hv,← e1];rfl
       exact wp_cond_true hev (g2 m B a w ⟨R.tmps,R.dfr,R.emb,R.wf⟩ Q hQ)
      ·rename_i hp;obtain⟨g1,g2⟩:=ihE _ _ _ _ _ _ h hL;obtain⟨l1,l2⟩:=Lg.add_ok g1;have e1:=pickB_ok l1;rw[hp] at e1;refine⟨l2,fun m B a w R Q hQ=> ?_⟩;have hev:a.eval b= .bool false:=by rw[eval_mv R.tmps hb,hv,← e1];rfl
       exact wp_cond_false hev (g2 m B a w ⟨R.tmps,R.dfr,R.emb,R.wf⟩ Q hQ)
     ·cases h
    ·cases h
   | block id c=>
    simp only[evC] at h;split at h
    ·rename_i id' x1 L1 h1;split at h
     ·rename_i hid;cases h;obtain⟨g3,g4⟩:=ihE _ _ _ _ _ _ h1 hL;refine⟨g3,fun m B a w R Q hQ=>wp_block (g4 m B a w R _ fun a' w' hR=> ?_)⟩;simp only[out,Exit.inBlock,hid,if_true];exact hQ a' w' hR
     ·rename_i hid;cases h;obtain⟨g3,g4⟩:=ihE _ _ _ _ _ _ h1 hL;refine⟨g3,fun m B a w R Q hQ=>wp_block (g4 m B a w R _ fun a' w' hR=> ?_)⟩;simp only[out,Exit.inBlock,hid,if_false];exact hQ a' w' hR
    ·rename_i hne;obtain⟨g3,g4⟩:=ihE _ _ _ _ _ _ h hL;refine⟨g3,fun m B a w R Q hQ=>wp_block (g4 m B a w R _ fun a' w' hR=> ?_)⟩;have:=hQ a' w' hR
     match e,h,this with
     | none,_,this=>exact this
     | some (some id'),h,_=>exact absurd h (hne id' x' L')
     | some none,_,this=>exact this
   | loop c=>
    simp only[evC] at h;obtain⟨g1,g2⟩:=ihR _ _ _ _ _ _ h hL;refine⟨g1,fun m B a w R Q hQ=> ?_⟩;exact wp_loop_rounds n (g2 m B a w R Q hQ)
   | exit id=>
    simp only[evC] at h;cases h;exact⟨hL,fun m B a w R Q hQ=>wp_exit (hQ _ _ ⟨m,Agree.refl _ _,R,Below.refl _ _,Nat.le_refl _⟩)⟩
   | ret=>
    simp only[evC] at h;cases h;exact⟨hL,fun m B a w R Q hQ=>wp_ret (hQ _ _ ⟨m,Agree.refl _ _,R,Below.refl _ _,Nat.le_refl _⟩)⟩
   | scope c=>
    simp only[evC] at h;obtain⟨g3,g4⟩:=ihE _ _ _ _ _ _ h hL;refine⟨g3,fun m B a w R Q hQ=>wp_scope_straight (g4 m B a w R _ fun a' w' hR=> ?_)⟩;have:=hQ a' w' hR
    match e,this with
    | none,this=>exact this
    | some (some id),this=>exact this
    | some none,this=>exact this
   | rangeFunc f ps ar b=>simp [evC] at h
   | goto l=>simp [evC] at h
   | refuse why=>simp [evC] at h
  ·intro c x L e x' L' h hL;simp only[evC] at h;split at h
   ·rename_i x1 L1 h1;obtain⟨g1,g2⟩:=ihR _ _ _ _ _ _ h hL;obtain⟨g3,g4⟩:=ihE _ _ _ _ _ _ h1 g1;refine⟨g3,fun m B a w R Q hQ=> ?_⟩;rw[rounds_succ];refine g4 m B a w R _ fun a' w' hR=> ?_;obtain⟨m',k1,k2,k3,k4⟩:=hR;exact g2 m' B a' w' k2 Q fun a'' w'' hR'=>hQ _ _ (Reach.trans k1 k3 k4 hR')
   ·rename_i hne;obtain⟨g3,g4⟩:=ihE _ _ _ _ _ _ h hL;refine⟨g3,fun m B a w R Q hQ=> ?_⟩;rw[rounds_succ];refine g4 m B a w R _ fun a' w' hR=> ?_;have:=hQ a' w' hR
    match e,h,this with
    | none,h,_=>exact absurd h (hne x' L')
    | some (some id),_,this=>exact this
    | some none,_,this=>exact this
def reckon (T:Tab) (n:Nat) (f:Nat) (vals:List Value) (s:List Dec):Option (Value×Hp×List Dec×Lg):=callBy T (evC T n false) f vals ⟨0,[]⟩ s ⟨[],[],[]⟩
theorem reckon_calls {T:Tab}(hT:TabOk T) {n f:Nat}{vals:List Value}{s s':List Dec}{v:Value}{h':Hp}{L:Lg}(hs:reckon T n f vals s=some (v,h',s',L)) (hL:L.ok) (hvals:(vals.all (lt 0))=true) (hv:lt 0 v=true) (w:World):
  Calls T.P f vals.toArray w fun e w'=>e= .returned v∧Tidy w w':=by
 obtain⟨_,_,h3⟩:=callBy_ok hT (evC_ok hT n).1 _ _ _ _ _ _ _ _ _ hs hL;have E:Emb (fun b=>(b,0)) w.heap.size ⟨0,[]⟩ w:=
  Emb.none w
 have hst:∀ y∈vals,lt 0 y=true:=List.all_eq_true.1 hvals;have e:vals.map (mv fun b=>(b,0))=vals:=(List.map_congr_left fun y hy=>mv_still (hst y hy)).trans (List.map_id' _);have:=h3 _ _ w E hst;rw[e] at this;refine this.mono fun en w' he=> ?_;obtain⟨m',rfl,C⟩:=he;exact⟨by rw[mv_still hv],C.below,fun k h1 h2=>C.emb.ice k h1 h2⟩
def Fits (r:Option (Value×Hp×List Dec×Lg)) (v:Value) (cs:Log):Prop:=
 r.map (fun r=>r.1)=some v∧r.map (fun r=>r.2.2.2.cs)=some cs∧r.map (fun r=>r.2.2.2.es.map Prod.fst)=r.map (fun r=>r.2.2.2.es.map Prod.snd)∧r.map (fun r=>r.2.2.2.bs.map Prod.fst)=r.map (fun r=>r.2.2.2.bs.map Prod.snd)
theorem all_eq {α:Type}:∀ (l:List (α×α)),l.map Prod.fst=l.map Prod.snd→∀ x∈l,x.1=x.2
 | [],_,x,hx=>by cases hx
 | y::l,h,x,hx=>by
  simp only[List.map_cons,List.cons.injEq] at h;rcases List.mem_cons.1 hx with rfl | hx
  ·exact h.1
  ·exact all_eq l h.2 x hx
theorem fits_calls {T:Tab}(hT:TabOk T) {n f:Nat}{vals:List Value}{s:List Dec}{v:Value}{cs:Log}(hF:Fits (reckon T n f vals s) v cs) (hcs:okLog cs) (hvals:(vals.all (lt 0))=true) (hv:lt 0 v=true) (w:World):
  Calls T.P f vals.toArray w fun e w'=>e= .returned v∧Tidy w w':=by
 obtain⟨h1,h2,h3,h4⟩:=hF;cases hr:reckon T n f vals s with
 | none=>rw[hr] at h1;cases h1
 | some r=>
  rw[hr] at h1 h2 h3 h4;simp only[Option.map_some,Option.some.injEq] at h1 h2 h3 h4;obtain⟨v',h',s',L⟩:=r;simp only at h1 h2 h3 h4;subst h1;exact reckon_calls hT hr ⟨by rw[h2];exact hcs,all_eq _ h3,all_eq _ h4⟩ hvals hv w
def addV:List Value→Option (Value×Log)
 | [.int .u64 x,.int .u64 y,.int .u64 c]=>
  some (.tuple #[.int .u64 ((x+y+c) % 18446744073709551616),.int .u64 ((x+y+c)/18446744073709551616)],[(decide (0≤x∧0≤y∧0≤c∧c≤1),true)])
 | _=>none
def subV:List Value→Option (Value×Log)
 | [.int .u64 x,.int .u64 y,.int .u64 c]=>
  some (.tuple #[.int .u64 ((x+18446744073709551616-y-c) % 18446744073709551616),.int .u64 (if x<y+c then 1 else 0)],[(decide (0≤x∧0≤y∧y<18446744073709551616∧0≤c∧c≤1),true)])
 | _=>none
theorem addV_run {P:Program}{f:Nat}{F:Func}(hf:P.funcs[f]? =some F) (hn:(F.name== "runtime.NumGoroutine")=false) (hb:F.body.isNone=true) (hx:Extern.findNext F=none) (he:Extern.find F=some add64Entry)
  {vals:List Value}{v:Value}{lg:Log}(h:addV vals=some (v,lg)) (hl:okLog lg) (w:World):(callFunc f vals.toArray).run P w= .ok (.value v) w:=by
 unfold addV at h;split at h
 ·rename_i x y c;cases h;have:=hl _ Xf;simp only[Xi] at this;rw[run_callFunc_extern hf hn hb hx he,run_add64 x y c this.1 this.2.1 this.2.2.1 this.2.2.2];rfl
 ·cases h
theorem sub64_run {P:Program}{e:Array Value→Sem Value}(he:(Extern.MathBitsCarry.rows[1]?).map Prod.snd=some e) (x y c:Int) (hx:0≤x) (hy:0≤y) (hy':y<18446744073709551616) (hc0:0≤c) (hc:c≤1) (w:World):
  (e #[.int .u64 x,.int .u64 y,.int .u64 c]).run P w= .ok (.tuple #[.int .u64 ((x+18446744073709551616-y-c) % 18446744073709551616),.int .u64 (if x<y+c then 1 else 0)]) w:=by
 simp only[Extern.MathBitsCarry.rows,List.getElem?_cons_succ,List.getElem?_cons_zero,Option.map_some,Option.some.injEq] at he;subst he;have key:∀ k:Nat,k≤1→(Extern.MathBitsCarry.three "Sub64" #[.int .u64 x,.int .u64 y,.int .u64 (k:Int)]).run P w= .ok (x.toNat,y.toNat,k) w:=by
  intro k hk;have:k=0∨k=1:=by omega
  rcases this with rfl | rfl<;>rfl
 obtain⟨k,rfl⟩:=Int.eq_ofNat_of_zero_le hc0;rw[Sem.run_bind,key k (by omega)];simp only[Result.andThen_ok,Sem.run_pure];obtain⟨X,rfl⟩:=Int.eq_ofNat_of_zero_le hx;obtain⟨Y,rfl⟩:=Int.eq_ofNat_of_zero_le hy;have e1:Int.ofNat (((X+Extern.MathBitsCarry.m64-Y-k) % Extern.MathBitsCarry.m64))=((X:Int)+18446744073709551616-Y-k) % 18446744073709551616:=by
  simp only[Extern.MathBitsCarry.m64,Int.ofNat_eq_natCast];omega
 have e2:Int.ofNat (if X<Y+k then 1 else 0)=(if (X:Int)<Y+k then 1 else 0):=by
  by_cases h:X<Y+k
  ·rw[if_pos h,if_pos (by omega)];rfl
  ·rw[if_neg h,if_neg (by omega)];rfl
 simp only[Extern.MathBitsCarry.pair,Xg,e1,e2]
theorem subV_run {P:Program}{f:Nat}{F:Func}{e:Array Value→Sem Value}(hf:P.funcs[f]? =some F) (hn:(F.name== "runtime.NumGoroutine")=false) (hb:F.body.isNone=true) (hx:Extern.findNext F=none) (he:Extern.find F=some e)
  (he':(Extern.MathBitsCarry.rows[1]?).map Prod.snd=some e) {vals:List Value}{v:Value}{lg:Log}(h:subV vals=some (v,lg)) (hl:okLog lg) (w:World):(callFunc f vals.toArray).run P w= .ok (.value v) w:=by
 unfold subV at h;split at h
 ·rename_i x y c;cases h;have:=hl _ Xf;simp only[Xi] at this;rw[run_callFunc_extern hf hn hb hx he,sub64_run he' x y c this.1 this.2.1 this.2.2.1 this.2.2.2.1 this.2.2.2.2];rfl
 ·cases h
end Go.KRun
namespace Go.Proofs.YtdlpffgekmidnabDoor
open Go.Proofs.Tryd
open Go.KRun
theorem names:(prog.funcs.toList.all fun F=> !(F.name== "runtime.NumGoroutine"))=true:=by kernel_rfl
theorem fns_ok (f:Nat) (F:Func) (h:prog.funcs[f]? =some F):prog.funcs[f]? =some F∧(F.name== "runtime.NumGoroutine")=false:=
 ⟨h,by simpa using List.all_eq_true.1 names F (by simpa using Array.mem_of_getElem? h)⟩
def extY:Nat→List Value→Option (Value×Log):=fun f vals=>if f=65 then addV vals else if f=66 then subV vals else none
theorem add_ext {vals:List Value}{v:Value}{lg:Log}(h:addV vals=some (v,lg)) (hl:okLog lg) (w:World):(callFunc 65 vals.toArray).run prog w= .ok (.value v) w:=
 addV_run func65 (by kernel_rfl) (by kernel_rfl) (by kernel_rfl) (by kernel_rfl) h hl w
theorem sub_ext {vals:List Value}{v:Value}{lg:Log}(h:subV vals=some (v,lg)) (hl:okLog lg) (w:World):(callFunc 66 vals.toArray).run prog w= .ok (.value v) w:=
 subV_run (e:=(Extern.MathBitsCarry.rows[1]).2) func66 (by kernel_rfl) (by kernel_rfl) (by kernel_rfl) (by kernel_rfl) (by rfl) h hl w
theorem extY_ok (f:Nat) (vals:List Value) (v:Value) (lg:Log) (h:extY f vals=some (v,lg)) (hl:okLog lg) (w:World):(callFunc f vals.toArray).run prog w= .ok (.value v) w:=by
 unfold extY at h;split at h
 ·rename_i hf;subst hf;exact add_ext h hl w
 ·split at h
  ·rename_i hf;subst hf;exact sub_ext h hl w
  ·cases h
abbrev Con:=Nat→List Value→List Dec→Option (Value×List Dec×Log)
structure ConOk (con:Con):Prop where
 fn:∀ f vals s v s' lg,con f vals s=some (v,s',lg)→∃ F,prog.funcs[f]? =some F∧F.body.isSome=true
 calls:∀ f vals s v s' lg,con f vals s=some (v,s',lg)→okLog lg→∀ w,Calls prog f vals.toArray w fun e w'=>e= .returned v∧Tidy w w'
def conN:Con:=fun _ _ _=>none
theorem conN_ok:ConOk conN where
 fn:=fun _ _ _ _ _ _ h=>by simp [conN] at h
 calls:=fun _ _ _ _ _ _ h=>by simp [conN] at h
def tabOf (P:Program) (ext:Nat→List Value→Option (Value×Log)) (con:Con) (sym:Bool):Tab:={P:=P,fn:=fun f=>P.funcs[f]?,ext:=ext,con:=con,sym:=sym}
theorem mixed:prog.follows .mixedOrders=true:=by kernel_rfl
theorem tabY_ok {con:Con}(h:ConOk con):TabOk (tabOf prog extY con true) where
 mixed:=mixed
 ext:=extY_ok
 con:=fun f vals s v s' lg hc hl=>⟨by obtain⟨F,h1,h2⟩:=h.fn f vals s v s' lg hc;exact⟨F,(fns_ok f F h1).1,(fns_ok f F h1).2,h2⟩,h.calls f vals s v s' lg hc hl⟩
 fn:=fns_ok
 hc:=fun _ _ _ _ _ _ _ _ h=>by cases h
abbrev Ans:=List Value→List Dec→Option (Value×List Dec×Log)
def AnsOk (f:Nat) (g:Ans):Prop:=∀ vals s v s' lg,g vals s=some (v,s',lg)→okLog lg→∀ w,Calls prog f vals.toArray w fun e w'=>e= .returned v∧Tidy w w'
def alt (f:Nat) (g:Ans) (rest:Con):Con:=fun f' vals s=>if f'=f then g vals s else rest f' vals s
theorem alt_ok {f:Nat}{g:Ans}{rest:Con}{F:Func}(hf:prog.funcs[f]? =some F) (hb:F.body.isSome=true) (hg:AnsOk f g) (hr:ConOk rest):ConOk (alt f g rest) where
 fn:=fun f' vals s v s' lg h=>by
  unfold alt at h;split at h
  ·rename_i he;subst he;exact⟨F,hf,hb⟩
  ·exact hr.fn _ _ _ _ _ _ h
 calls:=fun f' vals s v s' lg h hl w=>by
  unfold alt at h;split at h
  ·rename_i he;subst he;exact hg _ _ _ _ _ h hl w
  ·exact hr.calls _ _ _ _ _ _ h hl w
end Go.Proofs.YtdlpffgekmidnabDoor
