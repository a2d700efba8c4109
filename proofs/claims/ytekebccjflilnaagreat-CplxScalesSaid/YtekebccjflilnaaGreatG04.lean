/-
  RunE, RunF, RunG, RunH, Tab, Num
-/
import Derived.Test.YtekebccjflilnaaGreatG03
import Derived.Laws.Externs
import Derived.Test.YtekebccjflilnaaGreatProg
namespace Go.KRun
open Go.RowKit
abbrev Lf:=List Value×Hp×List Dec
abbrev Bp:=Option (List Value×TypeId)
structure Lg where
 cs:Log
 es:List (Lf×Lf)
 bs:List (Bp×Bp)
def Lg.ok (L:Lg):Prop:=Zx L.cs∧(∀ e∈L.es,e.1=e.2)∧∀ e∈L.bs,e.1=e.2
def Lg.add (lg:Log) (L:Lg):Lg:=⟨lg++L.cs,L.es,L.bs⟩
theorem Lg.add_ok {lg:Log}{L:Lg}(h:(Lg.add lg L).ok):Zx lg∧L.ok:=
 ⟨fun x hx=>h.1 x (List.mem_append_left _ hx),fun x hx=>h.1 x (List.mem_append_right _ hx),h.2⟩
abbrev Zb9:=Nat→List Value→Hp→List Dec→Lg→Option (Value×Hp×List Dec×Lg)
def zg (w w':World):Prop:=Below w.heap.size w w'∧∀ k,w.heap.size≤k→k<w'.heap.size→ZuA w'.heap[k]?
structure TabOk (T:Tab):Prop where
 mixed:T.P.follows .mixedOrders=true
 ext:∀ f vals v lg,T.ext f vals=some (v,lg)→Zx lg→∀ w,(callFunc f vals.toArray).run T.P w= .ok (.value v) w
 con:∀ f vals s v s' lg,T.con f vals s=some (v,s',lg)→Zx lg→(∃ F,T.P.funcs[f]? =some F∧(F.name== "runtime.NumGoroutine")=false∧F.body.isSome=true)∧∀ w,Calls T.P f vals.toArray w fun e w'=>e= .returned v∧zg w w'
 fn:∀ f F,T.fn f=some F→T.P.funcs[f]? =some F∧(F.name== "runtime.NumGoroutine")=false
 hc:∀ f vals h s v h' s' lg,T.hc f vals h s=some (v,h',s',lg)→Zx lg→(∃ F,T.P.funcs[f]? =some F∧(F.name== "runtime.NumGoroutine")=false∧F.body.isSome=true)∧
  ∀ m B w,Emb m B h w→(∀ v∈vals,lt h.n v=true)→Calls T.P f (vals.map (mv m)).toArray w fun e w'=>∃ m',e= .returned (mv m' v)∧Came m B h w v h' m' w'
structure Rel (m:Mp) (B:Nat) (x:Lf) (a:Act) (w:World):Prop where
 tmps:a.tmps=(x.1.map (mv m)).toArray
 dfr:a.defers=[]
 emb:Emb m B x.2.1 w
 wf:∀ v∈x.1,lt x.2.1.n v=true
def Reach (m:Mp) (B n:Nat) (w:World) (x':Lf) (a':Act) (w':World):Prop:=
 ∃ m',Agree m m' n∧Rel m' B x' a' w'∧Below B w w'∧n≤x'.2.1.n
theorem Reach.trans {m m':Mp}{B n n':Nat}{w w':World}{x:Lf}{a:Act}{w'':World}(h1:Agree m m' n) (h2:Below B w w') (h3:n≤n') (h:Reach m' B n' w' x a w''):Reach m B n w x a w'':=by
 obtain⟨m'',k1,k2,k3,k4⟩:=h;exact⟨m'',h1.trans k1 h3,k2,h2.trans k3,Nat.le_trans h3 k4⟩
def Ze2 (t:List Value):Option Tmp→Value→List Value
 | none,_=>t
 | some d,v=>t.set d v
theorem Rel.put {m m':Mp}{B:Nat}{x:Lf}{a:Act}{w w':World}(R:Rel m B x a w) {v:Value}{h':Hp}(hm:Agree m m' x.2.1.n) (E:Emb m' B h' w') (hn:x.2.1.n≤h'.n) (hv:lt h'.n v=true) (d:Option Tmp) (s':List Dec):
  Rel m' B (Ze2 x.1 d v,h',s') (a.put d (mv m' v)) w':=by
 have e:x.1.map (mv m)=x.1.map (mv m'):=List.map_congr_left fun y hy=>(ZmB hm (R.wf y hy)).symm;refine⟨?_,?_,E,?_⟩
 ·cases d with
  | none=>simp only[Act.put,Ze2];rw[R.tmps,e]
  | some d=>simp only[Act.put,Ze2];rw[R.tmps,e,List.map_set,List.setIfInBounds_toArray]
 ·cases d<;>exact R.dfr
 ·intro y hy;cases d with
  | none=>exact Zaj hn (R.wf y hy)
  | some d=>
   simp only[Ze2] at hy;rcases List.mem_or_eq_of_mem_set hy with hy | hy
   ·exact Zaj hn (R.wf y hy)
   ·subst hy;exact hv
theorem Reach.put {m m':Mp}{B:Nat}{x:Lf}{a:Act}{w w':World}(R:Rel m B x a w) {v:Value}{h':Hp}(C:Came m B x.2.1 w v h' m' w') (d:Option Tmp) (s':List Dec):
  Reach m B x.2.1.n w (Ze2 x.1 d v,h',s') (a.put d (mv m' v)) w':=
 ⟨m',C.agree,R.put C.agree C.emb C.grown C.val d s',C.below,C.grown⟩
theorem Reach.undef {m:Mp}{B:Nat}{x:Lf}{a:Act}{w:World}(R:Rel m B x a w) (d:Option Tmp) (s':List Dec):
  Reach m B x.2.1.n w (Ze2 x.1 d undef,x.2.1,s') (a.put d undef) w:=by
 have:=Reach.put (v:=Go.undef) R ⟨Agree.refl _ _,R.emb,Below.refl _ _,Nat.le_refl _,by simp [Go.undef,lt]⟩ d s';rw[zO] at this;exact this
def Za9 (ops:Array Oper) (t:List Value) (s:List Dec) (o:Oper):Bool×List Dec×Log:=
 match o.guard with
 | none=>(true,s,[])
 | some g=>
  match (ops[g.1]?).bind (·.dst) with
  | none=>(false,s,[])
  | some d=>
   match t[d]? with
   | some (.bool b)=>((ZbP b s).1==g.2,(ZbP b s).2.1,(ZbP b s).2.2)
   | some (.iface _ _)=>(false,s,[(true,false)])
   | _=>(false,s,[])
theorem ZqS {m:Mp}{v:Value}{b:Bool}(hv:∀ t u,v≠ .iface t u) (h:mv m v= .bool b):v= .bool b:=by
 cases v with
 | bool c=>simpa [mv,mv2,mv1] using h
 | pointer a=>cases a<;>simp [mv,mv2,mv1] at h
 | map a=>cases a<;>simp [mv,mv2,mv1] at h
 | slice a l c=>cases a<;>simp [mv,mv2,mv1] at h
 | iface t u=>exact absurd rfl (hv t u)
 | _=>simp [mv,mv2,mv1] at h
theorem ZaM {m:Mp}{ops:Array Oper}{t:List Value}{a:Act}(ha:a.tmps=(t.map (mv m)).toArray) {s:List Dec}{o:Oper}(h:Zx (Za9 ops t s o).2.2):
  (Za9 ops t s o).1=Region.wanted o (yielded ops a.tmps):=by
 unfold Za9 Region.wanted yielded at*;cases hg:o.guard with
 | none=>rfl
 | some g=>
  rw[hg] at h;obtain⟨j,want⟩:=g;simp only at h ⊢;cases hd:(ops[j]?).bind (·.dst) with
  | none=>simp
  | some d=>
   simp only[hd] at h ⊢;rw[ha];simp only[Option.bind_some,List.getElem?_toArray,List.getElem?_map];cases ht:t[d]? with
   | none=>simp
   | some v=>
    simp only[ht] at h;simp only[Option.map_some];split at h
    ·rename_i b hb;cases hb;have e:=ZcL h;simp only[mv,mv2,mv1];rw[e];rfl
    ·have:=h _ Xf;cases this
    ·rename_i hb hi;have:∀ b,mv m v≠ .bool b:=fun b hbb=>hb b (by rw[ZqS (fun t u e=>hi t u (by rw[e])) hbb]);split
     ·rename_i b hbb;exact absurd (Option.some.inj hbb) (this b)
     ·rfl
def ZpC (t:List Value):Op→Option (Nat×List Operand)
 | .call ⟨.value (.func f),args,_⟩=>some (f,args.toList)
 | .call ⟨.value (.tmp k),args,_⟩=>
  match t.getD k undef with
  | .func (.func f) ⟨[]⟩ ⟨[]⟩=>some (f,args.toList)
  | _=>none
 | _=>none
def ZqT (T:Tab) (call:Zb9) (o:Oper) (x:Lf) (L:Lg):Option (Lf×Lg):=
 match ZpC x.1 o.op with
 | some c=>
  if (c.2.all okX)=true then
   match T.ext c.1 (c.2.map (ev x.1)) with
   | some r=>if ((c.2.map (ev x.1)).all (lt 0) && lt 0 r.1)=true then some ((Ze2 x.1 o.dst r.1,x.2.1,x.2.2),Lg.add r.2 L) else none
   | none=>
    match T.con c.1 (c.2.map (ev x.1)) x.2.2 with
    | some r=>if ((c.2.map (ev x.1)).all (lt 0) && lt 0 r.1)=true then some ((Ze2 x.1 o.dst r.1,x.2.1,r.2.1),Lg.add r.2.2 L) else none
    | none=>
     match T.hc c.1 (c.2.map (ev x.1)) x.2.1 x.2.2 with
     | some r=>some ((Ze2 x.1 o.dst r.1,r.2.1,r.2.2.1),Lg.add r.2.2.2 L)
     | none=>
      match call c.1 (c.2.map (ev x.1)) x.2.1 x.2.2 L with
      | some (v,h',s',L')=>
       match Nat.beq h'.n x.2.1.n with
       | true=>some ((Ze2 x.1 o.dst v,h',s'),L')
       | false=>if (lt 0 v && (h'.cut x.2.1.n).tight)=true then some ((Ze2 x.1 o.dst v,h'.cut x.2.1.n,s'),L') else some ((Ze2 x.1 o.dst v,h',s'),L')
      | none=>none
  else none
 | none=>
  match ZjD T x.1 x.2.1 x.2.2 o with
  | some r=>some ((Ze2 x.1 o.dst r.1,r.2.1,r.2.2.1),Lg.add r.2.2.2 L)
  | none=>none
def Zc9 (T:Tab) (call:Zb9):Prop:=∀ f vals h s L v h' s' L',call f vals h s L=some (v,h',s',L')→L'.ok→L.ok∧
 (∃ F,T.P.funcs[f]? =some F∧(F.name== "runtime.NumGoroutine")=false∧F.body.isSome=true)∧
 ∀ m B w,Emb m B h w→(∀ v∈vals,lt h.n v=true)→Calls T.P f (vals.map (mv m)).toArray w fun e w'=>∃ m',e= .returned (mv m' v)∧Came m B h w v h' m' w'
theorem Zbf {P:Program}{f:Nat}{F:Func}(hf:P.funcs[f]? =some F) (hn:(F.name== "runtime.NumGoroutine")=false) (hb:F.body.isSome=true) (args:Array Value) (w:World):
  (callFunc f args).run P w= .ok (.enter f args) w:=by
 have h1:F.name≠ "runtime.NumGoroutine" :=by simpa using hn
 obtain⟨c,hc⟩:=Option.isSome_iff_exists.1 hb;simp [callFunc,hf,h1,hc]
theorem ZcP {P:Program}{a:Act}{o:Oper}{f:Nat}{cal:Operand}{args:Array Operand}{tys:Array TypeId}(ho:o.op= .call ⟨.value cal,args,tys⟩) (he:a.eval cal= .func (.func f) #[] #[]) (w:World):
  (execOp a.eval o).run P w=(callFunc f (args.map a.eval)).run P w:=by
 unfold execOp;rw[ho];simp [resolve,he,Deferred.ofValue,invoke]
theorem Zaf {m:Mp}{B:Nat}{h:Hp}{w w':World}(E:Emb m B h w) (C:zg w w'):Emb m B h w'∧Below B w w':=by
 refine⟨⟨E.len,fun b x hb hx=> ?_,E.low,E.ros,E.inj,E.wf,Nat.le_trans E.base C.1.size,fun k hk hk'=> ?_,fun b x hb hx=> ?_⟩,C.1.mono E.base⟩
 ·exact (E.lies b x hb hx).congr (C.1.block _ (E.here hb hx))
 ·by_cases h1:k<w.heap.size
  ·rw[C.1.block k h1];exact E.ice k hk h1
  ·exact C.2 k (by omega) hk'
 ·exact (E.abs b x hb hx).heap E.base C.1.size fun k hk=>C.1.block _ hk
theorem ZjF {m:Mp}{t:List Value}{a:Act}(ha:a.tmps=(t.map (mv m)).toArray) {args:Array Operand}(h:∀ x∈args.toList,okX x=true):
  args.map a.eval=((args.toList.map (ev t)).map (mv m)).toArray:=by
 have:args.map a.eval=args.map fun x=>mv m (ev t x):=Array.map_congr_left fun x hx=>Zr ha (h x (by simpa using hx));rw[this];cases args;simp
theorem ZmS {T:Tab}(hT:TabOk T) {call:Zb9}(hC:Zc9 T call) {o:Oper}{x x':Lf}{L L':Lg}(hs:ZqT T call o x L=some (x',L')) (hL:L'.ok):
  L.ok∧∀ m B a w,Rel m B x a w→∀ (Q:Exit→Act→World→Prop) (K:Act→World→Prop),(∀ a' w',Reach m B x.2.1.n w x' a' w'→K a' w')→o.wp T.P a w K Q:=by
 unfold ZqT at hs;split at hs
 ·rename_i c hc;have hop:∃ cal args tys,o.op= .call ⟨.value cal,args,tys⟩∧c.2=args.toList∧okX cal=true∧ev x.1 cal= .func (.func c.1) #[] #[]:=by
   unfold ZpC at hc;split at hc
   ·rename_i f args tys hop;cases hc;exact⟨_,args,tys,hop,rfl,rfl,rfl⟩
   ·rename_i k args tys hop;split at hc
    ·rename_i f hk;cases hc;exact⟨_,args,tys,hop,rfl,rfl,hk⟩
    ·cases hc
   ·cases hc
  obtain⟨cal,args,tys,hop,hargs,hox,hoe⟩:=hop;have hev:∀ (m:Mp) (a:Act) (_:a.tmps=(x.1.map (mv m)).toArray),a.eval cal= .func (.func c.1) #[] #[]:=fun m a ha=>by
   rw[Zr ha hox,hoe];simp [mv,mv2,mv1]
  split at hs
  ·rename_i hall;simp only[List.all_eq_true] at hall;rw[hargs] at hall;have stillArgs:∀ (m:Mp) (a:Act) (_:a.tmps=(x.1.map (mv m)).toArray),((c.2.map (ev x.1)).all (lt 0))=true→args.map a.eval=(c.2.map (ev x.1)).toArray:=by
    intro m a ha hst;rw[ZjF ha hall,hargs];congr 1;refine (List.map_congr_left fun y hy=>Z9 (List.all_eq_true.1 hst y ?_)).trans (List.map_id' _);rw[hargs];exact hy
   split at hs
   ·rename_i r hr;split at hs
    ·rename_i hst;simp only[Xh] at hst;cases hs;obtain⟨h1,h2⟩:=Lg.add_ok hL;refine⟨h2,fun m B a w R Q K hK=> ?_⟩;have hrun:=hT.ext _ _ _ _ hr h1 w;rw[← stillArgs m a R.tmps hst.1] at hrun;unfold Oper.wp;rw[ZcP hop (hev m a R.tmps),hrun];simp only[Oper.upon];have:=Reach.put R ⟨Agree.refl m _,R.emb,Below.refl _ _,Nat.le_refl _,Zaj (Nat.zero_le _) hst.2⟩ o.dst x.2.2;rw[Z9 hst.2] at this;exact hK _ _ this
    ·cases hs
   ·split at hs
    ·rename_i r hr;split at hs
     ·rename_i hst;simp only[Xh] at hst;cases hs;obtain⟨h1,h2⟩:=Lg.add_ok hL;refine⟨h2,fun m B a w R Q K hK=> ?_⟩;obtain⟨⟨F,hF,hFn,hFb⟩,hcalls⟩:=hT.con _ _ _ _ _ _ hr h1;have hrun:=Zbf hF hFn hFb (args.map a.eval) w;unfold Oper.wp;rw[ZcP hop (hev m a R.tmps),hrun];simp only[Oper.upon];rw[stillArgs m a R.tmps hst.1];refine (hcalls w).mono fun e w' he=> ?_;obtain⟨rfl,hcl⟩:=he;obtain⟨E',hb⟩:=Zaf R.emb hcl;have:=Reach.put R ⟨Agree.refl m _,E',hb,Nat.le_refl _,Zaj (Nat.zero_le _) hst.2⟩ o.dst r.2.1;rw[Z9 hst.2] at this;exact hK _ _ this
     ·cases hs
    ·split at hs
     ·rename_i r hr;cases hs;obtain⟨h1,h2⟩:=Lg.add_ok hL;refine⟨h2,fun m B a w R Q K hK=> ?_⟩;obtain⟨⟨F,hF,hFn,hFb⟩,hcalls⟩:=hT.hc _ _ _ _ _ _ _ _ hr h1;have hrun:=Zbf hF hFn hFb (args.map a.eval) w;unfold Oper.wp;rw[ZcP hop (hev m a R.tmps),hrun];simp only[Oper.upon];rw[ZjF R.tmps hall,← hargs];refine (hcalls m B w R.emb (fun y hy=> ?_)).mono fun e w' he=> ?_
      ·obtain⟨z,hz,rfl⟩:=List.mem_map.1 hy;exact Zak R.wf (hall z (hargs ▸ hz))
      ·obtain⟨m',rfl,C⟩:=he;exact hK _ _ (Reach.put R C o.dst _)
     ·split at hs
      ·rename_i v h' s' L1 hcall;have hres:L1=L':=by
        split at hs
        ·cases hs;rfl
        ·split at hs<;>(cases hs;rfl)
       subst hres;obtain⟨h2,⟨F,hF,hFn,hFb⟩,hcalls⟩:=hC _ _ _ _ _ _ _ _ _ hcall hL;refine⟨h2,fun m B a w R Q K hK=> ?_⟩;have hrun:=Zbf hF hFn hFb (args.map a.eval) w;unfold Oper.wp;rw[ZcP hop (hev m a R.tmps),hrun];simp only[Oper.upon];rw[ZjF R.tmps hall,← hargs];refine (hcalls m B w R.emb (fun y hy=> ?_)).mono fun e w' he=> ?_
       ·obtain⟨z,hz,rfl⟩:=List.mem_map.1 hy;exact Zak R.wf (hall z (hargs ▸ hz))
       ·obtain⟨m',rfl,C⟩:=he;split at hs
        ·cases hs;exact hK _ _ (Reach.put R C o.dst s')
        split at hs
        ·rename_i hcut;simp only[Xh] at hcut;cases hs;have:=Reach.put R ⟨Agree.refl m _,C.emb.cut C.agree C.grown hcut.2,C.below,by simp [Hp.cut],Zaj (Nat.zero_le _) hcut.1⟩ o.dst s';rw[Z9 hcut.1] at this;rw[Z9 hcut.1];exact hK _ _ this
        ·cases hs;exact hK _ _ (Reach.put R C o.dst s')
      ·cases hs
  ·cases hs
 ·split at hs
  ·rename_i r hr;cases hs;obtain⟨h1,h2⟩:=Lg.add_ok hL;refine⟨h2,fun m B a w R Q K hK=> ?_⟩;obtain⟨m',w',nx,hrun,hnx,C⟩:=ZjE (v:=r.1) (h':=r.2.1) (s':=r.2.2.1) (lg:=r.2.2.2) R.tmps R.emb R.wf hr h1;unfold Oper.wp;rw[hrun];rcases hnx with rfl | ⟨rfl,hv⟩
   ·simp only[Oper.upon];exact hK _ _ (Reach.put R C o.dst _)
   ·simp only[Oper.upon];have:=Reach.put R C o.dst r.2.2.1;rw[hv,zO] at this;rw[← hv] at this;exact hK _ _ (by rw[← hv] at*;exact this)
  ·cases hs
def opS (T:Tab) (call:Zb9) (ops:Array Oper) (o:Oper) (x:Lf) (L:Lg):Option (Lf×Lg):=
 match (Za9 ops x.1 x.2.2 o).1 with
 | true=>ZqT T call o (x.1,x.2.1,(Za9 ops x.1 x.2.2 o).2.1) (Lg.add (Za9 ops x.1 x.2.2 o).2.2 L)
 | false=>some ((Ze2 x.1 o.dst undef,x.2.1,(Za9 ops x.1 x.2.2 o).2.1),Lg.add (Za9 ops x.1 x.2.2 o).2.2 L)
theorem Zfo {T:Tab}(hT:TabOk T) {call:Zb9}(hC:Zc9 T call) {ops:Array Oper}{i:Nat}{o:Oper}(hi:ops[i]? =some o) {x x':Lf}{L L':Lg}(hs:opS T call ops o x L=some (x',L')) (hL:L'.ok):
  L.ok∧∀ m B a w,Rel m B x a w→∀ (Q:Exit→Act→World→Prop) (K:Act→World→Prop),(∀ a' w',Reach m B x.2.1.n w x' a' w'→K a' w')→wpOp T.P ops Q i K a w:=by
 unfold opS at hs;cases hw:(Za9 ops x.1 x.2.2 o).1 with
 | true=>
  rw[hw] at hs;simp only at hs;obtain⟨h1,h2⟩:=ZmS hT hC hs hL;obtain⟨h3,h4⟩:=Lg.add_ok h1;refine⟨h4,fun m B a w R Q K hK=> ?_⟩;have e:=ZaM R.tmps h3;rw[hw] at e;unfold wpOp;simp only[hi,← e,if_true];exact .inl (h2 m B a w ⟨R.tmps,R.dfr,R.emb,R.wf⟩ Q K hK)
 | false=>
  rw[hw] at hs;simp only at hs;cases hs;obtain⟨h3,h4⟩:=Lg.add_ok hL;refine⟨h4,fun m B a w R Q K hK=> ?_⟩;have e:=ZaM R.tmps h3;rw[hw] at e;unfold wpOp;simp only[hi,← e,Bool.false_eq_true,if_false];exact hK _ _ (Reach.undef R o.dst _)
def ZjG (T:Tab) (call:Zb9) (ops:Array Oper):List Oper→Lf→Lg→Option (Lf×Lg)
 | [],x,L=>some (x,L)
 | o::l,x,L=>
  match opS T call ops o x L with
  | some r=>ZjG T call ops l r.1 r.2
  | none=>none
theorem ZmT {T:Tab}(hT:TabOk T) {call:Zb9}(hC:Zc9 T call) {ops:Array Oper}:∀ (l:List Oper) (k:Nat) (_:ops.toList.drop k=l) (x x':Lf) (L L':Lg),ZjG T call ops l x L=some (x',L')→L'.ok→
  L.ok∧∀ m B a w,Rel m B x a w→∀ Q:Exit→Act→World→Prop,(∀ a' w',Reach m B x.2.1.n w x' a' w'→Q .normal a' w')→wpOps T.P ops Q (List.range' k l.length) a w:=by
 intro l
 induction l with
 | nil=>
  intro k _ x x' L L' hs hL;simp only[ZjG] at hs;cases hs;exact⟨hL,fun m B a w R Q hQ=>hQ _ _ ⟨m,Agree.refl _ _,R,Below.refl _ _,Nat.le_refl _⟩⟩
 | cons o l ih=>
  intro k hk x x' L L' hs hL;simp only[ZjG] at hs;split at hs
  ·rename_i r hr;have hi:ops[k]? =some o:=by
    have:(ops.toList.drop k)[0]? =some o:=by rw[hk];rfl
    rw[List.getElem?_drop] at this;simpa using this
   have hk':ops.toList.drop (k+1)=l:=by
    rw[← List.drop_drop,hk];rfl
   obtain⟨h1,h2⟩:=ih (k+1) hk' _ _ _ _ hs hL;obtain⟨h3,h4⟩:=Zfo (x':=r.1) (L':=r.2) hT hC hi hr h1;refine⟨h3,fun m B a w R Q hQ=> ?_⟩;simp only[List.length_cons,List.range'_succ];rw[wpOps_cons];refine h4 m B a w R Q _ fun a' w' hR=> ?_;obtain⟨m',k1,k2,k3,k4⟩:=hR;exact h2 m' B a' w' k2 Q fun a'' w'' hR'=>hQ a'' w'' (Reach.trans k1 k3 k4 hR')
  ·cases hs
def Zzr:Op→Bool
 | .load _ _ | .store _ _ _ | .box _ _ | .alloc _=>false
 | .call ⟨.builtin _,_,_⟩=>true
 | .call _=>false
 | _=>true
def Zcr (T:Tab) (ops:Array Oper) (ws:List Nat) (h0:Hp) (listed:Array Bool) (x:Lf) (i:Nat):Option (Lf×Log):=
 match ops[i]? with
 | none=>none
 | some o=>
  match Zzr o.op with
  | true=>
   if Region.free .any ops listed i=true then
    match (Za9 ops x.1 x.2.2 o).1 with
    | false=>some ((Ze2 x.1 o.dst undef,x.2.1,(Za9 ops x.1 x.2.2 o).2.1),(Za9 ops x.1 x.2.2 o).2.2)
    | true=>
     match ZgX T x.1 (Za9 ops x.1 x.2.2 o).2.1 o with
     | some r=>some ((Ze2 x.1 o.dst r.1,x.2.1,r.2.1),r.2.2++(Za9 ops x.1 x.2.2 o).2.2)
     | none=>none
   else none
  | false=>
   match o.op with
   | .load ty p=>
    match ev x.1 p with
    | .pointer (some ad)=>
     if (okX p && ws.contains ad.block && Region.free .any ops listed i)=true then
      match (Za9 ops x.1 x.2.2 o).1 with
      | false=>some ((Ze2 x.1 o.dst undef,x.2.1,(Za9 ops x.1 x.2.2 o).2.1),(Za9 ops x.1 x.2.2 o).2.2)
      | true=>
       match (Za9 ops x.1 x.2.2 o).2.1 with
       | .inr (.inr (.inr (.inr (.inr v))))::s'=>
        match ZmD T.P ty ad h0 v with
        | some lg=>some ((Ze2 x.1 o.dst v,x.2.1,s'),lg++(Za9 ops x.1 x.2.2 o).2.2)
        | none=>none
       | s'=>
        match ZhX T.P ty ad h0 with
        | some v=>some ((Ze2 x.1 o.dst v,x.2.1,s'),(Za9 ops x.1 x.2.2 o).2.2)
        | none=>none
     else none
    | _=>none
   | _=>none
theorem Zag {a b:Log}(h:Zx (a++b)):Zx a∧Zx b:=
 ⟨fun x hx=>h x (List.mem_append_left _ hx),fun x hx=>h x (List.mem_append_right _ hx)⟩
structure Began (m0:Mp) (B:Nat) (h0:Hp) (w0:World) (ws:List Nat):Prop where
 emb:Emb m0 B h0 w0
 low:∀ b∈ws,b<h0.n
def ZmU (m0:Mp) (h0:Hp) (ws:List Nat) (w:World):Prop:=∀ b∈ws,∀ y,h0.blk? b=some y→Zam y.2=false→lie w (m0 b) (y.1.map (mv1 m0)) y.2
theorem ZdW {T:Tab}{ops:Array Oper}(hsel:Region.noSelect ops=true) {ws:List Nat}{h0:Hp}{listed:Array Bool}{x x':Lf}{i:Nat}{lg:Log}(hs:Zcr T ops ws h0 listed x i=some (x',lg)) (hlg:Zx lg)
  (hr:i∈Region.ready .any ops listed) {m0:Mp}{w0:World}{B:Nat}(G:Began m0 B h0 w0 ws) {m:Mp}(hm:Agree m0 m h0.n) {a:Act}{w:World}(R:Rel m B x a w) (hn:h0.n≤x.2.1.n) (hS:ZmU m0 h0 ws w)
  {Q:Exit→Act→World→Prop}(hQ:∀ c a w,Q (.panic c) a w→False) {fuel:Nat}
  (H:∀ a',Reach m B x.2.1.n w x' a' w→wpAnyH T.P .any ops Q (ZmU m0 h0 ws) fuel (listed.setIfInBounds i true) a' w):wpAnyH T.P .any ops Q (ZmU m0 h0 ws) (fuel+1) listed a w:=by
 unfold Zcr at hs;split at hs
 ·cases hs
 ·rename_i o hi;split at hs
  ·split at hs
   ·rename_i hfree;split at hs
    ·rename_i hw;cases hs;have e:=ZaM R.tmps hlg;rw[hw] at e;exact wpAnyH_take (v:=undef) hi hsel hfree (by simpa using hr) (fun c a w h=>(hQ _ _ _ h).elim) (.inr ⟨e.symm,rfl⟩) hS (H _ (Reach.undef R o.dst _))
    ·rename_i hw;split at hs
     ·rename_i r hr';cases hs;obtain⟨l1,l2⟩:=Zag hlg;have e:=ZaM R.tmps l2;rw[hw] at e;obtain⟨g1,g2⟩:=Zfn (v:=r.1) (s':=r.2.1) (lg:=r.2.2) R.tmps R.wf hr' l1;exact wpAnyH_take (v:=mv m r.1) hi hsel hfree (by simpa using hr) (fun c a w h=>(hQ _ _ _ h).elim) (.inl ⟨e.symm,fun w _=>g1 w⟩) hS
       (H _ (Reach.put R ⟨Agree.refl _ _,R.emb,Below.refl _ _,Nat.le_refl _,g2⟩ o.dst _))
     ·cases hs
   ·cases hs
  ·split at hs
   ·rename_i ty p hop;split at hs
    ·rename_i ad had;split at hs
     ·rename_i hc;simp only[Xh,List.contains_iff_mem] at hc;obtain⟨⟨hx,hmem⟩,hfree⟩:=hc;split at hs
      ·rename_i hw;cases hs;have e:=ZaM R.tmps hlg;rw[hw] at e;exact wpAnyH_take (v:=undef) hi hsel hfree (by simpa using hr) (fun c a w h=>(hQ _ _ _ h).elim) (.inr ⟨e.symm,rfl⟩) hS (H _ (Reach.undef R o.dst _))
      ·rename_i hw;have e2:a.eval p= .pointer (some (mvA m ad)):=by rw[Zr R.tmps hx,had];rfl
       have lies:∀ w',ZmU m0 h0 ws w'→∀ y,h0.blk? ad.block=some y→Zam y.2=false→lie w' (m ad.block) (y.1.map (mv1 m)) y.2:=fun w' hw' y hy hty=>by
        rw[hm _ (G.low _ hmem),zi hm (G.emb.wf _ y hy)];exact hw' _ hmem y hy hty
       split at hs
       ·rename_i v s' hsv;split at hs
        ·rename_i lg' hv;cases hs;obtain⟨l1,l2⟩:=Zag hlg;have e:=ZaM R.tmps l2;rw[hw] at e;have g:∀ w',ZmU m0 h0 ws w'→(Instr.loadAt ty (.pointer (some (mvA m ad)))).run T.P w'= .ok (mv m v) w'∧lt h0.n v=true:=fun w' hw'=>
          ZgJ (lies w' hw') (fun y hy=>G.emb.wf _ y hy) hv l1
         refine wpAnyH_take (v:=mv m v) hi hsel hfree (by simpa using hr) (fun c a w h=>(hQ _ _ _ h).elim) (.inl ⟨e.symm,fun w' hw'=> ?_⟩) hS
          (H _ (Reach.put R ⟨Agree.refl _ _,R.emb,Below.refl _ _,Nat.le_refl _,Zaj hn (g w hS).2⟩ o.dst _))
         simp only[execOp,hop,e2,Sem.run_bind,(g w' hw').1,Result.andThen_ok,Sem.run_pure]
        ·cases hs
       ·split at hs
        ·rename_i v hv;cases hs;have e:=ZaM R.tmps hlg;rw[hw] at e;have g:∀ w',ZmU m0 h0 ws w'→(Instr.loadAt ty (.pointer (some (mvA m ad)))).run T.P w'= .ok (mv m v) w'∧lt h0.n v=true:=fun w' hw'=>
          ZgI (lies w' hw') (fun y hy=>G.emb.wf _ y hy) hv
         refine wpAnyH_take (v:=mv m v) hi hsel hfree (by simpa using hr) (fun c a w h=>(hQ _ _ _ h).elim) (.inl ⟨e.symm,fun w' hw'=> ?_⟩) hS
          (H _ (Reach.put R ⟨Agree.refl _ _,R.emb,Below.refl _ _,Nat.le_refl _,Zaj hn (g w hS).2⟩ o.dst _))
         simp only[execOp,hop,e2,Sem.run_bind,(g w' hw').1,Result.andThen_ok,Sem.run_pure]
        ·cases hs
     ·cases hs
    ·cases hs
   ·cases hs
def ZmV (T:Tab) (ops:Array Oper) (ws:List Nat) (h0:Hp) (listed:Array Bool) (x:Lf):List Nat→Option (Nat×Lf×Log)
 | []=>none
 | i::rs=>
  match Zcr T ops ws h0 listed x i with
  | some r=>some (i,r.1,r.2)
  | none=>ZmV T ops ws h0 listed x rs
theorem ZdX {T:Tab}{ops:Array Oper}{ws:List Nat}{h0:Hp}{listed:Array Bool}{x:Lf}:∀ {rs:List Nat}{i:Nat}{x':Lf}{lg:Log},ZmV T ops ws h0 listed x rs=some (i,x',lg)→i∈rs∧Zcr T ops ws h0 listed x i=some (x',lg)
 | [],_,_,_,h=>by cases h
 | j::rs,i,x',lg,h=>by
  simp only[ZmV] at h;split at h
  ·rename_i r hr;cases h;exact⟨Xe,hr⟩
  ·have:=ZdX h;exact⟨Xd _ this.1,this.2⟩
def brs (f:Nat→Lf→Lg→Option (List Lf×Lg)) (x:Lf):List Nat→Lg→Option (List Lf×Lg)
 | [],L=>some ([],L)
 | i::rs,L=>
  match f i x L with
  | some r=>
   match brs f x rs r.2 with
   | some q=>some (r.1++q.1,q.2)
   | none=>none
  | none=>none
def ZjH (ws:List Nat) (h0 h:Hp):List (Bp×Bp):=ws.map fun b=>(h.blk? b,h0.blk? b)
def dfs (T:Tab) (call:Zb9) (ops:Array Oper) (ws:List Nat) (h0:Hp):Nat→Array Bool→Lf→Lg→Option (List Lf×Lg)
 | 0,listed,x,L=>
  match Region.ready .any ops listed with
  | []=>some ([x],L)
  | _::_=>none
 | fuel+1,listed,x,L=>
  match Region.ready .any ops listed with
  | []=>some ([x],L)
  | i0::rs0=>
   match ZmV T ops ws h0 listed x (i0::rs0) with
   | some r=>dfs T call ops ws h0 fuel (listed.setIfInBounds r.1 true) r.2.1 (Lg.add r.2.2 L)
   | none=>brs (fun i x L=>
     match ops[i]? with
     | some o=>
      match opS T call ops o x L with
      | some r=>dfs T call ops ws h0 fuel (listed.setIfInBounds i true) r.1 ⟨r.2.cs,r.2.es,ZjH ws h0 r.1.2.1++r.2.bs⟩
      | none=>none
     | none=>none) x (i0::rs0) L
def ZuQ (T:Tab) (ops:Array Oper) (ws:List Nat) (h0:Hp) (fuel:Nat) (listed:Array Bool) (x:Lf) (L:Lg) (z9:List Lf) (L':Lg):Prop:=
 L'.ok→L.ok∧z9≠[]∧∀ m0 w0 B,Began m0 B h0 w0 ws→∀ m,Agree m0 m h0.n→∀ a w,Rel m B x a w→h0.n≤x.2.1.n→ZmU m0 h0 ws w→
  ∀ Q:Exit→Act→World→Prop,(∀ c a w,Q (.panic c) a w→False)→(∀ y∈z9,∀ a' w',Reach m B x.2.1.n w y a' w'→Q .normal a' w')→wpAnyH T.P .any ops Q (ZmU m0 h0 ws) fuel listed a w
theorem Ze3 {f:Nat→Lf→Lg→Option (List Lf×Lg)}{x:Lf}:∀ {rs:List Nat}{L L':Lg}{ls:List Lf},brs f x rs L=some (ls,L')→
  (∀ i L ls' L1,f i x L=some (ls',L1)→L1.ok→L.ok)→L'.ok→L.ok∧∀ i∈rs,∃ Li li Li',f i x Li=some (li,Li')∧Li'.ok∧∀ l∈li,l∈ls
 | [],L,L',ls,h,_,hL=>by cases h;exact⟨hL,fun i hi=>absurd hi (by simp)⟩
 | j::rs,L,L',ls,h,hf,hL=>by
  simp only[brs] at h;split at h
  ·rename_i r hr;split at h
   ·rename_i q hq;cases h;obtain⟨h1,h2⟩:=Ze3 (ls:=q.1) (L':=q.2) hq hf hL;refine⟨hf _ _ _ _ hr h1,fun i hi=> ?_⟩;rcases List.mem_cons.1 hi with rfl | hi
    ·exact⟨L,r.1,r.2,hr,h1,fun l hl=>List.mem_append_left _ hl⟩
    ·obtain⟨Li,li,Li',g1,g2,g3⟩:=h2 i hi;exact⟨Li,li,Li',g1,g2,fun l hl=>List.mem_append_right _ (g3 l hl)⟩
   ·cases h
  ·cases h
theorem Ze4 {L:Lg}{ws:List Nat}{h0 h:Hp}(hL:(⟨L.cs,L.es,ZjH ws h0 h++L.bs⟩:Lg).ok):L.ok∧∀ b∈ws,h.blk? b=h0.blk? b:=
 ⟨⟨hL.1,hL.2.1,fun e he=>hL.2.2 e (List.mem_append_right _ he)⟩,fun b hb=>hL.2.2 (h.blk? b,h0.blk? b) (List.mem_append_left _ (List.mem_map.2 ⟨b,hb,rfl⟩))⟩
theorem ZcQ {m:Mp}{B:Nat}{h:Hp}{w:World}(E:Emb m B h w) {b:Nat}(hb:b<h.n):∃ x,h.blk? b=some x:=E.blk hb
theorem ZjI {m0 m:Mp}{B:Nat}{h0 h:Hp}{w0 w:World}{ws:List Nat}(G:Began m0 B h0 w0 ws) (hm:Agree m0 m h0.n) (E:Emb m B h w) (hk:∀ b∈ws,h.blk? b=h0.blk? b):ZmU m0 h0 ws w:=by
 intro b hb y hy hty;have h1:=E.lies b y (by rw[hk b hb,hy]) hty;rw[hm b (G.low b hb),zi hm (G.emb.wf b y hy)] at h1;exact h1
theorem ZuR {T:Tab}(hT:TabOk T) {call:Zb9}(hC:Zc9 T call) {ops:Array Oper}(hsel:Region.noSelect ops=true) {ws:List Nat}{h0:Hp}:
  ∀ (fuel:Nat) (listed:Array Bool) (x:Lf) (L:Lg) (z9:List Lf) (L':Lg),dfs T call ops ws h0 fuel listed x L=some (z9,L')→ZuQ T ops ws h0 fuel listed x L z9 L':=by
 intro fuel
 induction fuel with
 | zero=>
  intro listed x L z9 L' h hL;simp only[dfs] at h;split at h
  ·rename_i hr;cases h;refine⟨hL,by simp,fun m0 w0 B G m hm a w R hn hS Q _ hQ=>⟨hr,?_⟩⟩;exact hQ x (by simp) _ _ ⟨m,Agree.refl _ _,R,Below.refl _ _,Nat.le_refl _⟩
  ·cases h
 | succ fuel ih=>
  intro listed x L z9 L' h hL;simp only[dfs] at h;split at h
  ·rename_i hr;cases h;refine⟨hL,by simp,fun m0 w0 B G m hm a w R hn hS Q _ hQ=>wpAnyH_done hr ?_ _⟩;exact hQ x (by simp) _ _ ⟨m,Agree.refl _ _,R,Below.refl _ _,Nat.le_refl _⟩
  ·rename_i i0 rs0 hr;split at h
   ·rename_i r htake;obtain⟨hmem,htry⟩:=ZdX (i:=r.1) (x':=r.2.1) (lg:=r.2.2) htake;obtain⟨h1,h2,h3⟩:=ih _ _ _ _ _ h hL;obtain⟨l1,l2⟩:=Lg.add_ok h1;refine⟨l2,h2,fun m0 w0 B G m hm a w R hn hS Q hP hQ=> ?_⟩;refine ZdW hsel htry l1 (by rw[hr];exact hmem) G hm R hn hS hP fun a' hR=> ?_;obtain⟨m',k1,k2,k3,k4⟩:=hR;exact h3 m0 w0 B G m' (hm.trans k1 hn) a' w k2 (Nat.le_trans hn k4) hS Q hP fun y hy a'' w'' hR'=>hQ y hy _ _ (Reach.trans k1 k3 k4 hR')
   ·rename_i htake;obtain⟨h1,h2⟩:=Ze3 h (by
     intro i L ls' L1 hf hok;split at hf
     ·rename_i o hi;split at hf
      ·rename_i r hr';obtain⟨g1,_⟩:=ih _ _ _ _ _ hf hok;exact (Zfo (x':=r.1) (L':=r.2) hT hC hi hr' (Ze4 g1).1).1
      ·cases hf
     ·cases hf) hL
    have each:∀ i∈i0::rs0,∃ o,ops[i]? =some o∧∃ Li li Li' r,opS T call ops o x Li=some r∧dfs T call ops ws h0 fuel (listed.setIfInBounds i true) r.1 ⟨r.2.cs,r.2.es,ZjH ws h0 r.1.2.1++r.2.bs⟩=some (li,Li')∧Li'.ok∧∀ l∈li,l∈z9:=by
     intro i hi;obtain⟨Li,li,Li',g1,g2,g3⟩:=h2 i hi;split at g1
     ·rename_i o hio;split at g1
      ·rename_i r hr';exact⟨o,hio,Li,li,Li',r,hr',g1,g2,g3⟩
      ·cases g1
     ·cases g1
    refine⟨h1,?_,fun m0 w0 B G m hm a w R hn hS Q hP hQ=> ?_⟩
    ·obtain⟨o,_,Li,li,Li',r,g1,g2,g3,g4⟩:=each i0 (by simp);obtain⟨_,hne,_⟩:=ih _ _ _ _ _ g2 g3;intro he;cases li with
     | nil=>exact hne rfl
     | cons l0 ls0=>exact absurd (he ▸ g4 l0 (by simp)) (by simp)
    ·refine wpAnyH_all hr (by simp) fun i hi=> ?_;obtain⟨o,hio,Li,li,Li',r,g1,g2,g3,g4⟩:=each i hi;obtain⟨q1,_,q3⟩:=ih _ _ _ _ _ g2 g3;obtain⟨q4,q5⟩:=Ze4 q1;refine (Zfo (x':=r.1) (L':=r.2) hT hC hio g1 q4).2 m B a w R Q _ fun a' w' hR=> ?_;obtain⟨m',k1,k2,k3,k4⟩:=hR;have hm':=hm.trans k1 hn;have hS':=ZjI G hm' k2.emb q5;exact⟨hS',q3 m0 w0 B G m' hm' a' w' k2 (Nat.le_trans hn k4) hS' Q hP fun y hy a'' w'' hR'=>hQ y (g4 y hy) _ _ (Reach.trans k1 k3 k4 hR')⟩
def swp (i j b:Nat):Nat:=if Nat.beq b i=true then j else if Nat.beq b j=true then i else b
theorem Zal (i j b:Nat):swp i j (swp i j b)=b:=by
 unfold swp;simp only[Nat.beq_eq];split
 ·split
  ·omega
  ·simp_all
 ·split
  ·simp_all
  ·simp_all
theorem ZpD {i j n b:Nat}(hi:i<n) (hj:j<n) (hb:b<n):swp i j b<n:=by
 unfold swp;split
 ·exact hj
 ·split
  ·exact hi
  ·exact hb
def rn1 (f:Nat→Nat):Value→Value
 | .pointer (some a)=> .pointer (some {a with block:=f a.block})
 | .slice (some a) l c=> .slice (some {a with block:=f a.block}) l c
 | .map (some b)=> .map (some (f b))
 | v=>v
def rn2 (f:Nat→Nat):Value→Value
 | .agg cs=> .agg (cs.map (rn1 f))
 | v=>rn1 f v
def rn (f:Nat→Nat):Value→Value
 | .tuple vs=> .tuple (vs.map (rn2 f))
 | v=>rn2 f v
theorem ZpE (m:Mp) (f:Nat→Nat) (v:Value):mv1 m (rn1 f v)=mv1 (fun b=>m (f b)) v:=by
 cases v with
 | pointer a=>cases a<;>rfl
 | map a=>cases a<;>rfl
 | slice a l c=>cases a<;>rfl
 | _=>rfl
theorem ZpF (m:Mp) (f:Nat→Nat) (v:Value):mv2 m (rn2 f v)=mv2 (fun b=>m (f b)) v:=by
 cases v with
 | agg cs=>
  simp only[mv2,rn2,Array.map_map];congr 2
  funext x
  exact ZpE m f x
 | pointer a=>cases a<;>rfl
 | map a=>cases a<;>rfl
 | slice a l c=>cases a<;>rfl
 | _=>rfl
theorem ZcD (m:Mp) (f:Nat→Nat) (v:Value):mv m (rn f v)=mv (fun b=>m (f b)) v:=by
 cases v with
 | tuple cs=>
  simp only[mv,rn,Array.map_map];congr 2
  funext x
  exact ZpF m f x
 | agg cs=>
  have:=ZpF m f (.agg cs);simpa [mv,mv2,rn,rn2] using this
 | pointer a=>cases a<;>rfl
 | map a=>cases a<;>rfl
 | slice a l c=>cases a<;>rfl
 | _=>rfl
theorem ZyL {f:Nat→Nat}{v:Value}(h:lt 0 v=true):rn f v=v:=by
 have h1:∀ v,lt1 0 v=true→rn1 f v=v:=fun v h=>by
  unfold rn1;split
  ·simp [lt1] at h
  ·simp [lt1] at h
  ·simp [lt1] at h
  ·rfl
 have h2:∀ v,lt2 0 v=true→rn2 f v=v:=fun v h=>by
  unfold rn2;split
  ·rename_i cs;simp only[lt2,List.all_eq_true] at h;congr 1;have:cs.map (rn1 f)=cs.map id:=Array.map_congr_left fun x hx=>h1 x (h x (by simpa using hx));rw[this,Array.map_id]
  ·rename_i hna;refine h1 _ ?_;unfold lt2 at h;split at h
   ·rename_i cs;exact absurd rfl (hna cs)
   ·exact h
 unfold rn;split
 ·rename_i cs;simp only[lt,List.all_eq_true] at h;congr 1;have:cs.map (rn2 f)=cs.map id:=Array.map_congr_left fun x hx=>h2 x (h x (by simpa using hx));rw[this,Array.map_id]
 ·rename_i hna;refine h2 _ ?_;unfold lt at h;split at h
  ·rename_i cs;exact absurd rfl (hna cs)
  ·exact h
theorem ZjJ {n:Nat}{f:Nat→Nat}(hf:∀ b,b<n→f b<n) {v:Value}(h:lt1 n v=true):lt1 n (rn1 f v)=true:=by
 cases v with
 | pointer a=>cases a<;>simp_all [lt1,rn1]
 | map a=>cases a<;>simp_all [lt1,rn1]
 | slice a l c=>cases a<;>simp_all [lt1,rn1]
 | _=>simpa [rn1] using h
theorem ZjK {n:Nat}{f:Nat→Nat}(hf:∀ b,b<n→f b<n) {v:Value}(h:lt2 n v=true):lt2 n (rn2 f v)=true:=by
 cases v with
 | agg cs=>
  simp only[lt2,rn2,Array.toList_map,List.all_eq_true,List.mem_map] at*;rintro _ ⟨y,hy,rfl⟩;exact ZjJ hf (h y hy)
 | pointer a=>cases a<;>simp_all [lt1,lt2,rn1,rn2]
 | map a=>cases a<;>simp_all [lt1,lt2,rn1,rn2]
 | slice a l c=>cases a<;>simp_all [lt1,lt2,rn1,rn2]
 | _=>simpa [rn1,rn2] using h
theorem ZpG {n:Nat}{f:Nat→Nat}(hf:∀ b,b<n→f b<n) {v:Value}(h:lt n v=true):lt n (rn f v)=true:=by
 cases v with
 | tuple cs=>
  simp only[lt,rn,Array.toList_map,List.all_eq_true,List.mem_map] at*;rintro _ ⟨y,hy,rfl⟩;exact ZjK hf (h y hy)
 | agg cs=>
  have h':lt2 n (.agg cs)=true:=by simpa [lt] using h
  have:=ZjK hf h';simpa [lt,rn,rn2] using this
 | pointer a=>cases a<;>simp_all [lt,lt1,lt2,rn,rn1,rn2]
 | map a=>cases a<;>simp_all [lt,lt1,lt2,rn,rn1,rn2]
 | slice a l c=>cases a<;>simp_all [lt,lt1,lt2,rn,rn1,rn2]
 | _=>simpa [rn,rn1,rn2] using h
def Hp.calm (h:Hp):Bool:=h.l.all fun x=>x.1.all (lt1 0)
def ZgY (i j:Nat) (z:Lf):Lf:=
 match z.2.1.blk? i,z.2.1.blk? j with
 | some x,some y=>(z.1.map (rn (swp i j)),(z.2.1.put i y).put j x,z.2.2)
 | _,_=>z
def ZuS (ops:List Oper):List Tmp:=ops.filterMap fun o=>match o.op with | .alloc _=>o.dst | .box _ _=>o.dst | _=>none
def ZdE (ops:List Oper) (n:Nat) (z:Lf):Lf:=
 match ZuS ops with
 | [d1,d2]=>
  match ZfY (z.1.getD d1 undef),ZfY (z.1.getD d2 undef) with
  | some b1,some b2=>if (Nat.blt b2 b1 && Nat.ble n b2 && Nat.blt b1 z.2.1.n && z.2.1.calm)=true then ZgY b2 b1 z else z
  | _,_=>z
 | _=>z
theorem Zdn {h:Hp}(ht:h.calm=true) {b:Nat}{x:List Value×TypeId}(hb:h.blk? b=some x):∀ v∈x.1,lt1 0 v=true:=by
 unfold Hp.calm at ht;simp only[List.all_eq_true] at ht;unfold Hp.blk? at hb;split at hb
 ·exact ht x (List.mem_of_getElem? hb)
 ·cases hb
theorem Zbg {f g:Mp}{l:List Value}(h:∀ v∈l,lt1 0 v=true):l.map (mv1 f)=l.map (mv1 g):=
 List.map_congr_left fun v hv=>by rw[ZX (h v hv),ZX (h v hv)]
theorem Zih {m:Mp}{B:Nat}{z:Lf}{a:Act}{w:World}(R:Rel m B z a w) {i j:Nat}(hij:i<j) (hj:j<z.2.1.n) (hc:z.2.1.calm=true):Rel (fun b=>m (swp i j b)) B (ZgY i j z) a w∧(ZgY i j z).2.1.n=z.2.1.n:=by
 obtain⟨x,hx⟩:=ZcQ R.emb (b:=i) (by omega);obtain⟨y,hy⟩:=ZcQ R.emb hj;have hi:i<z.2.1.n:=by omega
 have hlt:∀ b,b<z.2.1.n→swp i j b<z.2.1.n:=fun b hb=>ZpD hi hj hb;unfold ZgY;rw[hx,hy];have l1:(z.2.1.put i y).l.length=(z.2.1.put i y).n:=by simp [Hp.put,R.emb.len]
 have blk:∀ b,((z.2.1.put i y).put j x).blk? b=z.2.1.blk? (swp i j b):=by
  intro b;rw[Hp.blk_put l1 (by simpa [Hp.put] using hj),Hp.blk_put R.emb.len hi];unfold swp;simp only[Nat.beq_eq];by_cases h1:b=j
  ·have h2:b≠i:=by omega
   rw[if_pos h1,if_neg h2,if_pos h1,hx]
  ·rw[if_neg h1];by_cases h2:b=i
   ·rw[if_pos h2,if_pos h2,hy]
   ·rw[if_neg h2,if_neg h2,if_neg h1]
 refine⟨⟨?_,R.dfr,⟨?_,?_,?_,?_,?_,?_,R.emb.base,R.emb.ice,?_⟩,?_⟩,rfl⟩
 ·rw[R.tmps,List.map_map];congr 1;refine List.map_congr_left fun v _=> ?_;simp only[Function.comp];rw[ZcD];congr 1
  funext b
  rw[Zal]
 ·simp [Hp.put,R.emb.len]
 ·intro b u hb hu;rw[blk] at hb;rw[Zbg (g:=m) (Zdn hc hb)];exact R.emb.lies _ u hb hu
 ·intro b u hb hu;rw[blk] at hb;exact R.emb.low _ u hb hu
 ·intro b u hb hu hr;rw[blk] at hb;exact R.emb.ros _ u hb hu hr
 ·intro b b' u u' hb hb' hu hu' h;rw[blk] at hb hb';have:=R.emb.inj _ _ u u' hb hb' hu hu' h;rw[← Zal i j b,this,Zal]
 ·intro b u hb;rw[blk] at hb;exact fun v hv=>ZI (Nat.zero_le _) (Zdn hc hb v hv)
 ·intro b u hb hu;rw[blk] at hb;exact (R.emb.abs _ u hb hu).ren (f:=swp i j) (r:=[]) rfl (by rw[List.append_nil];exact Zbg (Zdn hc hb)) (fun c z hz=>⟨z,by rw[← blk];exact hz,rfl⟩) fun c z _ _ _ he=>by rw[← Zal i j c,he,Zal]
 ·intro v hv;obtain⟨u,hu,rfl⟩:=List.mem_map.1 hv;exact ZpG hlt (R.wf u hu)
theorem ZfZ {ops:List Oper}{m:Mp}{B n:Nat}{w:World}{z:Lf}{a':Act}{w':World}(h:Reach m B n w z a' w'):Reach m B n w (ZdE ops n z) a' w':=by
 unfold ZdE;split
 ·split
  ·split
   ·rename_i b1 b2 _ _ hc;simp only[Xh,Zk,Nat.ble_eq] at hc;obtain⟨⟨⟨c1,c2⟩,c3⟩,c4⟩:=hc;obtain⟨m',k1,k2,k3,k4⟩:=h;obtain⟨r1,r2⟩:=Zih k2 c1 c3 c4;refine⟨_,fun b hb=> ?_,r1,k3,by rw[r2];exact k4⟩;have:swp b2 b1 b=b:=by
     unfold swp;simp only[Nat.beq_eq];rw[if_neg (by omega),if_neg (by omega)]
    show m' (swp b2 b1 b)=m b;rw[this];exact k1 b hb
   ·exact h
  ·exact h
 ·exact h
def stS (x:Lf) (s:List Dec):Lf:=(x.1,x.2.1,s)
theorem Rel.stS {m:Mp}{B:Nat}{x:Lf}{a:Act}{w:World}(R:Rel m B x a w) (s:List Dec):Rel m B (stS x s) a w:=⟨R.tmps,R.dfr,R.emb,R.wf⟩
def ZmW (T:Tab) (ops:Array Oper) (ws:List Nat) (h0:Hp) (sc:Nat→List Dec) (listed:Array Bool) (x:Lf):List Nat→Option (Nat×Lf×Log)
 | []=>none
 | i::rs=>
  match Zcr T ops ws h0 listed (stS x (sc i)) i with
  | some r=>some (i,r.1,r.2)
  | none=>ZmW T ops ws h0 sc listed x rs
theorem ZdY {T:Tab}{ops:Array Oper}{ws:List Nat}{h0:Hp}{sc:Nat→List Dec}{listed:Array Bool}{x:Lf}:∀ {rs:List Nat}{i:Nat}{x':Lf}{lg:Log},ZmW T ops ws h0 sc listed x rs=some (i,x',lg)→i∈rs∧Zcr T ops ws h0 listed (stS x (sc i)) i=some (x',lg)
 | [],_,_,_,h=>by cases h
 | j::rs,i,x',lg,h=>by
  simp only[ZmW] at h;split at h
  ·rename_i r hr;cases h;exact⟨Xe,hr⟩
  ·have:=ZdY h;exact⟨Xd _ this.1,this.2⟩
def ZqU (T:Tab) (call:Zb9) (ops:Array Oper) (ws:List Nat) (h0:Hp) (sc:Nat→List Dec):Nat→Array Bool→Lf→Lg→Option (List Lf×Lg)
 | 0,listed,x,L=>
  match Region.ready .any ops listed with
  | []=>some ([x],L)
  | _::_=>none
 | fuel+1,listed,x,L=>
  match Region.ready .any ops listed with
  | []=>some ([x],L)
  | i0::rs0=>
   match ZmW T ops ws h0 sc listed x (i0::rs0) with
   | some r=>ZqU T call ops ws h0 sc fuel (listed.setIfInBounds r.1 true) r.2.1 (Lg.add r.2.2 L)
   | none=>brs (fun i x L=>
     match ops[i]? with
     | some o=>
      match opS T call ops o (stS x (sc i)) L with
      | some r=>ZqU T call ops ws h0 sc fuel (listed.setIfInBounds i true) r.1 ⟨r.2.cs,r.2.es,ZjH ws h0 r.1.2.1++r.2.bs⟩
      | none=>none
     | none=>none) x (i0::rs0) L
theorem ZqV {T:Tab}(hT:TabOk T) {call:Zb9}(hC:Zc9 T call) {ops:Array Oper}(hsel:Region.noSelect ops=true) {ws:List Nat}{h0:Hp}{sc:Nat→List Dec}:
  ∀ (fuel:Nat) (listed:Array Bool) (x:Lf) (L:Lg) (z9:List Lf) (L':Lg),ZqU T call ops ws h0 sc fuel listed x L=some (z9,L')→ZuQ T ops ws h0 fuel listed x L z9 L':=by
 intro fuel
 induction fuel with
 | zero=>
  intro listed x L z9 L' h hL;simp only[ZqU] at h;split at h
  ·rename_i hr;cases h;refine⟨hL,by simp,fun m0 w0 B G m hm a w R hn hS Q _ hQ=>⟨hr,?_⟩⟩;exact hQ x (by simp) _ _ ⟨m,Agree.refl _ _,R,Below.refl _ _,Nat.le_refl _⟩
  ·cases h
 | succ fuel ih=>
  intro listed x L z9 L' h hL;simp only[ZqU] at h;split at h
  ·rename_i hr;cases h;refine⟨hL,by simp,fun m0 w0 B G m hm a w R hn hS Q _ hQ=>wpAnyH_done hr ?_ _⟩;exact hQ x (by simp) _ _ ⟨m,Agree.refl _ _,R,Below.refl _ _,Nat.le_refl _⟩
  ·rename_i i0 rs0 hr;split at h
   ·rename_i r htake;obtain⟨hmem,htry⟩:=ZdY (i:=r.1) (x':=r.2.1) (lg:=r.2.2) htake;obtain⟨h1,h2,h3⟩:=ih _ _ _ _ _ h hL;obtain⟨l1,l2⟩:=Lg.add_ok h1;refine⟨l2,h2,fun m0 w0 B G m hm a w R hn hS Q hP hQ=> ?_⟩;refine ZdW hsel htry l1 (by rw[hr];exact hmem) G hm (R.stS (sc r.1)) hn hS hP fun a' hR=> ?_;obtain⟨m',k1,k2,k3,k4⟩:=hR;exact h3 m0 w0 B G m' (hm.trans k1 hn) a' w k2 (Nat.le_trans hn k4) hS Q hP fun y hy a'' w'' hR'=>hQ y hy _ _ (Reach.trans k1 k3 k4 hR')
   ·rename_i htake;obtain⟨h1,h2⟩:=Ze3 h (by
     intro i L ls' L1 hf hok;split at hf
     ·rename_i o hi;split at hf
      ·rename_i r hr';obtain⟨g1,_⟩:=ih _ _ _ _ _ hf hok;exact (Zfo (x':=r.1) (L':=r.2) hT hC hi hr' (Ze4 g1).1).1
      ·cases hf
     ·cases hf) hL
    have each:∀ i∈i0::rs0,∃ o,ops[i]? =some o∧∃ Li li Li' r,opS T call ops o (stS x (sc i)) Li=some r∧ZqU T call ops ws h0 sc fuel (listed.setIfInBounds i true) r.1 ⟨r.2.cs,r.2.es,ZjH ws h0 r.1.2.1++r.2.bs⟩=some (li,Li')∧Li'.ok∧∀ l∈li,l∈z9:=by
     intro i hi;obtain⟨Li,li,Li',g1,g2,g3⟩:=h2 i hi;split at g1
     ·rename_i o hio;split at g1
      ·rename_i r hr';exact⟨o,hio,Li,li,Li',r,hr',g1,g2,g3⟩
      ·cases g1
     ·cases g1
    refine⟨h1,?_,fun m0 w0 B G m hm a w R hn hS Q hP hQ=> ?_⟩
    ·obtain⟨o,_,Li,li,Li',r,g1,g2,g3,g4⟩:=each i0 (by simp);obtain⟨_,hne,_⟩:=ih _ _ _ _ _ g2 g3;intro he;cases li with
     | nil=>exact hne rfl
     | cons l0 ls0=>exact absurd (he ▸ g4 l0 (by simp)) (by simp)
    ·refine wpAnyH_all hr (by simp) fun i hi=> ?_;obtain⟨o,hio,Li,li,Li',r,g1,g2,g3,g4⟩:=each i hi;obtain⟨q1,_,q3⟩:=ih _ _ _ _ _ g2 g3;obtain⟨q4,q5⟩:=Ze4 q1;refine (Zfo (x':=r.1) (L':=r.2) hT hC hio g1 q4).2 m B a w (R.stS (sc i)) Q _ fun a' w' hR=> ?_;obtain⟨m',k1,k2,k3,k4⟩:=hR;have hm':=hm.trans k1 hn;have hS':=ZjI G hm' k2.emb q5;exact⟨hS',q3 m0 w0 B G m' hm' a' w' k2 (Nat.le_trans hn k4) hS' Q hP fun y hy a'' w'' hR'=>hQ y (g4 y hy) _ _ (Reach.trans k1 k3 k4 hR')⟩
def ZuT (P:Program) (t:TypeId):Bool:=
 if Nat.ble ZV t=true then true else
  match P.underlying t with
  | some (.int _)=>true
  | _=>false
def ZmX (P:Program) (f:Nat→Nat) (x:List Value×TypeId):List Value×TypeId:=
 match ZuT P x.2 with
 | true=>x
 | false=>(x.1.map (rn1 f),x.2)
def Za2:Value→Bool
 | .pointer (some _)=>false
 | .slice (some _) _ _=>false
 | .map (some _)=>false
 | _=>true
theorem ZmY {f g:Mp}{v:Value}(h:Za2 v=true):mv1 f v=mv1 g v:=by
 cases v with
 | pointer a=>cases a<;>simp_all [Za2,mv1]
 | map a=>cases a<;>simp_all [Za2,mv1]
 | slice a l c=>cases a<;>simp_all [Za2,mv1]
 | _=>rfl
def ZjL (P:Program):List (List Value×TypeId)→Log
 | []=>[]
 | x::l=>
  match ZuT P x.2 with
  | true=>(x.1.all Za2,true)::ZjL P l
  | false=>ZjL P l
theorem ZdZ {P:Program}:∀ {l:List (List Value×TypeId)},Zx (ZjL P l)→∀ x∈l,ZuT P x.2=true→∀ v∈x.1,Za2 v=true
 | [],_,x,hx=>by cases hx
 | y::l,h,x,hx=>by
  intro hu;simp only[ZjL] at h;rcases List.mem_cons.1 hx with rfl | hx
  ·rw[hu] at h;have:=h _ Xe;simpa [List.all_eq_true] using this
  ·refine ZdZ (l:=l) ?_ x hx hu;split at h
   ·exact fun e he=>h e (Xd _ he)
   ·exact h
def Hp.ren (P:Program) (f:Nat→Nat) (h:Hp):Hp:=⟨h.n,h.l.map (ZmX P f)⟩
theorem Hp.blk_ren (P:Program) (f:Nat→Nat) (h:Hp) (b:Nat):(h.ren P f).blk? b=(h.blk? b).map (ZmX P f):=by
 unfold Hp.ren Hp.blk?;simp only;split
 ·simp
 ·rfl
theorem ZbF (P:Program) (f:Nat→Nat) (x:List Value×TypeId):(ZmX P f x).2=x.2:=by unfold ZmX;split<;>rfl
theorem ZjM {P:Program}{f:Nat→Nat}{m:Mp}{x:List Value×TypeId}(hff:∀ b,f (f b)=b) (h:ZuT P x.2=true→∀ v∈x.1,Za2 v=true):(ZmX P f x).1.map (mv1 (fun b=>m (f b)))=x.1.map (mv1 m):=by
 unfold ZmX;split
 ·rename_i hu;exact List.map_congr_left fun v hv=>ZmY (h hu v hv)
 ·simp only[List.map_map];refine List.map_congr_left fun v _=> ?_;simp only[Function.comp];rw[ZpE];congr 1
  funext b
  rw[hff]
theorem ZqW {P:Program}{f:Nat→Nat}{n:Nat}{x:List Value×TypeId}(hf:∀ b,b<n→f b<n) (h:∀ v∈x.1,lt1 n v=true):∀ v∈(ZmX P f x).1,lt1 n v=true:=by
 unfold ZmX;split
 ·exact h
 ·intro v hv;obtain⟨u,hu,rfl⟩:=List.mem_map.1 hv;exact ZjJ hf (h u hu)
def Zga (P:Program) (i j:Nat) (z:Lf):Lf×Log:=
 match z.2.1.blk? i,z.2.1.blk? j with
 | some x,some y=>((z.1.map (rn (swp i j)),((z.2.1.put i y).put j x).ren P (swp i j),z.2.2),ZjL P z.2.1.l)
 | _,_=>(z,[])
theorem ZjN {P:Program}{m:Mp}{B:Nat}{z:Lf}{a:Act}{w:World}(R:Rel m B z a w) {i j:Nat}(hij:i<j) (hj:j<z.2.1.n) (hlog:Zx (Zga P i j z).2):Rel (fun b=>m (swp i j b)) B (Zga P i j z).1 a w∧(Zga P i j z).1.2.1.n=z.2.1.n:=by
 obtain⟨x,hx⟩:=ZcQ R.emb (b:=i) (by omega);obtain⟨y,hy⟩:=ZcQ R.emb hj;have hi:i<z.2.1.n:=by omega
 have hlt:∀ b,b<z.2.1.n→swp i j b<z.2.1.n:=fun b hb=>ZpD hi hj hb;unfold Zga at hlog ⊢;rw[hx,hy] at hlog ⊢;simp only at hlog ⊢;have l1:(z.2.1.put i y).l.length=(z.2.1.put i y).n:=by simp [Hp.put,R.emb.len]
 have blk:∀ b,((z.2.1.put i y).put j x).blk? b=z.2.1.blk? (swp i j b):=by
  intro b;rw[Hp.blk_put l1 (by simpa [Hp.put] using hj),Hp.blk_put R.emb.len hi];unfold swp;simp only[Nat.beq_eq];by_cases h1:b=j
  ·have h2:b≠i:=by omega
   rw[if_pos h1,if_neg h2,if_pos h1,hx]
  ·rw[if_neg h1];by_cases h2:b=i
   ·rw[if_pos h2,if_pos h2,hy]
   ·rw[if_neg h2,if_neg h2,if_neg h1]
 have mem:∀ b u,z.2.1.blk? b=some u→u∈z.2.1.l:=fun b u hb=>by
  unfold Hp.blk? at hb;split at hb
  ·exact List.mem_of_getElem? hb
  ·cases hb
 have blk':∀ b u,(((z.2.1.put i y).put j x).ren P (swp i j)).blk? b=some u→∃ v,z.2.1.blk? (swp i j b)=some v∧u=ZmX P (swp i j) v:=fun b u hb=>by
  rw[Hp.blk_ren,blk] at hb;cases hv:z.2.1.blk? (swp i j b) with
  | none=>rw[hv] at hb;cases hb
  | some v=>rw[hv] at hb;exact⟨v,rfl,(Option.some.inj hb).symm⟩
 have calm:∀ b v,z.2.1.blk? b=some v→ZuT P v.2=true→∀ c∈v.1,Za2 c=true:=fun b v hb=>ZdZ hlog v (mem b v hb);refine⟨⟨?_,R.dfr,⟨?_,?_,?_,?_,?_,?_,R.emb.base,R.emb.ice,?_⟩,?_⟩,rfl⟩
 ·rw[R.tmps,List.map_map];congr 1;refine List.map_congr_left fun v _=> ?_;simp only[Function.comp];rw[ZcD];congr 1
  funext b
  rw[Zal]
 ·simp [Hp.put,Hp.ren,R.emb.len]
 ·intro b u hb hu;obtain⟨v,hv,rfl⟩:=blk' b u hb;rw[ZbF] at hu ⊢;rw[ZjM (Zal i j) (calm _ v hv)];exact R.emb.lies _ v hv hu
 ·intro b u hb hu;obtain⟨v,hv,rfl⟩:=blk' b u hb;rw[ZbF] at hu;exact R.emb.low _ v hv hu
 ·intro b u hb hu hr;obtain⟨v,hv,rfl⟩:=blk' b u hb;rw[ZbF] at hu hr;exact R.emb.ros _ v hv hu hr
 ·intro b b' u u' hb hb' hu hu' h;obtain⟨v,hv,rfl⟩:=blk' b u hb;obtain⟨v',hv',rfl⟩:=blk' b' u' hb';rw[ZbF] at hu hu';have:=R.emb.inj _ _ v v' hv hv' hu hu' h;rw[← Zal i j b,this,Zal]
 ·intro b u hb;obtain⟨v,hv,rfl⟩:=blk' b u hb;exact ZqW hlt (R.emb.wf _ v hv)
 ·intro b u hb hu;obtain⟨v,hv,rfl⟩:=blk' b u hb;have ht:=hu;rw[ZbF] at ht;refine (R.emb.abs _ v hv ht).ren (f:=swp i j) (r:=[]) (ZbF ..).symm (by rw[List.append_nil,ZjM (Zal i j) (calm _ v hv)]) (fun c z hz=> ?_) fun c z _ _ _ he=>by rw[← Zal i j c,he,Zal]
  obtain⟨v',hv',rfl⟩:=blk' c z hz;exact⟨v',hv',(ZbF ..).symm⟩
 ·intro v hv;obtain⟨u,hu,rfl⟩:=List.mem_map.1 hv;exact ZpG hlt (R.wf u hu)
def ZpH:List Value→Option Nat
 | []=>none
 | .pointer (some a)::_=>some a.block
 | .slice (some a) _ _::_=>some a.block
 | _::l=>ZpH l
def ZgZ:List Value→Option Nat
 | []=>none
 | .pointer (some a)::_=>some a.block
 | .slice (some a) _ _::_=>some a.block
 | .agg cs::l=>
  match ZpH cs.toList with
  | some b=>some b
  | none=>ZgZ l
 | _::l=>ZgZ l
def ZuU:Value→Option Nat
 | .tuple vs=>ZgZ vs.toList
 | v=>ZgZ [v]
def Zbh (P:Program) (n0:Nat):Nat→List Nat→Lf→Lf×Log
 | _,[],z=>(z,[])
 | i,d::ds,z=>
  match ZuU (z.1.getD d undef) with
  | some b=>
   match Nat.blt (n0+i) b && Nat.blt b z.2.1.n with
   | true=>((Zbh P n0 (i+1) ds (Zga P (n0+i) b z).1).1,(Zbh P n0 (i+1) ds (Zga P (n0+i) b z).1).2++(Zga P (n0+i) b z).2)
   | false=>Zbh P n0 (i+1) ds z
  | none=>Zbh P n0 i ds z
theorem ZaN {P:Program}{m:Mp}{B n:Nat}{w:World}{a':Act}{w':World}:∀ (ds:List Nat) (i:Nat) {z:Lf},Zx (Zbh P n i ds z).2→Reach m B n w z a' w'→Reach m B n w (Zbh P n i ds z).1 a' w'
 | [],_,_,_,h=>h
 | d::ds,i,z,hl,h=>by
  simp only[Zbh] at hl ⊢;split at hl
  ·rename_i b hb;split at hl
   ·rename_i hc;simp only[Xh,Zk] at hc;obtain⟨l1,l2⟩:=Zag hl;refine ZaN ds (i+1) l1 ?_;obtain⟨m',k1,k2,k3,k4⟩:=h;obtain⟨r1,r2⟩:=ZjN k2 hc.1 hc.2 l2;refine⟨_,fun c hcn=> ?_,r1,k3,by rw[r2];exact k4⟩;have:swp (n+i) b c=c:=by
     unfold swp;simp only[Nat.beq_eq];rw[if_neg (by omega),if_neg (by omega)]
    show m' (swp (n+i) b c)=m c;rw[this];exact k1 c hcn
   ·exact ZaN ds (i+1) hl h
  ·exact ZaN ds i hl h
def ZjO:Nat→List Dec→List (Nat×List Dec)×List Dec
 | 0,s=>([],s)
 | c+1,.inr (.inl i):: .inr (.inl l)::s=>((i.toNat,s.take l.toNat)::(ZjO c (s.drop l.toNat)).1,(ZjO c (s.drop l.toNat)).2)
 | _+1,s=>([],s)
def ZmZ:Nat→List Dec→List Nat×List Dec
 | 0,s=>([],s)
 | c+1,.inr (.inl i)::s=>(i.toNat::(ZmZ c s).1,(ZmZ c s).2)
 | _+1,s=>([],s)
def Z2z (A:List (Nat×List Dec)) (i:Nat):List Dec:=
 match A with
 | []=>[]
 | r::A=>if Nat.beq r.1 i=true then r.2 else Z2z A i
def ZuV (P:Program) (n0:Nat) (ds:List Nat):List Lf→Log
 | []=>[]
 | z::l=>(Zbh P n0 0 ds z).2++ZuV P n0 ds l
theorem Zfp {P:Program}{n0:Nat}{ds:List Nat}:∀ {l:List Lf},Zx (ZuV P n0 ds l)→∀ z∈l,Zx (Zbh P n0 0 ds z).2
 | [],_,z,hz=>by cases hz
 | y::l,h,z,hz=>by
  simp only[ZuV] at h;obtain⟨h1,h2⟩:=Zag h;rcases List.mem_cons.1 hz with rfl | hz
  ·exact h1
  ·exact Zfp h2 z hz
def Zzs (T:Tab) (call:Zb9) (ops:Array Oper) (A:List (Nat×List Dec)) (ds:List Nat) (rest:List Dec) (x:Lf) (L:Lg):Option (Lf×Lg):=
 if (Region.noSelect ops && (ZmR ops.toList x.1 x.2.1).all (fun b=>Nat.blt b x.2.1.n))=true then
  match ZqU T call ops (ZmR ops.toList x.1 x.2.1) x.2.1 (Z2z A) ops.size (Array.replicate ops.size false) x L with
  | some (y::ys,L')=>some (stS (Zbh T.P x.2.1.n 0 ds y).1 rest,⟨ZuV T.P x.2.1.n ds (y::ys)++L'.cs,ys.map (fun z=>(stS (Zbh T.P x.2.1.n 0 ds z).1 rest,stS (Zbh T.P x.2.1.n 0 ds y).1 rest))++L'.es,L'.bs⟩)
  | _=>none
 else none
theorem Reach.stS {m:Mp}{B n:Nat}{w:World}{x:Lf}{a:Act}{w':World}(h:Reach m B n w x a w') (s:List Dec):Reach m B n w (stS x s) a w':=by
 obtain⟨m',k1,k2,k3,k4⟩:=h;exact⟨m',k1,k2.stS s,k3,k4⟩
theorem ZqX {T:Tab}(hT:TabOk T) {call:Zb9}(hC:Zc9 T call) {ops:Array Oper}{A:List (Nat×List Dec)}{ds:List Nat}{rest:List Dec}{id:Nat}{x x':Lf}{L L':Lg}(hs:Zzs T call ops A ds rest x L=some (x',L')) (hL:L'.ok):
  L.ok∧∀ m B a w,Rel m B x a w→∀ Q:Exit→Act→World→Prop,(∀ a' w',Reach m B x.2.1.n w x' a' w'→Q .normal a' w')→(Code.region id ops true).wp T.P Q a w:=by
 unfold Zzs at hs;split at hs
 ·rename_i hc;simp only[Xh,List.all_eq_true,Zk] at hc;obtain⟨hsel,hlow⟩:=hc;split at hs
  ·rename_i y ys L1 hd;cases hs;have hcs:Zx (ZuV T.P x.2.1.n ds (y::ys)++L1.cs):=hL.1;obtain⟨hk,hcs1⟩:=Zag hcs;have ok1:L1.ok:=⟨hcs1,fun e he=>hL.2.1 e (List.mem_append_right _ he),hL.2.2⟩;obtain⟨h1,_,h3⟩:=ZqV hT hC hsel _ _ _ _ _ _ hd ok1;refine⟨h1,fun m B a w R Q hQ=> ?_⟩;have hall:∀ l∈y::ys,stS (Zbh T.P x.2.1.n 0 ds l).1 rest=stS (Zbh T.P x.2.1.n 0 ds y).1 rest:=fun l hl=>by
    rcases List.mem_cons.1 hl with rfl | hl
    ·rfl
    ·exact hL.2.1 (stS (Zbh T.P x.2.1.n 0 ds l).1 rest,stS (Zbh T.P x.2.1.n 0 ds y).1 rest) (List.mem_append_left _ (List.mem_map.2 ⟨l,hl,rfl⟩))
   have E1:Emb m B x.2.1 {w with drawn:=w.drawn+1}:=⟨R.emb.len,R.emb.lies,R.emb.low,R.emb.ros,R.emb.inj,R.emb.wf,R.emb.base,R.emb.ice,R.emb.abs⟩;have hh:=h3 m {w with drawn:=w.drawn+1} B ⟨E1,hlow⟩ m (Agree.refl _ _) a {w with drawn:=w.drawn+1} ⟨R.tmps,R.dfr,E1,R.wf⟩ (Nat.le_refl _) (fun b _ y hy hty=>E1.lies b y hy hty)
    (fun e a' w'=>e= .normal∧Reach m B x.2.1.n w (stS (Zbh T.P x.2.1.n 0 ds y).1 rest) a' w') (fun c a w h=>by cases h.1) fun l hl a' w' hR=>
     ⟨rfl,hall l hl ▸ (ZaN ds 0 (Zfp hk l hl) (Reach.trans (w:=w) (w':={w with drawn:=w.drawn+1}) (Agree.refl _ _) (Below.mk rfl rfl rfl (Nat.le_refl _) (fun _ _=>rfl)) (Nat.le_refl _) hR)).stS rest⟩
   exact wp_mono (wp_region_held hT.mixed hh) (fun e a' w' h=>by obtain⟨rfl,h⟩:=h;exact hQ _ _ h)
  ·cases hs
 ·cases hs
def Zzt (T:Tab) (call:Zb9) (ops:Array Oper) (draw:Bool) (x:Lf) (L:Lg):Option (Lf×Lg):=
 match draw with
 | false=>ZjG T call ops ops.toList x L
 | true=>
  match x.2.2 with
  | .inr (.inr (.inr (.inr (.inl ())))):: .inr (.inl c):: .inr (.inr (.inr (.inr (.inl ())))):: .inr (.inl k):: .inr (.inr (.inr (.inr (.inl ()))))::s=>
   Zzs T call ops (ZjO c.toNat s).1 (ZmZ k.toNat (ZjO c.toNat s).2).1 (ZmZ k.toNat (ZjO c.toNat s).2).2 x L
  | _=>
  if (Region.noSelect ops && (ZmR ops.toList x.1 x.2.1).all (fun b=>Nat.blt b x.2.1.n))=true then
   match dfs T call ops (ZmR ops.toList x.1 x.2.1) x.2.1 ops.size (Array.replicate ops.size false) x L with
   | some (y::ys,L')=>some (ZdE ops.toList x.2.1.n y,⟨L'.cs,ys.map (fun z=>(ZdE ops.toList x.2.1.n z,ZdE ops.toList x.2.1.n y))++L'.es,L'.bs⟩)
   | _=>none
  else none
theorem ZqY {T:Tab}(hT:TabOk T) {call:Zb9}(hC:Zc9 T call) {ops:Array Oper}{draw:Bool}{id:Nat}{x x':Lf}{L L':Lg}(hs:Zzt T call ops draw x L=some (x',L')) (hL:L'.ok):
  L.ok∧∀ m B a w,Rel m B x a w→∀ Q:Exit→Act→World→Prop,(∀ a' w',Reach m B x.2.1.n w x' a' w'→Q .normal a' w')→(Code.region id ops draw).wp T.P Q a w:=by
 unfold Zzt at hs;split at hs
 ·obtain⟨h1,h2⟩:=ZmT hT hC ops.toList 0 (by simp) x x' L L' hs hL;refine⟨h1,fun m B a w R Q hQ=>wp_region ?_⟩;have:=h2 m B a w R Q hQ;rw[← List.range_eq_range'] at this;simpa using this
 ·split at hs
  ·exact ZqX hT hC hs hL
  ·split at hs
   ·rename_i hc;simp only[Xh,List.all_eq_true,Zk] at hc;obtain⟨hsel,hlow⟩:=hc;split at hs
    ·rename_i y ys L1 hd;cases hs;have ok1:L1.ok:=⟨hL.1,fun e he=>hL.2.1 e (List.mem_append_right _ he),hL.2.2⟩;obtain⟨h1,_,h3⟩:=ZuR hT hC hsel _ _ _ _ _ _ hd ok1;refine⟨h1,fun m B a w R Q hQ=> ?_⟩;have hall:∀ l∈y::ys,ZdE ops.toList x.2.1.n l=ZdE ops.toList x.2.1.n y:=fun l hl=>by
      rcases List.mem_cons.1 hl with rfl | hl
      ·rfl
      ·exact hL.2.1 (ZdE ops.toList x.2.1.n l,ZdE ops.toList x.2.1.n y) (List.mem_append_left _ (List.mem_map.2 ⟨l,hl,rfl⟩))
     have E1:Emb m B x.2.1 {w with drawn:=w.drawn+1}:=⟨R.emb.len,R.emb.lies,R.emb.low,R.emb.ros,R.emb.inj,R.emb.wf,R.emb.base,R.emb.ice,R.emb.abs⟩;have hh:=h3 m {w with drawn:=w.drawn+1} B ⟨E1,hlow⟩ m (Agree.refl _ _) a {w with drawn:=w.drawn+1} ⟨R.tmps,R.dfr,E1,R.wf⟩ (Nat.le_refl _) (fun b _ y hy hty=>E1.lies b y hy hty)
      (fun e a' w'=>e= .normal∧Reach m B x.2.1.n w (ZdE ops.toList x.2.1.n y) a' w') (fun c a w h=>by cases h.1) fun l hl a' w' hR=>
       ⟨rfl,hall l hl ▸ ZfZ<| Reach.trans (w':={w with drawn:=w.drawn+1}) (Agree.refl _ _) (Below.mk rfl rfl rfl (Nat.le_refl _) (fun _ _=>rfl)) (Nat.le_refl _) hR⟩
     exact wp_mono (wp_region_held hT.mixed hh) (fun e a' w' h=>by obtain⟨rfl,h⟩:=h;exact hQ _ _ h)
    ·cases hs
   ·cases hs
abbrev Ex:=Option (Option Nat)
def out:Ex→Exit
 | none=> .normal
 | some (some id)=> .exit id
 | some none=> .ret
def Zzu (P:Program) (t:List Value) (h:Hp):ResultVar→Option Value
 | .tmp i=>some (t.getD i undef)
 | .cell i ty=>
  match t.getD i undef with
  | .pointer (some a)=>ZhX P ty a h
  | _=>none
def Zuw (P:Program) (t:List Value) (h:Hp):List ResultVar→Option (List Value)
 | []=>some []
 | r::rs=>
  match Zzu P t h r with
  | some v=>
   match Zuw P t h rs with
   | some vs=>some (v::vs)
   | none=>none
  | none=>none
def Zau (P:Program) (F:Func) (t:List Value) (h:Hp):Option Value:=
 match Zuw P t h F.results.toList with
 | some [v]=>some v
 | some vs=>if (vs.all noT)=true then some (.tuple vs.toArray) else none
 | none=>none
theorem ZjP {m:Mp}(t:List Value) (i:Nat):(t.map (mv m)).toArray.getD i undef=mv m (t.getD i undef):=by
 simp only[List.getD];cases h:t[i]? with
 | none=>simp [h,zO]
 | some v=>simp [h]
theorem Zha {m:Mp}{B:Nat}{P:Program}{t:List Value}{h:Hp}{w:World}(E:Emb m B h w) (ht:∀ v∈t,lt h.n v=true):∀ (rs:List ResultVar) (vs:List Value),Zuw P t h rs=some vs→
  (rs.mapM (m:=Sem) fun
   | .tmp i=>pure ((t.map (mv m)).toArray.getD i undef)
   | .cell i ty=>do loadVar ty (← asAddr ((t.map (mv m)).toArray.getD i undef))).run P w= .ok (vs.map (mv m)) w∧∀ v∈vs,lt h.n v=true
 | [],vs,hs=>by
  simp only[Zuw] at hs;cases hs;exact⟨by simp,by simp⟩
 | r::rs,vs,hs=>by
  simp only[Zuw] at hs;split at hs
  ·rename_i v hv;split at hs
   ·rename_i vs' hvs;cases hs;obtain⟨h1,h2⟩:=Zha E ht rs vs' hvs;rw[List.mapM_cons];cases r with
    | tmp i=>
     simp only[Zzu] at hv;cases hv;refine⟨?_,fun y hy=> ?_⟩
     ·simp only[ZjP] at h1 ⊢;simp only[Sem.run_bind,Sem.run_pure,Result.andThen_ok,h1,List.map_cons]
     ·rcases List.mem_cons.1 hy with rfl | hy
      ·simp only[List.getD];cases hh:t[i]? with
       | none=>simp [undef,lt]
       | some u=>exact ht u (List.mem_of_getElem? hh)
      ·exact h2 y hy
    | cell i ty=>
     simp only[Zzu] at hv;split at hv
     ·rename_i a ha;obtain⟨g1,g2⟩:=Zfi (P:=P) E hv;refine⟨?_,fun y hy=> ?_⟩
      ·have e:mv m (Value.pointer (some a))= .pointer (some (mvA m a)):=rfl;have g3:(loadVar ty (mvA m a)).run P w= .ok (mv m v) w:=by
        simpa [Instr.loadAt,Instr.sureAddr] using g1
       simp only[ZjP] at h1 ⊢;have g4:(asAddr (.pointer (some (mvA m a)))).run P w= .ok (mvA m a) w:=rfl;simp only[Sem.run_bind,Sem.run_pure,Result.andThen_ok,h1,ha,e,g4,g3,List.map_cons]
      ·rcases List.mem_cons.1 hy with rfl | hy
       ·exact g2
       ·exact h2 y hy
     ·cases hv
   ·cases hs
  ·cases hs
theorem Zna {m:Mp}{vs:List Value}(h:(vs.all noT)=true):mv m (.tuple vs.toArray)= .tuple (vs.map (mv m)).toArray:=by
 simp only[mv,List.map_toArray];congr 2;refine List.map_congr_left fun v hv=> ?_;have:=List.all_eq_true.1 h v hv;cases v<;>simp_all [noT,mv]
theorem ZaO {m:Mp}{B:Nat}{P:Program}{F:Func}{t:List Value}{h:Hp}{w:World}{v:Value}(E:Emb m B h w) (ht:∀ v∈t,lt h.n v=true) (hs:Zau P F t h=some v):
  (results F (t.map (mv m)).toArray).run P w= .ok (mv m v) w∧lt h.n v=true:=by
 unfold Zau at hs;have key:∀ vs,Zuw P t h F.results.toList=some vs→(results F (t.map (mv m)).toArray).run P w= .ok (if hh:(vs.map (mv m)).toArray.size=1 then (vs.map (mv m)).toArray[0] else .tuple (vs.map (mv m)).toArray) w∧∀ v∈vs,lt h.n v=true:=by
  intro vs hvs;obtain⟨h1,h2⟩:=Zha E ht F.results.toList vs hvs;refine⟨?_,h2⟩;unfold results;have e:F.results=F.results.toList.toArray:=by simp
  rw[e];rw[List.mapM_toArray];simp only[Sem.run_bind,Sem.run_map,Sem.run_pure]
  erw [h1]
  rfl
 split at hs
 ·rename_i u hu;cases hs;obtain⟨h1,h2⟩:=key _ hu;exact⟨by simpa using h1,h2 _ (by simp)⟩
 ·rename_i vs hne hu;split at hs
  ·rename_i hall;cases hs;obtain⟨h1,h2⟩:=key _ hu;have hlen:¬ (vs.map (mv m)).toArray.size=1:=by
    intro hl;simp only[List.size_toArray,List.length_map] at hl;obtain⟨u,hu'⟩:=List.length_eq_one_iff.1 hl;exact hne u hu'
   rw[dif_neg hlen] at h1;refine⟨by rw[h1,Zna hall],?_⟩;simp only[lt,List.all_eq_true];intro y hy;have h3:=h2 y hy;have h4:=List.all_eq_true.1 hall y hy;cases y<;>simp_all [lt,noT]
  ·cases hs
 ·cases hs
def Zhb (T:Tab) (evc:Code→Lf→Lg→Option (Ex×Lf×Lg)):Zb9:=fun f vals h s L=>
 match T.fn f with
 | none=>none
 | some F=>
  match F.body with
  | none=>none
  | some c=>
   match evc c (vals++List.replicate (F.ntmps-vals.length) undef,h,s) L with
   | some (some (some _),_,_)=>none
   | some (_,x,L')=>
    match Zau T.P F x.1 x.2.1 with
    | some v=>some (v,x.2.1,x.2.2,L')
    | none=>none
   | none=>none
def evC (T:Tab):Nat→Bool→Code→Lf→Lg→Option (Ex×Lf×Lg)
 | 0,_,_,_,_=>none
 | n+1,true,c,x,L=>
  match evC T n false c x L with
  | some (none,x',L')=>evC T n true c x' L'
  | r=>r
 | n+1,false,c,x,L=>
  match c with
  | .skip=>some (none,x,L)
  | .label _=>some (none,x,L)
  | .region _ ops draw=>
   match Zzt T (Zhb T (evC T n false)) ops draw x L with
   | some r=>some (none,r.1,r.2)
   | none=>none
  | .seq c1 c2=>
   match evC T n false c1 x L with
   | some (none,x',L')=>evC T n false c2 x' L'
   | r=>r
  | .cond b c1 c2=>
   if okX b=true then
    match ev x.1 b with
    | .bool v=>
     match (ZbP v x.2.2).1 with
     | true=>evC T n false c1 (x.1,x.2.1,(ZbP v x.2.2).2.1) (Lg.add (ZbP v x.2.2).2.2 L)
     | false=>evC T n false c2 (x.1,x.2.1,(ZbP v x.2.2).2.1) (Lg.add (ZbP v x.2.2).2.2 L)
    | _=>none
   else none
  | .block id c=>
   match evC T n false c x L with
   | some (some (some id'),x',L')=>if id'=id then some (none,x',L') else some (some (some id'),x',L')
   | r=>r
  | .loop c=>evC T n true c x L
  | .exit id=>some (some (some id),x,L)
  | .ret=>some (some none,x,L)
  | .scope c=>evC T n false c x L
  | _=>none
def Z20 (T:Tab) (ev:Code→Lf→Lg→Option (Ex×Lf×Lg)):Prop:=∀ c x L e x' L',ev c x L=some (e,x',L')→L'.ok→L.ok∧
 ∀ m B a w,Rel m B x a w→∀ Q:Exit→Act→World→Prop,(∀ a' w',Reach m B x.2.1.n w x' a' w'→Q (out e) a' w')→c.wp T.P Q a w
def Z2G (T:Tab) (r:Nat) (ev:Code→Lf→Lg→Option (Ex×Lf×Lg)):Prop:=∀ c x L e x' L',ev c x L=some (e,x',L')→L'.ok→L.ok∧
 ∀ m B a w,Rel m B x a w→∀ Q:Exit→Act→World→Prop,(∀ a' w',Reach m B x.2.1.n w x' a' w'→Q (out e) a' w')→Code.rounds T.P c Q r a w
theorem Zfq {T:Tab}(hT:TabOk T) {evc:Code→Lf→Lg→Option (Ex×Lf×Lg)}(hE:Z20 T evc):Zc9 T (Zhb T evc):=by
 intro f vals h s L v h' s' L' hs hL;unfold Zhb at hs;split at hs
 ·cases hs
 ·rename_i F hF;split at hs
  ·cases hs
  ·rename_i c hc;obtain⟨hP,hN⟩:=hT.fn _ _ hF;have main:∀ e x,evc c (vals++List.replicate (F.ntmps-vals.length) undef,h,s) L=some (e,x,L')→(e=none∨e=some none)→Zau T.P F x.1 x.2.1=some v→x.2.1=h'→
     L.ok∧(∃ F,T.P.funcs[f]? =some F∧(F.name== "runtime.NumGoroutine")=false∧F.body.isSome=true)∧
     ∀ m B w,Emb m B h w→(∀ v∈vals,lt h.n v=true)→Calls T.P f (vals.map (mv m)).toArray w fun e w'=>∃ m',e= .returned (mv m' v)∧Came m B h w v h' m' w':=by
    intro e x he hex hres hh;subst hh;obtain⟨h1,h2⟩:=hE _ _ _ _ _ _ he hL;refine⟨h1,⟨F,hP,hN,by simp [hc]⟩,fun m B w E hv=>calls_of_wp hP hc ?_⟩;have R:Rel m B (vals++List.replicate (F.ntmps-vals.length) undef,h,s) {tmps:=(vals.map (mv m)).toArray++Array.replicate (F.ntmps-(vals.map (mv m)).toArray.size) undef,defers:=[]} w:=by
     refine⟨?_,rfl,E,?_⟩
     ·simp [zO]
     ·intro y hy;rcases List.mem_append.1 hy with hy | hy
      ·exact hv y hy
      ·rw[List.eq_of_mem_replicate hy];simp [undef,lt]
    refine h2 m B _ w R _ fun a' w' hR=> ?_;obtain⟨m',k1,k2,k3,k4⟩:=hR;obtain⟨r1,r2⟩:=ZaO k2.emb k2.wf hres;rw[← k2.tmps] at r1;have post:a'.defers=[]∧∃ v',(results F a'.tmps).run T.P w'= .ok v' w'∧∃ m',Ending.returned v'= .returned (mv m' v)∧Came m B h w v x.2.1 m' w':=
     ⟨k2.dfr,_,r1,m',rfl,⟨k1,k2.emb,k3,k4,r2⟩⟩
    rcases hex with rfl | rfl<;>exact post
   split at hs
   ·cases hs
   ·rename_i e x L1 hne he;split at hs
    ·rename_i u hu;cases hs;refine main e x he ?_ hu rfl
     match e,hne with
     | none,_=>exact .inl rfl
     | some none,_=>exact .inr rfl
     | some (some id),hne=>exact absurd rfl (hne id)
    ·cases hs
   ·cases hs
theorem Zhc {T:Tab}(hT:TabOk T):∀ n,Z20 T (evC T n false)∧Z2G T n (evC T n true):=by
 intro n
 induction n with
 | zero=>exact⟨fun c x L e x' L' h=>by simp [evC] at h,fun c x L e x' L' h=>by simp [evC] at h⟩
 | succ n ih=>
  obtain⟨ihE,ihR⟩:=ih;refine⟨?_,?_⟩
  ·intro c x L e x' L' h hL;cases c with
   | skip=>
    simp only[evC] at h;cases h;exact⟨hL,fun m B a w R Q hQ=>wp_skip (hQ _ _ ⟨m,Agree.refl _ _,R,Below.refl _ _,Nat.le_refl _⟩)⟩
   | label l=>
    simp only[evC] at h;cases h;exact⟨hL,fun m B a w R Q hQ=>wp_label (hQ _ _ ⟨m,Agree.refl _ _,R,Below.refl _ _,Nat.le_refl _⟩)⟩
   | region id ops draw=>
    simp only[evC] at h;split at h
    ·rename_i r hr;cases h;exact ZqY (x':=r.1) (L':=r.2) hT (Zfq hT ihE) hr hL
    ·cases h
   | seq c1 c2=>
    simp only[evC] at h;split at h
    ·rename_i x1 L1 h1;obtain⟨g1,g2⟩:=ihE _ _ _ _ _ _ h hL;obtain⟨g3,g4⟩:=ihE _ _ _ _ _ _ h1 g1;refine⟨g3,fun m B a w R Q hQ=>wp_seq (g4 m B a w R _ fun a' w' hR=> ?_)⟩;obtain⟨m',k1,k2,k3,k4⟩:=hR;exact g2 m' B a' w' k2 Q fun a'' w'' hR'=>hQ _ _ (Reach.trans k1 k3 k4 hR')
    ·rename_i hne;obtain⟨g3,g4⟩:=ihE _ _ _ _ _ _ h hL;refine⟨g3,fun m B a w R Q hQ=>wp_seq (g4 m B a w R _ fun a' w' hR=> ?_)⟩;have:=hQ a' w' hR
     match e,h,this with
     | none,h,_=>exact absurd h (hne x' L')
     | some (some id),_,this=>exact this
     | some none,_,this=>exact this
   | cond b c1 c2=>
    simp only[evC] at h;split at h
    ·rename_i hb;split at h
     ·rename_i v hv;split at h
      ·rename_i hp;obtain⟨g1,g2⟩:=ihE _ _ _ _ _ _ h hL;obtain⟨l1,l2⟩:=Lg.add_ok g1;have e1:=ZcL l1;rw[hp] at e1;refine⟨l2,fun m B a w R Q hQ=> ?_⟩;have hev:a.eval b= .bool true:=by rw[Zr R.tmps hb,hv,← e1];rfl
       exact wp_cond_true hev (g2 m B a w ⟨R.tmps,R.dfr,R.emb,R.wf⟩ Q hQ)
      ·rename_i hp;obtain⟨g1,g2⟩:=ihE _ _ _ _ _ _ h hL;obtain⟨l1,l2⟩:=Lg.add_ok g1;have e1:=ZcL l1;rw[hp] at e1;refine⟨l2,fun m B a w R Q hQ=> ?_⟩;have hev:a.eval b= .bool false:=by rw[Zr R.tmps hb,hv,← e1];rfl
       exact wp_cond_false hev (g2 m B a w ⟨R.tmps,R.dfr,R.emb,R.wf⟩ Q hQ)
     ·cases h
    ·cases h
   | block id c=>
    simp only[evC] at h;split at h
    ·rename_i id' x1 L1 h1;split at h
     ·rename_i hid;cases h;obtain⟨g3,g4⟩:=ihE _ _ _ _ _ _ h1 hL;refine⟨g3,fun m B a w R Q hQ=>wp_block (g4 m B a w R _ fun a' w' hR=> ?_)⟩;simp only[out,Exit.inBlock,hid,if_true];exact hQ a' w' hR
     ·rename_i hid;cases h;obtain⟨g3,g4⟩:=ihE _ _ _ _ _ _ h1 hL;refine⟨g3,fun m B a w R Q hQ=>wp_block (g4 m B a w R _ fun a' w' hR=> ?_)⟩;simp only[out,Exit.inBlock,hid,if_false];exact hQ a' w' hR
    ·rename_i hne;obtain⟨g3,g4⟩:=ihE _ _ _ _ _ _ h hL;refine⟨g3,fun m B a w R Q hQ=>wp_block (g4 m B a w R _ fun a' w' hR=> ?_)⟩;have:=hQ a' w' hR
     match e,h,this with
     | none,_,this=>exact this
     | some (some id'),h,_=>exact absurd h (hne id' x' L')
     | some none,_,this=>exact this
   | loop c=>
    simp only[evC] at h;obtain⟨g1,g2⟩:=ihR _ _ _ _ _ _ h hL;refine⟨g1,fun m B a w R Q hQ=> ?_⟩;exact wp_loop_rounds n (g2 m B a w R Q hQ)
   | exit id=>
    simp only[evC] at h;cases h;exact⟨hL,fun m B a w R Q hQ=>wp_exit (hQ _ _ ⟨m,Agree.refl _ _,R,Below.refl _ _,Nat.le_refl _⟩)⟩
   | ret=>
    simp only[evC] at h;cases h;exact⟨hL,fun m B a w R Q hQ=>wp_ret (hQ _ _ ⟨m,Agree.refl _ _,R,Below.refl _ _,Nat.le_refl _⟩)⟩
   | scope c=>
    simp only[evC] at h;obtain⟨g3,g4⟩:=ihE _ _ _ _ _ _ h hL;refine⟨g3,fun m B a w R Q hQ=>wp_scope_straight (g4 m B a w R _ fun a' w' hR=> ?_)⟩;have:=hQ a' w' hR
    match e,this with
    | none,this=>exact this
    | some (some id),this=>exact this
    | some none,this=>exact this
   | rangeFunc f ps ar b=>simp [evC] at h
   | goto l=>simp [evC] at h
   | refuse why=>simp [evC] at h
  ·intro c x L e x' L' h hL;simp only[evC] at h;split at h
   ·rename_i x1 L1 h1;obtain⟨g1,g2⟩:=ihR _ _ _ _ _ _ h hL;obtain⟨g3,g4⟩:=ihE _ _ _ _ _ _ h1 g1;refine⟨g3,fun m B a w R Q hQ=> ?_⟩;rw[rounds_succ];refine g4 m B a w R _ fun a' w' hR=> ?_;obtain⟨m',k1,k2,k3,k4⟩:=hR;exact g2 m' B a' w' k2 Q fun a'' w'' hR'=>hQ _ _ (Reach.trans k1 k3 k4 hR')
   ·rename_i hne;obtain⟨g3,g4⟩:=ihE _ _ _ _ _ _ h hL;refine⟨g3,fun m B a w R Q hQ=> ?_⟩;rw[rounds_succ];refine g4 m B a w R _ fun a' w' hR=> ?_;have:=hQ a' w' hR
    match e,h,this with
    | none,h,_=>exact absurd h (hne x' L')
    | some (some id),_,this=>exact this
    | some none,_,this=>exact this
def Ze (T:Tab) (n:Nat) (f:Nat) (vals:List Value) (s:List Dec):Option (Value×Hp×List Dec×Lg):=Zhb T (evC T n false) f vals ⟨0,[]⟩ s ⟨[],[],[]⟩
theorem Zfr {T:Tab}(hT:TabOk T) {n f:Nat}{vals:List Value}{s s':List Dec}{v:Value}{h':Hp}{L:Lg}(hs:Ze T n f vals s=some (v,h',s',L)) (hL:L.ok) (hvals:(vals.all (lt 0))=true) (hv:lt 0 v=true) (w:World):
  Calls T.P f vals.toArray w fun e w'=>e= .returned v∧zg w w':=by
 obtain⟨_,_,h3⟩:=Zfq hT (Zhc hT n).1 _ _ _ _ _ _ _ _ _ hs hL;have E:Emb (fun b=>(b,0)) w.heap.size ⟨0,[]⟩ w:=
  Emb.none w
 have hst:∀ y∈vals,lt 0 y=true:=List.all_eq_true.1 hvals;have e:vals.map (mv fun b=>(b,0))=vals:=(List.map_congr_left fun y hy=>Z9 (hst y hy)).trans (List.map_id' _);have:=h3 _ _ w E hst;rw[e] at this;refine this.mono fun en w' he=> ?_;obtain⟨m',rfl,C⟩:=he;exact⟨by rw[Z9 hv],C.below,fun k h1 h2=>C.emb.ice k h1 h2⟩
def Zw (r:Option (Value×Hp×List Dec×Lg)) (v:Value) (cs:Log):Prop:=
 r.map (fun r=>r.1)=some v∧r.map (fun r=>r.2.2.2.cs)=some cs∧r.map (fun r=>r.2.2.2.es.map Prod.fst)=r.map (fun r=>r.2.2.2.es.map Prod.snd)∧r.map (fun r=>r.2.2.2.bs.map Prod.fst)=r.map (fun r=>r.2.2.2.bs.map Prod.snd)
theorem Zfs {α:Type}:∀ (l:List (α×α)),l.map Prod.fst=l.map Prod.snd→∀ x∈l,x.1=x.2
 | [],_,x,hx=>by cases hx
 | y::l,h,x,hx=>by
  simp only[List.map_cons,List.cons.injEq] at h;rcases List.mem_cons.1 hx with rfl | hx
  ·exact h.1
  ·exact Zfs l h.2 x hx
theorem Zb {T:Tab}(hT:TabOk T) {n f:Nat}{vals:List Value}{s:List Dec}{v:Value}{cs:Log}(hF:Zw (Ze T n f vals s) v cs) (hcs:Zx cs) (hvals:(vals.all (lt 0))=true) (hv:lt 0 v=true) (w:World):
  Calls T.P f vals.toArray w fun e w'=>e= .returned v∧zg w w':=by
 obtain⟨h1,h2,h3,h4⟩:=hF;cases hr:Ze T n f vals s with
 | none=>rw[hr] at h1;cases h1
 | some r=>
  rw[hr] at h1 h2 h3 h4;simp only[Option.map_some,Option.some.injEq] at h1 h2 h3 h4;obtain⟨v',h',s',L⟩:=r;simp only at h1 h2 h3 h4;subst h1;exact Zfr hT hr ⟨by rw[h2];exact hcs,Zfs _ h3,Zfs _ h4⟩ hvals hv w
def ZyM:List Value→Option (Value×Log)
 | [.int .u64 x,.int .u64 y,.int .u64 c]=>
  some (.tuple #[.int .u64 ((x+y+c) % 18446744073709551616),.int .u64 ((x+y+c)/18446744073709551616)],[(decide (0≤x∧0≤y∧0≤c∧c≤1),true)])
 | _=>none
def ZyN:List Value→Option (Value×Log)
 | [.int .u64 x,.int .u64 y,.int .u64 c]=>
  some (.tuple #[.int .u64 ((x+18446744073709551616-y-c) % 18446744073709551616),.int .u64 (if x<y+c then 1 else 0)],[(decide (0≤x∧0≤y∧y<18446744073709551616∧0≤c∧c≤1),true)])
 | _=>none
theorem Znb {P:Program}{f:Nat}{F:Func}(hf:P.funcs[f]? =some F) (hn:(F.name== "runtime.NumGoroutine")=false) (hb:F.body.isNone=true) (hx:Extern.findNext F=none) (he:Extern.find F=some add64Entry)
  {vals:List Value}{v:Value}{lg:Log}(h:ZyM vals=some (v,lg)) (hl:Zx lg) (w:World):(callFunc f vals.toArray).run P w= .ok (.value v) w:=by
 unfold ZyM at h;split at h
 ·rename_i x y c;cases h;have:=hl _ Xf;simp only[Xi] at this;rw[run_callFunc_extern hf hn hb hx he,run_add64 x y c this.1 this.2.1 this.2.2.1 this.2.2.2];rfl
 ·cases h
theorem ZjQ {P:Program}{e:Array Value→Sem Value}(he:(Extern.MathBitsCarry.rows[1]?).map Prod.snd=some e) (x y c:Int) (hx:0≤x) (hy:0≤y) (hy':y<18446744073709551616) (hc0:0≤c) (hc:c≤1) (w:World):
  (e #[.int .u64 x,.int .u64 y,.int .u64 c]).run P w= .ok (.tuple #[.int .u64 ((x+18446744073709551616-y-c) % 18446744073709551616),.int .u64 (if x<y+c then 1 else 0)]) w:=by
 simp only[Extern.MathBitsCarry.rows,List.getElem?_cons_succ,List.getElem?_cons_zero,Option.map_some,Option.some.injEq] at he;subst he;have key:∀ k:Nat,k≤1→(Extern.MathBitsCarry.three "Sub64" #[.int .u64 x,.int .u64 y,.int .u64 (k:Int)]).run P w= .ok (x.toNat,y.toNat,k) w:=by
  intro k hk;have:k=0∨k=1:=by omega
  rcases this with rfl | rfl<;>rfl
 obtain⟨k,rfl⟩:=Int.eq_ofNat_of_zero_le hc0;rw[Sem.run_bind,key k (by omega)];simp only[Result.andThen_ok,Sem.run_pure];obtain⟨X,rfl⟩:=Int.eq_ofNat_of_zero_le hx;obtain⟨Y,rfl⟩:=Int.eq_ofNat_of_zero_le hy;have e1:Int.ofNat (((X+Extern.MathBitsCarry.m64-Y-k) % Extern.MathBitsCarry.m64))=((X:Int)+18446744073709551616-Y-k) % 18446744073709551616:=by
  simp only[Extern.MathBitsCarry.m64,Int.ofNat_eq_natCast];omega
 have e2:Int.ofNat (if X<Y+k then 1 else 0)=(if (X:Int)<Y+k then 1 else 0):=by
  by_cases h:X<Y+k
  ·rw[if_pos h,if_pos (by omega)];rfl
  ·rw[if_neg h,if_neg (by omega)];rfl
 simp only[Extern.MathBitsCarry.pair,Xg,e1,e2]
theorem Znc {P:Program}{f:Nat}{F:Func}{e:Array Value→Sem Value}(hf:P.funcs[f]? =some F) (hn:(F.name== "runtime.NumGoroutine")=false) (hb:F.body.isNone=true) (hx:Extern.findNext F=none) (he:Extern.find F=some e)
  (he':(Extern.MathBitsCarry.rows[1]?).map Prod.snd=some e) {vals:List Value}{v:Value}{lg:Log}(h:ZyN vals=some (v,lg)) (hl:Zx lg) (w:World):(callFunc f vals.toArray).run P w= .ok (.value v) w:=by
 unfold ZyN at h;split at h
 ·rename_i x y c;cases h;have:=hl _ Xf;simp only[Xi] at this;rw[run_callFunc_extern hf hn hb hx he,ZjQ he' x y c this.1 this.2.1 this.2.2.1 this.2.2.2.1 this.2.2.2.2];rfl
 ·cases h
end Go.KRun
namespace Go.Proofs.YtekebccjflilnaaGreat
open Go.Proofs.Tryz
open Go.KRun
theorem Zzv:(prog.funcs.toList.all fun F=> !(F.name== "runtime.NumGoroutine"))=true:=by kernel_rfl
theorem ZcA (f:Nat) (F:Func) (h:prog.funcs[f]? =some F):prog.funcs[f]? =some F∧(F.name== "runtime.NumGoroutine")=false:=
 ⟨h,by simpa using List.all_eq_true.1 Zzv F (by simpa using Array.mem_of_getElem? h)⟩
def Zh:Nat→List Value→Option (Value×Log):=fun f vals=>if f=108 then ZyM vals else if f=112 then ZyN vals else none
theorem ZqZ {vals:List Value}{v:Value}{lg:Log}(h:ZyM vals=some (v,lg)) (hl:Zx lg) (w:World):(callFunc 108 vals.toArray).run prog w= .ok (.value v) w:=
 Znb func108 (by kernel_rfl) (by kernel_rfl) (by kernel_rfl) (by kernel_rfl) h hl w
theorem Zra {vals:List Value}{v:Value}{lg:Log}(h:ZyN vals=some (v,lg)) (hl:Zx lg) (w:World):(callFunc 112 vals.toArray).run prog w= .ok (.value v) w:=
 Znc (e:=(Extern.MathBitsCarry.rows[1]).2) func112 (by kernel_rfl) (by kernel_rfl) (by kernel_rfl) (by kernel_rfl) (by rfl) h hl w
theorem ZjR (f:Nat) (vals:List Value) (v:Value) (lg:Log) (h:Zh f vals=some (v,lg)) (hl:Zx lg) (w:World):(callFunc f vals.toArray).run prog w= .ok (.value v) w:=by
 unfold Zh at h;split at h
 ·rename_i hf;subst hf;exact ZqZ h hl w
 ·split at h
  ·rename_i hf;subst hf;exact Zra h hl w
  ·cases h
abbrev Con:=Nat→List Value→List Dec→Option (Value×List Dec×Log)
structure ConOk (con:Con):Prop where
 fn:∀ f vals s v s' lg,con f vals s=some (v,s',lg)→∃ F,prog.funcs[f]? =some F∧F.body.isSome=true
 calls:∀ f vals s v s' lg,con f vals s=some (v,s',lg)→Zx lg→∀ w,Calls prog f vals.toArray w fun e w'=>e= .returned v∧zg w w'
def Zo:Con:=fun _ _ _=>none
theorem Zd:ConOk Zo where
 fn:=fun _ _ _ _ _ _ h=>by simp [Zo] at h
 calls:=fun _ _ _ _ _ _ h=>by simp [Zo] at h
def Zi (P:Program) (ext:Nat→List Value→Option (Value×Log)) (con:Con) (sym:Bool):Tab:={P:=P,fn:=fun f=>P.funcs[f]?,ext:=ext,con:=con,sym:=sym}
theorem mixed:prog.follows .mixedOrders=true:=by kernel_rfl
theorem Zf {con:Con}(h:ConOk con):TabOk (Zi prog Zh con true) where
 mixed:=mixed
 ext:=ZjR
 con:=fun f vals s v s' lg hc hl=>⟨by obtain⟨F,h1,h2⟩:=h.fn f vals s v s' lg hc;exact⟨F,(ZcA f F h1).1,(ZcA f F h1).2,h2⟩,h.calls f vals s v s' lg hc hl⟩
 fn:=ZcA
 hc:=fun _ _ _ _ _ _ _ _ h=>by cases h
abbrev Ans:=List Value→List Dec→Option (Value×List Dec×Log)
def ZJ (f:Nat) (g:Ans):Prop:=∀ vals s v s' lg,g vals s=some (v,s',lg)→Zx lg→∀ w,Calls prog f vals.toArray w fun e w'=>e= .returned v∧zg w w'
def alt (f:Nat) (g:Ans) (rest:Con):Con:=fun f' vals s=>if f'=f then g vals s else rest f' vals s
theorem Zy {f:Nat}{g:Ans}{rest:Con}{F:Func}(hf:prog.funcs[f]? =some F) (hb:F.body.isSome=true) (hg:ZJ f g) (hr:ConOk rest):ConOk (alt f g rest) where
 fn:=fun f' vals s v s' lg h=>by
  unfold alt at h;split at h
  ·rename_i he;subst he;exact⟨F,hf,hb⟩
  ·exact hr.fn _ _ _ _ _ _ h
 calls:=fun f' vals s v s' lg h hl w=>by
  unfold alt at h;split at h
  ·rename_i he;subst he;exact hg _ _ _ _ _ h hl w
  ·exact hr.calls _ _ _ _ _ _ h hl w
end Go.Proofs.YtekebccjflilnaaGreat
namespace Go.Wd
structure W4 where
 a:Int
 b:Int
 c:Int
 d:Int
def W4.val (x:W4):Int:=x.a+18446744073709551616*x.b+340282366920938463463374607431768211456*x.c+6277101735386680763835789423207666416102355444464034512896*x.d
abbrev W4.ok (x:W4):Prop:=(0≤x.a∧x.a<18446744073709551616)∧(0≤x.b∧x.b<18446744073709551616)∧(0≤x.c∧x.c<18446744073709551616)∧(0≤x.d∧x.d<18446744073709551616)
def W4.of (n:Int):W4:=
 ⟨n % 18446744073709551616,n/18446744073709551616 % 18446744073709551616,n/340282366920938463463374607431768211456 % 18446744073709551616,n/6277101735386680763835789423207666416102355444464034512896 % 18446744073709551616⟩
def eqW (x y:W4):Bool:=x.a==y.a && (x.b==y.b && (x.c==y.c && (x.d==y.d && true)))
theorem Zbi {x y:W4}:eqW x y=true↔x=y:=by
 cases x;cases y;simp [eqW]
theorem W4.ext' {x y:W4}(h1:x.a=y.a) (h2:x.b=y.b) (h3:x.c=y.c) (h4:x.d=y.d):x=y:=by
 cases x;cases y;simp_all
theorem W4.ok_of (n:Int):(W4.of n).ok:=by
 unfold W4.of W4.ok;refine⟨⟨?_,?_⟩,⟨?_,?_⟩,⟨?_,?_⟩,⟨?_,?_⟩⟩<;>dsimp only<;>omega
theorem W4.of_val {x:W4}(h:x.ok):W4.of x.val=x:=by
 obtain⟨a,b,c,d⟩:=x;unfold W4.ok at h;unfold W4.val W4.of;dsimp only at*;refine W4.ext' ?_ ?_ ?_ ?_<;>dsimp only<;>omega
theorem W4.val_of (n:Int):(W4.of n).val=n % 115792089237316195423570985008687907853269984665640564039457584007913129639936:=by
 unfold W4.val W4.of;dsimp only;omega
theorem W4.val_bd {x:W4}(h:x.ok):0≤x.val∧x.val<115792089237316195423570985008687907853269984665640564039457584007913129639936:=by
 obtain⟨a,b,c,d⟩:=x;unfold W4.ok at h;unfold W4.val;dsimp only at*;omega
theorem W4.val_inj {x y:W4}(hx:x.ok) (hy:y.ok) (h:x.val=y.val):x=y:=by
 rw[← W4.of_val hx,← W4.of_val hy,h]
def ad (x y c:Int):Int:=(x+y+c) % 18446744073709551616
def ca (x y c:Int):Int:=(x+y+c)/18446744073709551616
def Zzw (x y:W4):W4:=⟨ad x.a y.a 0,ad x.b y.b (ca x.a y.a 0),ad x.c y.c (ca x.b y.b (ca x.a y.a 0)),ad x.d y.d (ca x.c y.c (ca x.b y.b (ca x.a y.a 0)))⟩
def Zzx (x y:W4):Int:=ca x.d y.d (ca x.c y.c (ca x.b y.b (ca x.a y.a 0)))
theorem Zrb {x y:W4}(hx:x.ok) (hy:y.ok):Zzw x y=W4.of (x.val+y.val):=by
 obtain⟨a,b,c,d⟩:=x;obtain⟨a',b',c',d'⟩:=y;unfold W4.ok at hx hy;unfold W4.val W4.of Zzw ad ca;dsimp only at*;refine W4.ext' ?_ ?_ ?_ ?_<;>dsimp only<;>omega
theorem Zrc {x y:W4}(hx:x.ok) (hy:y.ok):(Zzx x y !=0)=decide (115792089237316195423570985008687907853269984665640564039457584007913129639936≤x.val+y.val):=by
 obtain⟨a,b,c,d⟩:=x;obtain⟨a',b',c',d'⟩:=y;unfold W4.ok at hx hy;unfold W4.val Zzx ca;dsimp only at*;rw[Bool.eq_iff_iff];simp only[bne_iff_ne,ne_eq,Xi];omega
def sb (x y c:Int):Int:=(x+18446744073709551616-y-c) % 18446744073709551616
def bo (x y c:Int):Int:=if x<y+c then 1 else 0
def Zzy (x y:W4):W4:=⟨sb x.a y.a 0,sb x.b y.b (bo x.a y.a 0),sb x.c y.c (bo x.b y.b (bo x.a y.a 0)),sb x.d y.d (bo x.c y.c (bo x.b y.b (bo x.a y.a 0)))⟩
def Zzz (x y:W4):Int:=bo x.d y.d (bo x.c y.c (bo x.b y.b (bo x.a y.a 0)))
theorem Zrd (x y c:Int):bo x y c=0∨bo x y c=1:=by unfold bo;split<;>simp
theorem Zbj (x y c:Int):(bo x y c=1∧x<y+c)∨(bo x y c=0∧y+c≤x):=by unfold bo;split<;>omega
theorem Zre {x y:W4}(hx:x.ok) (hy:y.ok):Zzy x y=W4.of (x.val-y.val):=by
 obtain⟨a,b,c,d⟩:=x;obtain⟨a',b',c',d'⟩:=y;unfold W4.ok at hx hy;unfold W4.val W4.of Zzy sb;dsimp only at*;have h1:=Zbj a a' 0;have h2:=Zbj b b' (bo a a' 0);have h3:=Zbj c c' (bo b b' (bo a a' 0));generalize bo c c' (bo b b' (bo a a' 0))=k3 at*;generalize bo b b' (bo a a' 0)=k2 at*;generalize bo a a' 0=k1 at*;refine W4.ext' ?_ ?_ ?_ ?_<;>dsimp only<;>omega
theorem Zrf {x y:W4}(hx:x.ok) (hy:y.ok):(Zzz x y !=0)=decide (x.val<y.val):=by
 obtain⟨a,b,c,d⟩:=x;obtain⟨a',b',c',d'⟩:=y;unfold W4.ok at hx hy;unfold W4.val Zzz;dsimp only at*;have h1:=Zbj a a' 0;have h2:=Zbj b b' (bo a a' 0);have h3:=Zbj c c' (bo b b' (bo a a' 0));have h4:=Zbj d d' (bo c c' (bo b b' (bo a a' 0)));generalize bo d d' (bo c c' (bo b b' (bo a a' 0)))=k4 at*;generalize bo c c' (bo b b' (bo a a' 0))=k3 at*;generalize bo b b' (bo a a' 0)=k2 at*;generalize bo a a' 0=k1 at*;rw[Bool.eq_iff_iff];simp only[bne_iff_ne,ne_eq,Xi];omega
end Go.Wd
