/-
  RunF, RunG, RunS, RunT, RunU, RunW, RunH
-/
import Derived.Test.YtgefjidphfdhdaaGreatDoorG03
import Derived.OneCell
import Derived.Laws.Externs
namespace Go.KRun
open Go.RowKit
def Z4B:Op→Bool
 | .load _ _ | .store _ _ _ | .box _ _ | .alloc _=>false
 | .call ⟨.builtin _,_,_⟩=>true
 | .call _=>false
 | _=>true
def ZcT (T:Tab) (ops:Array Oper) (ws:List Nat) (h0:Hp) (listed:Array Bool) (x:Lf) (i:Nat):Option (Lf×Log):=
 match ops[i]? with
 | none=>none
 | some o=>
  match Z4B o.op with
  | true=>
   if Region.free .any ops listed i=true then
    match (Zbc ops x.1 x.2.2 o).1 with
    | false=>some ((Zfr x.1 o.dst undef,x.2.1,(Zbc ops x.1 x.2.2 o).2.1),(Zbc ops x.1 x.2.2 o).2.2)
    | true=>
     match Ziq T x.1 (Zbc ops x.1 x.2.2 o).2.1 o with
     | some r=>some ((Zfr x.1 o.dst r.1,x.2.1,r.2.1),r.2.2++(Zbc ops x.1 x.2.2 o).2.2)
     | none=>none
   else none
  | false=>
   match o.op with
   | .load ty p=>
    match ev x.1 p with
    | .pointer (some ad)=>
     if (okX p && ws.contains ad.block && Region.free .any ops listed i)=true then
      match (Zbc ops x.1 x.2.2 o).1 with
      | false=>some ((Zfr x.1 o.dst undef,x.2.1,(Zbc ops x.1 x.2.2 o).2.1),(Zbc ops x.1 x.2.2 o).2.2)
      | true=>
       match (Zbc ops x.1 x.2.2 o).2.1 with
       | .inr (.inr (.inr (.inr (.inr v))))::s'=>
        match Zpm T.P ty ad h0 v with
        | some lg=>some ((Zfr x.1 o.dst v,x.2.1,s'),lg++(Zbc ops x.1 x.2.2 o).2.2)
        | none=>none
       | s'=>
        match ZjA T.P ty ad h0 with
        | some v=>some ((Zfr x.1 o.dst v,x.2.1,s'),(Zbc ops x.1 x.2.2 o).2.2)
        | none=>none
     else none
    | _=>none
   | _=>none
theorem Za1 {a b:Log}(h:Zx (a++b)):Zx a∧Zx b:=
 ⟨fun x hx=>h x (List.mem_append_left _ hx),fun x hx=>h x (List.mem_append_right _ hx)⟩
structure Began (m0:Mp) (B:Nat) (h0:Hp) (w0:World) (ws:List Nat):Prop where
 emb:Emb m0 B h0 w0
 low:∀ b∈ws,b<h0.n
def Zpy (m0:Mp) (h0:Hp) (ws:List Nat) (w:World):Prop:=∀ b∈ws,∀ y,h0.blk? b=some y→Zad y.2=false→lie w (m0 b) (y.1.map (mv1 m0)) y.2
theorem ZeI {T:Tab}{ops:Array Oper}(hsel:Region.noSelect ops=true) {ws:List Nat}{h0:Hp}{listed:Array Bool}{x x':Lf}{i:Nat}{lg:Log}(hs:ZcT T ops ws h0 listed x i=some (x',lg)) (hlg:Zx lg)
  (hr:i∈Region.ready .any ops listed) {m0:Mp}{w0:World}{B:Nat}(G:Began m0 B h0 w0 ws) {m:Mp}(hm:Agree m0 m h0.n) {a:Act}{w:World}(R:Rel m B x a w) (hn:h0.n≤x.2.1.n) (hS:Zpy m0 h0 ws w)
  {Q:Exit→Act→World→Prop}(hQ:∀ c a w,Q (.panic c) a w→False) {fuel:Nat}
  (H:∀ a',Reach m B x.2.1.n w x' a' w→wpAnyH T.P .any ops Q (Zpy m0 h0 ws) fuel (listed.setIfInBounds i true) a' w):wpAnyH T.P .any ops Q (Zpy m0 h0 ws) (fuel+1) listed a w:=by
 unfold ZcT at hs;split at hs
 ·cases hs
 ·rename_i o hi;split at hs
  ·split at hs
   ·rename_i hfree;split at hs
    ·rename_i hw;cases hs;have e:=Zbm R.tmps hlg;rw[hw] at e;exact wpAnyH_take (v:=undef) hi hsel hfree (by simpa using hr) (fun c a w h=>(hQ _ _ _ h).elim) (.inr ⟨e.symm,rfl⟩) hS (H _ (Reach.undef R o.dst _))
    ·rename_i hw;split at hs
     ·rename_i r hr';cases hs;obtain⟨l1,l2⟩:=Za1 hlg;have e:=Zbm R.tmps l2;rw[hw] at e;obtain⟨g1,g2⟩:=Zgo (v:=r.1) (s':=r.2.1) (lg:=r.2.2) R.tmps R.wf hr' l1;exact wpAnyH_take (v:=mv m r.1) hi hsel hfree (by simpa using hr) (fun c a w h=>(hQ _ _ _ h).elim) (.inl ⟨e.symm,fun w _=>g1 w⟩) hS
       (H _ (Reach.put R ⟨Agree.refl _ _,R.emb,Below.refl _ _,Nat.le_refl _,g2⟩ o.dst _))
     ·cases hs
   ·cases hs
  ·split at hs
   ·rename_i ty p hop;split at hs
    ·rename_i ad had;split at hs
     ·rename_i hc;simp only[Xh,List.contains_iff_mem] at hc;obtain⟨⟨hx,hmem⟩,hfree⟩:=hc;split at hs
      ·rename_i hw;cases hs;have e:=Zbm R.tmps hlg;rw[hw] at e;exact wpAnyH_take (v:=undef) hi hsel hfree (by simpa using hr) (fun c a w h=>(hQ _ _ _ h).elim) (.inr ⟨e.symm,rfl⟩) hS (H _ (Reach.undef R o.dst _))
      ·rename_i hw;have e2:a.eval p= .pointer (some (mvA m ad)):=by rw[Z1 R.tmps hx,had];rfl
       have lies:∀ w',Zpy m0 h0 ws w'→∀ y,h0.blk? ad.block=some y→Zad y.2=false→lie w' (m ad.block) (y.1.map (mv1 m)) y.2:=fun w' hw' y hy hty=>by
        rw[hm _ (G.low _ hmem),zW hm (G.emb.wf _ y hy)];exact hw' _ hmem y hy hty
       split at hs
       ·rename_i v s' hsv;split at hs
        ·rename_i lg' hv;cases hs;obtain⟨l1,l2⟩:=Za1 hlg;have e:=Zbm R.tmps l2;rw[hw] at e;have g:∀ w',Zpy m0 h0 ws w'→(Instr.loadAt ty (.pointer (some (mvA m ad)))).run T.P w'= .ok (mv m v) w'∧lt h0.n v=true:=fun w' hw'=>
          Zij (lies w' hw') (fun y hy=>G.emb.wf _ y hy) hv l1
         refine wpAnyH_take (v:=mv m v) hi hsel hfree (by simpa using hr) (fun c a w h=>(hQ _ _ _ h).elim) (.inl ⟨e.symm,fun w' hw'=> ?_⟩) hS
          (H _ (Reach.put R ⟨Agree.refl _ _,R.emb,Below.refl _ _,Nat.le_refl _,zG hn (g w hS).2⟩ o.dst _))
         simp only[execOp,hop,e2,Sem.run_bind,(g w' hw').1,Result.andThen_ok,Sem.run_pure]
        ·cases hs
       ·split at hs
        ·rename_i v hv;cases hs;have e:=Zbm R.tmps hlg;rw[hw] at e;have g:∀ w',Zpy m0 h0 ws w'→(Instr.loadAt ty (.pointer (some (mvA m ad)))).run T.P w'= .ok (mv m v) w'∧lt h0.n v=true:=fun w' hw'=>
          Zih (lies w' hw') (fun y hy=>G.emb.wf _ y hy) hv
         refine wpAnyH_take (v:=mv m v) hi hsel hfree (by simpa using hr) (fun c a w h=>(hQ _ _ _ h).elim) (.inl ⟨e.symm,fun w' hw'=> ?_⟩) hS
          (H _ (Reach.put R ⟨Agree.refl _ _,R.emb,Below.refl _ _,Nat.le_refl _,zG hn (g w hS).2⟩ o.dst _))
         simp only[execOp,hop,e2,Sem.run_bind,(g w' hw').1,Result.andThen_ok,Sem.run_pure]
        ·cases hs
     ·cases hs
    ·cases hs
   ·cases hs
def Zpz (T:Tab) (ops:Array Oper) (ws:List Nat) (h0:Hp) (listed:Array Bool) (x:Lf):List Nat→Option (Nat×Lf×Log)
 | []=>none
 | i::rs=>
  match ZcT T ops ws h0 listed x i with
  | some r=>some (i,r.1,r.2)
  | none=>Zpz T ops ws h0 listed x rs
theorem ZeJ {T:Tab}{ops:Array Oper}{ws:List Nat}{h0:Hp}{listed:Array Bool}{x:Lf}:∀ {rs:List Nat}{i:Nat}{x':Lf}{lg:Log},Zpz T ops ws h0 listed x rs=some (i,x',lg)→i∈rs∧ZcT T ops ws h0 listed x i=some (x',lg)
 | [],_,_,_,h=>by cases h
 | j::rs,i,x',lg,h=>by
  simp only[Zpz] at h;split at h
  ·rename_i r hr;cases h;exact⟨Xe,hr⟩
  ·have:=ZeJ h;exact⟨Xd _ this.1,this.2⟩
def brs (f:Nat→Lf→Lg→Option (List Lf×Lg)) (x:Lf):List Nat→Lg→Option (List Lf×Lg)
 | [],L=>some ([],L)
 | i::rs,L=>
  match f i x L with
  | some r=>
   match brs f x rs r.2 with
   | some q=>some (r.1++q.1,q.2)
   | none=>none
  | none=>none
def Zld (ws:List Nat) (h0 h:Hp):List (Bp×Bp):=ws.map fun b=>(h.blk? b,h0.blk? b)
def dfs (T:Tab) (call:ZbZ) (ops:Array Oper) (ws:List Nat) (h0:Hp):Nat→Array Bool→Lf→Lg→Option (List Lf×Lg)
 | 0,listed,x,L=>
  match Region.ready .any ops listed with
  | []=>some ([x],L)
  | _::_=>none
 | fuel+1,listed,x,L=>
  match Region.ready .any ops listed with
  | []=>some ([x],L)
  | i0::rs0=>
   match Zpz T ops ws h0 listed x (i0::rs0) with
   | some r=>dfs T call ops ws h0 fuel (listed.setIfInBounds r.1 true) r.2.1 (Lg.add r.2.2 L)
   | none=>brs (fun i x L=>
     match ops[i]? with
     | some o=>
      match opS T call ops o x L with
      | some r=>dfs T call ops ws h0 fuel (listed.setIfInBounds i true) r.1 ⟨r.2.cs,r.2.es,Zld ws h0 r.1.2.1++r.2.bs⟩
      | none=>none
     | none=>none) x (i0::rs0) L
def Zzj (T:Tab) (ops:Array Oper) (ws:List Nat) (h0:Hp) (fuel:Nat) (listed:Array Bool) (x:Lf) (L:Lg) (leaves:List Lf) (L':Lg):Prop:=
 L'.ok→L.ok∧leaves≠[]∧∀ m0 w0 B,Began m0 B h0 w0 ws→∀ m,Agree m0 m h0.n→∀ a w,Rel m B x a w→h0.n≤x.2.1.n→Zpy m0 h0 ws w→
  ∀ Q:Exit→Act→World→Prop,(∀ c a w,Q (.panic c) a w→False)→(∀ y∈leaves,∀ a' w',Reach m B x.2.1.n w y a' w'→Q .normal a' w')→wpAnyH T.P .any ops Q (Zpy m0 h0 ws) fuel listed a w
theorem Zfs {f:Nat→Lf→Lg→Option (List Lf×Lg)}{x:Lf}:∀ {rs:List Nat}{L L':Lg}{ls:List Lf},brs f x rs L=some (ls,L')→
  (∀ i L ls' L1,f i x L=some (ls',L1)→L1.ok→L.ok)→L'.ok→L.ok∧∀ i∈rs,∃ Li li Li',f i x Li=some (li,Li')∧Li'.ok∧∀ l∈li,l∈ls
 | [],L,L',ls,h,_,hL=>by cases h;exact⟨hL,fun i hi=>absurd hi (by simp)⟩
 | j::rs,L,L',ls,h,hf,hL=>by
  simp only[brs] at h;split at h
  ·rename_i r hr;split at h
   ·rename_i q hq;cases h;obtain⟨h1,h2⟩:=Zfs (ls:=q.1) (L':=q.2) hq hf hL;refine⟨hf _ _ _ _ hr h1,fun i hi=> ?_⟩;rcases List.mem_cons.1 hi with rfl | hi
    ·exact⟨L,r.1,r.2,hr,h1,fun l hl=>List.mem_append_left _ hl⟩
    ·obtain⟨Li,li,Li',g1,g2,g3⟩:=h2 i hi;exact⟨Li,li,Li',g1,g2,fun l hl=>List.mem_append_right _ (g3 l hl)⟩
   ·cases h
  ·cases h
theorem Zft {L:Lg}{ws:List Nat}{h0 h:Hp}(hL:(⟨L.cs,L.es,Zld ws h0 h++L.bs⟩:Lg).ok):L.ok∧∀ b∈ws,h.blk? b=h0.blk? b:=
 ⟨⟨hL.1,hL.2.1,fun e he=>hL.2.2 e (List.mem_append_right _ he)⟩,fun b hb=>hL.2.2 (h.blk? b,h0.blk? b) (List.mem_append_left _ (List.mem_map.2 ⟨b,hb,rfl⟩))⟩
theorem Zd8 {m:Mp}{B:Nat}{h:Hp}{w:World}(E:Emb m B h w) {b:Nat}(hb:b<h.n):∃ x,h.blk? b=some x:=E.blk hb
theorem Zle {m0 m:Mp}{B:Nat}{h0 h:Hp}{w0 w:World}{ws:List Nat}(G:Began m0 B h0 w0 ws) (hm:Agree m0 m h0.n) (E:Emb m B h w) (hk:∀ b∈ws,h.blk? b=h0.blk? b):Zpy m0 h0 ws w:=by
 intro b hb y hy hty;have h1:=E.lies b y (by rw[hk b hb,hy]) hty;rw[hm b (G.low b hb),zW hm (G.emb.wf b y hy)] at h1;exact h1
theorem Zzk {T:Tab}(hT:TabOk T) {call:ZbZ}(hC:Zds T call) {ops:Array Oper}(hsel:Region.noSelect ops=true) {ws:List Nat}{h0:Hp}:
  ∀ (fuel:Nat) (listed:Array Bool) (x:Lf) (L:Lg) (leaves:List Lf) (L':Lg),dfs T call ops ws h0 fuel listed x L=some (leaves,L')→Zzj T ops ws h0 fuel listed x L leaves L':=by
 intro fuel
 induction fuel with
 | zero=>
  intro listed x L leaves L' h hL;simp only[dfs] at h;split at h
  ·rename_i hr;cases h;refine⟨hL,by simp,fun m0 w0 B G m hm a w R hn hS Q _ hQ=>⟨hr,?_⟩⟩;exact hQ x (by simp) _ _ ⟨m,Agree.refl _ _,R,Below.refl _ _,Nat.le_refl _⟩
  ·cases h
 | succ fuel ih=>
  intro listed x L leaves L' h hL;simp only[dfs] at h;split at h
  ·rename_i hr;cases h;refine⟨hL,by simp,fun m0 w0 B G m hm a w R hn hS Q _ hQ=>wpAnyH_done hr ?_ _⟩;exact hQ x (by simp) _ _ ⟨m,Agree.refl _ _,R,Below.refl _ _,Nat.le_refl _⟩
  ·rename_i i0 rs0 hr;split at h
   ·rename_i r htake;obtain⟨hmem,htry⟩:=ZeJ (i:=r.1) (x':=r.2.1) (lg:=r.2.2) htake;obtain⟨h1,h2,h3⟩:=ih _ _ _ _ _ h hL;obtain⟨l1,l2⟩:=Lg.add_ok h1;refine⟨l2,h2,fun m0 w0 B G m hm a w R hn hS Q hP hQ=> ?_⟩;refine ZeI hsel htry l1 (by rw[hr];exact hmem) G hm R hn hS hP fun a' hR=> ?_;obtain⟨m',k1,k2,k3,k4⟩:=hR;exact h3 m0 w0 B G m' (hm.trans k1 hn) a' w k2 (Nat.le_trans hn k4) hS Q hP fun y hy a'' w'' hR'=>hQ y hy _ _ (Reach.trans k1 k3 k4 hR')
   ·rename_i htake;obtain⟨h1,h2⟩:=Zfs h (by
     intro i L ls' L1 hf hok;split at hf
     ·rename_i o hi;split at hf
      ·rename_i r hr';obtain⟨g1,_⟩:=ih _ _ _ _ _ hf hok;exact (Zgp (x':=r.1) (L':=r.2) hT hC hi hr' (Zft g1).1).1
      ·cases hf
     ·cases hf) hL
    have each:∀ i∈i0::rs0,∃ o,ops[i]? =some o∧∃ Li li Li' r,opS T call ops o x Li=some r∧dfs T call ops ws h0 fuel (listed.setIfInBounds i true) r.1 ⟨r.2.cs,r.2.es,Zld ws h0 r.1.2.1++r.2.bs⟩=some (li,Li')∧Li'.ok∧∀ l∈li,l∈leaves:=by
     intro i hi;obtain⟨Li,li,Li',g1,g2,g3⟩:=h2 i hi;split at g1
     ·rename_i o hio;split at g1
      ·rename_i r hr';exact⟨o,hio,Li,li,Li',r,hr',g1,g2,g3⟩
      ·cases g1
     ·cases g1
    refine⟨h1,?_,fun m0 w0 B G m hm a w R hn hS Q hP hQ=> ?_⟩
    ·obtain⟨o,_,Li,li,Li',r,g1,g2,g3,g4⟩:=each i0 (by simp);obtain⟨_,hne,_⟩:=ih _ _ _ _ _ g2 g3;intro he;cases li with
     | nil=>exact hne rfl
     | cons l0 ls0=>exact absurd (he ▸ g4 l0 (by simp)) (by simp)
    ·refine wpAnyH_all hr (by simp) fun i hi=> ?_;obtain⟨o,hio,Li,li,Li',r,g1,g2,g3,g4⟩:=each i hi;obtain⟨q1,_,q3⟩:=ih _ _ _ _ _ g2 g3;obtain⟨q4,q5⟩:=Zft q1;refine (Zgp (x':=r.1) (L':=r.2) hT hC hio g1 q4).2 m B a w R Q _ fun a' w' hR=> ?_;obtain⟨m',k1,k2,k3,k4⟩:=hR;have hm':=hm.trans k1 hn;have hS':=Zle G hm' k2.emb q5;exact⟨hS',q3 m0 w0 B G m' hm' a' w' k2 (Nat.le_trans hn k4) hS' Q hP fun y hy a'' w'' hR'=>hQ y (g4 y hy) _ _ (Reach.trans k1 k3 k4 hR')⟩
def swp (i j b:Nat):Nat:=if Nat.beq b i=true then j else if Nat.beq b j=true then i else b
theorem ZbD (i j b:Nat):swp i j (swp i j b)=b:=by
 unfold swp;simp only[Nat.beq_eq];split
 ·split
  ·omega
  ·simp_all
 ·split
  ·simp_all
  ·simp_all
theorem ZsM {i j n b:Nat}(hi:i<n) (hj:j<n) (hb:b<n):swp i j b<n:=by
 unfold swp;split
 ·exact hj
 ·split
  ·exact hi
  ·exact hb
def rn1 (f:Nat→Nat):Value→Value
 | .pointer (some a)=> .pointer (some {a with block:=f a.block})
 | .slice (some a) l c=> .slice (some {a with block:=f a.block}) l c
 | v=>v
def rn2 (f:Nat→Nat):Value→Value
 | .agg cs=> .agg (cs.map (rn1 f))
 | v=>rn1 f v
def rn (f:Nat→Nat):Value→Value
 | .tuple vs=> .tuple (vs.map (rn2 f))
 | v=>rn2 f v
theorem Zlf (m:Mp) (f:Nat→Nat) (v:Value):mv1 m (rn1 f v)=mv1 (fun b=>m (f b)) v:=by
 cases v with
 | pointer a=>cases a<;>rfl
 | slice a l c=>cases a<;>rfl
 | _=>rfl
theorem ZsN (m:Mp) (f:Nat→Nat) (v:Value):mv2 m (rn2 f v)=mv2 (fun b=>m (f b)) v:=by
 cases v with
 | agg cs=>
  simp only[mv2,rn2,Array.map_map];congr 2
  funext x
  exact Zlf m f x
 | pointer a=>cases a<;>rfl
 | slice a l c=>cases a<;>rfl
 | _=>rfl
theorem Zcu (m:Mp) (f:Nat→Nat) (v:Value):mv m (rn f v)=mv (fun b=>m (f b)) v:=by
 cases v with
 | tuple cs=>
  simp only[mv,rn,Array.map_map];congr 2
  funext x
  exact ZsN m f x
 | agg cs=>
  have:=ZsN m f (.agg cs);simpa [mv,mv2,rn,rn2] using this
 | pointer a=>cases a<;>rfl
 | slice a l c=>cases a<;>rfl
 | _=>rfl
theorem Zd9 {f:Nat→Nat}{v:Value}(h:lt 0 v=true):rn f v=v:=by
 have h1:∀ v,lt1 0 v=true→rn1 f v=v:=fun v h=>by
  unfold rn1;split
  ·simp [lt1] at h
  ·simp [lt1] at h
  ·rfl
 have h2:∀ v,lt2 0 v=true→rn2 f v=v:=fun v h=>by
  unfold rn2;split
  ·rename_i cs;simp only[lt2,List.all_eq_true] at h;congr 1;have:cs.map (rn1 f)=cs.map id:=Array.map_congr_left fun x hx=>h1 x (h x (by simpa using hx));rw[this,Array.map_id]
  ·rename_i hna;refine h1 _ ?_;unfold lt2 at h;split at h
   ·rename_i cs;exact absurd rfl (hna cs)
   ·exact h
 unfold rn;split
 ·rename_i cs;simp only[lt,List.all_eq_true] at h;congr 1;have:cs.map (rn2 f)=cs.map id:=Array.map_congr_left fun x hx=>h2 x (h x (by simpa using hx));rw[this,Array.map_id]
 ·rename_i hna;refine h2 _ ?_;unfold lt at h;split at h
  ·rename_i cs;exact absurd rfl (hna cs)
  ·exact h
theorem Zlg {n:Nat}{f:Nat→Nat}(hf:∀ b,b<n→f b<n) {v:Value}(h:lt1 n v=true):lt1 n (rn1 f v)=true:=by
 cases v with
 | pointer a=>cases a<;>simp_all [lt1,rn1]
 | slice a l c=>cases a<;>simp_all [lt1,rn1]
 | _=>simpa [rn1] using h
theorem Zlh {n:Nat}{f:Nat→Nat}(hf:∀ b,b<n→f b<n) {v:Value}(h:lt2 n v=true):lt2 n (rn2 f v)=true:=by
 cases v with
 | agg cs=>
  simp only[lt2,rn2,Array.toList_map,List.all_eq_true,List.mem_map] at*;rintro _ ⟨y,hy,rfl⟩;exact Zlg hf (h y hy)
 | pointer a=>cases a<;>simp_all [lt1,lt2,rn1,rn2]
 | slice a l c=>cases a<;>simp_all [lt1,lt2,rn1,rn2]
 | _=>simpa [rn1,rn2] using h
theorem ZsO {n:Nat}{f:Nat→Nat}(hf:∀ b,b<n→f b<n) {v:Value}(h:lt n v=true):lt n (rn f v)=true:=by
 cases v with
 | tuple cs=>
  simp only[lt,rn,Array.toList_map,List.all_eq_true,List.mem_map] at*;rintro _ ⟨y,hy,rfl⟩;exact Zlh hf (h y hy)
 | agg cs=>
  have h':lt2 n (.agg cs)=true:=by simpa [lt] using h
  have:=Zlh hf h';simpa [lt,rn,rn2] using this
 | pointer a=>cases a<;>simp_all [lt,lt1,lt2,rn,rn1,rn2]
 | slice a l c=>cases a<;>simp_all [lt,lt1,lt2,rn,rn1,rn2]
 | _=>simpa [rn,rn1,rn2] using h
def Hp.calm (h:Hp):Bool:=h.l.all fun x=>x.1.all (lt1 0)
def Zir (i j:Nat) (z:Lf):Lf:=
 match z.2.1.blk? i,z.2.1.blk? j with
 | some x,some y=>(z.1.map (rn (swp i j)),(z.2.1.put i y).put j x,z.2.2)
 | _,_=>z
def Zzl (ops:List Oper):List Tmp:=ops.filterMap fun o=>match o.op with | .alloc _=>o.dst | .box _ _=>o.dst | _=>none
def Zbn (ops:List Oper) (n:Nat) (z:Lf):Lf:=
 match Zzl ops with
 | [d1,d2]=>
  match Zhs (z.1.getD d1 undef),Zhs (z.1.getD d2 undef) with
  | some b1,some b2=>if (Nat.blt b2 b1 && Nat.ble n b2 && Nat.blt b1 z.2.1.n && z.2.1.calm)=true then Zir b2 b1 z else z
  | _,_=>z
 | _=>z
theorem ZdV {h:Hp}(ht:h.calm=true) {b:Nat}{x:List Value×TypeId}(hb:h.blk? b=some x):∀ v∈x.1,lt1 0 v=true:=by
 unfold Hp.calm at ht;simp only[List.all_eq_true] at ht;unfold Hp.blk? at hb;split at hb
 ·exact ht x (List.mem_of_getElem? hb)
 ·cases hb
theorem ZbE {f g:Mp}{l:List Value}(h:∀ v∈l,lt1 0 v=true):l.map (mv1 f)=l.map (mv1 g):=
 List.map_congr_left fun v hv=>by rw[ZaD (h v hv),ZaD (h v hv)]
theorem ZjH {m:Mp}{B:Nat}{z:Lf}{a:Act}{w:World}(R:Rel m B z a w) {i j:Nat}(hij:i<j) (hj:j<z.2.1.n) (hc:z.2.1.calm=true):Rel (fun b=>m (swp i j b)) B (Zir i j z) a w∧(Zir i j z).2.1.n=z.2.1.n:=by
 obtain⟨x,hx⟩:=Zd8 R.emb (b:=i) (by omega);obtain⟨y,hy⟩:=Zd8 R.emb hj;have hi:i<z.2.1.n:=by omega
 have hlt:∀ b,b<z.2.1.n→swp i j b<z.2.1.n:=fun b hb=>ZsM hi hj hb;unfold Zir;rw[hx,hy];have l1:(z.2.1.put i y).l.length=(z.2.1.put i y).n:=by simp [Hp.put,R.emb.len]
 have blk:∀ b,((z.2.1.put i y).put j x).blk? b=z.2.1.blk? (swp i j b):=by
  intro b;rw[Hp.blk_put l1 (by simpa [Hp.put] using hj),Hp.blk_put R.emb.len hi];unfold swp;simp only[Nat.beq_eq];by_cases h1:b=j
  ·have h2:b≠i:=by omega
   rw[if_pos h1,if_neg h2,if_pos h1,hx]
  ·rw[if_neg h1];by_cases h2:b=i
   ·rw[if_pos h2,if_pos h2,hy]
   ·rw[if_neg h2,if_neg h2,if_neg h1]
 refine⟨⟨?_,R.dfr,⟨?_,?_,?_,?_,?_,?_,R.emb.base,R.emb.ice,?_⟩,?_⟩,rfl⟩
 ·rw[R.tmps,List.map_map];congr 1;refine List.map_congr_left fun v _=> ?_;simp only[Function.comp];rw[Zcu];congr 1
  funext b
  rw[ZbD]
 ·simp [Hp.put,R.emb.len]
 ·intro b u hb hu;rw[blk] at hb;rw[ZbE (g:=m) (ZdV hc hb)];exact R.emb.lies _ u hb hu
 ·intro b u hb hu;rw[blk] at hb;exact R.emb.low _ u hb hu
 ·intro b u hb hu hr;rw[blk] at hb;exact R.emb.ros _ u hb hu hr
 ·intro b b' u u' hb hb' hu hu' h;rw[blk] at hb hb';have:=R.emb.inj _ _ u u' hb hb' hu hu' h;rw[← ZbD i j b,this,ZbD]
 ·intro b u hb;rw[blk] at hb;exact fun v hv=>zl (Nat.zero_le _) (ZdV hc hb v hv)
 ·intro b u hb hu;rw[blk] at hb;rw[ZbE (g:=m) (ZdV hc hb)];exact R.emb.abs _ u hb hu
 ·intro v hv;obtain⟨u,hu,rfl⟩:=List.mem_map.1 hv;exact ZsO hlt (R.wf u hu)
theorem Zht {ops:List Oper}{m:Mp}{B n:Nat}{w:World}{z:Lf}{a':Act}{w':World}(h:Reach m B n w z a' w'):Reach m B n w (Zbn ops n z) a' w':=by
 unfold Zbn;split
 ·split
  ·split
   ·rename_i b1 b2 _ _ hc;simp only[Xh,Zl,Nat.ble_eq] at hc;obtain⟨⟨⟨c1,c2⟩,c3⟩,c4⟩:=hc;obtain⟨m',k1,k2,k3,k4⟩:=h;obtain⟨r1,r2⟩:=ZjH k2 c1 c3 c4;refine⟨_,fun b hb=> ?_,r1,k3,by rw[r2];exact k4⟩;have:swp b2 b1 b=b:=by
     unfold swp;simp only[Nat.beq_eq];rw[if_neg (by omega),if_neg (by omega)]
    show m' (swp b2 b1 b)=m b;rw[this];exact k1 b hb
   ·exact h
  ·exact h
 ·exact h
def stS (x:Lf) (s:List Dec):Lf:=(x.1,x.2.1,s)
theorem Rel.stS {m:Mp}{B:Nat}{x:Lf}{a:Act}{w:World}(R:Rel m B x a w) (s:List Dec):Rel m B (stS x s) a w:=⟨R.tmps,R.dfr,R.emb,R.wf⟩
def Zp0 (T:Tab) (ops:Array Oper) (ws:List Nat) (h0:Hp) (sc:Nat→List Dec) (listed:Array Bool) (x:Lf):List Nat→Option (Nat×Lf×Log)
 | []=>none
 | i::rs=>
  match ZcT T ops ws h0 listed (stS x (sc i)) i with
  | some r=>some (i,r.1,r.2)
  | none=>Zp0 T ops ws h0 sc listed x rs
theorem ZeK {T:Tab}{ops:Array Oper}{ws:List Nat}{h0:Hp}{sc:Nat→List Dec}{listed:Array Bool}{x:Lf}:∀ {rs:List Nat}{i:Nat}{x':Lf}{lg:Log},Zp0 T ops ws h0 sc listed x rs=some (i,x',lg)→i∈rs∧ZcT T ops ws h0 listed (stS x (sc i)) i=some (x',lg)
 | [],_,_,_,h=>by cases h
 | j::rs,i,x',lg,h=>by
  simp only[Zp0] at h;split at h
  ·rename_i r hr;cases h;exact⟨Xe,hr⟩
  ·have:=ZeK h;exact⟨Xd _ this.1,this.2⟩
def Zua (T:Tab) (call:ZbZ) (ops:Array Oper) (ws:List Nat) (h0:Hp) (sc:Nat→List Dec):Nat→Array Bool→Lf→Lg→Option (List Lf×Lg)
 | 0,listed,x,L=>
  match Region.ready .any ops listed with
  | []=>some ([x],L)
  | _::_=>none
 | fuel+1,listed,x,L=>
  match Region.ready .any ops listed with
  | []=>some ([x],L)
  | i0::rs0=>
   match Zp0 T ops ws h0 sc listed x (i0::rs0) with
   | some r=>Zua T call ops ws h0 sc fuel (listed.setIfInBounds r.1 true) r.2.1 (Lg.add r.2.2 L)
   | none=>brs (fun i x L=>
     match ops[i]? with
     | some o=>
      match opS T call ops o (stS x (sc i)) L with
      | some r=>Zua T call ops ws h0 sc fuel (listed.setIfInBounds i true) r.1 ⟨r.2.cs,r.2.es,Zld ws h0 r.1.2.1++r.2.bs⟩
      | none=>none
     | none=>none) x (i0::rs0) L
theorem Zub {T:Tab}(hT:TabOk T) {call:ZbZ}(hC:Zds T call) {ops:Array Oper}(hsel:Region.noSelect ops=true) {ws:List Nat}{h0:Hp}{sc:Nat→List Dec}:
  ∀ (fuel:Nat) (listed:Array Bool) (x:Lf) (L:Lg) (leaves:List Lf) (L':Lg),Zua T call ops ws h0 sc fuel listed x L=some (leaves,L')→Zzj T ops ws h0 fuel listed x L leaves L':=by
 intro fuel
 induction fuel with
 | zero=>
  intro listed x L leaves L' h hL;simp only[Zua] at h;split at h
  ·rename_i hr;cases h;refine⟨hL,by simp,fun m0 w0 B G m hm a w R hn hS Q _ hQ=>⟨hr,?_⟩⟩;exact hQ x (by simp) _ _ ⟨m,Agree.refl _ _,R,Below.refl _ _,Nat.le_refl _⟩
  ·cases h
 | succ fuel ih=>
  intro listed x L leaves L' h hL;simp only[Zua] at h;split at h
  ·rename_i hr;cases h;refine⟨hL,by simp,fun m0 w0 B G m hm a w R hn hS Q _ hQ=>wpAnyH_done hr ?_ _⟩;exact hQ x (by simp) _ _ ⟨m,Agree.refl _ _,R,Below.refl _ _,Nat.le_refl _⟩
  ·rename_i i0 rs0 hr;split at h
   ·rename_i r htake;obtain⟨hmem,htry⟩:=ZeK (i:=r.1) (x':=r.2.1) (lg:=r.2.2) htake;obtain⟨h1,h2,h3⟩:=ih _ _ _ _ _ h hL;obtain⟨l1,l2⟩:=Lg.add_ok h1;refine⟨l2,h2,fun m0 w0 B G m hm a w R hn hS Q hP hQ=> ?_⟩;refine ZeI hsel htry l1 (by rw[hr];exact hmem) G hm (R.stS (sc r.1)) hn hS hP fun a' hR=> ?_;obtain⟨m',k1,k2,k3,k4⟩:=hR;exact h3 m0 w0 B G m' (hm.trans k1 hn) a' w k2 (Nat.le_trans hn k4) hS Q hP fun y hy a'' w'' hR'=>hQ y hy _ _ (Reach.trans k1 k3 k4 hR')
   ·rename_i htake;obtain⟨h1,h2⟩:=Zfs h (by
     intro i L ls' L1 hf hok;split at hf
     ·rename_i o hi;split at hf
      ·rename_i r hr';obtain⟨g1,_⟩:=ih _ _ _ _ _ hf hok;exact (Zgp (x':=r.1) (L':=r.2) hT hC hi hr' (Zft g1).1).1
      ·cases hf
     ·cases hf) hL
    have each:∀ i∈i0::rs0,∃ o,ops[i]? =some o∧∃ Li li Li' r,opS T call ops o (stS x (sc i)) Li=some r∧Zua T call ops ws h0 sc fuel (listed.setIfInBounds i true) r.1 ⟨r.2.cs,r.2.es,Zld ws h0 r.1.2.1++r.2.bs⟩=some (li,Li')∧Li'.ok∧∀ l∈li,l∈leaves:=by
     intro i hi;obtain⟨Li,li,Li',g1,g2,g3⟩:=h2 i hi;split at g1
     ·rename_i o hio;split at g1
      ·rename_i r hr';exact⟨o,hio,Li,li,Li',r,hr',g1,g2,g3⟩
      ·cases g1
     ·cases g1
    refine⟨h1,?_,fun m0 w0 B G m hm a w R hn hS Q hP hQ=> ?_⟩
    ·obtain⟨o,_,Li,li,Li',r,g1,g2,g3,g4⟩:=each i0 (by simp);obtain⟨_,hne,_⟩:=ih _ _ _ _ _ g2 g3;intro he;cases li with
     | nil=>exact hne rfl
     | cons l0 ls0=>exact absurd (he ▸ g4 l0 (by simp)) (by simp)
    ·refine wpAnyH_all hr (by simp) fun i hi=> ?_;obtain⟨o,hio,Li,li,Li',r,g1,g2,g3,g4⟩:=each i hi;obtain⟨q1,_,q3⟩:=ih _ _ _ _ _ g2 g3;obtain⟨q4,q5⟩:=Zft q1;refine (Zgp (x':=r.1) (L':=r.2) hT hC hio g1 q4).2 m B a w (R.stS (sc i)) Q _ fun a' w' hR=> ?_;obtain⟨m',k1,k2,k3,k4⟩:=hR;have hm':=hm.trans k1 hn;have hS':=Zle G hm' k2.emb q5;exact⟨hS',q3 m0 w0 B G m' hm' a' w' k2 (Nat.le_trans hn k4) hS' Q hP fun y hy a'' w'' hR'=>hQ y (g4 y hy) _ _ (Reach.trans k1 k3 k4 hR')⟩
def Zzm (P:Program) (t:TypeId):Bool:=
 if Nat.ble zo t=true then true else
  match P.underlying t with
  | some (.int _)=>true
  | _=>false
def Zp1 (P:Program) (f:Nat→Nat) (x:List Value×TypeId):List Value×TypeId:=
 match Zzm P x.2 with
 | true=>x
 | false=>(x.1.map (rn1 f),x.2)
def Zhu:Value→Bool
 | .pointer (some _)=>false
 | .slice (some _) _ _=>false
 | _=>true
theorem Zp2 {f g:Mp}{v:Value}(h:Zhu v=true):mv1 f v=mv1 g v:=by
 cases v with
 | pointer a=>cases a<;>simp_all [Zhu,mv1]
 | slice a l c=>cases a<;>simp_all [Zhu,mv1]
 | _=>rfl
def Zli (P:Program):List (List Value×TypeId)→Log
 | []=>[]
 | x::l=>
  match Zzm P x.2 with
  | true=>(x.1.all Zhu,true)::Zli P l
  | false=>Zli P l
theorem ZeL {P:Program}:∀ {l:List (List Value×TypeId)},Zx (Zli P l)→∀ x∈l,Zzm P x.2=true→∀ v∈x.1,Zhu v=true
 | [],_,x,hx=>by cases hx
 | y::l,h,x,hx=>by
  intro hu;simp only[Zli] at h;rcases List.mem_cons.1 hx with rfl | hx
  ·rw[hu] at h;have:=h _ Xe;simpa [List.all_eq_true] using this
  ·refine ZeL (l:=l) ?_ x hx hu;split at h
   ·exact fun e he=>h e (Xd _ he)
   ·exact h
def Hp.ren (P:Program) (f:Nat→Nat) (h:Hp):Hp:=⟨h.n,h.l.map (Zp1 P f)⟩
theorem Hp.blk_ren (P:Program) (f:Nat→Nat) (h:Hp) (b:Nat):(h.ren P f).blk? b=(h.blk? b).map (Zp1 P f):=by
 unfold Hp.ren Hp.blk?;simp only;split
 ·simp
 ·rfl
theorem ZdW (P:Program) (f:Nat→Nat) (x:List Value×TypeId):(Zp1 P f x).2=x.2:=by unfold Zp1;split<;>rfl
theorem Zlj {P:Program}{f:Nat→Nat}{m:Mp}{x:List Value×TypeId}(hff:∀ b,f (f b)=b) (h:Zzm P x.2=true→∀ v∈x.1,Zhu v=true):(Zp1 P f x).1.map (mv1 (fun b=>m (f b)))=x.1.map (mv1 m):=by
 unfold Zp1;split
 ·rename_i hu;exact List.map_congr_left fun v hv=>Zp2 (h hu v hv)
 ·simp only[List.map_map];refine List.map_congr_left fun v _=> ?_;simp only[Function.comp];rw[Zlf];congr 1
  funext b
  rw[hff]
theorem Zuc {P:Program}{f:Nat→Nat}{n:Nat}{x:List Value×TypeId}(hf:∀ b,b<n→f b<n) (h:∀ v∈x.1,lt1 n v=true):∀ v∈(Zp1 P f x).1,lt1 n v=true:=by
 unfold Zp1;split
 ·exact h
 ·intro v hv;obtain⟨u,hu,rfl⟩:=List.mem_map.1 hv;exact Zlg hf (h u hu)
def Zhv (P:Program) (i j:Nat) (z:Lf):Lf×Log:=
 match z.2.1.blk? i,z.2.1.blk? j with
 | some x,some y=>((z.1.map (rn (swp i j)),((z.2.1.put i y).put j x).ren P (swp i j),z.2.2),Zli P z.2.1.l)
 | _,_=>(z,[])
theorem Zlk {P:Program}{m:Mp}{B:Nat}{z:Lf}{a:Act}{w:World}(R:Rel m B z a w) {i j:Nat}(hij:i<j) (hj:j<z.2.1.n) (hlog:Zx (Zhv P i j z).2):Rel (fun b=>m (swp i j b)) B (Zhv P i j z).1 a w∧(Zhv P i j z).1.2.1.n=z.2.1.n:=by
 obtain⟨x,hx⟩:=Zd8 R.emb (b:=i) (by omega);obtain⟨y,hy⟩:=Zd8 R.emb hj;have hi:i<z.2.1.n:=by omega
 have hlt:∀ b,b<z.2.1.n→swp i j b<z.2.1.n:=fun b hb=>ZsM hi hj hb;unfold Zhv at hlog ⊢;rw[hx,hy] at hlog ⊢;simp only at hlog ⊢;have l1:(z.2.1.put i y).l.length=(z.2.1.put i y).n:=by simp [Hp.put,R.emb.len]
 have blk:∀ b,((z.2.1.put i y).put j x).blk? b=z.2.1.blk? (swp i j b):=by
  intro b;rw[Hp.blk_put l1 (by simpa [Hp.put] using hj),Hp.blk_put R.emb.len hi];unfold swp;simp only[Nat.beq_eq];by_cases h1:b=j
  ·have h2:b≠i:=by omega
   rw[if_pos h1,if_neg h2,if_pos h1,hx]
  ·rw[if_neg h1];by_cases h2:b=i
   ·rw[if_pos h2,if_pos h2,hy]
   ·rw[if_neg h2,if_neg h2,if_neg h1]
 have mem:∀ b u,z.2.1.blk? b=some u→u∈z.2.1.l:=fun b u hb=>by
  unfold Hp.blk? at hb;split at hb
  ·exact List.mem_of_getElem? hb
  ·cases hb
 have blk':∀ b u,(((z.2.1.put i y).put j x).ren P (swp i j)).blk? b=some u→∃ v,z.2.1.blk? (swp i j b)=some v∧u=Zp1 P (swp i j) v:=fun b u hb=>by
  rw[Hp.blk_ren,blk] at hb;cases hv:z.2.1.blk? (swp i j b) with
  | none=>rw[hv] at hb;cases hb
  | some v=>rw[hv] at hb;exact⟨v,rfl,(Option.some.inj hb).symm⟩
 have calm:∀ b v,z.2.1.blk? b=some v→Zzm P v.2=true→∀ c∈v.1,Zhu c=true:=fun b v hb=>ZeL hlog v (mem b v hb);refine⟨⟨?_,R.dfr,⟨?_,?_,?_,?_,?_,?_,R.emb.base,R.emb.ice,?_⟩,?_⟩,rfl⟩
 ·rw[R.tmps,List.map_map];congr 1;refine List.map_congr_left fun v _=> ?_;simp only[Function.comp];rw[Zcu];congr 1
  funext b
  rw[ZbD]
 ·simp [Hp.put,Hp.ren,R.emb.len]
 ·intro b u hb hu;obtain⟨v,hv,rfl⟩:=blk' b u hb;rw[ZdW] at hu ⊢;rw[Zlj (ZbD i j) (calm _ v hv)];exact R.emb.lies _ v hv hu
 ·intro b u hb hu;obtain⟨v,hv,rfl⟩:=blk' b u hb;rw[ZdW] at hu;exact R.emb.low _ v hv hu
 ·intro b u hb hu hr;obtain⟨v,hv,rfl⟩:=blk' b u hb;rw[ZdW] at hu hr;exact R.emb.ros _ v hv hu hr
 ·intro b b' u u' hb hb' hu hu' h;obtain⟨v,hv,rfl⟩:=blk' b u hb;obtain⟨v',hv',rfl⟩:=blk' b' u' hb';rw[ZdW] at hu hu';have:=R.emb.inj _ _ v v' hv hv' hu hu' h;rw[← ZbD i j b,this,ZbD]
 ·intro b u hb;obtain⟨v,hv,rfl⟩:=blk' b u hb;exact Zuc hlt (R.emb.wf _ v hv)
 ·intro b u hb hu;obtain⟨v,hv,rfl⟩:=blk' b u hb;rw[ZdW] at hu ⊢;rw[Zlj (ZbD i j) (calm _ v hv)];exact R.emb.abs _ v hv hu
 ·intro v hv;obtain⟨u,hu,rfl⟩:=List.mem_map.1 hv;exact ZsO hlt (R.wf u hu)
def ZsP:List Value→Option Nat
 | []=>none
 | .pointer (some a)::_=>some a.block
 | .slice (some a) _ _::_=>some a.block
 | _::l=>ZsP l
def Zis:List Value→Option Nat
 | []=>none
 | .pointer (some a)::_=>some a.block
 | .slice (some a) _ _::_=>some a.block
 | .agg cs::l=>
  match ZsP cs.toList with
  | some b=>some b
  | none=>Zis l
 | _::l=>Zis l
def Zzn:Value→Option Nat
 | .tuple vs=>Zis vs.toList
 | v=>Zis [v]
def ZbF (P:Program) (n0:Nat):Nat→List Nat→Lf→Lf×Log
 | _,[],z=>(z,[])
 | i,d::ds,z=>
  match Zzn (z.1.getD d undef) with
  | some b=>
   match Nat.blt (n0+i) b && Nat.blt b z.2.1.n with
   | true=>((ZbF P n0 (i+1) ds (Zhv P (n0+i) b z).1).1,(ZbF P n0 (i+1) ds (Zhv P (n0+i) b z).1).2++(Zhv P (n0+i) b z).2)
   | false=>ZbF P n0 (i+1) ds z
  | none=>ZbF P n0 i ds z
theorem Zbo {P:Program}{m:Mp}{B n:Nat}{w:World}{a':Act}{w':World}:∀ (ds:List Nat) (i:Nat) {z:Lf},Zx (ZbF P n i ds z).2→Reach m B n w z a' w'→Reach m B n w (ZbF P n i ds z).1 a' w'
 | [],_,_,_,h=>h
 | d::ds,i,z,hl,h=>by
  simp only[ZbF] at hl ⊢;split at hl
  ·rename_i b hb;split at hl
   ·rename_i hc;simp only[Xh,Zl] at hc;obtain⟨l1,l2⟩:=Za1 hl;refine Zbo ds (i+1) l1 ?_;obtain⟨m',k1,k2,k3,k4⟩:=h;obtain⟨r1,r2⟩:=Zlk k2 hc.1 hc.2 l2;refine⟨_,fun c hcn=> ?_,r1,k3,by rw[r2];exact k4⟩;have:swp (n+i) b c=c:=by
     unfold swp;simp only[Nat.beq_eq];rw[if_neg (by omega),if_neg (by omega)]
    show m' (swp (n+i) b c)=m c;rw[this];exact k1 c hcn
   ·exact Zbo ds (i+1) hl h
  ·exact Zbo ds i hl h
def Zll:Nat→List Dec→List (Nat×List Dec)×List Dec
 | 0,s=>([],s)
 | c+1,.inr (.inl i):: .inr (.inl l)::s=>((i.toNat,s.take l.toNat)::(Zll c (s.drop l.toNat)).1,(Zll c (s.drop l.toNat)).2)
 | _+1,s=>([],s)
def Zp3:Nat→List Dec→List Nat×List Dec
 | 0,s=>([],s)
 | c+1,.inr (.inl i)::s=>(i.toNat::(Zp3 c s).1,(Zp3 c s).2)
 | _+1,s=>([],s)
def Z8r (A:List (Nat×List Dec)) (i:Nat):List Dec:=
 match A with
 | []=>[]
 | r::A=>if Nat.beq r.1 i=true then r.2 else Z8r A i
def Zzo (P:Program) (n0:Nat) (ds:List Nat):List Lf→Log
 | []=>[]
 | z::l=>(ZbF P n0 0 ds z).2++Zzo P n0 ds l
theorem Zgq {P:Program}{n0:Nat}{ds:List Nat}:∀ {l:List Lf},Zx (Zzo P n0 ds l)→∀ z∈l,Zx (ZbF P n0 0 ds z).2
 | [],_,z,hz=>by cases hz
 | y::l,h,z,hz=>by
  simp only[Zzo] at h;obtain⟨h1,h2⟩:=Za1 h;rcases List.mem_cons.1 hz with rfl | hz
  ·exact h1
  ·exact Zgq h2 z hz
def Z4C (T:Tab) (call:ZbZ) (ops:Array Oper) (A:List (Nat×List Dec)) (ds:List Nat) (rest:List Dec) (x:Lf) (L:Lg):Option (Lf×Lg):=
 if (Region.noSelect ops && (Zpv ops.toList x.1 x.2.1).all (fun b=>Nat.blt b x.2.1.n))=true then
  match Zua T call ops (Zpv ops.toList x.1 x.2.1) x.2.1 (Z8r A) ops.size (Array.replicate ops.size false) x L with
  | some (y::ys,L')=>some (stS (ZbF T.P x.2.1.n 0 ds y).1 rest,⟨Zzo T.P x.2.1.n ds (y::ys)++L'.cs,ys.map (fun z=>(stS (ZbF T.P x.2.1.n 0 ds z).1 rest,stS (ZbF T.P x.2.1.n 0 ds y).1 rest))++L'.es,L'.bs⟩)
  | _=>none
 else none
theorem Reach.stS {m:Mp}{B n:Nat}{w:World}{x:Lf}{a:Act}{w':World}(h:Reach m B n w x a w') (s:List Dec):Reach m B n w (stS x s) a w':=by
 obtain⟨m',k1,k2,k3,k4⟩:=h;exact⟨m',k1,k2.stS s,k3,k4⟩
theorem Zud {T:Tab}(hT:TabOk T) {call:ZbZ}(hC:Zds T call) {ops:Array Oper}{A:List (Nat×List Dec)}{ds:List Nat}{rest:List Dec}{id:Nat}{x x':Lf}{L L':Lg}(hs:Z4C T call ops A ds rest x L=some (x',L')) (hL:L'.ok):
  L.ok∧∀ m B a w,Rel m B x a w→∀ Q:Exit→Act→World→Prop,(∀ a' w',Reach m B x.2.1.n w x' a' w'→Q .normal a' w')→(Code.region id ops true).wp T.P Q a w:=by
 unfold Z4C at hs;split at hs
 ·rename_i hc;simp only[Xh,List.all_eq_true,Zl] at hc;obtain⟨hsel,hlow⟩:=hc;split at hs
  ·rename_i y ys L1 hd;cases hs;have hcs:Zx (Zzo T.P x.2.1.n ds (y::ys)++L1.cs):=hL.1;obtain⟨hk,hcs1⟩:=Za1 hcs;have ok1:L1.ok:=⟨hcs1,fun e he=>hL.2.1 e (List.mem_append_right _ he),hL.2.2⟩;obtain⟨h1,_,h3⟩:=Zub hT hC hsel _ _ _ _ _ _ hd ok1;refine⟨h1,fun m B a w R Q hQ=> ?_⟩;have hall:∀ l∈y::ys,stS (ZbF T.P x.2.1.n 0 ds l).1 rest=stS (ZbF T.P x.2.1.n 0 ds y).1 rest:=fun l hl=>by
    rcases List.mem_cons.1 hl with rfl | hl
    ·rfl
    ·exact hL.2.1 (stS (ZbF T.P x.2.1.n 0 ds l).1 rest,stS (ZbF T.P x.2.1.n 0 ds y).1 rest) (List.mem_append_left _ (List.mem_map.2 ⟨l,hl,rfl⟩))
   have E1:Emb m B x.2.1 {w with drawn:=w.drawn+1}:=⟨R.emb.len,R.emb.lies,R.emb.low,R.emb.ros,R.emb.inj,R.emb.wf,R.emb.base,R.emb.ice,R.emb.abs⟩;have hh:=h3 m {w with drawn:=w.drawn+1} B ⟨E1,hlow⟩ m (Agree.refl _ _) a {w with drawn:=w.drawn+1} ⟨R.tmps,R.dfr,E1,R.wf⟩ (Nat.le_refl _) (fun b _ y hy hty=>E1.lies b y hy hty)
    (fun e a' w'=>e= .normal∧Reach m B x.2.1.n w (stS (ZbF T.P x.2.1.n 0 ds y).1 rest) a' w') (fun c a w h=>by cases h.1) fun l hl a' w' hR=>
     ⟨rfl,hall l hl ▸ (Zbo ds 0 (Zgq hk l hl) (Reach.trans (w:=w) (w':={w with drawn:=w.drawn+1}) (Agree.refl _ _) (Below.mk rfl rfl rfl (Nat.le_refl _) (fun _ _=>rfl)) (Nat.le_refl _) hR)).stS rest⟩
   exact wp_mono (wp_region_held hT.mixed hh) (fun e a' w' h=>by obtain⟨rfl,h⟩:=h;exact hQ _ _ h)
  ·cases hs
 ·cases hs
def Z4D (T:Tab) (call:ZbZ) (ops:Array Oper) (draw:Bool) (x:Lf) (L:Lg):Option (Lf×Lg):=
 match draw with
 | false=>Zlc T call ops ops.toList x L
 | true=>
  match x.2.2 with
  | .inr (.inr (.inr (.inr (.inl ())))):: .inr (.inl c):: .inr (.inr (.inr (.inr (.inl ())))):: .inr (.inl k):: .inr (.inr (.inr (.inr (.inl ()))))::s=>
   Z4C T call ops (Zll c.toNat s).1 (Zp3 k.toNat (Zll c.toNat s).2).1 (Zp3 k.toNat (Zll c.toNat s).2).2 x L
  | _=>
  if (Region.noSelect ops && (Zpv ops.toList x.1 x.2.1).all (fun b=>Nat.blt b x.2.1.n))=true then
   match dfs T call ops (Zpv ops.toList x.1 x.2.1) x.2.1 ops.size (Array.replicate ops.size false) x L with
   | some (y::ys,L')=>some (Zbn ops.toList x.2.1.n y,⟨L'.cs,ys.map (fun z=>(Zbn ops.toList x.2.1.n z,Zbn ops.toList x.2.1.n y))++L'.es,L'.bs⟩)
   | _=>none
  else none
theorem Zue {T:Tab}(hT:TabOk T) {call:ZbZ}(hC:Zds T call) {ops:Array Oper}{draw:Bool}{id:Nat}{x x':Lf}{L L':Lg}(hs:Z4D T call ops draw x L=some (x',L')) (hL:L'.ok):
  L.ok∧∀ m B a w,Rel m B x a w→∀ Q:Exit→Act→World→Prop,(∀ a' w',Reach m B x.2.1.n w x' a' w'→Q .normal a' w')→(Code.region id ops draw).wp T.P Q a w:=by
 unfold Z4D at hs;split at hs
 ·obtain⟨h1,h2⟩:=Zpx hT hC ops.toList 0 (by simp) x x' L L' hs hL;refine⟨h1,fun m B a w R Q hQ=>wp_region ?_⟩;have:=h2 m B a w R Q hQ;rw[← List.range_eq_range'] at this;simpa using this
 ·split at hs
  ·exact Zud hT hC hs hL
  ·split at hs
   ·rename_i hc;simp only[Xh,List.all_eq_true,Zl] at hc;obtain⟨hsel,hlow⟩:=hc;split at hs
    ·rename_i y ys L1 hd;cases hs;have ok1:L1.ok:=⟨hL.1,fun e he=>hL.2.1 e (List.mem_append_right _ he),hL.2.2⟩;obtain⟨h1,_,h3⟩:=Zzk hT hC hsel _ _ _ _ _ _ hd ok1;refine⟨h1,fun m B a w R Q hQ=> ?_⟩;have hall:∀ l∈y::ys,Zbn ops.toList x.2.1.n l=Zbn ops.toList x.2.1.n y:=fun l hl=>by
      rcases List.mem_cons.1 hl with rfl | hl
      ·rfl
      ·exact hL.2.1 (Zbn ops.toList x.2.1.n l,Zbn ops.toList x.2.1.n y) (List.mem_append_left _ (List.mem_map.2 ⟨l,hl,rfl⟩))
     have E1:Emb m B x.2.1 {w with drawn:=w.drawn+1}:=⟨R.emb.len,R.emb.lies,R.emb.low,R.emb.ros,R.emb.inj,R.emb.wf,R.emb.base,R.emb.ice,R.emb.abs⟩;have hh:=h3 m {w with drawn:=w.drawn+1} B ⟨E1,hlow⟩ m (Agree.refl _ _) a {w with drawn:=w.drawn+1} ⟨R.tmps,R.dfr,E1,R.wf⟩ (Nat.le_refl _) (fun b _ y hy hty=>E1.lies b y hy hty)
      (fun e a' w'=>e= .normal∧Reach m B x.2.1.n w (Zbn ops.toList x.2.1.n y) a' w') (fun c a w h=>by cases h.1) fun l hl a' w' hR=>
       ⟨rfl,hall l hl ▸ Zht<| Reach.trans (w':={w with drawn:=w.drawn+1}) (Agree.refl _ _) (Below.mk rfl rfl rfl (Nat.le_refl _) (fun _ _=>rfl)) (Nat.le_refl _) hR⟩
     exact wp_mono (wp_region_held hT.mixed hh) (fun e a' w' h=>by obtain⟨rfl,h⟩:=h;exact hQ _ _ h)
    ·cases hs
   ·cases hs
abbrev Ex:=Option (Option Nat)
def out:Ex→Exit
 | none=> .normal
 | some (some id)=> .exit id
 | some none=> .ret
def Z4E (P:Program) (t:List Value) (h:Hp):ResultVar→Option Value
 | .tmp i=>some (t.getD i undef)
 | .cell i ty=>
  match t.getD i undef with
  | .pointer (some a)=>ZjA P ty a h
  | _=>none
def ZyH (P:Program) (t:List Value) (h:Hp):List ResultVar→Option (List Value)
 | []=>some []
 | r::rs=>
  match Z4E P t h r with
  | some v=>
   match ZyH P t h rs with
   | some vs=>some (v::vs)
   | none=>none
  | none=>none
def ZV (P:Program) (F:Func) (t:List Value) (h:Hp):Option Value:=
 match ZyH P t h F.results.toList with
 | some [v]=>some v
 | some vs=>if (vs.all noT)=true then some (.tuple vs.toArray) else none
 | none=>none
theorem Zlm {m:Mp}(t:List Value) (i:Nat):(t.map (mv m)).toArray.getD i undef=mv m (t.getD i undef):=by
 simp only[List.getD];cases h:t[i]? with
 | none=>simp [h,zu]
 | some v=>simp [h]
theorem Zit {m:Mp}{B:Nat}{P:Program}{t:List Value}{h:Hp}{w:World}(E:Emb m B h w) (ht:∀ v∈t,lt h.n v=true):∀ (rs:List ResultVar) (vs:List Value),ZyH P t h rs=some vs→
  (rs.mapM (m:=Sem) fun
   | .tmp i=>pure ((t.map (mv m)).toArray.getD i undef)
   | .cell i ty=>do loadVar ty (← asAddr ((t.map (mv m)).toArray.getD i undef))).run P w= .ok (vs.map (mv m)) w∧∀ v∈vs,lt h.n v=true
 | [],vs,hs=>by
  simp only[ZyH] at hs;cases hs;exact⟨by simp,by simp⟩
 | r::rs,vs,hs=>by
  simp only[ZyH] at hs;split at hs
  ·rename_i v hv;split at hs
   ·rename_i vs' hvs;cases hs;obtain⟨h1,h2⟩:=Zit E ht rs vs' hvs;rw[List.mapM_cons];cases r with
    | tmp i=>
     simp only[Z4E] at hv;cases hv;refine⟨?_,fun y hy=> ?_⟩
     ·simp only[Zlm] at h1 ⊢;simp only[Sem.run_bind,Sem.run_pure,Result.andThen_ok,h1,List.map_cons]
     ·rcases List.mem_cons.1 hy with rfl | hy
      ·simp only[List.getD];cases hh:t[i]? with
       | none=>simp [undef,lt]
       | some u=>exact ht u (List.mem_of_getElem? hh)
      ·exact h2 y hy
    | cell i ty=>
     simp only[Z4E] at hv;split at hv
     ·rename_i a ha;obtain⟨g1,g2⟩:=Zgl (P:=P) E hv;refine⟨?_,fun y hy=> ?_⟩
      ·have e:mv m (Value.pointer (some a))= .pointer (some (mvA m a)):=rfl;have g3:(loadVar ty (mvA m a)).run P w= .ok (mv m v) w:=by
        simpa [Instr.loadAt,Instr.sureAddr] using g1
       simp only[Zlm] at h1 ⊢;have g4:(asAddr (.pointer (some (mvA m a)))).run P w= .ok (mvA m a) w:=rfl;simp only[Sem.run_bind,Sem.run_pure,Result.andThen_ok,h1,ha,e,g4,g3,List.map_cons]
      ·rcases List.mem_cons.1 hy with rfl | hy
       ·exact g2
       ·exact h2 y hy
     ·cases hv
   ·cases hs
  ·cases hs
theorem Zp4 {m:Mp}{vs:List Value}(h:(vs.all noT)=true):mv m (.tuple vs.toArray)= .tuple (vs.map (mv m)).toArray:=by
 simp only[mv,List.map_toArray];congr 2;refine List.map_congr_left fun v hv=> ?_;have:=List.all_eq_true.1 h v hv;cases v<;>simp_all [noT,mv]
theorem Zah {m:Mp}{B:Nat}{P:Program}{F:Func}{t:List Value}{h:Hp}{w:World}{v:Value}(E:Emb m B h w) (ht:∀ v∈t,lt h.n v=true) (hs:ZV P F t h=some v):
  (results F (t.map (mv m)).toArray).run P w= .ok (mv m v) w∧lt h.n v=true:=by
 unfold ZV at hs;have key:∀ vs,ZyH P t h F.results.toList=some vs→(results F (t.map (mv m)).toArray).run P w= .ok (if hh:(vs.map (mv m)).toArray.size=1 then (vs.map (mv m)).toArray[0] else .tuple (vs.map (mv m)).toArray) w∧∀ v∈vs,lt h.n v=true:=by
  intro vs hvs;obtain⟨h1,h2⟩:=Zit E ht F.results.toList vs hvs;refine⟨?_,h2⟩;unfold results;have e:F.results=F.results.toList.toArray:=by simp
  rw[e];rw[List.mapM_toArray];simp only[Sem.run_bind,Sem.run_map,Sem.run_pure]
  erw [h1]
  rfl
 split at hs
 ·rename_i u hu;cases hs;obtain⟨h1,h2⟩:=key _ hu;exact⟨by simpa using h1,h2 _ (by simp)⟩
 ·rename_i vs hne hu;split at hs
  ·rename_i hall;cases hs;obtain⟨h1,h2⟩:=key _ hu;have hlen:¬ (vs.map (mv m)).toArray.size=1:=by
    intro hl;simp only[List.size_toArray,List.length_map] at hl;obtain⟨u,hu'⟩:=List.length_eq_one_iff.1 hl;exact hne u hu'
   rw[dif_neg hlen] at h1;refine⟨by rw[h1,Zp4 hall],?_⟩;simp only[lt,List.all_eq_true];intro y hy;have h3:=h2 y hy;have h4:=List.all_eq_true.1 hall y hy;cases y<;>simp_all [lt,noT]
  ·cases hs
 ·cases hs
def Zgr (T:Tab) (evc:Code→Lf→Lg→Option (Ex×Lf×Lg)):ZbZ:=fun f vals h s L=>
 match T.fn f with
 | none=>none
 | some F=>
  match F.body with
  | none=>none
  | some c=>
   match evc c (vals++List.replicate (F.ntmps-vals.length) undef,h,s) L with
   | some (some (some _),_,_)=>none
   | some (_,x,L')=>
    match ZV T.P F x.1 x.2.1 with
    | some v=>some (v,x.2.1,x.2.2,L')
    | none=>none
   | none=>none
def evC (T:Tab):Nat→Bool→Code→Lf→Lg→Option (Ex×Lf×Lg)
 | 0,_,_,_,_=>none
 | n+1,true,c,x,L=>
  match evC T n false c x L with
  | some (none,x',L')=>evC T n true c x' L'
  | r=>r
 | n+1,false,c,x,L=>
  match c with
  | .skip=>some (none,x,L)
  | .label _=>some (none,x,L)
  | .region _ ops draw=>
   match Z4D T (Zgr T (evC T n false)) ops draw x L with
   | some r=>some (none,r.1,r.2)
   | none=>none
  | .seq c1 c2=>
   match evC T n false c1 x L with
   | some (none,x',L')=>evC T n false c2 x' L'
   | r=>r
  | .cond b c1 c2=>
   if okX b=true then
    match ev x.1 b with
    | .bool v=>
     match (Zcs v x.2.2).1 with
     | true=>evC T n false c1 (x.1,x.2.1,(Zcs v x.2.2).2.1) (Lg.add (Zcs v x.2.2).2.2 L)
     | false=>evC T n false c2 (x.1,x.2.1,(Zcs v x.2.2).2.1) (Lg.add (Zcs v x.2.2).2.2 L)
    | _=>none
   else none
  | .block id c=>
   match evC T n false c x L with
   | some (some (some id'),x',L')=>if id'=id then some (none,x',L') else some (some (some id'),x',L')
   | r=>r
  | .loop c=>evC T n true c x L
  | .exit id=>some (some (some id),x,L)
  | .ret=>some (some none,x,L)
  | .scope c=>evC T n false c x L
  | _=>none
def Z8s (T:Tab) (ev:Code→Lf→Lg→Option (Ex×Lf×Lg)):Prop:=∀ c x L e x' L',ev c x L=some (e,x',L')→L'.ok→L.ok∧
 ∀ m B a w,Rel m B x a w→∀ Q:Exit→Act→World→Prop,(∀ a' w',Reach m B x.2.1.n w x' a' w'→Q (out e) a' w')→c.wp T.P Q a w
def Z89 (T:Tab) (r:Nat) (ev:Code→Lf→Lg→Option (Ex×Lf×Lg)):Prop:=∀ c x L e x' L',ev c x L=some (e,x',L')→L'.ok→L.ok∧
 ∀ m B a w,Rel m B x a w→∀ Q:Exit→Act→World→Prop,(∀ a' w',Reach m B x.2.1.n w x' a' w'→Q (out e) a' w')→Code.rounds T.P c Q r a w
theorem ZdX {T:Tab}(hT:TabOk T) {evc:Code→Lf→Lg→Option (Ex×Lf×Lg)}(hE:Z8s T evc):Zds T (Zgr T evc):=by
 intro f vals h s L v h' s' L' hs hL;unfold Zgr at hs;split at hs
 ·cases hs
 ·rename_i F hF;split at hs
  ·cases hs
  ·rename_i c hc;obtain⟨hP,hN⟩:=hT.fn _ _ hF;have main:∀ e x,evc c (vals++List.replicate (F.ntmps-vals.length) undef,h,s) L=some (e,x,L')→(e=none∨e=some none)→ZV T.P F x.1 x.2.1=some v→x.2.1=h'→
     L.ok∧(∃ F,T.P.funcs[f]? =some F∧(F.name== "runtime.NumGoroutine")=false∧F.body.isSome=true)∧
     ∀ m B w,Emb m B h w→(∀ v∈vals,lt h.n v=true)→Calls T.P f (vals.map (mv m)).toArray w fun e w'=>∃ m',e= .returned (mv m' v)∧Came m B h w v h' m' w':=by
    intro e x he hex hres hh;subst hh;obtain⟨h1,h2⟩:=hE _ _ _ _ _ _ he hL;refine⟨h1,⟨F,hP,hN,by simp [hc]⟩,fun m B w E hv=>calls_of_wp hP hc ?_⟩;have R:Rel m B (vals++List.replicate (F.ntmps-vals.length) undef,h,s) {tmps:=(vals.map (mv m)).toArray++Array.replicate (F.ntmps-(vals.map (mv m)).toArray.size) undef,defers:=[]} w:=by
     refine⟨?_,rfl,E,?_⟩
     ·simp [zu]
     ·intro y hy;rcases List.mem_append.1 hy with hy | hy
      ·exact hv y hy
      ·rw[List.eq_of_mem_replicate hy];simp [undef,lt]
    refine h2 m B _ w R _ fun a' w' hR=> ?_;obtain⟨m',k1,k2,k3,k4⟩:=hR;obtain⟨r1,r2⟩:=Zah k2.emb k2.wf hres;rw[← k2.tmps] at r1;have post:a'.defers=[]∧∃ v',(results F a'.tmps).run T.P w'= .ok v' w'∧∃ m',Ending.returned v'= .returned (mv m' v)∧Came m B h w v x.2.1 m' w':=
     ⟨k2.dfr,_,r1,m',rfl,⟨k1,k2.emb,k3,k4,r2⟩⟩
    rcases hex with rfl | rfl<;>exact post
   split at hs
   ·cases hs
   ·rename_i e x L1 hne he;split at hs
    ·rename_i u hu;cases hs;refine main e x he ?_ hu rfl
     match e,hne with
     | none,_=>exact .inl rfl
     | some none,_=>exact .inr rfl
     | some (some id),hne=>exact absurd rfl (hne id)
    ·cases hs
   ·cases hs
theorem Zgs {T:Tab}(hT:TabOk T):∀ n,Z8s T (evC T n false)∧Z89 T n (evC T n true):=by
 intro n
 induction n with
 | zero=>exact⟨fun c x L e x' L' h=>by simp [evC] at h,fun c x L e x' L' h=>by simp [evC] at h⟩
 | succ n ih=>
  obtain⟨ihE,ihR⟩:=ih;refine⟨?_,?_⟩
  ·intro c x L e x' L' h hL;cases c with
   | skip=>
    simp only[evC] at h;cases h;exact⟨hL,fun m B a w R Q hQ=>wp_skip (hQ _ _ ⟨m,Agree.refl _ _,R,Below.refl _ _,Nat.le_refl _⟩)⟩
   | label l=>
    simp only[evC] at h;cases h;exact⟨hL,fun m B a w R Q hQ=>wp_label (hQ _ _ ⟨m,Agree.refl _ _,R,Below.refl _ _,Nat.le_refl _⟩)⟩
   | region id ops draw=>
    simp only[evC] at h;split at h
    ·rename_i r hr;cases h;exact Zue (x':=r.1) (L':=r.2) hT (ZdX hT ihE) hr hL
    ·cases h
   | seq c1 c2=>
    simp only[evC] at h;split at h
    ·rename_i x1 L1 h1;obtain⟨g1,g2⟩:=ihE _ _ _ _ _ _ h hL;obtain⟨g3,g4⟩:=ihE _ _ _ _ _ _ h1 g1;refine⟨g3,fun m B a w R Q hQ=>wp_seq (g4 m B a w R _ fun a' w' hR=> ?_)⟩;obtain⟨m',k1,k2,k3,k4⟩:=hR;exact g2 m' B a' w' k2 Q fun a'' w'' hR'=>hQ _ _ (Reach.trans k1 k3 k4 hR')
    ·rename_i hne;obtain⟨g3,g4⟩:=ihE _ _ _ _ _ _ h hL;refine⟨g3,fun m B a w R Q hQ=>wp_seq (g4 m B a w R _ fun a' w' hR=> ?_)⟩;have:=hQ a' w' hR
     match e,h,this with
     | none,h,_=>exact absurd h (hne x' L')
     | some (some id),_,this=>exact this
     | some none,_,this=>exact this
   | cond b c1 c2=>
    simp only[evC] at h;split at h
    ·rename_i hb;split at h
     ·rename_i v hv;split at h
      ·rename_i hp;obtain⟨g1,g2⟩:=ihE _ _ _ _ _ _ h hL;obtain⟨l1,l2⟩:=Lg.add_ok g1;have e1:=Zd6 l1;rw[hp] at e1;refine⟨l2,fun m B a w R Q hQ=> ?_⟩;have hev:a.eval b= .bool true:=by rw[Z1 R.tmps hb,hv,← e1];rfl
       exact wp_cond_true hev (g2 m B a w ⟨R.tmps,R.dfr,R.emb,R.wf⟩ Q hQ)
      ·rename_i hp;obtain⟨g1,g2⟩:=ihE _ _ _ _ _ _ h hL;obtain⟨l1,l2⟩:=Lg.add_ok g1;have e1:=Zd6 l1;rw[hp] at e1;refine⟨l2,fun m B a w R Q hQ=> ?_⟩;have hev:a.eval b= .bool false:=by rw[Z1 R.tmps hb,hv,← e1];rfl
       exact wp_cond_false hev (g2 m B a w ⟨R.tmps,R.dfr,R.emb,R.wf⟩ Q hQ)
     ·cases h
    ·cases h
   | block id c=>
    simp only[evC] at h;split at h
    ·rename_i id' x1 L1 h1;split at h
     ·rename_i hid;cases h;obtain⟨g3,g4⟩:=ihE _ _ _ _ _ _ h1 hL;refine⟨g3,fun m B a w R Q hQ=>wp_block (g4 m B a w R _ fun a' w' hR=> ?_)⟩;simp only[out,Exit.inBlock,hid,if_true];exact hQ a' w' hR
     ·rename_i hid;cases h;obtain⟨g3,g4⟩:=ihE _ _ _ _ _ _ h1 hL;refine⟨g3,fun m B a w R Q hQ=>wp_block (g4 m B a w R _ fun a' w' hR=> ?_)⟩;simp only[out,Exit.inBlock,hid,if_false];exact hQ a' w' hR
    ·rename_i hne;obtain⟨g3,g4⟩:=ihE _ _ _ _ _ _ h hL;refine⟨g3,fun m B a w R Q hQ=>wp_block (g4 m B a w R _ fun a' w' hR=> ?_)⟩;have:=hQ a' w' hR
     match e,h,this with
     | none,_,this=>exact this
     | some (some id'),h,_=>exact absurd h (hne id' x' L')
     | some none,_,this=>exact this
   | loop c=>
    simp only[evC] at h;obtain⟨g1,g2⟩:=ihR _ _ _ _ _ _ h hL;refine⟨g1,fun m B a w R Q hQ=> ?_⟩;exact wp_loop_rounds n (g2 m B a w R Q hQ)
   | exit id=>
    simp only[evC] at h;cases h;exact⟨hL,fun m B a w R Q hQ=>wp_exit (hQ _ _ ⟨m,Agree.refl _ _,R,Below.refl _ _,Nat.le_refl _⟩)⟩
   | ret=>
    simp only[evC] at h;cases h;exact⟨hL,fun m B a w R Q hQ=>wp_ret (hQ _ _ ⟨m,Agree.refl _ _,R,Below.refl _ _,Nat.le_refl _⟩)⟩
   | scope c=>
    simp only[evC] at h;obtain⟨g3,g4⟩:=ihE _ _ _ _ _ _ h hL;refine⟨g3,fun m B a w R Q hQ=>wp_scope_straight (g4 m B a w R _ fun a' w' hR=> ?_)⟩;have:=hQ a' w' hR
    match e,this with
    | none,this=>exact this
    | some (some id),this=>exact this
    | some none,this=>exact this
   | rangeFunc f ps ar b=>simp [evC] at h
   | goto l=>simp [evC] at h
   | refuse why=>simp [evC] at h
  ·intro c x L e x' L' h hL;simp only[evC] at h;split at h
   ·rename_i x1 L1 h1;obtain⟨g1,g2⟩:=ihR _ _ _ _ _ _ h hL;obtain⟨g3,g4⟩:=ihE _ _ _ _ _ _ h1 g1;refine⟨g3,fun m B a w R Q hQ=> ?_⟩;rw[rounds_succ];refine g4 m B a w R _ fun a' w' hR=> ?_;obtain⟨m',k1,k2,k3,k4⟩:=hR;exact g2 m' B a' w' k2 Q fun a'' w'' hR'=>hQ _ _ (Reach.trans k1 k3 k4 hR')
   ·rename_i hne;obtain⟨g3,g4⟩:=ihE _ _ _ _ _ _ h hL;refine⟨g3,fun m B a w R Q hQ=> ?_⟩;rw[rounds_succ];refine g4 m B a w R _ fun a' w' hR=> ?_;have:=hQ a' w' hR
    match e,h,this with
    | none,h,_=>exact absurd h (hne x' L')
    | some (some id),_,this=>exact this
    | some none,_,this=>exact this
def Zr (T:Tab) (n:Nat) (f:Nat) (vals:List Value) (s:List Dec):Option (Value×Hp×List Dec×Lg):=Zgr T (evC T n false) f vals ⟨0,[]⟩ s ⟨[],[],[]⟩
theorem Zgt {T:Tab}(hT:TabOk T) {n f:Nat}{vals:List Value}{s s':List Dec}{v:Value}{h':Hp}{L:Lg}(hs:Zr T n f vals s=some (v,h',s',L)) (hL:L.ok) (hvals:(vals.all (lt 0))=true) (hv:lt 0 v=true) (w:World):
  Calls T.P f vals.toArray w fun e w'=>e= .returned v∧Za0 w w':=by
 obtain⟨_,_,h3⟩:=ZdX hT (Zgs hT n).1 _ _ _ _ _ _ _ _ _ hs hL;have E:Emb (fun b=>(b,0)) w.heap.size ⟨0,[]⟩ w:=
  Emb.none w
 have hst:∀ y∈vals,lt 0 y=true:=List.all_eq_true.1 hvals;have e:vals.map (mv fun b=>(b,0))=vals:=(List.map_congr_left fun y hy=>ZA (hst y hy)).trans (List.map_id' _);have:=h3 _ _ w E hst;rw[e] at this;refine this.mono fun en w' he=> ?_;obtain⟨m',rfl,C⟩:=he;exact⟨by rw[ZA hv],C.below,fun k h1 h2=>C.emb.ice k h1 h2⟩
def ZD (r:Option (Value×Hp×List Dec×Lg)) (v:Value) (cs:Log):Prop:=
 r.map (fun r=>r.1)=some v∧r.map (fun r=>r.2.2.2.cs)=some cs∧r.map (fun r=>r.2.2.2.es.map Prod.fst)=r.map (fun r=>r.2.2.2.es.map Prod.snd)∧r.map (fun r=>r.2.2.2.bs.map Prod.fst)=r.map (fun r=>r.2.2.2.bs.map Prod.snd)
theorem Zcv {α:Type}:∀ (l:List (α×α)),l.map Prod.fst=l.map Prod.snd→∀ x∈l,x.1=x.2
 | [],_,x,hx=>by cases hx
 | y::l,h,x,hx=>by
  simp only[List.map_cons,List.cons.injEq] at h;rcases List.mem_cons.1 hx with rfl | hx
  ·exact h.1
  ·exact Zcv l h.2 x hx
theorem Ze {T:Tab}(hT:TabOk T) {n f:Nat}{vals:List Value}{s:List Dec}{v:Value}{cs:Log}(hF:ZD (Zr T n f vals s) v cs) (hcs:Zx cs) (hvals:(vals.all (lt 0))=true) (hv:lt 0 v=true) (w:World):
  Calls T.P f vals.toArray w fun e w'=>e= .returned v∧Za0 w w':=by
 obtain⟨h1,h2,h3,h4⟩:=hF;cases hr:Zr T n f vals s with
 | none=>rw[hr] at h1;cases h1
 | some r=>
  rw[hr] at h1 h2 h3 h4;simp only[Option.map_some,Option.some.injEq] at h1 h2 h3 h4;obtain⟨v',h',s',L⟩:=r;simp only at h1 h2 h3 h4;subst h1;exact Zgt hT hr ⟨by rw[h2];exact hcs,Zcv _ h3,Zcv _ h4⟩ hvals hv w
def Runs (T:Tab) (c:Code) (x:Lf) (Post:Ex→Lf→Prop):Prop:=
 ∀ m B a w,Rel m B x a w→∀ Q:Exit→Act→World→Prop,(∀ e y,Post e y→∀ a' w',Reach m B x.2.1.n w y a' w'→Q (out e) a' w')→c.wp T.P Q a w
theorem Runs.mono {T:Tab}{c:Code}{x:Lf}{P P':Ex→Lf→Prop}(h:Runs T c x P) (hp:∀ e y,P e y→P' e y):Runs T c x P':=
 fun m B a w R Q hQ=>h m B a w R Q fun e y he=>hQ e y (hp e y he)
theorem Runs.script {T:Tab}{c:Code}{t:List Value}{h:Hp}{s s':List Dec}{P:Ex→Lf→Prop}(hr:Runs T c (t,h,s) P):Runs T c (t,h,s') P:=
 fun m B a w R Q hQ=>hr m B a w ⟨R.tmps,R.dfr,R.emb,R.wf⟩ Q hQ
theorem Runs.ev {T:Tab}(hT:TabOk T) {n:Nat}{c:Code}{x x':Lf}{e:Ex}{L:Lg}(h:evC T n false c x ⟨[],[],[]⟩=some (e,x',L)) (hL:L.ok):Runs T c x fun e' y=>e'=e∧y=x':=
 fun m B a w R Q hQ=>((Zgs hT n).1 c x _ e x' L h hL).2 m B a w R Q fun a' w' hR=>hQ e x' ⟨rfl,rfl⟩ a' w' hR
theorem Runs.seq {T:Tab}{c1 c2:Code}{x:Lf}{P1 P:Ex→Lf→Prop}(h1:Runs T c1 x P1) (h2:∀ y,P1 none y→Runs T c2 y P) (h3:∀ e y,P1 (some e) y→P (some e) y):Runs T (.seq c1 c2) x P:=by
 intro m B a w R Q hQ;refine wp_seq (h1 m B a w R _ fun e y he a' w' hR=> ?_)
 match e,he with
 | none,he=>
  obtain⟨m',k1,k2,k3,k4⟩:=hR;exact h2 y he m' B a' w' k2 Q fun e' y' he' a'' w'' hR'=>hQ e' y' he' a'' w'' (Reach.trans k1 k3 k4 hR')
 | some none,he=>exact hQ _ _ (h3 none y he) a' w' hR
 | some (some id),he=>exact hQ _ _ (h3 (some id) y he) a' w' hR
theorem Runs.block {T:Tab}{c:Code}{id:Nat}{x:Lf}{P1 P:Ex→Lf→Prop}(h1:Runs T c x P1) (h2:∀ y,P1 none y→P none y) (h3:∀ y,P1 (some none) y→P (some none) y)
  (h4:∀ y,P1 (some (some id)) y→P none y) (h5:∀ id' y,id'≠id→P1 (some (some id')) y→P (some (some id')) y):Runs T (.block id c) x P:=by
 intro m B a w R Q hQ;refine wp_block (h1 m B a w R _ fun e y he a' w' hR=> ?_)
 match e,he with
 | none,he=>exact hQ _ _ (h2 y he) a' w' hR
 | some none,he=>exact hQ _ _ (h3 y he) a' w' hR
 | some (some id'),he=>
  simp only[out,Exit.inBlock];by_cases hid:id'=id
  ·subst hid;rw[if_pos rfl];exact hQ _ _ (h4 y he) a' w' hR
  ·rw[if_neg hid];exact hQ _ _ (h5 id' y hid he) a' w' hR
theorem Runs.loop {T:Tab}{c:Code}{P:Ex→Lf→Prop}(Inv:Nat→Lf→Prop) (round:∀ n x,Inv n x→Runs T c x fun e y=>match e with | none=>∃ n',n'<n∧Inv n' y | some e=>P (some e) y) {n:Nat}{x:Lf}(h0:Inv n x):
  Runs T (.loop c) x P:=by
 have key:∀ N n x,n<N→Inv n x→∀ m B a w,Rel m B x a w→∀ Q:Exit→Act→World→Prop,(∀ e y,P e y→∀ a' w',Reach m B x.2.1.n w y a' w'→Q (out e) a' w')→Code.rounds T.P c Q N a w:=by
  intro N
  induction N with
  | zero=>intro n x hn;omega
  | succ N ih=>
   intro n x hn hI m B a w R Q hQ;rw[rounds_succ];refine round n x hI m B a w R _ fun e y he a' w' hR=> ?_
   match e,he with
   | none,he=>
    obtain⟨n',hn',hI'⟩:=he;obtain⟨m',k1,k2,k3,k4⟩:=hR;exact ih n' y (by omega) hI' m' B a' w' k2 Q fun e' y' he' a'' w'' hR'=>hQ e' y' he' a'' w'' (Reach.trans k1 k3 k4 hR')
   | some none,he=>exact hQ _ _ he a' w' hR
   | some (some id),he=>exact hQ _ _ he a' w' hR
 intro m B a w R Q hQ;exact wp_loop_rounds (n+1) (key (n+1) n x (by omega) h0 m B a w R Q hQ)
theorem Zai {T:Tab}{f:Nat}{F:Func}{c:Code}(hF:T.P.funcs[f]? =some F) (hc:F.body=some c) {vals:List Value}{v:Value}(hvals:(vals.all (lt 0))=true) (hv:lt 0 v=true)
  (h:Runs T c (vals++List.replicate (F.ntmps-vals.length) undef,⟨0,[]⟩,[]) fun e y=>(e=none∨e=some none)∧ZV T.P F y.1 y.2.1=some v) (w:World):
  Calls T.P f vals.toArray w fun e w'=>e= .returned v∧Za0 w w':=by
 have E:Emb (fun b=>(b,0)) w.heap.size ⟨0,[]⟩ w:=
  Emb.none w
 have hst:∀ y∈vals,lt 0 y=true:=List.all_eq_true.1 hvals;have e0:vals.map (mv fun b=>(b,0))=vals:=(List.map_congr_left fun y hy=>ZA (hst y hy)).trans (List.map_id' _);refine calls_of_wp hF hc ?_;have R:Rel (fun b=>(b,0)) w.heap.size (vals++List.replicate (F.ntmps-vals.length) undef,⟨0,[]⟩,[]) {tmps:=vals.toArray++Array.replicate (F.ntmps-vals.toArray.size) undef,defers:=[]} w:=by
  refine⟨?_,rfl,E,?_⟩
  ·simp [zu,e0]
  ·intro y hy;rcases List.mem_append.1 hy with hy | hy
   ·exact hst y hy
   ·rw[List.eq_of_mem_replicate hy];simp [undef,lt]
 refine h _ _ _ w R _ fun e y he a' w' hR=> ?_;obtain⟨hex,hres⟩:=he;obtain⟨m',k1,k2,k3,k4⟩:=hR;obtain⟨r1,r2⟩:=Zah k2.emb k2.wf hres;rw[← k2.tmps,ZA hv] at r1;have post:a'.defers=[]∧∃ v',(results F a'.tmps).run T.P w'= .ok v' w'∧(Ending.returned v'= .returned v∧Za0 w w'):=
  ⟨k2.dfr,_,r1,rfl,k3,fun k h1 h2=>k2.emb.ice k h1 h2⟩
 rcases hex with rfl | rfl<;>exact post
def Z2:Code→Code
 | .seq a _=>a
 | c=>c
def Z0:Code→Code
 | .seq _ b=>b
 | c=>c
def cIn:Code→Code
 | .block _ c=>c
 | .loop c=>c
 | .scope c=>c
 | c=>c
def Zs (F:Func):Code:=F.body.getD .skip
def ZW:List Code→Code→Code
 | [],X=>X
 | c::cs,X=> .seq c (ZW cs X)
def evL (T:Tab) (n:Nat):List Code→Lf→Lg→Option (Ex×Lf×Lg)
 | [],x,L=>some (none,x,L)
 | c::cs,x,L=>
  match evC T n false c x L with
  | some (none,x',L')=>evL T n cs x' L'
  | _=>none
theorem ZsQ {T:Tab}(hT:TabOk T) {n:Nat}{X:Code}{P:Ex→Lf→Prop}:∀ (cs:List Code) (x x':Lf) (L L':Lg) (e:Ex),evL T n cs x L=some (e,x',L')→L'.ok→L.ok∧e=none∧(Runs T X x' P→Runs T (ZW cs X) x P)
 | [],x,x',L,L',e,h,hL=>by
  simp only[evL] at h;cases h;exact⟨hL,rfl,id⟩
 | c::cs,x,x',L,L',e,h,hL=>by
  simp only[evL] at h;split at h
  ·rename_i x1 L1 h1;obtain⟨g1,g2,g3⟩:=ZsQ hT cs x1 x' L1 L' e h hL;obtain⟨g4,g5⟩:=(Zgs hT n).1 _ _ _ _ _ _ h1 g1;refine⟨g4,g2,fun hX m B a w R Q hQ=>wp_seq (g5 m B a w R _ fun a' w' hR=> ?_)⟩;obtain⟨m',k1,k2,k3,k4⟩:=hR;exact g3 hX m' B a' w' k2 Q fun e' y' he' a'' w'' hR'=>hQ e' y' he' a'' w'' (Reach.trans k1 k3 k4 hR')
  ·cases h
def tl (n:Nat) (g:Nat→Value):List Value:=(List.range n).map g
theorem Zgu {J:List Value}{n:Nat}(h:J.length=n):∃ g,J=tl n g:=by
 refine⟨fun i=>J.getD i undef,?_⟩;unfold tl;refine List.ext_getElem (by simp [h]) fun i h1 h2=> ?_;simp [h1]
def Zg (r:Option (Ex×Lf×Lg)) (k n:Nat) (e:Ex) (front:List Value) (h:Hp) (cs:Log):Prop:=
 r.map (fun r=>(r.1,r.2.1.1.take k,(r.2.1.1.drop k).length,r.2.1.2.1,r.2.2.cs))=some (e,front,n,h,cs)∧
  r.map (fun r=>r.2.2.es.map Prod.fst)=r.map (fun r=>r.2.2.es.map Prod.snd)∧r.map (fun r=>r.2.2.bs.map Prod.fst)=r.map (fun r=>r.2.2.bs.map Prod.snd)
def GoesE (r:Option (Ex×Lf×Lg)) (k n:Nat) (e:Ex) (front:List Value) (h:Hp) (cs:Log):Prop:=
 r.map (fun r=>(r.1,r.2.1.1.take k,(r.2.1.1.drop k).length,r.2.1.2.1,r.2.2.cs,r.2.2.es,r.2.2.bs))=some (e,front,n,h,cs,[],[])
theorem GoesE.t {r:Option (Ex×Lf×Lg)}{k n:Nat}{e:Ex}{front:List Value}{h:Hp}{cs:Log}(hG:GoesE r k n e front h cs):Zg r k n e front h cs:=by
 unfold GoesE at hG;cases r with
 | none=>cases hG
 | some r=>
  simp only[Option.map_some,Option.some.injEq,Prod.mk.injEq] at hG;obtain⟨h1,h2,h3,h4,h5,h6,h7⟩:=hG;refine⟨?_,?_,?_⟩
  ·rw[Option.map_some,h1,h2,h3,h4,h5]
  ·simp [h6]
  ·simp [h7]
theorem ZcU {r:Option (Ex×Lf×Lg)}{k n:Nat}{e:Ex}{front:List Value}{h:Hp}{cs:Log}(hG:Zg r k n e front h cs) (hcs:Zx cs):∃ g s L,r=some (e,(front++tl n g,h,s),L)∧L.ok:=by
 obtain⟨h1,h5,h6⟩:=hG;cases r with
 | none=>cases h1
 | some r=>
  simp only[Option.map_some,Option.some.injEq,Prod.mk.injEq] at h1 h5 h6;obtain⟨e',⟨t',h',s'⟩,L⟩:=r;simp only at h1 h5 h6;obtain⟨h1,h2,h3,h4,h7⟩:=h1;subst h1 h4;obtain⟨g,hg⟩:=Zgu h3;refine⟨g,s',L,?_,by rw[h7];exact hcs,Zcv _ h5,Zcv _ h6⟩;rw[← h2,← hg,List.take_append_drop]
theorem Zc {T:Tab}(hT:TabOk T) {N:Nat}{c:Code}{t:List Value}{h h':Hp}{s s0:List Dec}{k n:Nat}{e:Ex}{front:List Value}{cs:Log}(hG:Zg (evC T N false c (t,h,s) ⟨[],[],[]⟩) k n e front h' cs) (hcs:Zx cs):
  Runs T c (t,h,s0) fun e' y=>e'=e∧(∃ g,y.1=front++tl n g)∧y.2.1=h':=by
 obtain⟨g,s',L,hr,hL⟩:=ZcU hG hcs;refine Runs.script ((Runs.ev hT hr hL).mono fun e2 y he=> ?_);obtain⟨rfl,rfl⟩:=he;exact⟨rfl,⟨g,rfl⟩,rfl⟩
theorem Z3 {T:Tab}(hT:TabOk T) {N:Nat}{l:List Code}{X:Code}{t:List Value}{h h':Hp}{s s0:List Dec}{k n:Nat}{e:Ex}{front:List Value}{cs:Log}{P:Ex→Lf→Prop}(hG:Zg (evL T N l (t,h,s) ⟨[],[],[]⟩) k n e front h' cs) (hcs:Zx cs)
  (hX:∀ g,Runs T X (front++tl n g,h',[]) P):Runs T (ZW l X) (t,h,s0) P:=by
 obtain⟨g,s',L,hr,hL⟩:=ZcU hG hcs;obtain⟨_,_,h3⟩:=ZsQ (X:=X) (P:=P) hT l _ _ _ _ _ hr hL;exact Runs.script (h3 (Runs.script (hX g)))
theorem zi {T:Tab}{f:Nat}{F:Func}{c:Code}(hF:T.P.funcs[f]? =some F) (hc:F.body=some c) {vals:List Value}{v:Value}{h h':Hp}(hv:lt 0 v=true) (ht:h'.tight=true)
  (hr:Runs T c (vals++List.replicate (F.ntmps-vals.length) undef,h,[]) fun e y=>(e=none∨e=some none)∧ZV T.P F y.1 y.2.1=some v∧y.2.1.cut h.n=h') (m:Mp) (B:Nat) (w:World) (E:Emb m B h w) (hvals:∀ v∈vals,lt h.n v=true):
  Calls T.P f (vals.map (mv m)).toArray w fun e w'=>∃ m',e= .returned (mv m' v)∧Came m B h w v h' m' w':=by
 refine calls_of_wp hF hc ?_;have R:Rel m B (vals++List.replicate (F.ntmps-vals.length) undef,h,[]) {tmps:=(vals.map (mv m)).toArray++Array.replicate (F.ntmps-(vals.map (mv m)).toArray.size) undef,defers:=[]} w:=by
  refine⟨?_,rfl,E,?_⟩
  ·simp [zu]
  ·intro y hy;rcases List.mem_append.1 hy with hy | hy
   ·exact hvals y hy
   ·rw[List.eq_of_mem_replicate hy];simp [undef,lt]
 refine hr _ _ _ w R _ fun e y he a' w' hR=> ?_;obtain⟨hex,hres,hcut⟩:=he;obtain⟨m',k1,k2,k3,k4⟩:=hR;obtain⟨r1,r2⟩:=Zah k2.emb k2.wf hres;rw[← k2.tmps,ZA hv] at r1;have k4':h.n≤y.2.1.n:=k4;have C:Came m B h w v h' m w':=by
  subst hcut;exact⟨Agree.refl _ _,k2.emb.cut k1 k4' ht,k3,by simp [Hp.cut],zG (Nat.zero_le _) hv⟩
 have post:a'.defers=[]∧∃ v',(results F a'.tmps).run T.P w'= .ok v' w'∧∃ m',Ending.returned v'= .returned (mv m' v)∧Came m B h w v h' m' w':=
  ⟨k2.dfr,_,r1,m,by rw[ZA hv],C⟩
 rcases hex with rfl | rfl<;>exact post
theorem Runs.forLoop {T:Tab}{c:Code}{id:Nat}{x:Lf}{P:Lf→Prop}{R:Lf→Prop}(Inv:Nat→Lf→Prop)
  (round:∀ n x,Inv n x→Runs T c x fun e y=>match e with | none=>∃ n',n'<n∧Inv n' y | some none=>R y | some (some id')=>id'=id∧P y) {n:Nat}(h0:Inv n x):
  Runs T (.block id (.loop c)) x fun e y=>match e with | none=>P y | some none=>R y | some (some _)=>False:=by
 refine Runs.block (P1:=fun e y=>match e with | none=>False | some none=>R y | some (some id')=>id'=id∧P y) ?_ (fun y he=>he.elim) (fun y he=>he) (fun y he=>he.2) (fun id' y hid he=>absurd he.1 hid);refine Runs.loop Inv (fun n x hI=>(round n x hI).mono fun e y he=> ?_) h0
 match e,he with
 | none,he=>exact he
 | some none,he=>exact he
 | some (some id'),he=>exact he
def RunsW (T:Tab) (c:Code) (x:Lf) (Post:Ex→Lf→Prop):Prop:=
 ∀ m B a w,Rel m B x a w→∀ Q:Exit→Act→World→Prop,(∀ e y,Post e y→∀ m' a' w',Rel m' B y a' w'→Below B w w'→Q (out e) a' w')→c.wp T.P Q a w
theorem Runs.w {T:Tab}{c:Code}{x:Lf}{P:Ex→Lf→Prop}(h:Runs T c x P):RunsW T c x P:=fun m B a w R Q hQ=>h m B a w R Q fun e y he a' w' hR=>by
 obtain⟨m',_,k2,k3,_⟩:=hR;exact hQ e y he m' a' w' k2 k3
theorem RunsW.post {T:Tab}{c:Code}{x:Lf}{P P':Ex→Lf→Prop}(h:RunsW T c x P) (hp:∀ e y,P e y→∃ y',P' e y'∧∀ m B a w,Rel m B y a w→∃ m',Rel m' B y' a w):RunsW T c x P':=
 fun m B a w R Q hQ=>h m B a w R Q fun e y he m' a' w' hR hb=>by
  obtain⟨y',h1,h2⟩:=hp e y he;obtain⟨m2,h3⟩:=h2 m' B a' w' hR;exact hQ e y' h1 m2 a' w' h3 hb
theorem RunsW.mono {T:Tab}{c:Code}{x:Lf}{P P':Ex→Lf→Prop}(h:RunsW T c x P) (hp:∀ e y,P e y→P' e y):RunsW T c x P':=h.post fun e y he=>⟨y,hp e y he,fun m _ _ _ R=>⟨m,R⟩⟩
theorem RunsW.seq {T:Tab}{c1 c2:Code}{x:Lf}{P1 P:Ex→Lf→Prop}(h1:RunsW T c1 x P1) (h2:∀ y,P1 none y→RunsW T c2 y P) (h3:∀ e y,P1 (some e) y→P (some e) y):RunsW T (.seq c1 c2) x P:=by
 intro m B a w R Q hQ;refine wp_seq (h1 m B a w R _ fun e y he m' a' w' hR hb=> ?_)
 match e,he with
 | none,he=>exact h2 y he m' B a' w' hR Q fun e' y' he' m'' a'' w'' hR' hb'=>hQ e' y' he' m'' a'' w'' hR' (hb.trans hb')
 | some none,he=>exact hQ _ _ (h3 none y he) m' a' w' hR hb
 | some (some id),he=>exact hQ _ _ (h3 (some id) y he) m' a' w' hR hb
theorem RunsW.block {T:Tab}{c:Code}{id:Nat}{x:Lf}{P1 P:Ex→Lf→Prop}(h1:RunsW T c x P1) (h2:∀ y,P1 none y→P none y) (h3:∀ y,P1 (some none) y→P (some none) y)
  (h4:∀ y,P1 (some (some id)) y→P none y) (h5:∀ id' y,id'≠id→P1 (some (some id')) y→P (some (some id')) y):RunsW T (.block id c) x P:=by
 intro m B a w R Q hQ;refine wp_block (h1 m B a w R _ fun e y he m' a' w' hR hb=> ?_)
 match e,he with
 | none,he=>exact hQ _ _ (h2 y he) m' a' w' hR hb
 | some none,he=>exact hQ _ _ (h3 y he) m' a' w' hR hb
 | some (some id'),he=>
  simp only[out,Exit.inBlock];by_cases hid:id'=id
  ·subst hid;rw[if_pos rfl];exact hQ _ _ (h4 y he) m' a' w' hR hb
  ·rw[if_neg hid];exact hQ _ _ (h5 id' y hid he) m' a' w' hR hb
theorem RunsW.loop {T:Tab}{c:Code}{P:Ex→Lf→Prop}(Inv:Nat→Lf→Prop) (round:∀ n x,Inv n x→RunsW T c x fun e y=>match e with | none=>∃ n',n'<n∧Inv n' y | some e=>P (some e) y) {n:Nat}{x:Lf}(h0:Inv n x):
  RunsW T (.loop c) x P:=by
 have key:∀ N n x,n<N→Inv n x→∀ m B a w,Rel m B x a w→∀ Q:Exit→Act→World→Prop,(∀ e y,P e y→∀ m' a' w',Rel m' B y a' w'→Below B w w'→Q (out e) a' w')→Code.rounds T.P c Q N a w:=by
  intro N
  induction N with
  | zero=>intro n x hn;omega
  | succ N ih=>
   intro n x hn hI m B a w R Q hQ;rw[rounds_succ];refine round n x hI m B a w R _ fun e y he m' a' w' hR hb=> ?_
   match e,he with
   | none,he=>
    obtain⟨n',hn',hI'⟩:=he;exact ih n' y (by omega) hI' m' B a' w' hR Q fun e' y' he' m'' a'' w'' hR' hb'=>hQ e' y' he' m'' a'' w'' hR' (hb.trans hb')
   | some none,he=>exact hQ _ _ he m' a' w' hR hb
   | some (some id),he=>exact hQ _ _ he m' a' w' hR hb
 intro m B a w R Q hQ;exact wp_loop_rounds (n+1) (key (n+1) n x (by omega) h0 m B a w R Q hQ)
theorem Ze4 {T:Tab}{f:Nat}{F:Func}{c:Code}(hF:T.P.funcs[f]? =some F) (hc:F.body=some c) {vals:List Value}{v:Value}(hvals:(vals.all (lt 0))=true) (hv:lt 0 v=true)
  (h:RunsW T c (vals++List.replicate (F.ntmps-vals.length) undef,⟨0,[]⟩,[]) fun e y=>(e=none∨e=some none)∧ZV T.P F y.1 y.2.1=some v) (w:World):
  Calls T.P f vals.toArray w fun e w'=>e= .returned v∧Za0 w w':=by
 have E:Emb (fun b=>(b,0)) w.heap.size ⟨0,[]⟩ w:=
  Emb.none w
 have hst:∀ y∈vals,lt 0 y=true:=List.all_eq_true.1 hvals;have e0:vals.map (mv fun b=>(b,0))=vals:=(List.map_congr_left fun y hy=>ZA (hst y hy)).trans (List.map_id' _);refine calls_of_wp hF hc ?_;have R:Rel (fun b=>(b,0)) w.heap.size (vals++List.replicate (F.ntmps-vals.length) undef,⟨0,[]⟩,[]) {tmps:=vals.toArray++Array.replicate (F.ntmps-vals.toArray.size) undef,defers:=[]} w:=by
  refine⟨?_,rfl,E,?_⟩
  ·simp [zu,e0]
  ·intro y hy;rcases List.mem_append.1 hy with hy | hy
   ·exact hst y hy
   ·rw[List.eq_of_mem_replicate hy];simp [undef,lt]
 refine h _ _ _ w R _ fun e y he m' a' w' k2 k3=> ?_;obtain⟨hex,hres⟩:=he;obtain⟨r1,r2⟩:=Zah k2.emb k2.wf hres;rw[← k2.tmps,ZA hv] at r1;have post:a'.defers=[]∧∃ v',(results F a'.tmps).run T.P w'= .ok v' w'∧(Ending.returned v'= .returned v∧Za0 w w'):=
  ⟨k2.dfr,_,r1,rfl,k3,fun k h1 h2=>k2.emb.ice k h1 h2⟩
 rcases hex with rfl | rfl<;>exact post
theorem RunsW.script {T:Tab}{c:Code}{t:List Value}{h:Hp}{s s':List Dec}{P:Ex→Lf→Prop}(hr:RunsW T c (t,h,s) P):RunsW T c (t,h,s') P:=
 fun m B a w R Q hQ=>hr m B a w ⟨R.tmps,R.dfr,R.emb,R.wf⟩ Q hQ
theorem Zv {T:Tab}(hT:TabOk T) {N:Nat}{l:List Code}{X:Code}{t:List Value}{h h':Hp}{s s0:List Dec}{k n:Nat}{e:Ex}{front:List Value}{cs:Log}{P:Ex→Lf→Prop}(hG:Zg (evL T N l (t,h,s) ⟨[],[],[]⟩) k n e front h' cs) (hcs:Zx cs)
  (hX:∀ g,RunsW T X (front++tl n g,h',[]) P):RunsW T (ZW l X) (t,h,s0) P:=by
 obtain⟨g,s',L,hr,hL⟩:=ZcU hG hcs;have key:∀ (cs:List Code) (x x':Lf) (L L':Lg) (e:Ex),evL T N cs x L=some (e,x',L')→L'.ok→L.ok∧(RunsW T X x' P→RunsW T (ZW cs X) x P):=by
  intro cs
  induction cs with
  | nil=>
   intro x x' L L' e h hL;simp only[evL] at h;cases h;exact⟨hL,id⟩
  | cons c cs ih=>
   intro x x' L L' e h hL;simp only[evL] at h;split at h
   ·rename_i x1 L1 h1;obtain⟨g1,g3⟩:=ih x1 x' L1 L' e h hL;obtain⟨g4,g5⟩:=(Zgs hT N).1 _ _ _ _ _ _ h1 g1;refine⟨g4,fun hX m B a w R Q hQ=>wp_seq (g5 m B a w R _ fun a' w' hR=> ?_)⟩;obtain⟨m',_,k2,k3,_⟩:=hR;exact g3 hX m' B a' w' k2 Q fun e' y' he' m'' a'' w'' hR' hb'=>hQ e' y' he' m'' a'' w'' hR' (k3.trans hb')
   ·cases h
 have r:=(key l _ _ _ _ _ hr hL).2 (RunsW.script (hX g));exact RunsW.script r
def oc1 (bs:List Nat):Value→Bool
 | .pointer (some a)=>bs.contains a.block
 | .slice (some a) _ _=>bs.contains a.block
 | .iface t _=> !(Nat.beq t zo)
 | _=>true
def oc2 (bs:List Nat):Value→Bool
 | .agg cs=>cs.toList.all (oc1 bs)
 | v=>oc1 bs v
def oc (bs:List Nat):Value→Bool
 | .tuple vs=>vs.toList.all (oc2 bs)
 | v=>oc2 bs v
theorem ZsR {m m':Mp}{bs:List Nat}(h:∀ b∈bs,m b=m' b) {v:Value}(hv:oc1 bs v=true):mv1 m v=mv1 m' v:=by
 unfold mv1;split
 ·simp only[oc1,List.contains_iff_mem] at hv;simp [mvA,h _ hv]
 ·simp only[oc1,List.contains_iff_mem] at hv;simp [mvA,h _ hv]
 ·rfl
 ·rfl
theorem ZsS {m m':Mp}{bs:List Nat}(h:∀ b∈bs,m b=m' b) {v:Value}(hv:oc2 bs v=true):mv2 m v=mv2 m' v:=by
 unfold mv2;split
 ·rename_i cs;simp only[oc2,List.all_eq_true] at hv;congr 1;exact Array.map_congr_left fun x hx=>ZsR h (hv x (by simpa using hx))
 ·rename_i hna;refine ZsR h ?_;unfold oc2 at hv;split at hv
  ·rename_i cs;exact absurd rfl (hna cs)
  ·exact hv
theorem Zp5 {m m':Mp}{bs:List Nat}(h:∀ b∈bs,m b=m' b) {v:Value}(hv:oc bs v=true):mv m v=mv m' v:=by
 unfold mv;split
 ·rename_i vs;simp only[oc,List.all_eq_true] at hv;congr 1;exact Array.map_congr_left fun x hx=>ZsS h (hv x (by simpa using hx))
 ·rename_i hna;refine ZsS h ?_;unfold oc at hv;split at hv
  ·rename_i cs;exact absurd rfl (hna cs)
  ·exact hv
theorem Ziu {bs:List Nat}{f:Nat→Nat}{n:Nat}(hf:∀ b∈bs,f b<n) {v:Value}(hv:oc bs v=true):lt n (rn f v)=true:=by
 have h1:∀ v,oc1 bs v=true→lt1 n (rn1 f v)=true:=fun v h=>by
  cases v with
  | pointer a=>
   cases a with
   | none=>rfl
   | some a=>simp only[oc1,List.contains_iff_mem] at h;exact Zl.2 (hf _ h)
  | slice a l c=>
   cases a with
   | none=>rfl
   | some a=>simp only[oc1,List.contains_iff_mem] at h;exact Zl.2 (hf _ h)
  | iface t u=>simp only[oc1,Bool.not_eq_true'] at h;simp [rn1,lt1,h]
  | _=>rfl
 have h2:∀ v,oc2 bs v=true→lt2 n (rn2 f v)=true:=fun v h=>by
  cases v with
  | agg cs=>
   simp only[oc2,lt2,rn2,Array.toList_map,List.all_eq_true,List.mem_map] at*;rintro _ ⟨y,hy,rfl⟩;exact h1 y (h y hy)
  | pointer a=>
   cases a with
   | none=>rfl
   | some a=>exact h1 (.pointer (some a)) h
  | slice a l c=>
   cases a with
   | none=>rfl
   | some a=>exact h1 (.slice (some a) l c) h
  | iface t u=>exact h1 (.iface t u) h
  | _=>rfl
 cases v with
 | tuple cs=>
  simp only[oc,lt,rn,Array.toList_map,List.all_eq_true,List.mem_map] at*;rintro _ ⟨y,hy,rfl⟩;exact h2 y (hv y hy)
 | agg cs=>exact h2 (.agg cs) hv
 | pointer a=>
  cases a with
  | none=>rfl
  | some a=>exact h1 (.pointer (some a)) hv
 | slice a l c=>
  cases a with
  | none=>rfl
  | some a=>exact h1 (.slice (some a) l c) hv
 | iface t u=>exact h1 (.iface t u) hv
 | _=>rfl
def Hp.rows (h:Hp):Prop:=h.l.length=h.n∧∀ b x,h.blk? b=some x→ro x.2=true∧(∀ v∈x.1,still v=true)∧ab x.2=false
def Hp.fits (h0:Hp) (s:Nat→Nat) (h:Hp):Prop:=∀ i x,h0.blk? i=some x→Zad x.2=false→∃ y r,h.blk? (s i)=some y∧Zad y.2=false∧rt y.2=rt x.2∧y.1=x.1++r
theorem Emb.small {m:Mp}{B:Nat}{h h0:Hp}{w:World}{s:Nat→Nat}(E:Emb m B h w) (hr:h0.rows) (hf:h0.fits s h):Emb (fun i=>m (s i)) w.heap.size h0 w where
 len:=hr.1
 lies:=fun b x hb hx=>by
  obtain⟨y,r,h1,h2,h3,h4⟩:=hf b x hb hx;obtain⟨r',z,l0,l1,_⟩:=E.lies _ _ h1 h2;have calm:=(hr.2 b x hb).2.1;have e:x.1.map (mv1 m)=x.1.map (mv1 fun i=>m (s i)):=ZdN calm;rw[h4,List.map_append] at l0 l1;refine⟨r.map (mv1 m)++r',z,?_,?_,fun hro=> ?_⟩
  ·simp at l0 ⊢;omega
  ·rw[← e,l1,List.append_assoc]
  ·rw[(hr.2 b x hb).1] at hro;cases hro
 low:=fun b x hb hro=>by rw[(hr.2 b x hb).1] at hro;cases hro
 ros:=fun b x hb hx _=>by
  obtain⟨y,r,h1,h2,_,_⟩:=hf b x hb hx;exact E.here h1 h2
 inj:=fun b b' x x' hb _ hro=>by rw[(hr.2 b x hb).1] at hro;cases hro
 wf:=fun b x hb v hv=>zv (Nat.lt_of_le_of_lt (Nat.zero_le _) (Hp.blk_lt hb)) ((hr.2 b x hb).2.1 v hv)
 base:=Nat.le_refl _
 ice:=fun k h1 h2=>by omega
 abs:=fun b x hb hx=>by rw[(hr.2 b x hb).2.2] at hx;cases hx
theorem zn {T:Tab}{f:Nat}{F:Func}{c:Code}(hF:T.P.funcs[f]? =some F) (hc:F.body=some c) {h0:Hp}(hr:h0.rows) {vals:List Value}(hvals:∀ v∈vals,lt h0.n v=true) {v:Value}(hv:oc (List.range h0.n) v=true)
  (hrun:Runs T c (vals++List.replicate (F.ntmps-vals.length) undef,h0,[]) fun e y=>(e=none∨e=some none)∧ZV T.P F y.1 y.2.1=some v)
  {m:Mp}{B:Nat}{h:Hp}{w:World}(E:Emb m B h w) {s:Nat→Nat}(hs:∀ i,i<h0.n→s i<h.n) (hf:h0.fits s h):
  Calls T.P f ((vals.map (rn s)).map (mv m)).toArray w fun e w'=>e= .returned (mv m (rn s v))∧Came m B h w (rn s v) h m w':=by
 have E0:=E.small hr hf;have ev:(vals.map (rn s)).map (mv m)=vals.map (mv fun i=>m (s i)):=by
  rw[List.map_map];exact List.map_congr_left fun y _=>Zcu m s y
 rw[ev];refine calls_of_wp hF hc ?_;have R:Rel (fun i=>m (s i)) w.heap.size (vals++List.replicate (F.ntmps-vals.length) undef,h0,[]) {tmps:=(vals.map (mv fun i=>m (s i))).toArray++Array.replicate (F.ntmps-(vals.map (mv fun i=>m (s i))).toArray.size) undef,defers:=[]} w:=by
  refine⟨?_,rfl,E0,?_⟩
  ·simp [zu]
  ·intro y hy;rcases List.mem_append.1 hy with hy | hy
   ·exact hvals y hy
   ·rw[List.eq_of_mem_replicate hy];simp [undef,lt]
 refine hrun _ _ _ w R _ fun e y he a' w' hR=> ?_;obtain⟨hex,hres⟩:=he;obtain⟨m1,k1,k2,k3,_⟩:=hR;obtain⟨r1,r2⟩:=Zah k2.emb k2.wf hres;rw[← k2.tmps] at r1;have e1:mv m1 v=mv m (rn s v):=by
  rw[Zcu];exact Zp5 (fun b hb=>k1 b (by simpa using hb)) hv
 rw[e1] at r1;have td:Za0 w w':=⟨k3,fun k h1 h2=>k2.emb.ice k h1 h2⟩;obtain⟨E',hb⟩:=ZT E td;have post:a'.defers=[]∧∃ v',(results F a'.tmps).run T.P w'= .ok v' w'∧(Ending.returned v'= .returned (mv m (rn s v))∧Came m B h w (rn s v) h m w'):=
  ⟨k2.dfr,_,r1,rfl,⟨Agree.refl _ _,E',hb,Nat.le_refl _,Ziu (fun b hb=>hs b (by simpa using hb)) hv⟩⟩
 rcases hex with rfl | rfl<;>exact post
theorem ZI {T:Tab}{f:Nat}{F:Func}{c:Code}(hF:T.P.funcs[f]? =some F) (hc:F.body=some c) {h0:Hp}(hr:h0.rows) {vals:List Value}(hvals:∀ v∈vals,lt h0.n v=true) {v:Value}{k:Nat}
  {cs:List Value}{ty:TypeId}(hcs:∀ u∈cs,lt1 0 u=true) (hty:ro ty=false)
  (hrun:RunsW T c (vals++List.replicate (F.ntmps-vals.length) undef,h0,[]) fun e y=>(e=none∨e=some none)∧ZV T.P F y.1 y.2.1=some v∧∃ r,y.2.1.blk? k=some (cs++r,ty))
  (hv0:oc [k] v=true)
  {m:Mp}{B:Nat}{h:Hp}{w:World}(E:Emb m B h w) {s:Nat→Nat}(hf:h0.fits s h):
  Calls T.P f ((vals.map (rn s)).map (mv m)).toArray w fun e w'=>∃ m',e= .returned (mv m' (rn (fun _=>h.n) v))∧Came m B h w (rn (fun _=>h.n) v) (h.push cs ty) m' w':=by
 have E0:=E.small hr hf;have ev:(vals.map (rn s)).map (mv m)=vals.map (mv fun i=>m (s i)):=by
  rw[List.map_map];exact List.map_congr_left fun y _=>Zcu m s y
 rw[ev];refine calls_of_wp hF hc ?_;have R:Rel (fun i=>m (s i)) w.heap.size (vals++List.replicate (F.ntmps-vals.length) undef,h0,[]) {tmps:=(vals.map (mv fun i=>m (s i))).toArray++Array.replicate (F.ntmps-(vals.map (mv fun i=>m (s i))).toArray.size) undef,defers:=[]} w:=by
  refine⟨?_,rfl,E0,?_⟩
  ·simp [zu]
  ·intro y hy;rcases List.mem_append.1 hy with hy | hy
   ·exact hvals y hy
   ·rw[List.eq_of_mem_replicate hy];simp [undef,lt]
 refine hrun _ _ _ w R _ fun e y he m1 a' w' k2 k3=> ?_;obtain⟨hex,hres,r,hblk⟩:=he;obtain⟨r1,r2⟩:=Zah k2.emb k2.wf hres;rw[← k2.tmps] at r1;have td:Za0 w w':=⟨k3,fun k h1 h2=>k2.emb.ice k h1 h2⟩;obtain⟨E',hb⟩:=ZT E td;have hlow:w.heap.size≤(m1 k).1:=k2.emb.low k _ hblk hty;have hlie:lie w' (m1 k) (cs.map (mv1 m)) ty:=by
  obtain⟨r',z,l0,l1,l2⟩:=k2.emb.lies k _ hblk (Zar hty);have e:cs.map (mv1 m1)=cs.map (mv1 m):=ZbE hcs;simp only[List.map_append] at l0 l1;refine⟨r.map (mv1 m1)++r',z,?_,?_,l2⟩
  ·simp at l0 ⊢;omega
  ·rw[← e,l1,List.append_assoc]
 have Ea:=E'.adopt cs ty hty (fun u hu=>zl (Nat.zero_le _) (hcs u hu)) hlie (Nat.le_trans E.base hlow) (fun b x hbx hx heq=>by
  have:=E.here hbx (Zar hx);omega)
 have e1:mv m1 v=mv (upd m h.n (m1 k)) (rn (fun _=>h.n) v):=by
  rw[Zcu];refine Zp5 (fun b hb=> ?_) hv0;rw[List.mem_singleton.1 hb];simp [upd]
 rw[e1] at r1;have post:a'.defers=[]∧∃ v',(results F a'.tmps).run T.P w'= .ok v' w'∧∃ m',Ending.returned v'= .returned (mv m' (rn (fun _=>h.n) v))∧Came m B h w (rn (fun _=>h.n) v) (h.push cs ty) m' w':=
  ⟨k2.dfr,_,r1,upd m h.n (m1 k),rfl,⟨ZQ _ _ _,Ea,hb,Nat.le_succ _,Ziu (bs:=[k]) (fun b hb=>by show h.n<h.n+1;omega) hv0⟩⟩
 rcases hex with rfl | rfl<;>exact post
def Z4b:List Value→Option (Value×Log)
 | [.int .u64 x,.int .u64 y,.int .u64 c]=>
  some (.tuple #[.int .u64 ((x+y+c) % 18446744073709551616),.int .u64 ((x+y+c)/18446744073709551616)],[(decide (0≤x∧0≤y∧0≤c∧c≤1),true)])
 | _=>none
theorem Zp6 {P:Program}{f:Nat}{F:Func}(hf:P.funcs[f]? =some F) (hn:(F.name== "runtime.NumGoroutine")=false) (hb:F.body.isNone=true) (hx:Extern.findNext F=none) (he:Extern.find F=some add64Entry)
  {vals:List Value}{v:Value}{lg:Log}(h:Z4b vals=some (v,lg)) (hl:Zx lg) (w:World):(callFunc f vals.toArray).run P w= .ok (.value v) w:=by
 unfold Z4b at h;split at h
 ·rename_i x y c;cases h;have:=hl _ Xf;simp only[Xi] at this;rw[run_callFunc_extern hf hn hb hx he,run_add64 x y c this.1 this.2.1 this.2.2.1 this.2.2.2];rfl
 ·cases h
end Go.KRun
