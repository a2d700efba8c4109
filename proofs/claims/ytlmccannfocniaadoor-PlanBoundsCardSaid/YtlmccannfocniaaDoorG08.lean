/-
  RunF
-/
import Derived.Test.YtlmccannfocniaaDoorG07
namespace Go.KRun
open Go.RowKit
/-! ### a region that draws its order: blocks 'ws' are watched: they stay as they were when the region began ('h0') -/
def pureK : Op → Bool
  | .load _ _ | .store _ _ _ | .box _ _ | .alloc _ => false
  | .call ⟨.builtin _, _, _⟩ => true
  | .call _ => false
  | _ => true
def tryTake (T : Tab) (ops : Array Oper) (ws : List Nat) (h0 : Hp) (listed : Array Bool) (x : Lf) (i : Nat) : Option (Lf × Log) :=
  match ops[i]? with
  | none => none
  | some o =>
    match pureK o.op with
    | true =>
      if Region.free .any ops listed i = true then
        match (wantS ops x.1 x.2.2 o).1 with
        | false => some ((putL x.1 o.dst undef, x.2.1, (wantS ops x.1 x.2.2 o).2.1), (wantS ops x.1 x.2.2 o).2.2)
        | true =>
          match pureOp T x.1 (wantS ops x.1 x.2.2 o).2.1 o with
          | some r => some ((putL x.1 o.dst r.1, x.2.1, r.2.1), r.2.2 ++ (wantS ops x.1 x.2.2 o).2.2)
          | none => none
      else none
    | false =>
      match o.op with
      | .load ty p =>
        match ev x.1 p with
        | .pointer (some ad) =>
          if (okX p && ws.contains ad.block && Region.free .any ops listed i) = true then
            match (wantS ops x.1 x.2.2 o).1 with
            | false => some ((putL x.1 o.dst undef, x.2.1, (wantS ops x.1 x.2.2 o).2.1), (wantS ops x.1 x.2.2 o).2.2)
            | true =>
              match (wantS ops x.1 x.2.2 o).2.1 with
              | .inr (.inr (.inr (.inr (.inr v)))) :: s' =>
                match loadY T.P ty ad h0 v with
                | some lg => some ((putL x.1 o.dst v, x.2.1, s'), lg ++ (wantS ops x.1 x.2.2 o).2.2)
                | none => none
              | s' =>
                match loadS T.P ty ad h0 with
                | some v => some ((putL x.1 o.dst v, x.2.1, s'), (wantS ops x.1 x.2.2 o).2.2)
                | none => none
          else none
        | _ => none
      | _ => none
theorem okLog_append {a b : Log} (h : okLog (a ++ b)) : okLog a ∧ okLog b :=
  ⟨fun x hx => h x (List.mem_append_left _ hx), fun x hx => h x (List.mem_append_right _ hx)⟩
/-- where a region began -/
structure Began (m0 : Mp) (B : Nat) (h0 : Hp) (w0 : World) (ws : List Nat) : Prop where
  emb : Emb m0 B h0 w0
  low : ∀ b ∈ ws, b < h0.n
def Same (m0 : Mp) (h0 : Hp) (ws : List Nat) (w : World) : Prop := ∀ b ∈ ws, ∀ y, h0.blk? b = some y → tomb y.2 = false → lie w (m0 b) (y.1.map (mv1 m0)) y.2
theorem tryTake_ok {T : Tab} {ops : Array Oper} (hsel : Region.noSelect ops = true) {ws : List Nat} {h0 : Hp} {listed : Array Bool} {x x' : Lf} {i : Nat} {lg : Log} (hs : tryTake T ops ws h0 listed x i = some (x', lg)) (hlg : okLog lg)
    (hr : i ∈ Region.ready .any ops listed) {m0 : Mp} {w0 : World} {B : Nat} (G : Began m0 B h0 w0 ws) {m : Mp} (hm : Agree m0 m h0.n) {a : Act} {w : World} (R : Rel m B x a w) (hn : h0.n ≤ x.2.1.n) (hS : Same m0 h0 ws w)
    {Q : Exit → Act → World → Prop} (hQ : ∀ c a w, Q (.panic c) a w → False) {fuel : Nat}
    (H : ∀ a', Reach m B x.2.1.n w x' a' w → wpAnyH T.P .any ops Q (Same m0 h0 ws) fuel (listed.setIfInBounds i true) a' w) : wpAnyH T.P .any ops Q (Same m0 h0 ws) (fuel + 1) listed a w := by
  unfold tryTake at hs
  split at hs
  · cases hs
  · rename_i o hi
    split at hs
    · split at hs
      · rename_i hfree
        split at hs
        · rename_i hw
          cases hs
          have e := wantS_ok R.tmps hlg
          rw [hw] at e
          exact wpAnyH_take (v := undef) hi hsel hfree (by simpa using hr) (fun c a w h => (hQ _ _ _ h).elim) (.inr ⟨e.symm, rfl⟩) hS (H _ (Reach.undef R o.dst _))
        · rename_i hw
          split at hs
          · rename_i r hr'
            cases hs
            obtain ⟨l1, l2⟩ := okLog_append hlg
            have e := wantS_ok R.tmps l2
            rw [hw] at e
            obtain ⟨g1, g2⟩ := pureOp_ok (v := r.1) (s' := r.2.1) (lg := r.2.2) R.tmps R.wf hr' l1
            exact wpAnyH_take (v := mv m r.1) hi hsel hfree (by simpa using hr) (fun c a w h => (hQ _ _ _ h).elim) (.inl ⟨e.symm, fun w _ => g1 w⟩) hS
              (H _ (Reach.put R ⟨Agree.refl _ _, R.emb, Below.refl _ _, Nat.le_refl _, g2⟩ o.dst _))
          · cases hs
      · cases hs
    · split at hs
      · rename_i ty p hop
        split at hs
        · rename_i ad had
          split at hs
          · rename_i hc
            simp only [Bool.and_eq_true, List.contains_iff_mem] at hc
            obtain ⟨⟨hx, hmem⟩, hfree⟩ := hc
            split at hs
            · rename_i hw
              cases hs
              have e := wantS_ok R.tmps hlg
              rw [hw] at e
              exact wpAnyH_take (v := undef) hi hsel hfree (by simpa using hr) (fun c a w h => (hQ _ _ _ h).elim) (.inr ⟨e.symm, rfl⟩) hS (H _ (Reach.undef R o.dst _))
            · rename_i hw
              have e2 : a.eval p = .pointer (some (mvA m ad)) := by rw [eval_mv R.tmps hx, had]; rfl
              have lies : ∀ w', Same m0 h0 ws w' → ∀ y, h0.blk? ad.block = some y → tomb y.2 = false → lie w' (m ad.block) (y.1.map (mv1 m)) y.2 := fun w' hw' y hy hty => by
                rw [hm _ (G.low _ hmem), map_agree hm (G.emb.wf _ y hy)]
                exact hw' _ hmem y hy hty
              split at hs
              · rename_i v s' hsv
                split at hs
                · rename_i lg' hv
                  cases hs
                  obtain ⟨l1, l2⟩ := okLog_append hlg
                  have e := wantS_ok R.tmps l2
                  rw [hw] at e
                  have g : ∀ w', Same m0 h0 ws w' → (Instr.loadAt ty (.pointer (some (mvA m ad)))).run T.P w' = .ok (mv m v) w' ∧ lt h0.n v = true := fun w' hw' =>
                    loadY_at (lies w' hw') (fun y hy => G.emb.wf _ y hy) hv l1
                  refine wpAnyH_take (v := mv m v) hi hsel hfree (by simpa using hr) (fun c a w h => (hQ _ _ _ h).elim) (.inl ⟨e.symm, fun w' hw' => ?_⟩) hS
                    (H _ (Reach.put R ⟨Agree.refl _ _, R.emb, Below.refl _ _, Nat.le_refl _, lt_mono hn (g w hS).2⟩ o.dst _))
                  simp only [execOp, hop, e2, Sem.run_bind, (g w' hw').1, Result.andThen_ok, Sem.run_pure]
                · cases hs
              · split at hs
                · rename_i v hv
                  cases hs
                  have e := wantS_ok R.tmps hlg
                  rw [hw] at e
                  have g : ∀ w', Same m0 h0 ws w' → (Instr.loadAt ty (.pointer (some (mvA m ad)))).run T.P w' = .ok (mv m v) w' ∧ lt h0.n v = true := fun w' hw' =>
                    loadS_at (lies w' hw') (fun y hy => G.emb.wf _ y hy) hv
                  refine wpAnyH_take (v := mv m v) hi hsel hfree (by simpa using hr) (fun c a w h => (hQ _ _ _ h).elim) (.inl ⟨e.symm, fun w' hw' => ?_⟩) hS
                    (H _ (Reach.put R ⟨Agree.refl _ _, R.emb, Below.refl _ _, Nat.le_refl _, lt_mono hn (g w hS).2⟩ o.dst _))
                  simp only [execOp, hop, e2, Sem.run_bind, (g w' hw').1, Result.andThen_ok, Sem.run_pure]
                · cases hs
          · cases hs
        · cases hs
      · cases hs
def takeP (T : Tab) (ops : Array Oper) (ws : List Nat) (h0 : Hp) (listed : Array Bool) (x : Lf) : List Nat → Option (Nat × Lf × Log)
  | [] => none
  | i :: rs =>
    match tryTake T ops ws h0 listed x i with
    | some r => some (i, r.1, r.2)
    | none => takeP T ops ws h0 listed x rs
theorem takeP_spec {T : Tab} {ops : Array Oper} {ws : List Nat} {h0 : Hp} {listed : Array Bool} {x : Lf} : ∀ {rs : List Nat} {i : Nat} {x' : Lf} {lg : Log}, takeP T ops ws h0 listed x rs = some (i, x', lg) → i ∈ rs ∧ tryTake T ops ws h0 listed x i = some (x', lg)
  | [], _, _, _, h => by cases h
  | j :: rs, i, x', lg, h => by
    simp only [takeP] at h
    split at h
    · rename_i r hr; cases h; exact ⟨List.mem_cons_self, hr⟩
    · have := takeP_spec h; exact ⟨List.mem_cons_of_mem _ this.1, this.2⟩
def brs (f : Nat → Lf → Lg → Option (List Lf × Lg)) (x : Lf) : List Nat → Lg → Option (List Lf × Lg)
  | [], L => some ([], L)
  | i :: rs, L =>
    match f i x L with
    | some r =>
      match brs f x rs r.2 with
      | some q => some (r.1 ++ q.1, q.2)
      | none => none
    | none => none
/-! ### states compared by their numbers: where a table says so -/
abbrev PI := Option (List (Int × Int))
def eqA : Option Addr → Option Addr → PI
  | none, none => some []
  | some ⟨b, o, none⟩, some ⟨b', o', none⟩ => if Nat.beq b b' = true then some [((o : Int), (o' : Int))] else none
  | _, _ => none
theorem eqA_ok {a b : Option Addr} {l : List (Int × Int)} (h : eqA a b = some l) (hl : ∀ p ∈ l, p.1 = p.2) : a = b := by
  unfold eqA at h
  split at h
  · rfl
  · split at h
    · rename_i hb
      cases h
      have := hl _ List.mem_cons_self
      simp only at this
      rw [Nat.eq_of_beq_eq_true hb, Int.ofNat.inj this]
    · cases h
  · cases h
def bI : Bool → Int
  | true => 1
  | false => 0
theorem bI_inj {a b : Bool} (h : bI a = bI b) : a = b := by cases a <;> cases b <;> first | rfl | (simp [bI] at h)
def eqC1 : Value → Value → PI
  | .int k a, .int k' b => if k = k' then some [(a, b)] else none
  | .bool a, .bool b => some [(bI a, bI b)]
  | .pointer a, .pointer b => eqA a b
  | .slice a n c, .slice a' n' c' => match eqA a a' with | some x => some (((n : Int), (n' : Int)) :: ((c : Int), (c' : Int)) :: x) | none => none
  | .nilIface, .nilIface => some []
  | _, _ => none
theorem eqC1_ok {v w : Value} {l : List (Int × Int)} (h : eqC1 v w = some l) (hl : ∀ p ∈ l, p.1 = p.2) : v = w := by
  unfold eqC1 at h
  split at h
  · split at h
    · rename_i hk
      cases h
      have := hl _ List.mem_cons_self
      simp only at this
      rw [hk, this]
    · cases h
  · cases h
    have := hl _ List.mem_cons_self
    rw [bI_inj this]
  · rw [eqA_ok h hl]
  · split at h
    · rename_i x ha
      cases h
      have h1 := hl _ List.mem_cons_self
      have h2 := hl _ (List.mem_cons_of_mem _ List.mem_cons_self)
      simp only at h1 h2
      rw [eqA_ok ha (fun p hp => hl p (List.mem_cons_of_mem _ (List.mem_cons_of_mem _ hp))), Int.ofNat.inj h1, Int.ofNat.inj h2]
    · cases h
  · rfl
  · cases h
/-- lists, one by one -/
def eqLs (f : Value → Value → PI) : List Value → List Value → PI
  | [], [] => some []
  | a :: l, b :: l' =>
    match f a b, eqLs f l l' with
    | some x, some y => some (x ++ y)
    | _, _ => none
  | _, _ => none
theorem eqLs_ok {f : Value → Value → PI} (hf : ∀ {v w l}, f v w = some l → (∀ p ∈ l, p.1 = p.2) → v = w) : ∀ {a b : List Value} {l : List (Int × Int)}, eqLs f a b = some l → (∀ p ∈ l, p.1 = p.2) → a = b
  | [], [], _, _, _ => rfl
  | [], _ :: _, _, h, _ => by cases h
  | _ :: _, [], _, h, _ => by cases h
  | a :: l, b :: l', r, h, hl => by
    simp only [eqLs] at h
    split at h
    · rename_i x y hx hy
      cases h
      rw [hf hx (fun p hp => hl p (List.mem_append_left _ hp)), eqLs_ok hf hy (fun p hp => hl p (List.mem_append_right _ hp))]
    · cases h
def eqC2 : Value → Value → PI
  | .agg ⟨l⟩, .agg ⟨l'⟩ => eqLs eqC1 l l'
  | v, w => eqC1 v w
theorem eqC2_ok {v w : Value} {l : List (Int × Int)} (h : eqC2 v w = some l) (hl : ∀ p ∈ l, p.1 = p.2) : v = w := by
  unfold eqC2 at h
  split at h
  · rw [eqLs_ok (fun h hl => eqC1_ok h hl) h hl]
  · exact eqC1_ok h hl
def eqC3 : Value → Value → PI
  | .tuple ⟨l⟩, .tuple ⟨l'⟩ => eqLs eqC2 l l'
  | v, w => eqC2 v w
theorem eqC3_ok {v w : Value} {l : List (Int × Int)} (h : eqC3 v w = some l) (hl : ∀ p ∈ l, p.1 = p.2) : v = w := by
  unfold eqC3 at h
  split at h
  · rw [eqLs_ok (fun h hl => eqC2_ok h hl) h hl]
  · exact eqC2_ok h hl
def eqBk (x y : List Value × TypeId) : PI := if Nat.beq x.2 y.2 = true then eqLs eqC1 x.1 y.1 else none
theorem eqBk_ok {x y : List Value × TypeId} {l : List (Int × Int)} (h : eqBk x y = some l) (hl : ∀ p ∈ l, p.1 = p.2) : x = y := by
  unfold eqBk at h
  split at h
  · rename_i ht
    have e1 := eqLs_ok (fun h hl => eqC1_ok h hl) h hl
    have e2 := Nat.eq_of_beq_eq_true ht
    cases x; cases y
    simp only at e1 e2
    rw [e1, e2]
  · cases h
/-- blocks that are only read are compared whole -/
def eqHl : List (List Value × TypeId) → List (List Value × TypeId) → Option (List (Int × Int) × List (List Value × List Value))
  | [], [] => some ([], [])
  | a :: l, b :: l' =>
    match Nat.beq a.2 b.2, Nat.ble dead a.2 with
    | true, true =>
      match eqHl l l' with
      | some y => some (y.1, (a.1, b.1) :: y.2)
      | none => none
    | true, false =>
      match eqLs eqC1 a.1 b.1, eqHl l l' with
      | some x, some y => some (x ++ y.1, y.2)
      | _, _ => none
    | false, _ => none
  | _, _ => none
theorem eqHl_ok : ∀ {a b : List (List Value × TypeId)} {r : List (Int × Int) × List (List Value × List Value)}, eqHl a b = some r → (∀ p ∈ r.1, p.1 = p.2) → (∀ p ∈ r.2, p.1 = p.2) → a = b
  | [], [], _, _, _, _ => rfl
  | [], _ :: _, _, h, _, _ => by cases h
  | _ :: _, [], _, h, _, _ => by cases h
  | a :: l, b :: l', r, h, h1, h2 => by
    simp only [eqHl] at h
    split at h
    · rename_i ht _
      split at h
      · rename_i y hy
        cases h
        have e1 := h2 (a.1, b.1) List.mem_cons_self
        have e2 := Nat.eq_of_beq_eq_true ht
        have e3 : a = b := by cases a; cases b; simp only at e1 e2; rw [e1, e2]
        rw [e3, eqHl_ok hy h1 (fun p hp => h2 p (List.mem_cons_of_mem _ hp))]
      · cases h
    · rename_i ht _
      split at h
      · rename_i x y hx hy
        cases h
        have e1 := eqLs_ok (fun h hl => eqC1_ok h hl) hx (fun p hp => h1 p (List.mem_append_left _ hp))
        have e2 := Nat.eq_of_beq_eq_true ht
        have e3 : a = b := by cases a; cases b; simp only at e1 e2; rw [e1, e2]
        rw [e3, eqHl_ok hy (fun p hp => h1 p (List.mem_append_right _ hp)) h2]
      · cases h
    · cases h
def encI (p : Int × Int) : Lf × Lf := (([.int .i64 p.1], ⟨0, []⟩, []), ([.int .i64 p.2], ⟨0, []⟩, []))
def encB (p : Int × Int) : Bp × Bp := (some ([.int .i64 p.1], 0), some ([.int .i64 p.2], 0))
theorem encI_ok {l : List (Int × Int)} (h : ∀ e ∈ l.map encI, e.1 = e.2) : ∀ p ∈ l, p.1 = p.2 := fun p hp => by
  have := h _ (List.mem_map.2 ⟨p, hp, rfl⟩)
  simp only [encI, Prod.mk.injEq, List.cons.injEq, Value.int.injEq, and_true, true_and] at this
  exact this
theorem encB_ok {l : List (Int × Int)} (h : ∀ e ∈ l.map encB, e.1 = e.2) : ∀ p ∈ l, p.1 = p.2 := fun p hp => by
  have := h _ (List.mem_map.2 ⟨p, hp, rfl⟩)
  simp only [encB, Option.some.injEq, Prod.mk.injEq, List.cons.injEq, Value.int.injEq, and_true, true_and] at this
  exact this
def encL (p : List Value × List Value) : Lf × Lf := ((p.1, ⟨0, []⟩, []), (p.2, ⟨0, []⟩, []))
theorem encL_ok {l : List (List Value × List Value)} (h : ∀ e ∈ l.map encL, e.1 = e.2) : ∀ p ∈ l, p.1 = p.2 := fun p hp => by
  have := h _ (List.mem_map.2 ⟨p, hp, rfl⟩)
  simp only [encL, Prod.mk.injEq, and_true] at this
  exact this
def encS (s s' : List Dec) : Lf × Lf := (([], ⟨0, []⟩, s), ([], ⟨0, []⟩, s'))
/-- two ends of a region -/
def esP (au : Bool) (Z Y : Lf) : List (Lf × Lf) :=
  match au with
  | false => [(Z, Y)]
  | true =>
    match Nat.beq Z.2.1.n Y.2.1.n, eqLs eqC3 Z.1 Y.1, eqHl Z.2.1.l Y.2.1.l with
    | true, some x, some y => encS Z.2.2 Y.2.2 :: ((x ++ y.1).map encI ++ y.2.map encL)
    | _, _, _ => [(Z, Y)]
theorem esP_ok {au : Bool} {Z Y : Lf} (h : ∀ e ∈ esP au Z Y, e.1 = e.2) : Z = Y := by
  unfold esP at h
  split at h
  · exact h (Z, Y) List.mem_cons_self
  · split at h
    · rename_i x y hn hx hy
      have hs := h _ List.mem_cons_self
      have hp := encI_ok (fun e he => h e (List.mem_cons_of_mem _ (List.mem_append_left _ he)))
      have hp2 := encL_ok (fun e he => h e (List.mem_cons_of_mem _ (List.mem_append_right _ he)))
      have e1 := eqLs_ok (fun h hl => eqC3_ok h hl) hx (fun p q => hp p (List.mem_append_left _ q))
      have e2 := eqHl_ok hy (fun p q => hp p (List.mem_append_right _ q)) hp2
      have e3 := Nat.eq_of_beq_eq_true hn
      simp only [encS, Prod.mk.injEq, true_and] at hs
      obtain ⟨t, ⟨n, l⟩, s⟩ := Z
      obtain ⟨t', ⟨n', l'⟩, s'⟩ := Y
      simp only at e1 e2 e3 hs
      rw [e1, e2, e3, hs]
    · exact h (Z, Y) List.mem_cons_self
def bsP (au : Bool) (x y : Bp) : List (Bp × Bp) :=
  match au with
  | false => [(x, y)]
  | true =>
    match x, y with
    | some a, some b =>
      match eqBk a b with
      | some l => l.map encB
      | none => [(some a, some b)]
    | x, y => [(x, y)]
theorem bsP_ok {au : Bool} {x y : Bp} (h : ∀ e ∈ bsP au x y, e.1 = e.2) : x = y := by
  unfold bsP at h
  split at h
  · exact h (x, y) List.mem_cons_self
  · split at h
    · rename_i a b
      split at h
      · rename_i l hl
        rw [eqBk_ok hl (encB_ok h)]
      · exact h (some a, some b) List.mem_cons_self
    · exact h (_, _) List.mem_cons_self
/-- a number found by counting: so that what is told by it bears no trace of how it came -/
def forceI {α : Type} (k : Nat → Option α) : Nat → Nat → Nat → Option α
  | 0, _, _ => none
  | f + 1, j, i =>
    match Nat.beq i j with
    | true => k j
    | false => forceI k f (j + 1) i
theorem forceI_some {α : Type} {k : Nat → Option α} : ∀ {f j i : Nat} {r : α}, forceI k f j i = some r → k i = some r
  | 0, _, _, _, h => by cases h
  | f + 1, j, i, r, h => by
    simp only [forceI] at h
    split at h
    · rename_i hb
      rw [Nat.eq_of_beq_eq_true hb]
      exact h
    · exact forceI_some h
def keepB (au : Bool) (ws : List Nat) (h0 h : Hp) : List (Bp × Bp) := ws.flatMap fun b => bsP au (h.blk? b) (h0.blk? b)
def dfs (T : Tab) (call : CallF) (ops : Array Oper) (ws : List Nat) (h0 : Hp) : Nat → Array Bool → Lf → Lg → Option (List Lf × Lg)
  | 0, listed, x, L =>
    match Region.ready .any ops listed with
    | [] => some ([x], L)
    | _ :: _ => none
  | fuel + 1, listed, x, L =>
    match Region.ready .any ops listed with
    | [] => some ([x], L)
    | i0 :: rs0 =>
      match takeP T ops ws h0 listed x (i0 :: rs0) with
      | some r => forceI (fun i => dfs T call ops ws h0 fuel (listed.setIfInBounds i true) r.2.1 (Lg.add r.2.2 L)) ops.size 0 r.1
      | none => brs (fun i x L =>
          match ops[i]? with
          | some o =>
            match opS T call ops o x L with
            | some r => dfs T call ops ws h0 fuel (listed.setIfInBounds i true) r.1 ⟨r.2.cs, r.2.es, keepB T.auto ws h0 r.1.2.1 ++ r.2.bs⟩
            | none => none
          | none => none) x (i0 :: rs0) L
/-- what a search has to bring -/
def DfsOk (T : Tab) (ops : Array Oper) (ws : List Nat) (h0 : Hp) (fuel : Nat) (listed : Array Bool) (x : Lf) (L : Lg) (leaves : List Lf) (L' : Lg) : Prop :=
  L'.ok → L.ok ∧ leaves ≠ [] ∧ ∀ m0 w0 B, Began m0 B h0 w0 ws → ∀ m, Agree m0 m h0.n → ∀ a w, Rel m B x a w → h0.n ≤ x.2.1.n → Same m0 h0 ws w →
    ∀ Q : Exit → Act → World → Prop, (∀ c a w, Q (.panic c) a w → False) → (∀ y ∈ leaves, ∀ a' w', Reach m B x.2.1.n w y a' w' → Q .normal a' w') → wpAnyH T.P .any ops Q (Same m0 h0 ws) fuel listed a w
theorem brs_spec {f : Nat → Lf → Lg → Option (List Lf × Lg)} {x : Lf} : ∀ {rs : List Nat} {L L' : Lg} {ls : List Lf}, brs f x rs L = some (ls, L') →
    (∀ i L ls' L1, f i x L = some (ls', L1) → L1.ok → L.ok) → L'.ok → L.ok ∧ ∀ i ∈ rs, ∃ Li li Li', f i x Li = some (li, Li') ∧ Li'.ok ∧ ∀ l ∈ li, l ∈ ls
  | [], L, L', ls, h, _, hL => by cases h; exact ⟨hL, fun i hi => absurd hi (by simp)⟩
  | j :: rs, L, L', ls, h, hf, hL => by
    simp only [brs] at h
    split at h
    · rename_i r hr
      split at h
      · rename_i q hq
        cases h
        obtain ⟨h1, h2⟩ := brs_spec (ls := q.1) (L' := q.2) hq hf hL
        refine ⟨hf _ _ _ _ hr h1, fun i hi => ?_⟩
        rcases List.mem_cons.1 hi with rfl | hi
        · exact ⟨L, r.1, r.2, hr, h1, fun l hl => List.mem_append_left _ hl⟩
        · obtain ⟨Li, li, Li', g1, g2, g3⟩ := h2 i hi
          exact ⟨Li, li, Li', g1, g2, fun l hl => List.mem_append_right _ (g3 l hl)⟩
      · cases h
    · cases h
theorem kept_ok {au : Bool} {L : Lg} {ws : List Nat} {h0 h : Hp} (hL : (⟨L.cs, L.es, keepB au ws h0 h ++ L.bs⟩ : Lg).ok) : L.ok ∧ ∀ b ∈ ws, h.blk? b = h0.blk? b :=
  ⟨⟨hL.1, hL.2.1, fun e he => hL.2.2 e (List.mem_append_right _ he)⟩, fun b hb => bsP_ok fun e he => hL.2.2 e (List.mem_append_left _ (List.mem_flatMap.2 ⟨b, hb, he⟩))⟩
theorem blk_some {m : Mp} {B : Nat} {h : Hp} {w : World} (E : Emb m B h w) {b : Nat} (hb : b < h.n) : ∃ x, h.blk? b = some x := E.blk hb
theorem same_of {m0 m : Mp} {B : Nat} {h0 h : Hp} {w0 w : World} {ws : List Nat} (G : Began m0 B h0 w0 ws) (hm : Agree m0 m h0.n) (E : Emb m B h w) (hk : ∀ b ∈ ws, h.blk? b = h0.blk? b) : Same m0 h0 ws w := by
  intro b hb y hy hty
  have h1 := E.lies b y (by rw [hk b hb, hy]) hty
  rw [hm b (G.low b hb), map_agree hm (G.emb.wf b y hy)] at h1
  exact h1
theorem dfs_ok {T : Tab} (hT : TabOk T) {call : CallF} (hC : CallOk T call) {ops : Array Oper} (hsel : Region.noSelect ops = true) {ws : List Nat} {h0 : Hp} :
    ∀ (fuel : Nat) (listed : Array Bool) (x : Lf) (L : Lg) (leaves : List Lf) (L' : Lg), dfs T call ops ws h0 fuel listed x L = some (leaves, L') → DfsOk T ops ws h0 fuel listed x L leaves L' := by
  intro fuel
  induction fuel with
  | zero =>
    intro listed x L leaves L' h hL
    simp only [dfs] at h
    split at h
    · rename_i hr
      cases h
      refine ⟨hL, by simp, fun m0 w0 B G m hm a w R hn hS Q _ hQ => ⟨hr, ?_⟩⟩
      exact hQ x (by simp) _ _ ⟨m, Agree.refl _ _, R, Below.refl _ _, Nat.le_refl _⟩
    · cases h
  | succ fuel ih =>
    intro listed x L leaves L' h hL
    simp only [dfs] at h
    split at h
    · rename_i hr
      cases h
      refine ⟨hL, by simp, fun m0 w0 B G m hm a w R hn hS Q _ hQ => wpAnyH_done hr ?_ _⟩
      exact hQ x (by simp) _ _ ⟨m, Agree.refl _ _, R, Below.refl _ _, Nat.le_refl _⟩
    · rename_i i0 rs0 hr
      split at h
      · rename_i r htake
        have h := forceI_some h
        obtain ⟨hmem, htry⟩ := takeP_spec (i := r.1) (x' := r.2.1) (lg := r.2.2) htake
        obtain ⟨h1, h2, h3⟩ := ih _ _ _ _ _ h hL
        obtain ⟨l1, l2⟩ := Lg.add_ok h1
        refine ⟨l2, h2, fun m0 w0 B G m hm a w R hn hS Q hP hQ => ?_⟩
        refine tryTake_ok hsel htry l1 (by rw [hr]; exact hmem) G hm R hn hS hP fun a' hR => ?_
        obtain ⟨m', k1, k2, k3, k4⟩ := hR
        exact h3 m0 w0 B G m' (hm.trans k1 hn) a' w k2 (Nat.le_trans hn k4) hS Q hP fun y hy a'' w'' hR' => hQ y hy _ _ (Reach.trans k1 k3 k4 hR')
      · rename_i htake
        obtain ⟨h1, h2⟩ := brs_spec h (by
          intro i L ls' L1 hf hok
          split at hf
          · rename_i o hi
            split at hf
            · rename_i r hr'
              obtain ⟨g1, _⟩ := ih _ _ _ _ _ hf hok
              exact (opS_ok (x' := r.1) (L' := r.2) hT hC hi hr' (kept_ok g1).1).1
            · cases hf
          · cases hf) hL
        have each : ∀ i ∈ i0 :: rs0, ∃ o, ops[i]? = some o ∧ ∃ Li li Li' r, opS T call ops o x Li = some r ∧ dfs T call ops ws h0 fuel (listed.setIfInBounds i true) r.1 ⟨r.2.cs, r.2.es, keepB T.auto ws h0 r.1.2.1 ++ r.2.bs⟩ = some (li, Li') ∧ Li'.ok ∧ ∀ l ∈ li, l ∈ leaves := by
          intro i hi
          obtain ⟨Li, li, Li', g1, g2, g3⟩ := h2 i hi
          split at g1
          · rename_i o hio
            split at g1
            · rename_i r hr'; exact ⟨o, hio, Li, li, Li', r, hr', g1, g2, g3⟩
            · cases g1
          · cases g1
        refine ⟨h1, ?_, fun m0 w0 B G m hm a w R hn hS Q hP hQ => ?_⟩
        · obtain ⟨o, _, Li, li, Li', r, g1, g2, g3, g4⟩ := each i0 (by simp)
          obtain ⟨_, hne, _⟩ := ih _ _ _ _ _ g2 g3
          intro he
          cases li with
          | nil => exact hne rfl
          | cons l0 ls0 => exact absurd (he ▸ g4 l0 (by simp)) (by simp)
        · refine wpAnyH_all hr (by simp) fun i hi => ?_
          obtain ⟨o, hio, Li, li, Li', r, g1, g2, g3, g4⟩ := each i hi
          obtain ⟨q1, _, q3⟩ := ih _ _ _ _ _ g2 g3
          obtain ⟨q4, q5⟩ := kept_ok q1
          refine (opS_ok (x' := r.1) (L' := r.2) hT hC hio g1 q4).2 m B a w R Q _ fun a' w' hR => ?_
          obtain ⟨m', k1, k2, k3, k4⟩ := hR
          have hm' := hm.trans k1 hn
          have hS' := same_of G hm' k2.emb q5
          exact ⟨hS', q3 m0 w0 B G m' hm' a' w' k2 (Nat.le_trans hn k4) hS' Q hP fun y hy a'' w'' hR' => hQ y (g4 y hy) _ _ (Reach.trans k1 k3 k4 hR')⟩
/-! ### two blocks that were made in either order: their numbers changed, so that the order is no matter -/
def swp (i j b : Nat) : Nat := if Nat.beq b i = true then j else if Nat.beq b j = true then i else b
theorem swp_swp (i j b : Nat) : swp i j (swp i j b) = b := by
  unfold swp
  simp only [Nat.beq_eq]
  split
  · split
    · omega
    · simp_all
  · split
    · simp_all
    · simp_all
theorem swp_lt {i j n b : Nat} (hi : i < n) (hj : j < n) (hb : b < n) : swp i j b < n := by
  unfold swp; split
  · exact hj
  · split
    · exact hi
    · exact hb
/-- numbers changed; what is dead stays as it is -/
def rn1 (f : Nat → Nat) : Value → Value
  | .pointer (some a) => .pointer (some { a with block := f a.block })
  | .slice (some a) l c => .slice (some { a with block := f a.block }) l c
  | .map (some b) => .map (some (f b))
  | v => v
def rn2 (f : Nat → Nat) : Value → Value
  | .agg cs => .agg (cs.map (rn1 f))
  | v => rn1 f v
def rn (f : Nat → Nat) : Value → Value
  | .tuple vs => .tuple (vs.map (rn2 f))
  | v => rn2 f v
theorem mv1_rn (m : Mp) (f : Nat → Nat) (v : Value) : mv1 m (rn1 f v) = mv1 (fun b => m (f b)) v := by
  cases v with
  | pointer a => cases a <;> rfl
  | map a => cases a <;> rfl
  | slice a l c => cases a <;> rfl
  | _ => rfl
theorem mv2_rn (m : Mp) (f : Nat → Nat) (v : Value) : mv2 m (rn2 f v) = mv2 (fun b => m (f b)) v := by
  cases v with
  | agg cs =>
    simp only [mv2, rn2, Array.map_map]
    congr 2
    funext x
    exact mv1_rn m f x
  | pointer a => cases a <;> rfl
  | map a => cases a <;> rfl
  | slice a l c => cases a <;> rfl
  | _ => rfl
theorem mv_rn (m : Mp) (f : Nat → Nat) (v : Value) : mv m (rn f v) = mv (fun b => m (f b)) v := by
  cases v with
  | tuple cs =>
    simp only [mv, rn, Array.map_map]
    congr 2
    funext x
    exact mv2_rn m f x
  | agg cs =>
    have := mv2_rn m f (.agg cs)
    simpa [mv, mv2, rn, rn2] using this
  | pointer a => cases a <;> rfl
  | map a => cases a <;> rfl
  | slice a l c => cases a <;> rfl
  | _ => rfl
theorem rn_still {f : Nat → Nat} {v : Value} (h : lt 0 v = true) : rn f v = v := by
  have h1 : ∀ v, lt1 0 v = true → rn1 f v = v := fun v h => by
    unfold rn1
    split
    · simp [lt1] at h
    · simp [lt1] at h
    · simp [lt1] at h
    · rfl
  have h2 : ∀ v, lt2 0 v = true → rn2 f v = v := fun v h => by
    unfold rn2
    split
    · rename_i cs
      simp only [lt2, List.all_eq_true] at h
      congr 1
      have : cs.map (rn1 f) = cs.map id := Array.map_congr_left fun x hx => h1 x (h x (by simpa using hx))
      rw [this, Array.map_id]
    · rename_i hna
      refine h1 _ ?_
      unfold lt2 at h
      split at h
      · rename_i cs; exact absurd rfl (hna cs)
      · exact h
  unfold rn
  split
  · rename_i cs
    simp only [lt, List.all_eq_true] at h
    congr 1
    have : cs.map (rn2 f) = cs.map id := Array.map_congr_left fun x hx => h2 x (h x (by simpa using hx))
    rw [this, Array.map_id]
  · rename_i hna
    refine h2 _ ?_
    unfold lt at h
    split at h
    · rename_i cs; exact absurd rfl (hna cs)
    · exact h
theorem lt1_ren {n : Nat} {f : Nat → Nat} (hf : ∀ b, b < n → f b < n) {v : Value} (h : lt1 n v = true) : lt1 n (rn1 f v) = true := by
  cases v with
  | pointer a => cases a <;> simp_all [lt1, rn1]
  | map a => cases a <;> simp_all [lt1, rn1]
  | slice a l c => cases a <;> simp_all [lt1, rn1]
  | _ => simpa [rn1] using h
theorem lt2_ren {n : Nat} {f : Nat → Nat} (hf : ∀ b, b < n → f b < n) {v : Value} (h : lt2 n v = true) : lt2 n (rn2 f v) = true := by
  cases v with
  | agg cs =>
    simp only [lt2, rn2, Array.toList_map, List.all_eq_true, List.mem_map] at *
    rintro _ ⟨y, hy, rfl⟩
    exact lt1_ren hf (h y hy)
  | pointer a => cases a <;> simp_all [lt1, lt2, rn1, rn2]
  | map a => cases a <;> simp_all [lt1, lt2, rn1, rn2]
  | slice a l c => cases a <;> simp_all [lt1, lt2, rn1, rn2]
  | _ => simpa [rn1, rn2] using h
theorem lt_ren {n : Nat} {f : Nat → Nat} (hf : ∀ b, b < n → f b < n) {v : Value} (h : lt n v = true) : lt n (rn f v) = true := by
  cases v with
  | tuple cs =>
    simp only [lt, rn, Array.toList_map, List.all_eq_true, List.mem_map] at *
    rintro _ ⟨y, hy, rfl⟩
    exact lt2_ren hf (h y hy)
  | agg cs =>
    have h' : lt2 n (.agg cs) = true := by simpa [lt] using h
    have := lt2_ren hf h'
    simpa [lt, rn, rn2] using this
  | pointer a => cases a <;> simp_all [lt, lt1, lt2, rn, rn1, rn2]
  | map a => cases a <;> simp_all [lt, lt1, lt2, rn, rn1, rn2]
  | slice a l c => cases a <;> simp_all [lt, lt1, lt2, rn, rn1, rn2]
  | _ => simpa [rn, rn1, rn2] using h
def Hp.calm (h : Hp) : Bool := h.l.all fun x => x.1.all (lt1 0)
def swapLf (i j : Nat) (z : Lf) : Lf :=
  match z.2.1.blk? i, z.2.1.blk? j with
  | some x, some y => (z.1.map (rn (swp i j)), (z.2.1.put i y).put j x, z.2.2)
  | _, _ => z
def madeBy (ops : List Oper) : List Tmp := ops.filterMap fun o => match o.op with | .alloc _ => o.dst | .box _ _ => o.dst | _ => none
def canon (ops : List Oper) (n : Nat) (z : Lf) : Lf :=
  match madeBy ops with
  | [d1, d2] =>
    match blockOf (z.1.getD d1 undef), blockOf (z.1.getD d2 undef) with
    | some b1, some b2 => if (Nat.blt b2 b1 && Nat.ble n b2 && Nat.blt b1 z.2.1.n && z.2.1.calm) = true then swapLf b2 b1 z else z
    | _, _ => z
  | _ => z
theorem calm_spec {h : Hp} (ht : h.calm = true) {b : Nat} {x : List Value × TypeId} (hb : h.blk? b = some x) : ∀ v ∈ x.1, lt1 0 v = true := by
  unfold Hp.calm at ht
  simp only [List.all_eq_true] at ht
  unfold Hp.blk? at hb
  split at hb
  · exact ht x (List.mem_of_getElem? hb)
  · cases hb
theorem map_still {f g : Mp} {l : List Value} (h : ∀ v ∈ l, lt1 0 v = true) : l.map (mv1 f) = l.map (mv1 g) :=
  List.map_congr_left fun v hv => by rw [mv1_still (h v hv), mv1_still (h v hv)]
theorem swapLf_rel {m : Mp} {B : Nat} {z : Lf} {a : Act} {w : World} (R : Rel m B z a w) {i j : Nat} (hij : i < j) (hj : j < z.2.1.n) (hc : z.2.1.calm = true) : Rel (fun b => m (swp i j b)) B (swapLf i j z) a w ∧ (swapLf i j z).2.1.n = z.2.1.n := by
  obtain ⟨x, hx⟩ := blk_some R.emb (b := i) (by omega)
  obtain ⟨y, hy⟩ := blk_some R.emb hj
  have hi : i < z.2.1.n := by omega
  have hlt : ∀ b, b < z.2.1.n → swp i j b < z.2.1.n := fun b hb => swp_lt hi hj hb
  unfold swapLf
  rw [hx, hy]
  have l1 : (z.2.1.put i y).l.length = (z.2.1.put i y).n := by simp [Hp.put, R.emb.len]
  have blk : ∀ b, ((z.2.1.put i y).put j x).blk? b = z.2.1.blk? (swp i j b) := by
    intro b
    rw [Hp.blk_put l1 (by simpa [Hp.put] using hj), Hp.blk_put R.emb.len hi]
    unfold swp
    simp only [Nat.beq_eq]
    by_cases h1 : b = j
    · have h2 : b ≠ i := by omega
      rw [if_pos h1, if_neg h2, if_pos h1, hx]
    · rw [if_neg h1]
      by_cases h2 : b = i
      · rw [if_pos h2, if_pos h2, hy]
      · rw [if_neg h2, if_neg h2, if_neg h1]
  refine ⟨⟨?_, R.dfr, ⟨?_, ?_, ?_, ?_, ?_, ?_, R.emb.base, R.emb.ice, ?_⟩, ?_⟩, rfl⟩
  · rw [R.tmps, List.map_map]
    congr 1
    refine List.map_congr_left fun v _ => ?_
    simp only [Function.comp]
    rw [mv_rn]
    congr 1
    funext b
    rw [swp_swp]
  · simp [Hp.put, R.emb.len]
  · intro b u hb hu
    rw [blk] at hb
    rw [map_still (g := m) (calm_spec hc hb)]
    exact R.emb.lies _ u hb hu
  · intro b u hb hu
    rw [blk] at hb
    exact R.emb.low _ u hb hu
  · intro b u hb hu hr
    rw [blk] at hb
    exact R.emb.ros _ u hb hu hr
  · intro b b' u u' hb hb' hu hu' h
    rw [blk] at hb hb'
    have := R.emb.inj _ _ u u' hb hb' hu hu' h
    rw [← swp_swp i j b, this, swp_swp]
  · intro b u hb
    rw [blk] at hb
    exact fun v hv => lt1_mono (Nat.zero_le _) (calm_spec hc hb v hv)
  · intro b u hb hu
    rw [blk] at hb
    exact (R.emb.abs _ u hb hu).ren (f := swp i j) (r := []) rfl (by rw [List.append_nil]; exact map_still (calm_spec hc hb)) (fun c z hz => ⟨z, by rw [← blk]; exact hz, rfl⟩) fun c z _ _ _ he => by rw [← swp_swp i j c, he, swp_swp]
  · intro v hv
    obtain ⟨u, hu, rfl⟩ := List.mem_map.1 hv
    exact lt_ren hlt (R.wf u hu)
theorem canon_reach {ops : List Oper} {m : Mp} {B n : Nat} {w : World} {z : Lf} {a' : Act} {w' : World} (h : Reach m B n w z a' w') : Reach m B n w (canon ops n z) a' w' := by
  unfold canon
  split
  · split
    · split
      · rename_i b1 b2 _ _ hc
        simp only [Bool.and_eq_true, blt_iff, Nat.ble_eq] at hc
        obtain ⟨⟨⟨c1, c2⟩, c3⟩, c4⟩ := hc
        obtain ⟨m', k1, k2, k3, k4⟩ := h
        obtain ⟨r1, r2⟩ := swapLf_rel k2 c1 c3 c4
        refine ⟨_, fun b hb => ?_, r1, k3, by rw [r2]; exact k4⟩
        have : swp b2 b1 b = b := by
          unfold swp
          simp only [Nat.beq_eq]
          rw [if_neg (by omega), if_neg (by omega)]
        show m' (swp b2 b1 b) = m b
        rw [this]
        exact k1 b hb
      · exact h
    · exact h
  · exact h
/-! ### operations with scripts of their own: a region's script may open with 'at_, num c, at_, num k, at_', then c rows 'num i, num l' and l decisions (of operation i), then k slots: behind the region the new blocks are put in the order in which these slots bear them -/
def stS (x : Lf) (s : List Dec) : Lf := (x.1, x.2.1, s)
theorem Rel.stS {m : Mp} {B : Nat} {x : Lf} {a : Act} {w : World} (R : Rel m B x a w) (s : List Dec) : Rel m B (stS x s) a w := ⟨R.tmps, R.dfr, R.emb, R.wf⟩
def takeK (T : Tab) (ops : Array Oper) (ws : List Nat) (h0 : Hp) (sc : Nat → List Dec) (listed : Array Bool) (x : Lf) : List Nat → Option (Nat × Lf × Log)
  | [] => none
  | i :: rs =>
    match tryTake T ops ws h0 listed (stS x (sc i)) i with
    | some r => some (i, r.1, r.2)
    | none => takeK T ops ws h0 sc listed x rs
theorem takeK_spec {T : Tab} {ops : Array Oper} {ws : List Nat} {h0 : Hp} {sc : Nat → List Dec} {listed : Array Bool} {x : Lf} : ∀ {rs : List Nat} {i : Nat} {x' : Lf} {lg : Log}, takeK T ops ws h0 sc listed x rs = some (i, x', lg) → i ∈ rs ∧ tryTake T ops ws h0 listed (stS x (sc i)) i = some (x', lg)
  | [], _, _, _, h => by cases h
  | j :: rs, i, x', lg, h => by
    simp only [takeK] at h
    split at h
    · rename_i r hr; cases h; exact ⟨List.mem_cons_self, hr⟩
    · have := takeK_spec h; exact ⟨List.mem_cons_of_mem _ this.1, this.2⟩
def dfsK (T : Tab) (call : CallF) (ops : Array Oper) (ws : List Nat) (h0 : Hp) (sc : Nat → List Dec) : Nat → Array Bool → Lf → Lg → Option (List Lf × Lg)
  | 0, listed, x, L =>
    match Region.ready .any ops listed with
    | [] => some ([x], L)
    | _ :: _ => none
  | fuel + 1, listed, x, L =>
    match Region.ready .any ops listed with
    | [] => some ([x], L)
    | i0 :: rs0 =>
      match takeK T ops ws h0 sc listed x (i0 :: rs0) with
      | some r => forceI (fun i => dfsK T call ops ws h0 sc fuel (listed.setIfInBounds i true) r.2.1 (Lg.add r.2.2 L)) ops.size 0 r.1
      | none => brs (fun i x L =>
          match ops[i]? with
          | some o =>
            match opS T call ops o (stS x (sc i)) L with
            | some r => dfsK T call ops ws h0 sc fuel (listed.setIfInBounds i true) r.1 ⟨r.2.cs, r.2.es, keepB T.auto ws h0 r.1.2.1 ++ r.2.bs⟩
            | none => none
          | none => none) x (i0 :: rs0) L
theorem dfsK_ok {T : Tab} (hT : TabOk T) {call : CallF} (hC : CallOk T call) {ops : Array Oper} (hsel : Region.noSelect ops = true) {ws : List Nat} {h0 : Hp} {sc : Nat → List Dec} :
    ∀ (fuel : Nat) (listed : Array Bool) (x : Lf) (L : Lg) (leaves : List Lf) (L' : Lg), dfsK T call ops ws h0 sc fuel listed x L = some (leaves, L') → DfsOk T ops ws h0 fuel listed x L leaves L' := by
  intro fuel
  induction fuel with
  | zero =>
    intro listed x L leaves L' h hL
    simp only [dfsK] at h
    split at h
    · rename_i hr
      cases h
      refine ⟨hL, by simp, fun m0 w0 B G m hm a w R hn hS Q _ hQ => ⟨hr, ?_⟩⟩
      exact hQ x (by simp) _ _ ⟨m, Agree.refl _ _, R, Below.refl _ _, Nat.le_refl _⟩
    · cases h
  | succ fuel ih =>
    intro listed x L leaves L' h hL
    simp only [dfsK] at h
    split at h
    · rename_i hr
      cases h
      refine ⟨hL, by simp, fun m0 w0 B G m hm a w R hn hS Q _ hQ => wpAnyH_done hr ?_ _⟩
      exact hQ x (by simp) _ _ ⟨m, Agree.refl _ _, R, Below.refl _ _, Nat.le_refl _⟩
    · rename_i i0 rs0 hr
      split at h
      · rename_i r htake
        have h := forceI_some h
        obtain ⟨hmem, htry⟩ := takeK_spec (i := r.1) (x' := r.2.1) (lg := r.2.2) htake
        obtain ⟨h1, h2, h3⟩ := ih _ _ _ _ _ h hL
        obtain ⟨l1, l2⟩ := Lg.add_ok h1
        refine ⟨l2, h2, fun m0 w0 B G m hm a w R hn hS Q hP hQ => ?_⟩
        refine tryTake_ok hsel htry l1 (by rw [hr]; exact hmem) G hm (R.stS (sc r.1)) hn hS hP fun a' hR => ?_
        obtain ⟨m', k1, k2, k3, k4⟩ := hR
        exact h3 m0 w0 B G m' (hm.trans k1 hn) a' w k2 (Nat.le_trans hn k4) hS Q hP fun y hy a'' w'' hR' => hQ y hy _ _ (Reach.trans k1 k3 k4 hR')
      · rename_i htake
        obtain ⟨h1, h2⟩ := brs_spec h (by
          intro i L ls' L1 hf hok
          split at hf
          · rename_i o hi
            split at hf
            · rename_i r hr'
              obtain ⟨g1, _⟩ := ih _ _ _ _ _ hf hok
              exact (opS_ok (x' := r.1) (L' := r.2) hT hC hi hr' (kept_ok g1).1).1
            · cases hf
          · cases hf) hL
        have each : ∀ i ∈ i0 :: rs0, ∃ o, ops[i]? = some o ∧ ∃ Li li Li' r, opS T call ops o (stS x (sc i)) Li = some r ∧ dfsK T call ops ws h0 sc fuel (listed.setIfInBounds i true) r.1 ⟨r.2.cs, r.2.es, keepB T.auto ws h0 r.1.2.1 ++ r.2.bs⟩ = some (li, Li') ∧ Li'.ok ∧ ∀ l ∈ li, l ∈ leaves := by
          intro i hi
          obtain ⟨Li, li, Li', g1, g2, g3⟩ := h2 i hi
          split at g1
          · rename_i o hio
            split at g1
            · rename_i r hr'; exact ⟨o, hio, Li, li, Li', r, hr', g1, g2, g3⟩
            · cases g1
          · cases g1
        refine ⟨h1, ?_, fun m0 w0 B G m hm a w R hn hS Q hP hQ => ?_⟩
        · obtain ⟨o, _, Li, li, Li', r, g1, g2, g3, g4⟩ := each i0 (by simp)
          obtain ⟨_, hne, _⟩ := ih _ _ _ _ _ g2 g3
          intro he
          cases li with
          | nil => exact hne rfl
          | cons l0 ls0 => exact absurd (he ▸ g4 l0 (by simp)) (by simp)
        · refine wpAnyH_all hr (by simp) fun i hi => ?_
          obtain ⟨o, hio, Li, li, Li', r, g1, g2, g3, g4⟩ := each i hi
          obtain ⟨q1, _, q3⟩ := ih _ _ _ _ _ g2 g3
          obtain ⟨q4, q5⟩ := kept_ok q1
          refine (opS_ok (x' := r.1) (L' := r.2) hT hC hio g1 q4).2 m B a w (R.stS (sc i)) Q _ fun a' w' hR => ?_
          obtain ⟨m', k1, k2, k3, k4⟩ := hR
          have hm' := hm.trans k1 hn
          have hS' := same_of G hm' k2.emb q5
          exact ⟨hS', q3 m0 w0 B G m' hm' a' w' k2 (Nat.le_trans hn k4) hS' Q hP fun y hy a'' w'' hR' => hQ y (g4 y hy) _ _ (Reach.trans k1 k3 k4 hR')⟩
/-! ### new blocks put in order -/
/-- a block whose cells bear no addresses: told by its type; that it is so is to be shown -/
def useT (P : Program) (t : TypeId) : Bool :=
  if Nat.ble dead t = true then true else
    match P.underlying t with
    | some (.int _) => true
    | _ => false
def renC (P : Program) (f : Nat → Nat) (x : List Value × TypeId) : List Value × TypeId :=
  match useT P x.2 with
  | true => x
  | false => (x.1.map (rn1 f), x.2)
/-- a value that bears no address -/
def calm1 : Value → Bool
  | .pointer (some _) => false
  | .slice (some _) _ _ => false
  | .map (some _) => false
  | _ => true
theorem mv1_calm {f g : Mp} {v : Value} (h : calm1 v = true) : mv1 f v = mv1 g v := by
  cases v with
  | pointer a => cases a <;> simp_all [calm1, mv1]
  | map a => cases a <;> simp_all [calm1, mv1]
  | slice a l c => cases a <;> simp_all [calm1, mv1]
  | _ => rfl
def testC (P : Program) : List (List Value × TypeId) → Log
  | [] => []
  | x :: l =>
    match useT P x.2 with
    | true => (x.1.all calm1, true) :: testC P l
    | false => testC P l
theorem testC_spec {P : Program} : ∀ {l : List (List Value × TypeId)}, okLog (testC P l) → ∀ x ∈ l, useT P x.2 = true → ∀ v ∈ x.1, calm1 v = true
  | [], _, x, hx => by cases hx
  | y :: l, h, x, hx => by
    intro hu
    simp only [testC] at h
    rcases List.mem_cons.1 hx with rfl | hx
    · rw [hu] at h
      have := h _ List.mem_cons_self
      simpa [List.all_eq_true] using this
    · refine testC_spec (l := l) ?_ x hx hu
      split at h
      · exact fun e he => h e (List.mem_cons_of_mem _ he)
      · exact h
def Hp.ren (P : Program) (f : Nat → Nat) (h : Hp) : Hp := ⟨h.n, h.l.map (renC P f)⟩
theorem Hp.blk_ren (P : Program) (f : Nat → Nat) (h : Hp) (b : Nat) : (h.ren P f).blk? b = (h.blk? b).map (renC P f) := by
  unfold Hp.ren Hp.blk?
  simp only
  split
  · simp
  · rfl
theorem renC_ty (P : Program) (f : Nat → Nat) (x : List Value × TypeId) : (renC P f x).2 = x.2 := by unfold renC; split <;> rfl
theorem renC_mv {P : Program} {f : Nat → Nat} {m : Mp} {x : List Value × TypeId} (hff : ∀ b, f (f b) = b) (h : useT P x.2 = true → ∀ v ∈ x.1, calm1 v = true) : (renC P f x).1.map (mv1 (fun b => m (f b))) = x.1.map (mv1 m) := by
  unfold renC
  split
  · rename_i hu
    exact List.map_congr_left fun v hv => mv1_calm (h hu v hv)
  · simp only [List.map_map]
    refine List.map_congr_left fun v _ => ?_
    simp only [Function.comp]
    rw [mv1_rn]
    congr 1
    funext b
    rw [hff]
theorem renC_lt {P : Program} {f : Nat → Nat} {n : Nat} {x : List Value × TypeId} (hf : ∀ b, b < n → f b < n) (h : ∀ v ∈ x.1, lt1 n v = true) : ∀ v ∈ (renC P f x).1, lt1 n v = true := by
  unfold renC
  split
  · exact h
  · intro v hv
    obtain ⟨u, hu, rfl⟩ := List.mem_map.1 hv
    exact lt1_ren hf (h u hu)
def swapK (P : Program) (i j : Nat) (z : Lf) : Lf × Log :=
  match z.2.1.blk? i, z.2.1.blk? j with
  | some x, some y => ((z.1.map (rn (swp i j)), ((z.2.1.put i y).put j x).ren P (swp i j), z.2.2), testC P z.2.1.l)
  | _, _ => (z, [])
theorem swapK_rel {P : Program} {m : Mp} {B : Nat} {z : Lf} {a : Act} {w : World} (R : Rel m B z a w) {i j : Nat} (hij : i < j) (hj : j < z.2.1.n) (hlog : okLog (swapK P i j z).2) : Rel (fun b => m (swp i j b)) B (swapK P i j z).1 a w ∧ (swapK P i j z).1.2.1.n = z.2.1.n := by
  obtain ⟨x, hx⟩ := blk_some R.emb (b := i) (by omega)
  obtain ⟨y, hy⟩ := blk_some R.emb hj
  have hi : i < z.2.1.n := by omega
  have hlt : ∀ b, b < z.2.1.n → swp i j b < z.2.1.n := fun b hb => swp_lt hi hj hb
  unfold swapK at hlog ⊢
  rw [hx, hy] at hlog ⊢
  simp only at hlog ⊢
  have l1 : (z.2.1.put i y).l.length = (z.2.1.put i y).n := by simp [Hp.put, R.emb.len]
  have blk : ∀ b, ((z.2.1.put i y).put j x).blk? b = z.2.1.blk? (swp i j b) := by
    intro b
    rw [Hp.blk_put l1 (by simpa [Hp.put] using hj), Hp.blk_put R.emb.len hi]
    unfold swp
    simp only [Nat.beq_eq]
    by_cases h1 : b = j
    · have h2 : b ≠ i := by omega
      rw [if_pos h1, if_neg h2, if_pos h1, hx]
    · rw [if_neg h1]
      by_cases h2 : b = i
      · rw [if_pos h2, if_pos h2, hy]
      · rw [if_neg h2, if_neg h2, if_neg h1]
  have mem : ∀ b u, z.2.1.blk? b = some u → u ∈ z.2.1.l := fun b u hb => by
    unfold Hp.blk? at hb
    split at hb
    · exact List.mem_of_getElem? hb
    · cases hb
  have blk' : ∀ b u, (((z.2.1.put i y).put j x).ren P (swp i j)).blk? b = some u → ∃ v, z.2.1.blk? (swp i j b) = some v ∧ u = renC P (swp i j) v := fun b u hb => by
    rw [Hp.blk_ren, blk] at hb
    cases hv : z.2.1.blk? (swp i j b) with
    | none => rw [hv] at hb; cases hb
    | some v => rw [hv] at hb; exact ⟨v, rfl, (Option.some.inj hb).symm⟩
  have calm : ∀ b v, z.2.1.blk? b = some v → useT P v.2 = true → ∀ c ∈ v.1, calm1 c = true := fun b v hb => testC_spec hlog v (mem b v hb)
  refine ⟨⟨?_, R.dfr, ⟨?_, ?_, ?_, ?_, ?_, ?_, R.emb.base, R.emb.ice, ?_⟩, ?_⟩, rfl⟩
  · rw [R.tmps, List.map_map]
    congr 1
    refine List.map_congr_left fun v _ => ?_
    simp only [Function.comp]
    rw [mv_rn]
    congr 1
    funext b
    rw [swp_swp]
  · simp [Hp.put, Hp.ren, R.emb.len]
  · intro b u hb hu
    obtain ⟨v, hv, rfl⟩ := blk' b u hb
    rw [renC_ty] at hu ⊢
    rw [renC_mv (swp_swp i j) (calm _ v hv)]
    exact R.emb.lies _ v hv hu
  · intro b u hb hu
    obtain ⟨v, hv, rfl⟩ := blk' b u hb
    rw [renC_ty] at hu
    exact R.emb.low _ v hv hu
  · intro b u hb hu hr
    obtain ⟨v, hv, rfl⟩ := blk' b u hb
    rw [renC_ty] at hu hr
    exact R.emb.ros _ v hv hu hr
  · intro b b' u u' hb hb' hu hu' h
    obtain ⟨v, hv, rfl⟩ := blk' b u hb
    obtain ⟨v', hv', rfl⟩ := blk' b' u' hb'
    rw [renC_ty] at hu hu'
    have := R.emb.inj _ _ v v' hv hv' hu hu' h
    rw [← swp_swp i j b, this, swp_swp]
  · intro b u hb
    obtain ⟨v, hv, rfl⟩ := blk' b u hb
    exact renC_lt hlt (R.emb.wf _ v hv)
  · intro b u hb hu
    obtain ⟨v, hv, rfl⟩ := blk' b u hb
    have ht := hu
    rw [renC_ty] at ht
    refine (R.emb.abs _ v hv ht).ren (f := swp i j) (r := []) (renC_ty ..).symm (by rw [List.append_nil, renC_mv (swp_swp i j) (calm _ v hv)]) (fun c z hz => ?_) fun c z _ _ _ he => by rw [← swp_swp i j c, he, swp_swp]
    obtain ⟨v', hv', rfl⟩ := blk' c z hz
    exact ⟨v', hv', (renC_ty ..).symm⟩
  · intro v hv
    obtain ⟨u, hu, rfl⟩ := List.mem_map.1 hv
    exact lt_ren hlt (R.wf u hu)
/-- the first block that a value bears -/
def firstC : List Value → Option Nat
  | [] => none
  | .pointer (some a) :: _ => some a.block
  | .slice (some a) _ _ :: _ => some a.block
  | _ :: l => firstC l
def firstT : List Value → Option Nat
  | [] => none
  | .pointer (some a) :: _ => some a.block
  | .slice (some a) _ _ :: _ => some a.block
  | .agg cs :: l =>
    match firstC cs.toList with
    | some b => some b
    | none => firstT l
  | _ :: l => firstT l
def firstB : Value → Option Nat
  | .tuple vs => firstT vs.toList
  | v => firstT [v]
def sortK (P : Program) (n0 : Nat) : Nat → List Nat → Lf → Lf × Log
  | _, [], z => (z, [])
  | i, d :: ds, z =>
    match firstB (z.1.getD d undef) with
    | some b =>
      match Nat.blt (n0 + i) b && Nat.blt b z.2.1.n with
      | true => ((sortK P n0 (i + 1) ds (swapK P (n0 + i) b z).1).1, (sortK P n0 (i + 1) ds (swapK P (n0 + i) b z).1).2 ++ (swapK P (n0 + i) b z).2)
      | false => sortK P n0 (i + 1) ds z
    | none => sortK P n0 i ds z
theorem sortK_reach {P : Program} {m : Mp} {B n : Nat} {w : World} {a' : Act} {w' : World} : ∀ (ds : List Nat) (i : Nat) {z : Lf}, okLog (sortK P n i ds z).2 → Reach m B n w z a' w' → Reach m B n w (sortK P n i ds z).1 a' w'
  | [], _, _, _, h => h
  | d :: ds, i, z, hl, h => by
    simp only [sortK] at hl ⊢
    split at hl
    · rename_i b hb
      split at hl
      · rename_i hc
        simp only [Bool.and_eq_true, blt_iff] at hc
        obtain ⟨l1, l2⟩ := okLog_append hl
        refine sortK_reach ds (i + 1) l1 ?_
        obtain ⟨m', k1, k2, k3, k4⟩ := h
        obtain ⟨r1, r2⟩ := swapK_rel k2 hc.1 hc.2 l2
        refine ⟨_, fun c hcn => ?_, r1, k3, by rw [r2]; exact k4⟩
        have : swp (n + i) b c = c := by
          unfold swp
          simp only [Nat.beq_eq]
          rw [if_neg (by omega), if_neg (by omega)]
        show m' (swp (n + i) b c) = m c
        rw [this]
        exact k1 c hcn
      · exact sortK_reach ds (i + 1) hl h
    · exact sortK_reach ds i hl h
/-! ### the region's own script, taken apart -/
def headA : Nat → List Dec → List (Nat × List Dec) × List Dec
  | 0, s => ([], s)
  | c + 1, .inr (.inl i) :: .inr (.inl l) :: s => ((i.toNat, s.take l.toNat) :: (headA c (s.drop l.toNat)).1, (headA c (s.drop l.toNat)).2)
  | _ + 1, s => ([], s)
def headN : Nat → List Dec → List Nat × List Dec
  | 0, s => ([], s)
  | c + 1, .inr (.inl i) :: s => (i.toNat :: (headN c s).1, (headN c s).2)
  | _ + 1, s => ([], s)
def scOf (A : List (Nat × List Dec)) (i : Nat) : List Dec :=
  match A with
  | [] => []
  | r :: A => if Nat.beq r.1 i = true then r.2 else scOf A i
def allK (P : Program) (n0 : Nat) (ds : List Nat) : List Lf → Log
  | [] => []
  | z :: l => (sortK P n0 0 ds z).2 ++ allK P n0 ds l
theorem allK_spec {P : Program} {n0 : Nat} {ds : List Nat} : ∀ {l : List Lf}, okLog (allK P n0 ds l) → ∀ z ∈ l, okLog (sortK P n0 0 ds z).2
  | [], _, z, hz => by cases hz
  | y :: l, h, z, hz => by
    simp only [allK] at h
    obtain ⟨h1, h2⟩ := okLog_append h
    rcases List.mem_cons.1 hz with rfl | hz
    · exact h1
    · exact allK_spec h2 z hz
def regK (T : Tab) (call : CallF) (ops : Array Oper) (A : List (Nat × List Dec)) (ds : List Nat) (rest : List Dec) (x : Lf) (L : Lg) : Option (Lf × Lg) :=
  if (Region.noSelect ops && (watch ops.toList x.1 x.2.1).all (fun b => Nat.blt b x.2.1.n)) = true then
    match dfsK T call ops (watch ops.toList x.1 x.2.1) x.2.1 (scOf A) ops.size (Array.replicate ops.size false) x L with
    | some (y :: ys, L') => some (stS (sortK T.P x.2.1.n 0 ds y).1 rest, ⟨allK T.P x.2.1.n ds (y :: ys) ++ L'.cs, ys.flatMap (fun z => esP T.auto (stS (sortK T.P x.2.1.n 0 ds z).1 rest) (stS (sortK T.P x.2.1.n 0 ds y).1 rest)) ++ L'.es, L'.bs⟩)
    | _ => none
  else none
theorem Reach.stS {m : Mp} {B n : Nat} {w : World} {x : Lf} {a : Act} {w' : World} (h : Reach m B n w x a w') (s : List Dec) : Reach m B n w (stS x s) a w' := by
  obtain ⟨m', k1, k2, k3, k4⟩ := h
  exact ⟨m', k1, k2.stS s, k3, k4⟩
theorem regK_ok {T : Tab} (hT : TabOk T) {call : CallF} (hC : CallOk T call) {ops : Array Oper} {A : List (Nat × List Dec)} {ds : List Nat} {rest : List Dec} {id : Nat} {x x' : Lf} {L L' : Lg} (hs : regK T call ops A ds rest x L = some (x', L')) (hL : L'.ok) :
    L.ok ∧ ∀ m B a w, Rel m B x a w → ∀ Q : Exit → Act → World → Prop, (∀ a' w', Reach m B x.2.1.n w x' a' w' → Q .normal a' w') → (Code.region id ops true).wp T.P Q a w := by
  unfold regK at hs
  split at hs
  · rename_i hc
    simp only [Bool.and_eq_true, List.all_eq_true, blt_iff] at hc
    obtain ⟨hsel, hlow⟩ := hc
    split at hs
    · rename_i y ys L1 hd
      cases hs
      have hcs : okLog (allK T.P x.2.1.n ds (y :: ys) ++ L1.cs) := hL.1
      obtain ⟨hk, hcs1⟩ := okLog_append hcs
      have ok1 : L1.ok := ⟨hcs1, fun e he => hL.2.1 e (List.mem_append_right _ he), hL.2.2⟩
      obtain ⟨h1, _, h3⟩ := dfsK_ok hT hC hsel _ _ _ _ _ _ hd ok1
      refine ⟨h1, fun m B a w R Q hQ => ?_⟩
      have hall : ∀ l ∈ y :: ys, stS (sortK T.P x.2.1.n 0 ds l).1 rest = stS (sortK T.P x.2.1.n 0 ds y).1 rest := fun l hl => by
        rcases List.mem_cons.1 hl with rfl | hl
        · rfl
        · exact esP_ok fun e he => hL.2.1 e (List.mem_append_left _ (List.mem_flatMap.2 ⟨l, hl, he⟩))
      have E1 : Emb m B x.2.1 { w with drawn := w.drawn + 1 } := ⟨R.emb.len, R.emb.lies, R.emb.low, R.emb.ros, R.emb.inj, R.emb.wf, R.emb.base, R.emb.ice, R.emb.abs⟩
      have hh := h3 m { w with drawn := w.drawn + 1 } B ⟨E1, hlow⟩ m (Agree.refl _ _) a { w with drawn := w.drawn + 1 } ⟨R.tmps, R.dfr, E1, R.wf⟩ (Nat.le_refl _) (fun b _ y hy hty => E1.lies b y hy hty)
        (fun e a' w' => e = .normal ∧ Reach m B x.2.1.n w (stS (sortK T.P x.2.1.n 0 ds y).1 rest) a' w') (fun c a w h => by cases h.1) fun l hl a' w' hR =>
          ⟨rfl, hall l hl ▸ (sortK_reach ds 0 (allK_spec hk l hl) (Reach.trans (w := w) (w' := { w with drawn := w.drawn + 1 }) (Agree.refl _ _) (Below.mk rfl rfl rfl (Nat.le_refl _) (fun _ _ => rfl)) (Nat.le_refl _) hR)).stS rest⟩
      exact wp_mono (wp_region_held hT.mixed hh) (fun e a' w' h => by obtain ⟨rfl, h⟩ := h; exact hQ _ _ h)
    · cases hs
  · cases hs
/-- the slots of what a region makes: where a table says so, new blocks are put in this order -/
def autoM (ops : List Oper) : Bool := (ops.any fun o => match o.op with | .makeSlice _ _ _ => true | .buildSlice _ _ _ => true | _ => false) || (match madeBy ops with | _ :: _ :: _ => true | _ => false)
def autoD (ops : List Oper) : List Nat := ops.filterMap fun o =>
  match o.op with
  | .makeSlice _ _ _ => o.dst
  | .buildSlice _ _ _ => o.dst
  | .alloc _ => o.dst
  | .call ⟨.value _, _, _⟩ => o.dst
  | _ => none
def regS (T : Tab) (call : CallF) (ops : Array Oper) (draw : Bool) (x : Lf) (L : Lg) : Option (Lf × Lg) :=
  match draw with
  | false => evOps T call ops ops.toList x L
  | true =>
    match x.2.2 with
    | .inr (.inr (.inr (.inr (.inl ())))) :: .inr (.inl c) :: .inr (.inr (.inr (.inr (.inl ())))) :: .inr (.inl k) :: .inr (.inr (.inr (.inr (.inl ())))) :: s =>
      regK T call ops (headA c.toNat s).1 (headN k.toNat (headA c.toNat s).2).1 (headN k.toNat (headA c.toNat s).2).2 x L
    | _ =>
    match T.auto && autoM ops.toList with
    | true => regK T call ops [] (autoD ops.toList) x.2.2 x L
    | false =>
    if (Region.noSelect ops && (watch ops.toList x.1 x.2.1).all (fun b => Nat.blt b x.2.1.n)) = true then
      match dfs T call ops (watch ops.toList x.1 x.2.1) x.2.1 ops.size (Array.replicate ops.size false) x L with
      | some (y :: ys, L') => some (canon ops.toList x.2.1.n y, ⟨L'.cs, ys.flatMap (fun z => esP T.auto (canon ops.toList x.2.1.n z) (canon ops.toList x.2.1.n y)) ++ L'.es, L'.bs⟩)
      | _ => none
    else none
theorem regS_ok {T : Tab} (hT : TabOk T) {call : CallF} (hC : CallOk T call) {ops : Array Oper} {draw : Bool} {id : Nat} {x x' : Lf} {L L' : Lg} (hs : regS T call ops draw x L = some (x', L')) (hL : L'.ok) :
    L.ok ∧ ∀ m B a w, Rel m B x a w → ∀ Q : Exit → Act → World → Prop, (∀ a' w', Reach m B x.2.1.n w x' a' w' → Q .normal a' w') → (Code.region id ops draw).wp T.P Q a w := by
  unfold regS at hs
  split at hs
  · obtain ⟨h1, h2⟩ := evOps_ok hT hC ops.toList 0 (by simp) x x' L L' hs hL
    refine ⟨h1, fun m B a w R Q hQ => wp_region ?_⟩
    have := h2 m B a w R Q hQ
    rw [← List.range_eq_range'] at this
    simpa using this
  · split at hs
    · exact regK_ok hT hC hs hL
    split at hs
    · exact regK_ok hT hC hs hL
    · split at hs
      · rename_i hc
        simp only [Bool.and_eq_true, List.all_eq_true, blt_iff] at hc
        obtain ⟨hsel, hlow⟩ := hc
        split at hs
        · rename_i y ys L1 hd
          cases hs
          have ok1 : L1.ok := ⟨hL.1, fun e he => hL.2.1 e (List.mem_append_right _ he), hL.2.2⟩
          obtain ⟨h1, _, h3⟩ := dfs_ok hT hC hsel _ _ _ _ _ _ hd ok1
          refine ⟨h1, fun m B a w R Q hQ => ?_⟩
          have hall : ∀ l ∈ y :: ys, canon ops.toList x.2.1.n l = canon ops.toList x.2.1.n y := fun l hl => by
            rcases List.mem_cons.1 hl with rfl | hl
            · rfl
            · exact esP_ok fun e he => hL.2.1 e (List.mem_append_left _ (List.mem_flatMap.2 ⟨l, hl, he⟩))
          have E1 : Emb m B x.2.1 { w with drawn := w.drawn + 1 } := ⟨R.emb.len, R.emb.lies, R.emb.low, R.emb.ros, R.emb.inj, R.emb.wf, R.emb.base, R.emb.ice, R.emb.abs⟩
          have hh := h3 m { w with drawn := w.drawn + 1 } B ⟨E1, hlow⟩ m (Agree.refl _ _) a { w with drawn := w.drawn + 1 } ⟨R.tmps, R.dfr, E1, R.wf⟩ (Nat.le_refl _) (fun b _ y hy hty => E1.lies b y hy hty)
            (fun e a' w' => e = .normal ∧ Reach m B x.2.1.n w (canon ops.toList x.2.1.n y) a' w') (fun c a w h => by cases h.1) fun l hl a' w' hR =>
              ⟨rfl, hall l hl ▸ canon_reach <| Reach.trans (w' := { w with drawn := w.drawn + 1 }) (Agree.refl _ _) (Below.mk rfl rfl rfl (Nat.le_refl _) (fun _ _ => rfl)) (Nat.le_refl _) hR⟩
          exact wp_mono (wp_region_held hT.mixed hh) (fun e a' w' h => by obtain ⟨rfl, h⟩ := h; exact hQ _ _ h)
        · cases hs
      · cases hs
end Go.KRun
