/-
  tillerlaw02.words, as a call with two rows.
-/
import Derived.Test.YtecemjilmlagdaaDoorG06
namespace Go.Proofs.YtecemjilmlagdaaDoor
open Go.KRun Go.Nt
set_option maxRecDepth 100000

def i6' (n : Int) : Value := .int .i64 n
def oA (F : Func) : Code := cFst (cSnd (cBody F))
def oR (F : Func) : Code := cFst (cFst (cSnd (cSnd (cBody F))))
def oLoop (F : Func) : Code := cIn (cIn (cSnd (cFst (cSnd (cSnd (cBody F))))))
def oEnd (F : Func) : Code := cSnd (cSnd (cSnd (cBody F)))
theorem words_body : Tryd.f18.body = some (seqs (nPre Tryd.f18) (.seq (oA Tryd.f18) (.seq (.seq (oR Tryd.f18) (.block 0 (.loop (oLoop Tryd.f18)))) (oEnd Tryd.f18)))) := by kernel_rfl
theorem words_pre (v w : Value) (h : Hp) : GoesT (evL (tabOf Tryd.prog extY conN true) 100 (nPre Tryd.f18) ([v, w] ++ List.replicate 24 undef, h, []) ⟨[], [], []⟩) 6 20 none [v, w, undef, undef, .bool false, undef] h [] := ⟨by kernel_rfl, by kernel_rfl, by kernel_rfl⟩
theorem words_ne (p q : Option Addr) (n c k d : Nat) (j2 j3 j4 j5 : Value) (h : Hp) (g : Nat → Value) : GoesE (evC (tabOf Tryd.prog extY conN true) 100 false (oA Tryd.f18) ([.slice p n c, .slice q k d, j2, j3, j4, j5] ++ tl 20 g, h, [cmp true]) ⟨[], [], []⟩) 6 20 (some none)
    [.slice p n c, .slice q k d, j2, j3, .bool false, j5] h [((n : Int) != k, true)] := by unfold GoesE; kernel_rfl
theorem words_eq (p q : Option Addr) (n c k d : Nat) (j2 j3 j4 j5 : Value) (h : Hp) (g : Nat → Value) : GoesE (evC (tabOf Tryd.prog extY conN true) 100 false (oA Tryd.f18) ([.slice p n c, .slice q k d, j2, j3, j4, j5] ++ tl 20 g, h, [cmp false]) ⟨[], [], []⟩) 6 20 none
    [.slice p n c, .slice q k d, j2, j3, j4, j5] h [((n : Int) != k, false)] := by unfold GoesE; kernel_rfl
theorem words_r (v w j2 j3 j4 j5 : Value) (h : Hp) (g : Nat → Value) : GoesE (evC (tabOf Tryd.prog extY conN true) 100 false (oR Tryd.f18) ([v, w, j2, j3, j4, j5] ++ tl 20 g, h, []) ⟨[], [], []⟩) 6 20 none
    [v, w, j2, j3, j4, i6' 0] h [] := by unfold GoesE; kernel_rfl
theorem words_out (p : Option Addr) (n c : Nat) (i : Int) (w j2 j3 j4 : Value) (h : Hp) (g : Nat → Value) : GoesE (evC (tabOf Tryd.prog extY conN true) 100 false (oLoop Tryd.f18) ([.slice p n c, w, j2, j3, j4, i6' i] ++ tl 20 g, h, [cmp false]) ⟨[], [], []⟩) 6 20 (some (some 0))
    [.slice p n c, w, j2, j3, j4, i6' i] h [(decide (i < n), false)] := by unfold GoesE; kernel_rfl
theorem words_go (o n c o' n' c' : Nat) (i x y : Int) (la lb : List Value) (j2 j3 j4 : Value) (g : Nat → Value) : GoesT (evC (tabOf Tryd.prog extY conN true) 100 false (oLoop Tryd.f18) ([sl 0 o n c, sl 1 o' n' c', j2, j3, j4, i6' i] ++ tl 20 g, h2 la lb, [cmp true, at_, val (.int .u32 x), at_, val (.int .u32 y), cmp false]) ⟨[], [], []⟩) 6 20 none
    [sl 0 o n c, sl 1 o' n' c', j2, j3, j4, i6' (IntKind.i64.wrap (i + 1))] (h2 la lb) [(x != y, false), (cellIs (lb[o' + i.toNat * 1]?) (.int .u32 y), true), (decide (0 ≤ i ∧ i < n'), true), (cellIs (la[o + i.toNat * 1]?) (.int .u32 x), true), (decide (0 ≤ i ∧ i < n), true), (decide (i < n), true)] := ⟨by kernel_rfl, by kernel_rfl, by kernel_rfl⟩
theorem words_no (o n c o' n' c' : Nat) (i x y : Int) (la lb : List Value) (j2 j3 j4 : Value) (g : Nat → Value) : GoesT (evC (tabOf Tryd.prog extY conN true) 100 false (oLoop Tryd.f18) ([sl 0 o n c, sl 1 o' n' c', j2, j3, j4, i6' i] ++ tl 20 g, h2 la lb, [cmp true, at_, val (.int .u32 x), at_, val (.int .u32 y), cmp true]) ⟨[], [], []⟩) 6 20 (some none)
    [sl 0 o n c, sl 1 o' n' c', j2, j3, .bool false, i6' i] (h2 la lb) [(x != y, true), (cellIs (lb[o' + i.toNat * 1]?) (.int .u32 y), true), (decide (0 ≤ i ∧ i < n'), true), (cellIs (la[o + i.toNat * 1]?) (.int .u32 x), true), (decide (0 ≤ i ∧ i < n), true), (decide (i < n), true)] := ⟨by kernel_rfl, by kernel_rfl, by kernel_rfl⟩
theorem words_end (v w j2 j3 j4 j5 : Value) (h : Hp) (g : Nat → Value) : GoesE (evC (tabOf Tryd.prog extY conN true) 100 false (oEnd Tryd.f18) ([v, w, j2, j3, j4, j5] ++ tl 20 g, h, []) ⟨[], [], []⟩) 6 20 (some none)
    [v, w, j2, j3, .bool true, j5] h [] := by unfold GoesE; kernel_rfl
/-- a row that is empty: nothing is read -/
theorem words_runs0 (p q : Option Addr) (n c k d : Nat) (h : Hp) (h0 : n = 0 ∨ k = 0) :
    Runs (tabOf Tryd.prog extY conN true) (seqs (nPre Tryd.f18) (.seq (oA Tryd.f18) (.seq (.seq (oR Tryd.f18) (.block 0 (.loop (oLoop Tryd.f18)))) (oEnd Tryd.f18)))) ([.slice p n c, .slice q k d] ++ List.replicate 24 undef, h, []) fun e y => (e = none ∨ e = some none) ∧ resS Tryd.prog Tryd.f18 y.1 y.2.1 = some (.bool (decide (n = k))) := by
  refine goesT_list (tabY_ok conN_ok) (words_pre _ _ _) (fun x hx => by cases hx) fun g => ?_
  by_cases hn : n = k
  · have n0 : n = 0 := by omega
    refine Runs.seq (goesT_runs (tabY_ok conN_ok) (words_eq p q n c k d undef undef (.bool false) undef h g).t (okOne (by simp [hn]))) ?_ (fun e y he => by cases he.1)
    rintro ⟨t, h', s⟩ ⟨_, ⟨g1, ht⟩, hh⟩
    simp only at ht hh
    subst ht hh
    refine Runs.seq (P1 := fun e y => e = none ∧ (∃ g i, y.1 = [.slice p n c, .slice q k d, undef, undef, .bool false, i6' i] ++ tl 20 g) ∧ y.2.1 = h') ?_ ?_ (fun e y he => by cases he.1)
    · refine Runs.seq (goesT_runs (tabY_ok conN_ok) (words_r _ _ undef undef (.bool false) undef h' g1).t (fun x hx => by cases hx)) ?_ (fun e y he => by cases he.1)
      rintro ⟨t, h'', s⟩ ⟨_, ⟨g2, ht⟩, hh⟩
      simp only at ht hh
      subst ht hh
      refine (Runs.forLoop (P := fun y => (∃ g i, y.1 = [.slice p n c, .slice q k d, undef, undef, .bool false, i6' i] ++ tl 20 g) ∧ y.2.1 = h'') (R := fun _ => False) (fun _ y => ∃ g, y.1 = [.slice p n c, .slice q k d, undef, undef, .bool false, i6' 0] ++ tl 20 g ∧ y.2.1 = h'') ?_ (n := 0) ⟨g2, rfl, rfl⟩).mono fun e y he => ?_
      · rintro _ ⟨t, h3, s⟩ ⟨g, ht, hh⟩
        simp only at ht hh
        subst ht hh
        refine (goesT_runs (tabY_ok conN_ok) (words_out p n c 0 _ undef undef (.bool false) h3 g).t (okOne (decide_eq_false (by omega)))).mono fun e y he => ?_
        obtain ⟨rfl, ⟨g', e2⟩, e3⟩ := he
        exact ⟨rfl, ⟨g', 0, e2⟩, e3⟩
      · match e, he with
        | none, he => exact ⟨rfl, he⟩
    · rintro ⟨t, h'', s⟩ ⟨_, ⟨g2, i, ht⟩, hh⟩
      simp only at ht hh
      subst ht hh
      refine (goesT_runs (tabY_ok conN_ok) (words_end _ _ undef undef (.bool false) _ h'' g2).t (fun x hx => by cases hx)).mono fun e y he => ?_
      obtain ⟨rfl, ⟨g3, e2⟩, e3⟩ := he
      refine ⟨.inr rfl, ?_⟩
      rw [e2, e3, decide_eq_true hn]
      rfl
  · refine Runs.seq (goesT_runs (tabY_ok conN_ok) (words_ne p q n c k d undef undef (.bool false) undef h g).t (okOne (by simp; omega))) (fun y he => by cases he.1) (fun e y he => ?_)
    obtain ⟨h1, ⟨g3, e2⟩, e3⟩ := he
    refine ⟨.inr h1, ?_⟩
    rw [e2, e3, decide_eq_false hn]
    rfl
theorem getD_ext {L M : List Int} (hl : L.length = M.length) (h : ∀ i, i < L.length → L.getD i 0 = M.getD i 0) : L = M := by
  refine List.ext_getElem hl fun i h1 h2 => ?_
  have := h i h1
  simpa [List.getD, List.getElem?_eq_getElem h1, List.getElem?_eq_getElem h2] using this
theorem words_runs {la lb : List Value} {o o' c c' : Nat} {La Lb : List Int} (Ra : Row la o La) (Rb : Row lb o' Lb) (hc : La.length < 4611686018427387904) :
    Runs (tabOf Tryd.prog extY conN true) (seqs (nPre Tryd.f18) (.seq (oA Tryd.f18) (.seq (.seq (oR Tryd.f18) (.block 0 (.loop (oLoop Tryd.f18)))) (oEnd Tryd.f18)))) ([sl 0 o La.length c, sl 1 o' Lb.length c'] ++ List.replicate 24 undef, h2 la lb, []) fun e y => (e = none ∨ e = some none) ∧ resS Tryd.prog Tryd.f18 y.1 y.2.1 = some (.bool (decide (La = Lb))) := by
  refine goesT_list (tabY_ok conN_ok) (words_pre _ _ _) (fun x hx => by cases hx) fun g => ?_
  by_cases hn : La.length = Lb.length
  · refine Runs.seq (goesT_runs (tabY_ok conN_ok) (words_eq _ _ La.length c Lb.length c' undef undef (.bool false) undef (h2 la lb) g).t (okOne (by simp [hn]))) ?_ (fun e y he => by cases he.1)
    rintro ⟨t, h', s⟩ ⟨_, ⟨g1, ht⟩, hh⟩
    simp only at ht hh
    subst ht hh
    refine Runs.seq (P1 := fun e y => (e = none ∧ (∃ g i, y.1 = [sl 0 o La.length c, sl 1 o' Lb.length c', undef, undef, .bool false, i6' i] ++ tl 20 g) ∧ y.2.1 = h2 la lb ∧ La = Lb) ∨ (e = some none ∧ (∃ g i, y.1 = [sl 0 o La.length c, sl 1 o' Lb.length c', undef, undef, .bool false, i6' i] ++ tl 20 g) ∧ y.2.1 = h2 la lb ∧ La ≠ Lb)) ?_ ?_ ?_
    · refine Runs.seq (goesT_runs (tabY_ok conN_ok) (words_r _ _ undef undef (.bool false) undef _ g1).t (fun x hx => by cases hx)) ?_ (fun e y he => by cases he.1)
      rintro ⟨t, h'', s⟩ ⟨_, ⟨g2, ht⟩, hh⟩
      simp only at ht hh
      subst ht hh
      refine (Runs.forLoop (P := fun y => (∃ g i, y.1 = [sl 0 o La.length c, sl 1 o' Lb.length c', undef, undef, .bool false, i6' i] ++ tl 20 g) ∧ y.2.1 = h2 la lb ∧ La = Lb) (R := fun y => (∃ g i, y.1 = [sl 0 o La.length c, sl 1 o' Lb.length c', undef, undef, .bool false, i6' i] ++ tl 20 g) ∧ y.2.1 = h2 la lb ∧ La ≠ Lb)
        (fun r y => ∃ (k : Nat) (g : Nat → Value), k + r = La.length ∧ y.1 = [sl 0 o La.length c, sl 1 o' Lb.length c', undef, undef, .bool false, i6' k] ++ tl 20 g ∧ y.2.1 = h2 la lb ∧ ∀ i, i < k → La.getD i 0 = Lb.getD i 0) ?_ (n := La.length) ⟨0, g2, by omega, rfl, rfl, fun i hi => by omega⟩).mono fun e y he => ?_
      · rintro r ⟨t, h3, s⟩ ⟨k, g, hk, ht, hh, hpre⟩
        simp only at ht hh
        subst ht hh
        cases r with
        | zero =>
          refine (goesT_runs (tabY_ok conN_ok) (words_out _ La.length c k _ undef undef (.bool false) _ g).t (okOne (decide_eq_false (by omega)))).mono fun e y he => ?_
          obtain ⟨rfl, ⟨g', e2⟩, e3⟩ := he
          exact ⟨rfl, ⟨g', k, e2⟩, e3, getD_ext hn fun i hi => hpre i (by omega)⟩
        | succ r =>
          have ca := Ra.cell (k := k) (by omega)
          have cb := Rb.cell (k := k) (by omega)
          have ha : cellIs (la[o + ((k : Int)).toNat * 1]?) (.int .u32 (La.getD k 0)) = true := by
            rw [Int.toNat_natCast, Nat.mul_one, ca]; simp [cellIs]
          have hb : cellIs (lb[o' + ((k : Int)).toNat * 1]?) (.int .u32 (Lb.getD k 0)) = true := by
            rw [Int.toNat_natCast, Nat.mul_one, cb]; simp [cellIs]
          by_cases hx : La.getD k 0 = Lb.getD k 0
          · refine (goesT_runs (tabY_ok conN_ok) (words_go o La.length c o' Lb.length c' k (La.getD k 0) (Lb.getD k 0) la lb undef undef (.bool false) g) (okTwo (by show (La.getD k 0 != Lb.getD k 0) = false; rw [hx]; exact bne_self_eq_false _) (okTwo hb (okTwo (decide_eq_true (by omega)) (okTwo ha (okTwo (decide_eq_true (by omega)) (okOne (decide_eq_true (by omega))))))))).mono fun e y he => ?_
            obtain ⟨rfl, ⟨g', e2⟩, e3⟩ := he
            refine ⟨r, by omega, k + 1, g', by omega, ?_, e3, fun i hi => ?_⟩
            · rw [e2, wrapI (by omega) (by omega)]; rfl
            · rcases Nat.lt_or_ge i k with h | h
              · exact hpre i h
              · have : i = k := by omega
                rw [this]; exact hx
          · refine (goesT_runs (tabY_ok conN_ok) (words_no o La.length c o' Lb.length c' k (La.getD k 0) (Lb.getD k 0) la lb undef undef (.bool false) g) (okTwo (by simpa using hx) (okTwo hb (okTwo (decide_eq_true (by omega)) (okTwo ha (okTwo (decide_eq_true (by omega)) (okOne (decide_eq_true (by omega))))))))).mono fun e y he => ?_
            obtain ⟨rfl, ⟨g', e2⟩, e3⟩ := he
            exact ⟨⟨g', k, e2⟩, e3, fun h => hx (by rw [h])⟩
      · match e, he with
        | none, he => exact .inl ⟨rfl, he⟩
        | some none, he => exact .inr ⟨rfl, he⟩
    · rintro ⟨t, h'', s⟩ (⟨_, ⟨g2, i, ht⟩, hh, heq⟩ | ⟨h, _⟩)
      · simp only at ht hh
        subst ht hh
        refine (goesT_runs (tabY_ok conN_ok) (words_end _ _ undef undef (.bool false) _ _ g2).t (fun x hx => by cases hx)).mono fun e y he => ?_
        obtain ⟨rfl, ⟨g3, e2⟩, e3⟩ := he
        refine ⟨.inr rfl, ?_⟩
        rw [e2, e3, decide_eq_true heq]
        rfl
      · cases h
    · rintro e y (⟨h, _⟩ | ⟨h1, ⟨g3, i, e2⟩, e3, hne⟩)
      · cases h
      · refine ⟨.inr h1, ?_⟩
        rw [e2, e3, decide_eq_false hne]
        rfl
  · refine Runs.seq (goesT_runs (tabY_ok conN_ok) (words_ne _ _ La.length c Lb.length c' undef undef (.bool false) undef (h2 la lb) g).t (okOne (by simp; omega))) (fun y he => by cases he.1) (fun e y he => ?_)
    obtain ⟨h1, ⟨g3, e2⟩, e3⟩ := he
    refine ⟨.inr h1, ?_⟩
    rw [e2, e3, decide_eq_false (fun h => hn (by rw [h]))]
    rfl
def gWords : AnsH := fun vals h s =>
  match vals with
  | [.slice (some ⟨b, o, none⟩) n c, .slice (some ⟨b', o', none⟩) n' c'] =>
    match h.blk? b, h.blk? b', s with
    | some x, some y, .inr (.inr (.inr (.inl d))) :: s' => some (.bool d, h, s', [(rowOk x.2 x.1 o n c, true), (rowOk y.2 y.1 o' n' c', true), (decide (cutI x.1 o n = cutI y.1 o' n'), d)])
    | _, _, _ => none
  | [.slice none 0 0, .slice none 0 0] => some (.bool true, h, s, [])
  | [.slice none 0 0, .slice (some _) k _] =>
    match s with
    | .inr (.inr (.inr (.inl d))) :: s' => some (.bool d, h, s', [(decide (0 = k), d)])
    | _ => none
  | [.slice (some _) n _, .slice none 0 0] =>
    match s with
    | .inr (.inr (.inr (.inl d))) :: s' => some (.bool d, h, s', [(decide (n = 0), d)])
    | _ => none
  | _ => none
theorem gWords_ok : AnsHOk 18 gWords := by
  intro vals h s v h' s' lg hg hl m B w E hv
  unfold gWords at hg
  split at hg
  · rename_i b o n c b' o' n' c'
    split at hg
    · rename_i x y d s2 hx hy
      cases hg
      obtain ⟨a1, a2, a3, a4, a5, a6, a7⟩ := row_of (hl _ (List.mem_cons_self))
      obtain ⟨b1, b2, b3, b4, b5, b6, b7⟩ := row_of (hl _ (List.mem_cons_of_mem _ List.mem_cons_self))
      have hd := hl _ (List.mem_cons_of_mem _ (List.mem_cons_of_mem _ (List.mem_singleton.2 rfl)))
      simp only at hd
      have hsm : n < 4611686018427387904 := by have := blt_iff.1 a4; unfold dead at this; omega
      have r := words_runs (c := c) (c' := c') a1 b1 (by rw [a2]; exact hsm)
      rw [a2, b2, hd] at r
      have lx := Hp.blk_lt hx
      have ly := Hp.blk_lt hy
      have := row_calls (T := tabOf Tryd.prog extY conN true) Tryd.func18 words_body (rows2 a7 b7) (vals := [sl 0 o n c, sl 1 o' n' c']) (fun v hv => by
        simp only [List.mem_cons, List.not_mem_nil, or_false] at hv
        rcases hv with rfl | rfl <;> rfl) (by rfl) r E (s := pair b b') (fun i _ => by unfold pair; split <;> assumption) (fitsR2 hx a5 a6 hy b5 b6)
      exact this.mono fun e w' he => ⟨m, he.1, he.2⟩
    · cases hg
  · cases hg
    have r := words_runs0 none none 0 0 0 0 ⟨0, []⟩ (.inl rfl)
    refine (calls_of_runs (T := tabOf Tryd.prog extY conN true) Tryd.func18 words_body (vals := [nilS, nilS]) (by rfl) (by rfl) r w).mono fun e w' he => ?_
    obtain ⟨E', hb⟩ := clean_emb E he.2
    exact ⟨m, he.1, ⟨Agree.refl _ _, E', hb, Nat.le_refl _, rfl⟩⟩
  · rename_i a k c
    split at hg
    · rename_i d s2
      cases hg
      have hd := hl _ (List.mem_singleton.2 rfl)
      simp only at hd
      have r := words_runs0 none (some { a with block := 0 }) 0 0 k c hT (.inl rfl)
      rw [hd] at r
      have hlt : a.block < h.n := by
        have := hv (.slice (some a) k c) (by simp)
        exact blt_iff.1 this
      have := row_calls (T := tabOf Tryd.prog extY conN true) Tryd.func18 words_body rowsT (vals := [nilS, .slice (some { a with block := 0 }) k c]) (fun v hv => by
        simp only [List.mem_cons, List.not_mem_nil, or_false] at hv
        rcases hv with rfl | rfl <;> rfl) (by rfl) r E (s := fun _ => a.block) (fun i _ => hlt) (fitsRT _ _)
      exact this.mono fun e w' he => ⟨m, he.1, he.2⟩
    · cases hg
  · rename_i a n c
    split at hg
    · rename_i d s2
      cases hg
      have hd := hl _ (List.mem_singleton.2 rfl)
      simp only at hd
      have r := words_runs0 (some { a with block := 0 }) none n c 0 0 hT (.inr rfl)
      rw [hd] at r
      have hlt : a.block < h.n := by
        have := hv (.slice (some a) n c) (by simp)
        exact blt_iff.1 this
      have := row_calls (T := tabOf Tryd.prog extY conN true) Tryd.func18 words_body rowsT (vals := [.slice (some { a with block := 0 }) n c, nilS]) (fun v hv => by
        simp only [List.mem_cons, List.not_mem_nil, or_false] at hv
        rcases hv with rfl | rfl <;> rfl) (by rfl) r E (s := fun _ => a.block) (fun i _ => hlt) (fitsRT _ _)
      exact this.mono fun e w' he => ⟨m, he.1, he.2⟩
    · cases hg
  · cases hg
end Go.Proofs.YtecemjilmlagdaaDoor

/-
  nat.compare, as a call with two rows.
-/
namespace Go.Proofs.YtecemjilmlagdaaDoor
open Go.KRun Go.Nt
set_option maxRecDepth 100000

def sideI (d : Bool) : Int := match d with | true => -1 | false => 1
theorem side_fits (d : Bool) : Fits (reckon (tabOf Tryd.prog extY conN true) 100 60 [.bool d] []) (i6' (sideI d)) [] := by
  cases d <;> exact ⟨by kernel_rfl, by kernel_rfl, by kernel_rfl, by kernel_rfl⟩
def gSide : Ans := fun vals s =>
  match vals with
  | [.bool d] => some (i6' (sideI d), s, [])
  | _ => none
theorem gSide_ok : AnsOk 60 gSide := by
  intro vals s v s' lg h hl w
  unfold gSide at h
  split at h
  · cases h
    exact fits_calls (tabY_ok conN_ok) (side_fits _) (fun x hx => by cases hx) (by rfl) (by rfl) w
  · cases h
def conSd : Con := alt 60 gSide conN
theorem conSd_ok : ConOk conSd := alt_ok Tryd.func60 rfl gSide_ok conN_ok
theorem cmp_body : Tryd.f39.body = some (seqs (nPre Tryd.f39) (.seq (oA Tryd.f39) (.seq (.seq (oR Tryd.f39) (.block 0 (.loop (oLoop Tryd.f39)))) (oEnd Tryd.f39)))) := by kernel_rfl
theorem cmp_pre (v w : Value) (h : Hp) : GoesT (evL (tabOf Tryd.prog extY conSd true) 100 (nPre Tryd.f39) ([v, w] ++ List.replicate 41 undef, h, []) ⟨[], [], []⟩) 6 37 none [v, w, undef, undef, i6' 0, undef] h [] := ⟨by kernel_rfl, by kernel_rfl, by kernel_rfl⟩
theorem cmp_lt (p q : Option Addr) (n c k d : Nat) (j2 j3 j4 j5 : Value) (h : Hp) (g : Nat → Value) : GoesE (evC (tabOf Tryd.prog extY conSd true) 100 false (oA Tryd.f39) ([.slice p n c, .slice q k d, j2, j3, j4, j5] ++ tl 37 g, h, [cmp true, cmp true]) ⟨[], [], []⟩) 6 37 (some none)
    [.slice p n c, .slice q k d, j2, j3, i6' (-1), j5] h [(decide ((n : Int) < k), true), ((n : Int) != k, true)] := by unfold GoesE; kernel_rfl
theorem cmp_gt (p q : Option Addr) (n c k d : Nat) (j2 j3 j4 j5 : Value) (h : Hp) (g : Nat → Value) : GoesE (evC (tabOf Tryd.prog extY conSd true) 100 false (oA Tryd.f39) ([.slice p n c, .slice q k d, j2, j3, j4, j5] ++ tl 37 g, h, [cmp true, cmp false]) ⟨[], [], []⟩) 6 37 (some none)
    [.slice p n c, .slice q k d, j2, j3, i6' 1, j5] h [(decide ((n : Int) < k), false), ((n : Int) != k, true)] := by unfold GoesE; kernel_rfl
theorem cmp_eq (p q : Option Addr) (n c k d : Nat) (j2 j3 j4 j5 : Value) (h : Hp) (g : Nat → Value) : GoesE (evC (tabOf Tryd.prog extY conSd true) 100 false (oA Tryd.f39) ([.slice p n c, .slice q k d, j2, j3, j4, j5] ++ tl 37 g, h, [cmp false]) ⟨[], [], []⟩) 6 37 none
    [.slice p n c, .slice q k d, j2, j3, j4, j5] h [((n : Int) != k, false)] := by unfold GoesE; kernel_rfl
theorem cmp_r (p : Option Addr) (n c : Nat) (w j2 j3 j4 j5 : Value) (h : Hp) (g : Nat → Value) : GoesE (evC (tabOf Tryd.prog extY conSd true) 100 false (oR Tryd.f39) ([.slice p n c, w, j2, j3, j4, j5] ++ tl 37 g, h, []) ⟨[], [], []⟩) 6 37 none
    [.slice p n c, w, j2, j3, j4, i6' (n1 n)] h [] := by unfold GoesE; kernel_rfl
theorem cmp_out (v w j2 j3 j4 : Value) (i : Int) (h : Hp) (g : Nat → Value) : GoesE (evC (tabOf Tryd.prog extY conSd true) 100 false (oLoop Tryd.f39) ([v, w, j2, j3, j4, i6' i] ++ tl 37 g, h, [cmp false]) ⟨[], [], []⟩) 6 37 (some (some 0))
    [v, w, j2, j3, j4, i6' i] h [(decide (i ≥ 0), false)] := by unfold GoesE; kernel_rfl
theorem cmp_go (o n c o' n' c' : Nat) (i x y : Int) (la lb : List Value) (j2 j3 j4 : Value) (g : Nat → Value) : GoesT (evC (tabOf Tryd.prog extY conSd true) 100 false (oLoop Tryd.f39) ([sl 0 o n c, sl 1 o' n' c', j2, j3, j4, i6' i] ++ tl 37 g, h2 la lb, [cmp true, at_, val (.int .u32 x), at_, val (.int .u32 y), cmp false]) ⟨[], [], []⟩) 6 37 none
    [sl 0 o n c, sl 1 o' n' c', j2, j3, j4, i6' (IntKind.i64.wrap (i - 1))] (h2 la lb) [(x != y, false), (cellIs (lb[o' + i.toNat * 1]?) (.int .u32 y), true), (decide (0 ≤ i ∧ i < n'), true), (cellIs (la[o + i.toNat * 1]?) (.int .u32 x), true), (decide (0 ≤ i ∧ i < n), true), (decide (i ≥ 0), true)] := ⟨by kernel_rfl, by kernel_rfl, by kernel_rfl⟩
theorem cmp_no (d : Bool) (o n c o' n' c' : Nat) (i x y : Int) (la lb : List Value) (j2 j3 j4 : Value) (g : Nat → Value) : GoesT (evC (tabOf Tryd.prog extY conSd true) 100 false (oLoop Tryd.f39) ([sl 0 o n c, sl 1 o' n' c', j2, j3, j4, i6' i] ++ tl 37 g, h2 la lb, [cmp true, at_, val (.int .u32 x), at_, val (.int .u32 y), cmp true, at_, val (.int .u32 x), at_, val (.int .u32 y), cmp d]) ⟨[], [], []⟩) 6 37 (some none)
    [sl 0 o n c, sl 1 o' n' c', j2, j3, i6' (sideI d), i6' i] (h2 la lb) [(decide (x < y), d), (cellIs (lb[o' + i.toNat * 1]?) (.int .u32 y), true), (decide (0 ≤ i ∧ i < n'), true), (cellIs (la[o + i.toNat * 1]?) (.int .u32 x), true), (decide (0 ≤ i ∧ i < n), true), (x != y, true), (cellIs (lb[o' + i.toNat * 1]?) (.int .u32 y), true), (decide (0 ≤ i ∧ i < n'), true), (cellIs (la[o + i.toNat * 1]?) (.int .u32 x), true), (decide (0 ≤ i ∧ i < n), true), (decide (i ≥ 0), true)] := by
  cases d <;> exact ⟨by kernel_rfl, by kernel_rfl, by kernel_rfl⟩
theorem cmp_end (v w j2 j3 j4 j5 : Value) (h : Hp) (g : Nat → Value) : GoesE (evC (tabOf Tryd.prog extY conSd true) 100 false (oEnd Tryd.f39) ([v, w, j2, j3, j4, j5] ++ tl 37 g, h, []) ⟨[], [], []⟩) 6 37 (some none)
    [v, w, j2, j3, i6' 0, j5] h [] := by unfold GoesE; kernel_rfl
def cmpC (F : Func) : Code := seqs (nPre F) (.seq (oA F) (.seq (.seq (oR F) (.block 0 (.loop (oLoop F)))) (oEnd F)))
/-- rows of two lengths: nothing is read -/
theorem cmp_runs1 (p q : Option Addr) (n c k d : Nat) (h : Hp) (hn : n ≠ k) :
    Runs (tabOf Tryd.prog extY conSd true) (cmpC Tryd.f39) ([.slice p n c, .slice q k d] ++ List.replicate 41 undef, h, []) fun e y => (e = none ∨ e = some none) ∧ resS Tryd.prog Tryd.f39 y.1 y.2.1 = some (i6' (if n < k then -1 else 1)) := by
  refine goesT_list (tabY_ok conSd_ok) (cmp_pre _ _ _) (fun x hx => by cases hx) fun g => ?_
  by_cases hl : n < k
  · refine Runs.seq (goesT_runs (tabY_ok conSd_ok) (cmp_lt p q n c k d undef undef (i6' 0) undef h g).t (okTwo (decide_eq_true (by omega)) (okOne (by simp; omega)))) (fun y he => by cases he.1) (fun e y he => ?_)
    obtain ⟨h1, ⟨g3, e2⟩, e3⟩ := he
    refine ⟨.inr h1, ?_⟩
    rw [e2, e3, if_pos hl]
    rfl
  · refine Runs.seq (goesT_runs (tabY_ok conSd_ok) (cmp_gt p q n c k d undef undef (i6' 0) undef h g).t (okTwo (decide_eq_false (by omega)) (okOne (by simp; omega)))) (fun y he => by cases he.1) (fun e y he => ?_)
    obtain ⟨h1, ⟨g3, e2⟩, e3⟩ := he
    refine ⟨.inr h1, ?_⟩
    rw [e2, e3, if_neg hl]
    rfl
/-- two rows that are empty -/
theorem cmp_runs0 (p q : Option Addr) (c d : Nat) (h : Hp) :
    Runs (tabOf Tryd.prog extY conSd true) (cmpC Tryd.f39) ([.slice p 0 c, .slice q 0 d] ++ List.replicate 41 undef, h, []) fun e y => (e = none ∨ e = some none) ∧ resS Tryd.prog Tryd.f39 y.1 y.2.1 = some (i6' 0) := by
  refine goesT_list (tabY_ok conSd_ok) (cmp_pre _ _ _) (fun x hx => by cases hx) fun g => ?_
  refine Runs.seq (goesT_runs (tabY_ok conSd_ok) (cmp_eq p q 0 c 0 d undef undef (i6' 0) undef h g).t (okOne (by rfl))) ?_ (fun e y he => by cases he.1)
  rintro ⟨t, h', s⟩ ⟨_, ⟨g1, ht⟩, hh⟩
  simp only at ht hh
  subst ht hh
  refine Runs.seq (P1 := fun e y => e = none ∧ (∃ g i, y.1 = [.slice p 0 c, .slice q 0 d, undef, undef, i6' 0, i6' i] ++ tl 37 g) ∧ y.2.1 = h') ?_ ?_ (fun e y he => by cases he.1)
  · refine Runs.seq (goesT_runs (tabY_ok conSd_ok) (cmp_r p 0 c _ undef undef (i6' 0) undef h' g1).t (fun x hx => by cases hx)) ?_ (fun e y he => by cases he.1)
    rintro ⟨t, h'', s⟩ ⟨_, ⟨g2, ht⟩, hh⟩
    simp only at ht hh
    subst ht hh
    refine (Runs.forLoop (P := fun y => (∃ g i, y.1 = [.slice p 0 c, .slice q 0 d, undef, undef, i6' 0, i6' i] ++ tl 37 g) ∧ y.2.1 = h'') (R := fun _ => False) (fun _ y => ∃ g, y.1 = [.slice p 0 c, .slice q 0 d, undef, undef, i6' 0, i6' (n1 0)] ++ tl 37 g ∧ y.2.1 = h'') ?_ (n := 0) ⟨g2, rfl, rfl⟩).mono fun e y he => ?_
    · rintro _ ⟨t, h3, s⟩ ⟨g, ht, hh⟩
      simp only at ht hh
      subst ht hh
      refine (goesT_runs (tabY_ok conSd_ok) (cmp_out _ _ undef undef (i6' 0) (n1 0) h3 g).t (okOne (by rfl))).mono fun e y he => ?_
      obtain ⟨rfl, ⟨g', e2⟩, e3⟩ := he
      exact ⟨rfl, ⟨g', _, e2⟩, e3⟩
    · match e, he with
      | none, he => exact ⟨rfl, he⟩
  · rintro ⟨t, h'', s⟩ ⟨_, ⟨g2, i, ht⟩, hh⟩
    simp only at ht hh
    subst ht hh
    refine (goesT_runs (tabY_ok conSd_ok) (cmp_end _ _ undef undef (i6' 0) _ h'' g2).t (fun x hx => by cases hx)).mono fun e y he => ?_
    obtain ⟨rfl, ⟨g3, e2⟩, e3⟩ := he
    refine ⟨.inr rfl, ?_⟩
    rw [e2, e3]
    rfl
theorem cmp_runs {la lb : List Value} {o o' c c' : Nat} {La Lb : List Int} (Ra : Row la o La) (Rb : Row lb o' Lb) (hc : La.length < 4611686018427387904) :
    Runs (tabOf Tryd.prog extY conSd true) (cmpC Tryd.f39) ([sl 0 o La.length c, sl 1 o' Lb.length c'] ++ List.replicate 41 undef, h2 la lb, []) fun e y => (e = none ∨ e = some none) ∧ resS Tryd.prog Tryd.f39 y.1 y.2.1 = some (i6' (cmpL La Lb)) := by
  by_cases hn : La.length = Lb.length
  · unfold cmpL
    rw [if_pos hn]
    refine goesT_list (tabY_ok conSd_ok) (cmp_pre _ _ _) (fun x hx => by cases hx) fun g => ?_
    refine Runs.seq (goesT_runs (tabY_ok conSd_ok) (cmp_eq _ _ La.length c Lb.length c' undef undef (i6' 0) undef (h2 la lb) g).t (okOne (by simp [hn]))) ?_ (fun e y he => by cases he.1)
    rintro ⟨t, h', s⟩ ⟨_, ⟨g1, ht⟩, hh⟩
    simp only at ht hh
    subst ht hh
    refine Runs.seq (P1 := fun e y => (e = none ∧ (∃ g i, y.1 = [sl 0 o La.length c, sl 1 o' Lb.length c', undef, undef, i6' 0, i6' i] ++ tl 37 g) ∧ y.2.1 = h2 la lb ∧ topCmp La Lb La.length = 0) ∨ (e = some none ∧ (∃ g i, y.1 = [sl 0 o La.length c, sl 1 o' Lb.length c', undef, undef, i6' (topCmp La Lb La.length), i6' i] ++ tl 37 g) ∧ y.2.1 = h2 la lb)) ?_ ?_ ?_
    · refine Runs.seq (goesT_runs (tabY_ok conSd_ok) (cmp_r _ La.length c _ undef undef (i6' 0) undef _ g1).t (fun x hx => by cases hx)) ?_ (fun e y he => by cases he.1)
      rintro ⟨t, h'', s⟩ ⟨_, ⟨g2, ht⟩, hh⟩
      simp only at ht hh
      subst ht hh
      refine (Runs.forLoop (P := fun y => (∃ g i, y.1 = [sl 0 o La.length c, sl 1 o' Lb.length c', undef, undef, i6' 0, i6' i] ++ tl 37 g) ∧ y.2.1 = h2 la lb ∧ topCmp La Lb La.length = 0) (R := fun y => (∃ g i, y.1 = [sl 0 o La.length c, sl 1 o' Lb.length c', undef, undef, i6' (topCmp La Lb La.length), i6' i] ++ tl 37 g) ∧ y.2.1 = h2 la lb)
        (fun r y => ∃ (g : Nat → Value), r ≤ La.length ∧ y.1 = [sl 0 o La.length c, sl 1 o' Lb.length c', undef, undef, i6' 0, i6' ((r : Int) - 1)] ++ tl 37 g ∧ y.2.1 = h2 la lb ∧ topCmp La Lb La.length = topCmp La Lb r) ?_ (n := La.length) ⟨g2, Nat.le_refl _, by unfold n1; rw [wrapI (by omega) (by omega)]; rfl, rfl, rfl⟩).mono fun e y he => ?_
      · rintro r ⟨t, h3, s⟩ ⟨g, hk, ht, hh, htop⟩
        simp only at ht hh
        subst ht hh
        cases r with
        | zero =>
          refine (goesT_runs (tabY_ok conSd_ok) (cmp_out _ _ undef undef (i6' 0) _ _ g).t (okOne (by rfl))).mono fun e y he => ?_
          obtain ⟨rfl, ⟨g', e2⟩, e3⟩ := he
          exact ⟨rfl, ⟨g', _, e2⟩, e3, htop⟩
        | succ k =>
          have ek : ((k + 1 : Nat) : Int) - 1 = (k : Int) := by omega
          rw [ek]
          have ca := Ra.cell (k := k) (by omega)
          have cb := Rb.cell (k := k) (by omega)
          have ha : cellIs (la[o + ((k : Int)).toNat * 1]?) (.int .u32 (La.getD k 0)) = true := by
            rw [Int.toNat_natCast, Nat.mul_one, ca]; simp [cellIs]
          have hb : cellIs (lb[o' + ((k : Int)).toNat * 1]?) (.int .u32 (Lb.getD k 0)) = true := by
            rw [Int.toNat_natCast, Nat.mul_one, cb]; simp [cellIs]
          have q1 : decide (0 ≤ (k : Int) ∧ (k : Int) < (La.length : Nat)) = true := decide_eq_true (by omega)
          have q2 : decide (0 ≤ (k : Int) ∧ (k : Int) < (Lb.length : Nat)) = true := decide_eq_true (by omega)
          have q3 : decide ((k : Int) ≥ 0) = true := decide_eq_true (by omega)
          by_cases hx : La.getD k 0 = Lb.getD k 0
          · refine (goesT_runs (tabY_ok conSd_ok) (cmp_go o La.length c o' Lb.length c' k (La.getD k 0) (Lb.getD k 0) la lb undef undef (i6' 0) g) (okTwo (by show (La.getD k 0 != Lb.getD k 0) = false; rw [hx]; exact bne_self_eq_false _) (okTwo hb (okTwo q2 (okTwo ha (okTwo q1 (okOne q3))))))).mono fun e y he => ?_
            obtain ⟨rfl, ⟨g', e2⟩, e3⟩ := he
            refine ⟨k, by omega, g', by omega, ?_, e3, ?_⟩
            · rw [e2, wrapI (by omega) (by omega)]
            · rw [htop]
              simp only [topCmp]
              rw [if_pos hx]
          · have hne : (La.getD k 0 != Lb.getD k 0) = true := by simpa using hx
            refine (goesT_runs (tabY_ok conSd_ok) (cmp_no (decide (La.getD k 0 < Lb.getD k 0)) o La.length c o' Lb.length c' k (La.getD k 0) (Lb.getD k 0) la lb undef undef (i6' 0) g) (okTwo rfl (okTwo hb (okTwo q2 (okTwo ha (okTwo q1 (okTwo hne (okTwo hb (okTwo q2 (okTwo ha (okTwo q1 (okOne q3)))))))))))).mono fun e y he => ?_
            obtain ⟨rfl, ⟨g', e2⟩, e3⟩ := he
            refine ⟨⟨g', k, ?_⟩, e3⟩
            rw [e2, htop]
            simp only [topCmp]
            rw [if_neg hx]
            by_cases hlt : La.getD k 0 < Lb.getD k 0
            · rw [if_pos hlt, decide_eq_true hlt]; rfl
            · rw [if_neg hlt, decide_eq_false hlt]; rfl
      · match e, he with
        | none, he => exact .inl ⟨rfl, he⟩
        | some none, he => exact .inr ⟨rfl, he⟩
    · rintro ⟨t, h'', s⟩ (⟨_, ⟨g2, i, ht⟩, hh, heq⟩ | ⟨h, _⟩)
      · simp only at ht hh
        subst ht hh
        refine (goesT_runs (tabY_ok conSd_ok) (cmp_end _ _ undef undef (i6' 0) _ _ g2).t (fun x hx => by cases hx)).mono fun e y he => ?_
        obtain ⟨rfl, ⟨g3, e2⟩, e3⟩ := he
        refine ⟨.inr rfl, ?_⟩
        rw [e2, e3, heq]
        rfl
      · cases h
    · rintro e y (⟨h, _⟩ | ⟨h1, ⟨g3, i, e2⟩, e3⟩)
      · cases h
      · refine ⟨.inr h1, ?_⟩
        rw [e2, e3]
        rfl
  · unfold cmpL
    rw [if_neg hn]
    exact cmp_runs1 _ _ _ _ _ _ _ hn
/-- where one row is none at all -/
def cmp0 (n k : Nat) : Int := if n = k then 0 else if n < k then -1 else 1
theorem cmp_runsN (p q : Option Addr) (n c k d : Nat) (h : Hp) (h0 : n = 0 ∨ k = 0) :
    Runs (tabOf Tryd.prog extY conSd true) (cmpC Tryd.f39) ([.slice p n c, .slice q k d] ++ List.replicate 41 undef, h, []) fun e y => (e = none ∨ e = some none) ∧ resS Tryd.prog Tryd.f39 y.1 y.2.1 = some (i6' (cmp0 n k)) := by
  unfold cmp0
  by_cases hn : n = k
  · rw [if_pos hn]
    have e1 : n = 0 := by omega
    have e2 : k = 0 := by omega
    subst e1 e2
    exact cmp_runs0 p q c d h
  · rw [if_neg hn]
    exact cmp_runs1 p q n c k d h hn
def gCmp : AnsH := fun vals h s =>
  match vals with
  | [.slice (some ⟨b, o, none⟩) n c, .slice (some ⟨b', o', none⟩) n' c'] =>
    match h.blk? b, h.blk? b' with
    | some x, some y => some (i6' (cmpL (cutI x.1 o n) (cutI y.1 o' n')), h, s, [(rowOk x.2 x.1 o n c, true), (rowOk y.2 y.1 o' n' c', true)])
    | _, _ => none
  | [.slice none 0 0, .slice none 0 0] => some (i6' 0, h, s, [])
  | [.slice none 0 0, .slice (some _) k _] => some (i6' (cmp0 0 k), h, s, [])
  | [.slice (some _) n _, .slice none 0 0] => some (i6' (cmp0 n 0), h, s, [])
  | _ => none
theorem gCmp_ok : AnsHOk 39 gCmp := by
  intro vals h s v h' s' lg hg hl m B w E hv
  unfold gCmp at hg
  split at hg
  · rename_i b o n c b' o' n' c'
    split at hg
    · rename_i x y hx hy
      cases hg
      obtain ⟨a1, a2, a3, a4, a5, a6, a7⟩ := row_of (hl _ (List.mem_cons_self))
      obtain ⟨b1, b2, b3, b4, b5, b6, b7⟩ := row_of (hl _ (List.mem_cons_of_mem _ (List.mem_singleton.2 rfl)))
      have hsm : n < 4611686018427387904 := by have := blt_iff.1 a4; unfold dead at this; omega
      have r := cmp_runs (c := c) (c' := c') a1 b1 (by rw [a2]; exact hsm)
      rw [a2, b2] at r
      have lx := Hp.blk_lt hx
      have ly := Hp.blk_lt hy
      have := row_calls (T := tabOf Tryd.prog extY conSd true) Tryd.func39 cmp_body (rows2 a7 b7) (vals := [sl 0 o n c, sl 1 o' n' c']) (fun v hv => by
        simp only [List.mem_cons, List.not_mem_nil, or_false] at hv
        rcases hv with rfl | rfl <;> rfl) (by rfl) r E (s := pair b b') (fun i _ => by unfold pair; split <;> assumption) (fitsR2 hx a5 a6 hy b5 b6)
      exact this.mono fun e w' he => ⟨m, he.1, he.2⟩
    · cases hg
  · cases hg
    have r := cmp_runsN none none 0 0 0 0 ⟨0, []⟩ (.inl rfl)
    refine (calls_of_runs (T := tabOf Tryd.prog extY conSd true) Tryd.func39 cmp_body (vals := [nilS, nilS]) (by rfl) (by rfl) r w).mono fun e w' he => ?_
    obtain ⟨E', hb⟩ := clean_emb E he.2
    exact ⟨m, he.1, ⟨Agree.refl _ _, E', hb, Nat.le_refl _, rfl⟩⟩
  · rename_i a k c
    cases hg
    have r := cmp_runsN none (some { a with block := 0 }) 0 0 k c hT (.inl rfl)
    have hlt : a.block < h.n := by
      have := hv (.slice (some a) k c) (by simp)
      exact blt_iff.1 this
    have := row_calls (T := tabOf Tryd.prog extY conSd true) Tryd.func39 cmp_body rowsT (vals := [nilS, .slice (some { a with block := 0 }) k c]) (fun v hv => by
      simp only [List.mem_cons, List.not_mem_nil, or_false] at hv
      rcases hv with rfl | rfl <;> rfl) (by rfl) r E (s := fun _ => a.block) (fun i _ => hlt) (fitsRT _ _)
    exact this.mono fun e w' he => ⟨m, he.1, he.2⟩
  · rename_i a n c
    cases hg
    have r := cmp_runsN (some { a with block := 0 }) none n c 0 0 hT (.inr rfl)
    have hlt : a.block < h.n := by
      have := hv (.slice (some a) n c) (by simp)
      exact blt_iff.1 this
    have := row_calls (T := tabOf Tryd.prog extY conSd true) Tryd.func39 cmp_body rowsT (vals := [.slice (some { a with block := 0 }) n c, nilS]) (fun v hv => by
      simp only [List.mem_cons, List.not_mem_nil, or_false] at hv
      rcases hv with rfl | rfl <;> rfl) (by rfl) r E (s := fun _ => a.block) (fun i _ => hlt) (fitsRT _ _)
    exact this.mono fun e w' he => ⟨m, he.1, he.2⟩
  · cases hg
end Go.Proofs.YtecemjilmlagdaaDoor

/-
  nat.Check, nat.checkBoth, as calls with rows; bits.Add32, bits.Sub32.
-/
namespace Go.Proofs.YtecemjilmlagdaaDoor
open Go.KRun Go.Nt
set_option maxRecDepth 100000

def errV (k : Int) : Value := .iface 64 (.int .i64 k)
def errD (d : Bool) : Value := match d with | true => errV 1 | false => .nilIface
def badL (L : List Int) : Bool := decide (8192 < L.length) || (decide (0 < L.length) && (L.getD (L.length - 1) 0 == 0))
theorem chk_long (p : Option Addr) (n c : Nat) (h : Hp) : GoesT (evC (tabOf Tryd.prog extY conN true) 100 false (cBody Tryd.f13) ([.slice p n c] ++ List.replicate 20 undef, h, [cmp true]) ⟨[], [], []⟩) 3 18 (some none) [.slice p n c, undef, errV 1] h [(decide ((n : Int) > 8192), true)] := ⟨by kernel_rfl, by kernel_rfl, by kernel_rfl⟩
theorem chk_none (p : Option Addr) (n c : Nat) (h : Hp) : GoesT (evC (tabOf Tryd.prog extY conN true) 100 false (cBody Tryd.f13) ([.slice p n c] ++ List.replicate 20 undef, h, [cmp false, cmp false]) ⟨[], [], []⟩) 3 18 (some none) [.slice p n c, undef, .nilIface] h [(decide ((n : Int) > 0), false), (decide ((n : Int) > 8192), false)] := ⟨by kernel_rfl, by kernel_rfl, by kernel_rfl⟩
theorem chk_last (d : Bool) (o n c : Nat) (x : Int) (l : List Value) : GoesT (evC (tabOf Tryd.prog extY conN true) 100 false (cBody Tryd.f13) ([sl 0 o n c] ++ List.replicate 20 undef, ⟨1, [(l, tR)]⟩, [cmp false, cmp true, at_, val (.int .u32 x), cmp d]) ⟨[], [], []⟩) 3 18 (some none) [sl 0 o n c, undef, errD d] ⟨1, [(l, tR)]⟩ [(x == 0, d), (cellIs (l[o + (n1 n).toNat * 1]?) (.int .u32 x), true), (decide (0 ≤ n1 n ∧ n1 n < n), true), (decide ((n : Int) > 0), true), (decide ((n : Int) > 8192), false)] := by
  cases d <;> exact ⟨by kernel_rfl, by kernel_rfl, by kernel_rfl⟩
theorem chk_body : Tryd.f13.body = some (cBody Tryd.f13) := by kernel_rfl
theorem chk_runs {l : List Value} {o c : Nat} {L : List Int} (hR : Row l o L) :
    Runs (tabOf Tryd.prog extY conN true) (cBody Tryd.f13) ([sl 0 o L.length c] ++ List.replicate 20 undef, ⟨1, [(l, tR)]⟩, []) fun e y => (e = none ∨ e = some none) ∧ resS Tryd.prog Tryd.f13 y.1 y.2.1 = some (errD (badL L)) := by
  unfold badL
  by_cases h1 : 8192 < L.length
  · rw [decide_eq_true h1, Bool.true_or]
    refine (goesT_runs (tabY_ok conN_ok) (chk_long _ _ _ _) (okOne (decide_eq_true (by omega)))).mono fun e y he => ?_
    obtain ⟨rfl, ⟨g, e2⟩, e3⟩ := he
    refine ⟨.inr rfl, ?_⟩
    rw [e2, e3]
    rfl
  · rw [decide_eq_false h1, Bool.false_or]
    by_cases h2 : 0 < L.length
    · rw [decide_eq_true h2, Bool.true_and]
      have ek : n1 L.length = ((L.length - 1 : Nat) : Int) := by
        unfold n1
        rw [wrapI (by omega) (by omega)]
        omega
      refine (goesT_runs (tabY_ok conN_ok) (chk_last (L.getD (L.length - 1) 0 == 0) o L.length c (L.getD (L.length - 1) 0) l) (okTwo rfl (okTwo (by
        rw [ek, Int.toNat_natCast, Nat.mul_one, hR.cell (by omega)]; simp [cellIs]) (okTwo (by rw [ek]; exact decide_eq_true (by omega)) (okTwo (decide_eq_true (by omega)) (okOne (decide_eq_false (by omega)))))))).mono fun e y he => ?_
      obtain ⟨rfl, ⟨g, e2⟩, e3⟩ := he
      refine ⟨.inr rfl, ?_⟩
      rw [e2, e3]
      generalize (L.getD (L.length - 1) 0 == 0) = d
      cases d <;> rfl
    · rw [decide_eq_false h2, Bool.false_and]
      refine (goesT_runs (tabY_ok conN_ok) (chk_none _ _ _ _) (okTwo (decide_eq_false (by omega)) (okOne (decide_eq_false (by omega))))).mono fun e y he => ?_
      obtain ⟨rfl, ⟨g, e2⟩, e3⟩ := he
      refine ⟨.inr rfl, ?_⟩
      rw [e2, e3]
      rfl
theorem chk_nil : Fits (reckon (tabOf Tryd.prog extY conN true) 100 13 [nilS] []) .nilIface [] := ⟨by kernel_rfl, by kernel_rfl, by kernel_rfl, by kernel_rfl⟩
def gChk : AnsH := fun vals h s =>
  match vals with
  | [.slice none 0 0] => some (.nilIface, h, s, [])
  | [.slice (some ⟨b, o, none⟩) n c] =>
    match h.blk? b, s with
    | some x, .inr (.inr (.inr (.inl d))) :: s' => some (errD d, h, s', [(rowOk x.2 x.1 o n c, true), (badL (cutI x.1 o n), d)])
    | _, _ => none
  | _ => none
theorem gChk_ok : AnsHOk 13 gChk := by
  intro vals h s v h' s' lg hg hl m B w E hv
  unfold gChk at hg
  split at hg
  · cases hg
    refine (fits_calls (tabY_ok conN_ok) chk_nil (fun x hx => by cases hx) (by rfl) (by rfl) w).mono fun e w' he => ?_
    obtain ⟨E', hb⟩ := clean_emb E he.2
    exact ⟨m, he.1, ⟨Agree.refl _ _, E', hb, Nat.le_refl _, rfl⟩⟩
  · rename_i b o n c
    split at hg
    · rename_i x d s2 hx
      cases hg
      obtain ⟨h1, h2, h3, h4, h5, h6, h7⟩ := row_of (hl _ (List.mem_cons_self))
      have hd := hl _ (List.mem_cons_of_mem _ (List.mem_singleton.2 rfl))
      simp only at hd
      have hlt := Hp.blk_lt hx
      have r := chk_runs (c := c) h1
      rw [h2, hd] at r
      have e0 : rn (fun _ => b) (errD d) = errD d := by cases d <;> rfl
      have := row_calls (T := tabOf Tryd.prog extY conN true) Tryd.func13 chk_body (rows1 h7) (vals := [sl 0 o n c]) (fun v hv => by rw [List.mem_singleton.1 hv]; rfl) (by cases d <;> rfl) r E (s := fun _ => b) (fun i _ => hlt) (fitsR1 hx h5 h6 rfl)
      rw [e0] at this
      exact this.mono fun e w' he => ⟨m, he.1, he.2⟩
    · cases hg
  · cases hg
def hcK : Hc := altH 13 gChk hcN
theorem hcK_ok : HcOk hcK := altH_ok Tryd.func13 rfl gChk_ok hcN_ok
/-! ### checkBoth -/
def chkL (l : List Value) (o n c : Nat) : Bool × Bool := (rowOk tR l o n c, true)
theorem both_bad (o n c o' n' c' : Nat) (la lb : List Value) : GoesT (evC (tabH Tryd.prog extY conN hcK) 100 false (cBody Tryd.f36) ([sl 0 o n c, sl 1 o' n' c'] ++ List.replicate 11 undef, h2 la lb, [cmp true]) ⟨[], [], []⟩) 5 8 (some none) [sl 0 o n c, sl 1 o' n' c', undef, undef, errV 1] (h2 la lb) [chkL la o n c, (badL (cutI la o n), true)] := ⟨by kernel_rfl, by kernel_rfl, by kernel_rfl⟩
theorem both_d (d : Bool) (o n c o' n' c' : Nat) (la lb : List Value) : GoesT (evC (tabH Tryd.prog extY conN hcK) 100 false (cBody Tryd.f36) ([sl 0 o n c, sl 1 o' n' c'] ++ List.replicate 11 undef, h2 la lb, [cmp false, cmp d]) ⟨[], [], []⟩) 5 8 (some none) [sl 0 o n c, sl 1 o' n' c', undef, undef, errD d] (h2 la lb) [chkL lb o' n' c', (badL (cutI lb o' n'), d), chkL la o n c, (badL (cutI la o n), false)] := by
  cases d <;> exact ⟨by kernel_rfl, by kernel_rfl, by kernel_rfl⟩
theorem rowOk_R {ty : TypeId} {l : List Value} {o n c : Nat} (h : rowOk ty l o n c = true) : rowOk tR l o n c = true := by
  unfold rowOk at *
  simp only [Bool.and_eq_true, Bool.not_eq_true'] at *
  obtain ⟨⟨⟨⟨⟨⟨h1, h2⟩, h3⟩, h4⟩, h5⟩, h6⟩, h7⟩ := h
  exact ⟨⟨⟨⟨⟨⟨tR_tomb, by kernel_rfl⟩, h3⟩, h4⟩, h5⟩, h6⟩, h7⟩
theorem both_body : Tryd.f36.body = some (cBody Tryd.f36) := by kernel_rfl
theorem both_runs {la lb : List Value} {o n c o' n' c' : Nat} (ha : rowOk tR la o n c = true) (hb : rowOk tR lb o' n' c' = true) :
    Runs (tabH Tryd.prog extY conN hcK) (cBody Tryd.f36) ([sl 0 o n c, sl 1 o' n' c'] ++ List.replicate 11 undef, h2 la lb, []) fun e y => (e = none ∨ e = some none) ∧ resS Tryd.prog Tryd.f36 y.1 y.2.1 = some (errD (badL (cutI la o n) || badL (cutI lb o' n'))) := by
  cases h : badL (cutI la o n) with
  | true =>
    refine (goesT_runs (tabH_ok conN_ok hcK_ok) (both_bad o n c o' n' c' la lb) (okTwo ha (okOne h))).mono fun e y he => ?_
    obtain ⟨rfl, ⟨g, e2⟩, e3⟩ := he
    refine ⟨.inr rfl, ?_⟩
    rw [e2, e3]
    rfl
  | false =>
    refine (goesT_runs (tabH_ok conN_ok hcK_ok) (both_d (badL (cutI lb o' n')) o n c o' n' c' la lb) (okTwo hb (okTwo rfl (okTwo ha (okOne h))))).mono fun e y he => ?_
    obtain ⟨rfl, ⟨g, e2⟩, e3⟩ := he
    refine ⟨.inr rfl, ?_⟩
    rw [e2, e3, Bool.false_or]
    generalize badL (cutI lb o' n') = d
    cases d <;> rfl
theorem both_n1 (d : Bool) (o n c : Nat) (l : List Value) : GoesT (evC (tabH Tryd.prog extY conN hcK) 100 false (cBody Tryd.f36) ([nilS, sl 0 o n c] ++ List.replicate 11 undef, ⟨1, [(l, tR)]⟩, [cmp d]) ⟨[], [], []⟩) 5 8 (some none) [nilS, sl 0 o n c, undef, undef, errD d] ⟨1, [(l, tR)]⟩ [chkL l o n c, (badL (cutI l o n), d)] := by
  cases d <;> exact ⟨by kernel_rfl, by kernel_rfl, by kernel_rfl⟩
theorem both_1n (d : Bool) (o n c : Nat) (l : List Value) : GoesT (evC (tabH Tryd.prog extY conN hcK) 100 false (cBody Tryd.f36) ([sl 0 o n c, nilS] ++ List.replicate 11 undef, ⟨1, [(l, tR)]⟩, [cmp d]) ⟨[], [], []⟩) 5 8 (some none) [sl 0 o n c, nilS, undef, undef, errD d] ⟨1, [(l, tR)]⟩ [chkL l o n c, (badL (cutI l o n), d)] := by
  cases d <;> exact ⟨by kernel_rfl, by kernel_rfl, by kernel_rfl⟩
theorem both_nil : Fits (reckon (tabOf Tryd.prog extY conN true) 100 36 [nilS, nilS] []) .nilIface [] := ⟨by kernel_rfl, by kernel_rfl, by kernel_rfl, by kernel_rfl⟩
/-- a row beside nothing -/
theorem both_one {vals : List Value} {l : List Value} {o n c : Nat} {d : Bool} (hf : GoesT (evC (tabH Tryd.prog extY conN hcK) 100 false (cBody Tryd.f36) (vals ++ List.replicate 11 undef, ⟨1, [(l, tR)]⟩, [cmp d]) ⟨[], [], []⟩) 5 8 (some none) (vals ++ [undef, undef, errD d]) ⟨1, [(l, tR)]⟩ [chkL l o n c, (badL (cutI l o n), d)]) (ha : rowOk tR l o n c = true) (hd : badL (cutI l o n) = d) (hr : ∀ g, resS Tryd.prog Tryd.f36 ((vals ++ [undef, undef, errD d]) ++ tl 8 g) ⟨1, [(l, tR)]⟩ = some (errD d)) :
    Runs (tabH Tryd.prog extY conN hcK) (cBody Tryd.f36) (vals ++ List.replicate 11 undef, ⟨1, [(l, tR)]⟩, []) fun e y => (e = none ∨ e = some none) ∧ resS Tryd.prog Tryd.f36 y.1 y.2.1 = some (errD d) := by
  refine (goesT_runs (tabH_ok conN_ok hcK_ok) hf (okTwo ha (okOne hd))).mono fun e y he => ?_
  obtain ⟨rfl, ⟨g, e2⟩, e3⟩ := he
  refine ⟨.inr rfl, ?_⟩
  rw [e2, e3]
  exact hr g
def gBoth : AnsH := fun vals h s =>
  match vals with
  | [.slice (some ⟨b, o, none⟩) n c, .slice (some ⟨b', o', none⟩) n' c'] =>
    match h.blk? b, h.blk? b', s with
    | some x, some y, .inr (.inr (.inr (.inl d))) :: s' => some (errD d, h, s', [(rowOk x.2 x.1 o n c, true), (rowOk y.2 y.1 o' n' c', true), (badL (cutI x.1 o n) || badL (cutI y.1 o' n'), d)])
    | _, _, _ => none
  | [.slice none 0 0, .slice (some ⟨b, o, none⟩) n c] =>
    match h.blk? b, s with
    | some x, .inr (.inr (.inr (.inl d))) :: s' => some (errD d, h, s', [(rowOk x.2 x.1 o n c, true), (badL (cutI x.1 o n), d)])
    | _, _ => none
  | [.slice (some ⟨b, o, none⟩) n c, .slice none 0 0] =>
    match h.blk? b, s with
    | some x, .inr (.inr (.inr (.inl d))) :: s' => some (errD d, h, s', [(rowOk x.2 x.1 o n c, true), (badL (cutI x.1 o n), d)])
    | _, _ => none
  | [.slice none 0 0, .slice none 0 0] => some (.nilIface, h, s, [])
  | _ => none
theorem gBoth_ok : AnsHOk 36 gBoth := by
  intro vals h s v h' s' lg hg hl m B w E hv
  unfold gBoth at hg
  split at hg
  · rename_i b o n c b' o' n' c'
    split at hg
    · rename_i x y d s2 hx hy
      cases hg
      have ra := hl _ (List.mem_cons_self)
      have rb := hl _ (List.mem_cons_of_mem _ List.mem_cons_self)
      obtain ⟨a1, a2, a3, a4, a5, a6, a7⟩ := row_of ra
      obtain ⟨b1, b2, b3, b4, b5, b6, b7⟩ := row_of rb
      have hd := hl _ (List.mem_cons_of_mem _ (List.mem_cons_of_mem _ (List.mem_singleton.2 rfl)))
      simp only at hd
      have r := both_runs (rowOk_R ra) (rowOk_R rb)
      rw [hd] at r
      have lx := Hp.blk_lt hx
      have ly := Hp.blk_lt hy
      have e0 : rn (pair b b') (errD d) = errD d := by cases d <;> rfl
      have := row_calls (T := tabH Tryd.prog extY conN hcK) Tryd.func36 both_body (rows2 a7 b7) (vals := [sl 0 o n c, sl 1 o' n' c']) (fun v hv => by
        simp only [List.mem_cons, List.not_mem_nil, or_false] at hv
        rcases hv with rfl | rfl <;> rfl) (by cases d <;> rfl) r E (s := pair b b') (fun i _ => by unfold pair; split <;> assumption) (fitsR2 hx a5 a6 hy b5 b6)
      rw [e0] at this
      exact this.mono fun e w' he => ⟨m, he.1, he.2⟩
    · cases hg
  · rename_i b o n c
    split at hg
    · rename_i x d s2 hx
      cases hg
      have ra := hl _ (List.mem_cons_self)
      have hd := hl _ (List.mem_cons_of_mem _ (List.mem_singleton.2 rfl))
      simp only at hd
      obtain ⟨a1, a2, a3, a4, a5, a6, a7⟩ := row_of ra
      have hlt := Hp.blk_lt hx
      have e0 : rn (fun _ => b) (errD d) = errD d := by cases d <;> rfl
      have r := both_one (both_n1 d o n c x.1) (rowOk_R ra) hd (fun _ => by cases d <;> rfl)
      have := row_calls (T := tabH Tryd.prog extY conN hcK) Tryd.func36 both_body (rows1 a7) (vals := [nilS, sl 0 o n c]) (fun v hv => by
        simp only [List.mem_cons, List.not_mem_nil, or_false] at hv
        rcases hv with rfl | rfl <;> rfl) (by cases d <;> rfl) r E (s := fun _ => b) (fun i _ => hlt) (fitsR1 hx a5 a6 rfl)
      rw [e0] at this
      exact this.mono fun e w' he => ⟨m, he.1, he.2⟩
    · cases hg
  · rename_i b o n c
    split at hg
    · rename_i x d s2 hx
      cases hg
      have ra := hl _ (List.mem_cons_self)
      have hd := hl _ (List.mem_cons_of_mem _ (List.mem_singleton.2 rfl))
      simp only at hd
      obtain ⟨a1, a2, a3, a4, a5, a6, a7⟩ := row_of ra
      have hlt := Hp.blk_lt hx
      have e0 : rn (fun _ => b) (errD d) = errD d := by cases d <;> rfl
      have r := both_one (both_1n d o n c x.1) (rowOk_R ra) hd (fun _ => by cases d <;> rfl)
      have := row_calls (T := tabH Tryd.prog extY conN hcK) Tryd.func36 both_body (rows1 a7) (vals := [sl 0 o n c, nilS]) (fun v hv => by
        simp only [List.mem_cons, List.not_mem_nil, or_false] at hv
        rcases hv with rfl | rfl <;> rfl) (by cases d <;> rfl) r E (s := fun _ => b) (fun i _ => hlt) (fitsR1 hx a5 a6 rfl)
      rw [e0] at this
      exact this.mono fun e w' he => ⟨m, he.1, he.2⟩
    · cases hg
  · cases hg
    refine (fits_calls (tabY_ok conN_ok) both_nil (fun x hx => by cases hx) (by rfl) (by rfl) w).mono fun e w' he => ?_
    obtain ⟨E', hb⟩ := clean_emb E he.2
    exact ⟨m, he.1, ⟨Agree.refl _ _, E', hb, Nat.le_refl _, rfl⟩⟩
  · cases hg
/-! ### sums and differences of words -/
def uu (n : Int) : Value := .int .u32 n
def wd4 (x y c : Int) : Bool := decide ((0 ≤ x ∧ x < 4294967296) ∧ (0 ≤ y ∧ y < 4294967296) ∧ 0 ≤ c ∧ c ≤ 1)
def add32V (x y c : Int) : Value := .tuple #[uu ((x + y + c) % 4294967296), uu ((x + y + c) / 4294967296)]
def raw32 (x y c : Int) : Int := IntKind.u64.wrap (IntKind.u64.wrap (IntKind.u64.wrap x + IntKind.u64.wrap y) + IntKind.u64.wrap c)
theorem add32_fits (x y c : Int) : Fits (reckon (tabOf Tryd.prog extY conN true) 100 37 [uu x, uu y, uu c] []) (.tuple #[uu (IntKind.u32.wrap (raw32 x y c)), uu (IntKind.u32.wrap ((raw32 x y c).fdiv (2 ^ min ((32 : Int).toNat) 64)))]) [(decide ((32 : Int) < 0), false)] := ⟨by kernel_rfl, by kernel_rfl, by kernel_rfl, by kernel_rfl⟩
theorem u64w (n : Int) : IntKind.u64.wrap n = n % 18446744073709551616 := by simp [IntKind.wrap, IntKind.bits, IntKind.signed]
theorem u32w (n : Int) : IntKind.u32.wrap n = n % 4294967296 := by simp [IntKind.wrap, IntKind.bits, IntKind.signed]
def gAdd32 : Ans := fun vals s =>
  match vals with
  | [.int .u32 x, .int .u32 y, .int .u32 c] => some (add32V x y c, s, [(wd4 x y c, true)])
  | _ => none
theorem gAdd32_ok : AnsOk 37 gAdd32 := by
  intro vals s v s' lg h hl w
  unfold gAdd32 at h
  split at h
  · rename_i x y c
    cases h
    have hr := hl _ (List.mem_singleton.2 rfl)
    simp only [wd4, decide_eq_true_eq] at hr
    have e : raw32 x y c = x + y + c := by
      unfold raw32
      rw [u64w, u64w, u64w, u64w, u64w]
      omega
    have e2 : (2 : Int) ^ min ((32 : Int).toNat) 64 = 4294967296 := rfl
    have := fits_calls (tabY_ok conN_ok) (add32_fits x y c) (okOne (by rfl)) (by rfl) (by rfl) w
    rw [e, e2, u32w, u32w, Int.fdiv_eq_ediv_of_nonneg _ (by omega), Int.emod_eq_of_lt (a := (x + y + c) / 4294967296) (by omega) (by omega)] at this
    exact this
  · cases h
end Go.Proofs.YtecemjilmlagdaaDoor
