/-
  tillerlaw02.words, as a call with two rows.
-/
import Derived.Test.YtcnmfjhefioldabDoorConN1
namespace Go.Proofs.YtcnmfjhefioldabDoor
open Go.KRun Go.Nt
set_option maxRecDepth 100000

def i6' (n : Int) : Value := .int .i64 n
def oA (F : Func) : Code := cFst (cSnd (cBody F))
def oR (F : Func) : Code := cFst (cFst (cSnd (cSnd (cBody F))))
def oLoop (F : Func) : Code := cIn (cIn (cSnd (cFst (cSnd (cSnd (cBody F))))))
def oEnd (F : Func) : Code := cSnd (cSnd (cSnd (cBody F)))
theorem words_body : Tryd.f13.body = some (seqs (nPre Tryd.f13) (.seq (oA Tryd.f13) (.seq (.seq (oR Tryd.f13) (.block 0 (.loop (oLoop Tryd.f13)))) (oEnd Tryd.f13)))) := by kernel_rfl
theorem words_pre (v w : Value) (h : Hp) : GoesT (evL (tabOf Tryd.prog extY conN true) 100 (nPre Tryd.f13) ([v, w] ++ List.replicate 24 undef, h, []) ⟨[], [], []⟩) 6 20 none [v, w, undef, undef, .bool false, undef] h [] := ⟨by kernel_rfl, by kernel_rfl, by kernel_rfl⟩
theorem words_ne (p q : Option Addr) (n c k d : Nat) (j2 j3 j4 j5 : Value) (h : Hp) (g : Nat → Value) : GoesE (evC (tabOf Tryd.prog extY conN true) 100 false (oA Tryd.f13) ([.slice p n c, .slice q k d, j2, j3, j4, j5] ++ tl 20 g, h, [cmp true]) ⟨[], [], []⟩) 6 20 (some none)
    [.slice p n c, .slice q k d, j2, j3, .bool false, j5] h [((n : Int) != k, true)] := by unfold GoesE; kernel_rfl
theorem words_eq (p q : Option Addr) (n c k d : Nat) (j2 j3 j4 j5 : Value) (h : Hp) (g : Nat → Value) : GoesE (evC (tabOf Tryd.prog extY conN true) 100 false (oA Tryd.f13) ([.slice p n c, .slice q k d, j2, j3, j4, j5] ++ tl 20 g, h, [cmp false]) ⟨[], [], []⟩) 6 20 none
    [.slice p n c, .slice q k d, j2, j3, j4, j5] h [((n : Int) != k, false)] := by unfold GoesE; kernel_rfl
theorem words_r (v w j2 j3 j4 j5 : Value) (h : Hp) (g : Nat → Value) : GoesE (evC (tabOf Tryd.prog extY conN true) 100 false (oR Tryd.f13) ([v, w, j2, j3, j4, j5] ++ tl 20 g, h, []) ⟨[], [], []⟩) 6 20 none
    [v, w, j2, j3, j4, i6' 0] h [] := by unfold GoesE; kernel_rfl
theorem words_out (p : Option Addr) (n c : Nat) (i : Int) (w j2 j3 j4 : Value) (h : Hp) (g : Nat → Value) : GoesE (evC (tabOf Tryd.prog extY conN true) 100 false (oLoop Tryd.f13) ([.slice p n c, w, j2, j3, j4, i6' i] ++ tl 20 g, h, [cmp false]) ⟨[], [], []⟩) 6 20 (some (some 0))
    [.slice p n c, w, j2, j3, j4, i6' i] h [(decide (i < n), false)] := by unfold GoesE; kernel_rfl
theorem words_go (o n c o' n' c' : Nat) (i x y : Int) (la lb : List Value) (j2 j3 j4 : Value) (g : Nat → Value) : GoesT (evC (tabOf Tryd.prog extY conN true) 100 false (oLoop Tryd.f13) ([sl 0 o n c, sl 1 o' n' c', j2, j3, j4, i6' i] ++ tl 20 g, h2 la lb, [cmp true, at_, val (.int .u32 x), at_, val (.int .u32 y), cmp false]) ⟨[], [], []⟩) 6 20 none
    [sl 0 o n c, sl 1 o' n' c', j2, j3, j4, i6' (IntKind.i64.wrap (i + 1))] (h2 la lb) [(x != y, false), (cellIs (lb[o' + i.toNat * 1]?) (.int .u32 y), true), (decide (0 ≤ i ∧ i < n'), true), (cellIs (la[o + i.toNat * 1]?) (.int .u32 x), true), (decide (0 ≤ i ∧ i < n), true), (decide (i < n), true)] := ⟨by kernel_rfl, by kernel_rfl, by kernel_rfl⟩
theorem words_no (o n c o' n' c' : Nat) (i x y : Int) (la lb : List Value) (j2 j3 j4 : Value) (g : Nat → Value) : GoesT (evC (tabOf Tryd.prog extY conN true) 100 false (oLoop Tryd.f13) ([sl 0 o n c, sl 1 o' n' c', j2, j3, j4, i6' i] ++ tl 20 g, h2 la lb, [cmp true, at_, val (.int .u32 x), at_, val (.int .u32 y), cmp true]) ⟨[], [], []⟩) 6 20 (some none)
    [sl 0 o n c, sl 1 o' n' c', j2, j3, .bool false, i6' i] (h2 la lb) [(x != y, true), (cellIs (lb[o' + i.toNat * 1]?) (.int .u32 y), true), (decide (0 ≤ i ∧ i < n'), true), (cellIs (la[o + i.toNat * 1]?) (.int .u32 x), true), (decide (0 ≤ i ∧ i < n), true), (decide (i < n), true)] := ⟨by kernel_rfl, by kernel_rfl, by kernel_rfl⟩
theorem words_end (v w j2 j3 j4 j5 : Value) (h : Hp) (g : Nat → Value) : GoesE (evC (tabOf Tryd.prog extY conN true) 100 false (oEnd Tryd.f13) ([v, w, j2, j3, j4, j5] ++ tl 20 g, h, []) ⟨[], [], []⟩) 6 20 (some none)
    [v, w, j2, j3, .bool true, j5] h [] := by unfold GoesE; kernel_rfl
/-- a row that is empty: nothing is read -/
theorem words_runs0 (p q : Option Addr) (n c k d : Nat) (h : Hp) (h0 : n = 0 ∨ k = 0) :
    Runs (tabOf Tryd.prog extY conN true) (seqs (nPre Tryd.f13) (.seq (oA Tryd.f13) (.seq (.seq (oR Tryd.f13) (.block 0 (.loop (oLoop Tryd.f13)))) (oEnd Tryd.f13)))) ([.slice p n c, .slice q k d] ++ List.replicate 24 undef, h, []) fun e y => (e = none ∨ e = some none) ∧ resS Tryd.prog Tryd.f13 y.1 y.2.1 = some (.bool (decide (n = k))) := by
  refine goesT_list (tabY_ok conN_ok) (words_pre _ _ _) (fun x hx => by cases hx) fun g => ?_
  by_cases hn : n = k
  · have n0 : n = 0 := by omega
    refine Runs.seq (goesT_runs (tabY_ok conN_ok) (words_eq p q n c k d undef undef (.bool false) undef h g).t (okOne (by simp [hn]))) ?_ (fun e y he => by cases he.1)
    rintro ⟨t, h', s⟩ ⟨_, ⟨g1, ht⟩, hh⟩
    simp only at ht hh
    subst ht hh
    refine Runs.seq (P1 := fun e y => e = none ∧ (∃ g i, y.1 = [.slice p n c, .slice q k d, undef, undef, .bool false, i6' i] ++ tl 20 g) ∧ y.2.1 = h') ?_ ?_ (fun e y he => by cases he.1)
    · refine Runs.seq (goesT_runs (tabY_ok conN_ok) (words_r _ _ undef undef (.bool false) undef h' g1).t (fun x hx => by cases hx)) ?_ (fun e y he => by cases he.1)
      rintro ⟨t, h'', s⟩ ⟨_, ⟨g2, ht⟩, hh⟩
      simp only at ht hh
      subst ht hh
      refine (Runs.forLoop (P := fun y => (∃ g i, y.1 = [.slice p n c, .slice q k d, undef, undef, .bool false, i6' i] ++ tl 20 g) ∧ y.2.1 = h'') (R := fun _ => False) (fun _ y => ∃ g, y.1 = [.slice p n c, .slice q k d, undef, undef, .bool false, i6' 0] ++ tl 20 g ∧ y.2.1 = h'') ?_ (n := 0) ⟨g2, rfl, rfl⟩).mono fun e y he => ?_
      · rintro _ ⟨t, h3, s⟩ ⟨g, ht, hh⟩
        simp only at ht hh
        subst ht hh
        refine (goesT_runs (tabY_ok conN_ok) (words_out p n c 0 _ undef undef (.bool false) h3 g).t (okOne (decide_eq_false (by omega)))).mono fun e y he => ?_
        obtain ⟨rfl, ⟨g', e2⟩, e3⟩ := he
        exact ⟨rfl, ⟨g', 0, e2⟩, e3⟩
      · match e, he with
        | none, he => exact ⟨rfl, he⟩
    · rintro ⟨t, h'', s⟩ ⟨_, ⟨g2, i, ht⟩, hh⟩
      simp only at ht hh
      subst ht hh
      refine (goesT_runs (tabY_ok conN_ok) (words_end _ _ undef undef (.bool false) _ h'' g2).t (fun x hx => by cases hx)).mono fun e y he => ?_
      obtain ⟨rfl, ⟨g3, e2⟩, e3⟩ := he
      refine ⟨.inr rfl, ?_⟩
      rw [e2, e3, decide_eq_true hn]
      rfl
  · refine Runs.seq (goesT_runs (tabY_ok conN_ok) (words_ne p q n c k d undef undef (.bool false) undef h g).t (okOne (by simp; omega))) (fun y he => by cases he.1) (fun e y he => ?_)
    obtain ⟨h1, ⟨g3, e2⟩, e3⟩ := he
    refine ⟨.inr h1, ?_⟩
    rw [e2, e3, decide_eq_false hn]
    rfl
theorem getD_ext {L M : List Int} (hl : L.length = M.length) (h : ∀ i, i < L.length → L.getD i 0 = M.getD i 0) : L = M := by
  refine List.ext_getElem hl fun i h1 h2 => ?_
  have := h i h1
  simpa [List.getD, List.getElem?_eq_getElem h1, List.getElem?_eq_getElem h2] using this
theorem words_runs {la lb : List Value} {o o' c c' : Nat} {La Lb : List Int} (Ra : Row la o La) (Rb : Row lb o' Lb) (hc : La.length < 4611686018427387904) :
    Runs (tabOf Tryd.prog extY conN true) (seqs (nPre Tryd.f13) (.seq (oA Tryd.f13) (.seq (.seq (oR Tryd.f13) (.block 0 (.loop (oLoop Tryd.f13)))) (oEnd Tryd.f13)))) ([sl 0 o La.length c, sl 1 o' Lb.length c'] ++ List.replicate 24 undef, h2 la lb, []) fun e y => (e = none ∨ e = some none) ∧ resS Tryd.prog Tryd.f13 y.1 y.2.1 = some (.bool (decide (La = Lb))) := by
  refine goesT_list (tabY_ok conN_ok) (words_pre _ _ _) (fun x hx => by cases hx) fun g => ?_
  by_cases hn : La.length = Lb.length
  · refine Runs.seq (goesT_runs (tabY_ok conN_ok) (words_eq _ _ La.length c Lb.length c' undef undef (.bool false) undef (h2 la lb) g).t (okOne (by simp [hn]))) ?_ (fun e y he => by cases he.1)
    rintro ⟨t, h', s⟩ ⟨_, ⟨g1, ht⟩, hh⟩
    simp only at ht hh
    subst ht hh
    refine Runs.seq (P1 := fun e y => (e = none ∧ (∃ g i, y.1 = [sl 0 o La.length c, sl 1 o' Lb.length c', undef, undef, .bool false, i6' i] ++ tl 20 g) ∧ y.2.1 = h2 la lb ∧ La = Lb) ∨ (e = some none ∧ (∃ g i, y.1 = [sl 0 o La.length c, sl 1 o' Lb.length c', undef, undef, .bool false, i6' i] ++ tl 20 g) ∧ y.2.1 = h2 la lb ∧ La ≠ Lb)) ?_ ?_ ?_
    · refine Runs.seq (goesT_runs (tabY_ok conN_ok) (words_r _ _ undef undef (.bool false) undef _ g1).t (fun x hx => by cases hx)) ?_ (fun e y he => by cases he.1)
      rintro ⟨t, h'', s⟩ ⟨_, ⟨g2, ht⟩, hh⟩
      simp only at ht hh
      subst ht hh
      refine (Runs.forLoop (P := fun y => (∃ g i, y.1 = [sl 0 o La.length c, sl 1 o' Lb.length c', undef, undef, .bool false, i6' i] ++ tl 20 g) ∧ y.2.1 = h2 la lb ∧ La = Lb) (R := fun y => (∃ g i, y.1 = [sl 0 o La.length c, sl 1 o' Lb.length c', undef, undef, .bool false, i6' i] ++ tl 20 g) ∧ y.2.1 = h2 la lb ∧ La ≠ Lb)
        (fun r y => ∃ (k : Nat) (g : Nat → Value), k + r = La.length ∧ y.1 = [sl 0 o La.length c, sl 1 o' Lb.length c', undef, undef, .bool false, i6' k] ++ tl 20 g ∧ y.2.1 = h2 la lb ∧ ∀ i, i < k → La.getD i 0 = Lb.getD i 0) ?_ (n := La.length) ⟨0, g2, by omega, rfl, rfl, fun i hi => by omega⟩).mono fun e y he => ?_
      · rintro r ⟨t, h3, s⟩ ⟨k, g, hk, ht, hh, hpre⟩
        simp only at ht hh
        subst ht hh
        cases r with
        | zero =>
          refine (goesT_runs (tabY_ok conN_ok) (words_out _ La.length c k _ undef undef (.bool false) _ g).t (okOne (decide_eq_false (by omega)))).mono fun e y he => ?_
          obtain ⟨rfl, ⟨g', e2⟩, e3⟩ := he
          exact ⟨rfl, ⟨g', k, e2⟩, e3, getD_ext hn fun i hi => hpre i (by omega)⟩
        | succ r =>
          have ca := Ra.cell (k := k) (by omega)
          have cb := Rb.cell (k := k) (by omega)
          have ha : cellIs (la[o + ((k : Int)).toNat * 1]?) (.int .u32 (La.getD k 0)) = true := by
            rw [Int.toNat_natCast, Nat.mul_one, ca]; simp [cellIs]
          have hb : cellIs (lb[o' + ((k : Int)).toNat * 1]?) (.int .u32 (Lb.getD k 0)) = true := by
            rw [Int.toNat_natCast, Nat.mul_one, cb]; simp [cellIs]
          by_cases hx : La.getD k 0 = Lb.getD k 0
          · refine (goesT_runs (tabY_ok conN_ok) (words_go o La.length c o' Lb.length c' k (La.getD k 0) (Lb.getD k 0) la lb undef undef (.bool false) g) (okTwo (by show (La.getD k 0 != Lb.getD k 0) = false; rw [hx]; exact bne_self_eq_false _) (okTwo hb (okTwo (decide_eq_true (by omega)) (okTwo ha (okTwo (decide_eq_true (by omega)) (okOne (decide_eq_true (by omega))))))))).mono fun e y he => ?_
            obtain ⟨rfl, ⟨g', e2⟩, e3⟩ := he
            refine ⟨r, by omega, k + 1, g', by omega, ?_, e3, fun i hi => ?_⟩
            · rw [e2, wrapI (by omega) (by omega)]; rfl
            · rcases Nat.lt_or_ge i k with h | h
              · exact hpre i h
              · have : i = k := by omega
                rw [this]; exact hx
          · refine (goesT_runs (tabY_ok conN_ok) (words_no o La.length c o' Lb.length c' k (La.getD k 0) (Lb.getD k 0) la lb undef undef (.bool false) g) (okTwo (by simpa using hx) (okTwo hb (okTwo (decide_eq_true (by omega)) (okTwo ha (okTwo (decide_eq_true (by omega)) (okOne (decide_eq_true (by omega))))))))).mono fun e y he => ?_
            obtain ⟨rfl, ⟨g', e2⟩, e3⟩ := he
            exact ⟨⟨g', k, e2⟩, e3, fun h => hx (by rw [h])⟩
      · match e, he with
        | none, he => exact .inl ⟨rfl, he⟩
        | some none, he => exact .inr ⟨rfl, he⟩
    · rintro ⟨t, h'', s⟩ (⟨_, ⟨g2, i, ht⟩, hh, heq⟩ | ⟨h, _⟩)
      · simp only at ht hh
        subst ht hh
        refine (goesT_runs (tabY_ok conN_ok) (words_end _ _ undef undef (.bool false) _ _ g2).t (fun x hx => by cases hx)).mono fun e y he => ?_
        obtain ⟨rfl, ⟨g3, e2⟩, e3⟩ := he
        refine ⟨.inr rfl, ?_⟩
        rw [e2, e3, decide_eq_true heq]
        rfl
      · cases h
    · rintro e y (⟨h, _⟩ | ⟨h1, ⟨g3, i, e2⟩, e3, hne⟩)
      · cases h
      · refine ⟨.inr h1, ?_⟩
        rw [e2, e3, decide_eq_false hne]
        rfl
  · refine Runs.seq (goesT_runs (tabY_ok conN_ok) (words_ne _ _ La.length c Lb.length c' undef undef (.bool false) undef (h2 la lb) g).t (okOne (by simp; omega))) (fun y he => by cases he.1) (fun e y he => ?_)
    obtain ⟨h1, ⟨g3, e2⟩, e3⟩ := he
    refine ⟨.inr h1, ?_⟩
    rw [e2, e3, decide_eq_false (fun h => hn (by rw [h]))]
    rfl
def gWords : AnsH := fun vals h s =>
  match vals with
  | [.slice (some ⟨b, o, none⟩) n c, .slice (some ⟨b', o', none⟩) n' c'] =>
    match h.blk? b, h.blk? b', s with
    | some x, some y, .inr (.inr (.inr (.inl d))) :: s' => some (.bool d, h, s', [(rowOk x.2 x.1 o n c, true), (rowOk y.2 y.1 o' n' c', true), (decide (cutI x.1 o n = cutI y.1 o' n'), d)])
    | _, _, _ => none
  | [.slice none 0 0, .slice none 0 0] => some (.bool true, h, s, [])
  | [.slice none 0 0, .slice (some _) k _] =>
    match s with
    | .inr (.inr (.inr (.inl d))) :: s' => some (.bool d, h, s', [(decide (0 = k), d)])
    | _ => none
  | [.slice (some _) n _, .slice none 0 0] =>
    match s with
    | .inr (.inr (.inr (.inl d))) :: s' => some (.bool d, h, s', [(decide (n = 0), d)])
    | _ => none
  | _ => none
theorem gWords_ok : AnsHOk 13 gWords := by
  intro vals h s v h' s' lg hg hl m B w E hv
  unfold gWords at hg
  split at hg
  · rename_i b o n c b' o' n' c'
    split at hg
    · rename_i x y d s2 hx hy
      cases hg
      obtain ⟨a1, a2, a3, a4, a5, a6, a7⟩ := row_of (hl _ (List.mem_cons_self))
      obtain ⟨b1, b2, b3, b4, b5, b6, b7⟩ := row_of (hl _ (List.mem_cons_of_mem _ List.mem_cons_self))
      have hd := hl _ (List.mem_cons_of_mem _ (List.mem_cons_of_mem _ (List.mem_singleton.2 rfl)))
      simp only at hd
      have hsm : n < 4611686018427387904 := by have := blt_iff.1 a4; unfold dead at this; omega
      have r := words_runs (c := c) (c' := c') a1 b1 (by rw [a2]; exact hsm)
      rw [a2, b2, hd] at r
      have lx := Hp.blk_lt hx
      have ly := Hp.blk_lt hy
      have := row_calls (T := tabOf Tryd.prog extY conN true) Tryd.func13 words_body (rows2 a7 b7) (vals := [sl 0 o n c, sl 1 o' n' c']) (fun v hv => by
        simp only [List.mem_cons, List.not_mem_nil, or_false] at hv
        rcases hv with rfl | rfl <;> rfl) (by rfl) r E (s := pair b b') (fun i _ => by unfold pair; split <;> assumption) (fitsR2 hx a5 a6 hy b5 b6)
      exact this.mono fun e w' he => ⟨m, he.1, he.2⟩
    · cases hg
  · cases hg
    have r := words_runs0 none none 0 0 0 0 ⟨0, []⟩ (.inl rfl)
    refine (calls_of_runs (T := tabOf Tryd.prog extY conN true) Tryd.func13 words_body (vals := [nilS, nilS]) (by rfl) (by rfl) r w).mono fun e w' he => ?_
    obtain ⟨E', hb⟩ := clean_emb E he.2
    exact ⟨m, he.1, ⟨Agree.refl _ _, E', hb, Nat.le_refl _, rfl⟩⟩
  · rename_i a k c
    split at hg
    · rename_i d s2
      cases hg
      have hd := hl _ (List.mem_singleton.2 rfl)
      simp only at hd
      have r := words_runs0 none (some { a with block := 0 }) 0 0 k c hT (.inl rfl)
      rw [hd] at r
      have hlt : a.block < h.n := by
        have := hv (.slice (some a) k c) (by simp)
        exact blt_iff.1 this
      have := row_calls (T := tabOf Tryd.prog extY conN true) Tryd.func13 words_body rowsT (vals := [nilS, .slice (some { a with block := 0 }) k c]) (fun v hv => by
        simp only [List.mem_cons, List.not_mem_nil, or_false] at hv
        rcases hv with rfl | rfl <;> rfl) (by rfl) r E (s := fun _ => a.block) (fun i _ => hlt) (fitsRT _ _)
      exact this.mono fun e w' he => ⟨m, he.1, he.2⟩
    · cases hg
  · rename_i a n c
    split at hg
    · rename_i d s2
      cases hg
      have hd := hl _ (List.mem_singleton.2 rfl)
      simp only at hd
      have r := words_runs0 (some { a with block := 0 }) none n c 0 0 hT (.inr rfl)
      rw [hd] at r
      have hlt : a.block < h.n := by
        have := hv (.slice (some a) n c) (by simp)
        exact blt_iff.1 this
      have := row_calls (T := tabOf Tryd.prog extY conN true) Tryd.func13 words_body rowsT (vals := [.slice (some { a with block := 0 }) n c, nilS]) (fun v hv => by
        simp only [List.mem_cons, List.not_mem_nil, or_false] at hv
        rcases hv with rfl | rfl <;> rfl) (by rfl) r E (s := fun _ => a.block) (fun i _ => hlt) (fitsRT _ _)
      exact this.mono fun e w' he => ⟨m, he.1, he.2⟩
    · cases hg
  · cases hg
end Go.Proofs.YtcnmfjhefioldabDoor
