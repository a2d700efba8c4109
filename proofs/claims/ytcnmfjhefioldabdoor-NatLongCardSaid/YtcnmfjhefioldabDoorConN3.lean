/-
  nat.compare, as a call with two rows.
-/
import Derived.Test.YtcnmfjhefioldabDoorConN2
namespace Go.Proofs.YtcnmfjhefioldabDoor
open Go.KRun Go.Nt
set_option maxRecDepth 100000

def sideI (d : Bool) : Int := match d with | true => -1 | false => 1
theorem side_fits (d : Bool) : Fits (reckon (tabOf Tryd.prog extY conN true) 100 37 [.bool d] []) (i6' (sideI d)) [] := by
  cases d <;> exact ⟨by kernel_rfl, by kernel_rfl, by kernel_rfl, by kernel_rfl⟩
def gSide : Ans := fun vals s =>
  match vals with
  | [.bool d] => some (i6' (sideI d), s, [])
  | _ => none
theorem gSide_ok : AnsOk 37 gSide := by
  intro vals s v s' lg h hl w
  unfold gSide at h
  split at h
  · cases h
    exact fits_calls (tabY_ok conN_ok) (side_fits _) (fun x hx => by cases hx) (by rfl) (by rfl) w
  · cases h
def conSd : Con := alt 37 gSide conN
theorem conSd_ok : ConOk conSd := alt_ok Tryd.func37 rfl gSide_ok conN_ok
theorem cmp_body : Tryd.f25.body = some (seqs (nPre Tryd.f25) (.seq (oA Tryd.f25) (.seq (.seq (oR Tryd.f25) (.block 0 (.loop (oLoop Tryd.f25)))) (oEnd Tryd.f25)))) := by kernel_rfl
theorem cmp_pre (v w : Value) (h : Hp) : GoesT (evL (tabOf Tryd.prog extY conSd true) 100 (nPre Tryd.f25) ([v, w] ++ List.replicate 41 undef, h, []) ⟨[], [], []⟩) 6 37 none [v, w, undef, undef, i6' 0, undef] h [] := ⟨by kernel_rfl, by kernel_rfl, by kernel_rfl⟩
theorem cmp_lt (p q : Option Addr) (n c k d : Nat) (j2 j3 j4 j5 : Value) (h : Hp) (g : Nat → Value) : GoesE (evC (tabOf Tryd.prog extY conSd true) 100 false (oA Tryd.f25) ([.slice p n c, .slice q k d, j2, j3, j4, j5] ++ tl 37 g, h, [cmp true, cmp true]) ⟨[], [], []⟩) 6 37 (some none)
    [.slice p n c, .slice q k d, j2, j3, i6' (-1), j5] h [(decide ((n : Int) < k), true), ((n : Int) != k, true)] := by unfold GoesE; kernel_rfl
theorem cmp_gt (p q : Option Addr) (n c k d : Nat) (j2 j3 j4 j5 : Value) (h : Hp) (g : Nat → Value) : GoesE (evC (tabOf Tryd.prog extY conSd true) 100 false (oA Tryd.f25) ([.slice p n c, .slice q k d, j2, j3, j4, j5] ++ tl 37 g, h, [cmp true, cmp false]) ⟨[], [], []⟩) 6 37 (some none)
    [.slice p n c, .slice q k d, j2, j3, i6' 1, j5] h [(decide ((n : Int) < k), false), ((n : Int) != k, true)] := by unfold GoesE; kernel_rfl
theorem cmp_eq (p q : Option Addr) (n c k d : Nat) (j2 j3 j4 j5 : Value) (h : Hp) (g : Nat → Value) : GoesE (evC (tabOf Tryd.prog extY conSd true) 100 false (oA Tryd.f25) ([.slice p n c, .slice q k d, j2, j3, j4, j5] ++ tl 37 g, h, [cmp false]) ⟨[], [], []⟩) 6 37 none
    [.slice p n c, .slice q k d, j2, j3, j4, j5] h [((n : Int) != k, false)] := by unfold GoesE; kernel_rfl
theorem cmp_r (p : Option Addr) (n c : Nat) (w j2 j3 j4 j5 : Value) (h : Hp) (g : Nat → Value) : GoesE (evC (tabOf Tryd.prog extY conSd true) 100 false (oR Tryd.f25) ([.slice p n c, w, j2, j3, j4, j5] ++ tl 37 g, h, []) ⟨[], [], []⟩) 6 37 none
    [.slice p n c, w, j2, j3, j4, i6' (n1 n)] h [] := by unfold GoesE; kernel_rfl
theorem cmp_out (v w j2 j3 j4 : Value) (i : Int) (h : Hp) (g : Nat → Value) : GoesE (evC (tabOf Tryd.prog extY conSd true) 100 false (oLoop Tryd.f25) ([v, w, j2, j3, j4, i6' i] ++ tl 37 g, h, [cmp false]) ⟨[], [], []⟩) 6 37 (some (some 0))
    [v, w, j2, j3, j4, i6' i] h [(decide (i ≥ 0), false)] := by unfold GoesE; kernel_rfl
theorem cmp_go (o n c o' n' c' : Nat) (i x y : Int) (la lb : List Value) (j2 j3 j4 : Value) (g : Nat → Value) : GoesT (evC (tabOf Tryd.prog extY conSd true) 100 false (oLoop Tryd.f25) ([sl 0 o n c, sl 1 o' n' c', j2, j3, j4, i6' i] ++ tl 37 g, h2 la lb, [cmp true, at_, val (.int .u32 x), at_, val (.int .u32 y), cmp false]) ⟨[], [], []⟩) 6 37 none
    [sl 0 o n c, sl 1 o' n' c', j2, j3, j4, i6' (IntKind.i64.wrap (i - 1))] (h2 la lb) [(x != y, false), (cellIs (lb[o' + i.toNat * 1]?) (.int .u32 y), true), (decide (0 ≤ i ∧ i < n'), true), (cellIs (la[o + i.toNat * 1]?) (.int .u32 x), true), (decide (0 ≤ i ∧ i < n), true), (decide (i ≥ 0), true)] := ⟨by kernel_rfl, by kernel_rfl, by kernel_rfl⟩
theorem cmp_no (d : Bool) (o n c o' n' c' : Nat) (i x y : Int) (la lb : List Value) (j2 j3 j4 : Value) (g : Nat → Value) : GoesT (evC (tabOf Tryd.prog extY conSd true) 100 false (oLoop Tryd.f25) ([sl 0 o n c, sl 1 o' n' c', j2, j3, j4, i6' i] ++ tl 37 g, h2 la lb, [cmp true, at_, val (.int .u32 x), at_, val (.int .u32 y), cmp true, at_, val (.int .u32 x), at_, val (.int .u32 y), cmp d]) ⟨[], [], []⟩) 6 37 (some none)
    [sl 0 o n c, sl 1 o' n' c', j2, j3, i6' (sideI d), i6' i] (h2 la lb) [(decide (x < y), d), (cellIs (lb[o' + i.toNat * 1]?) (.int .u32 y), true), (decide (0 ≤ i ∧ i < n'), true), (cellIs (la[o + i.toNat * 1]?) (.int .u32 x), true), (decide (0 ≤ i ∧ i < n), true), (x != y, true), (cellIs (lb[o' + i.toNat * 1]?) (.int .u32 y), true), (decide (0 ≤ i ∧ i < n'), true), (cellIs (la[o + i.toNat * 1]?) (.int .u32 x), true), (decide (0 ≤ i ∧ i < n), true), (decide (i ≥ 0), true)] := by
  cases d <;> exact ⟨by kernel_rfl, by kernel_rfl, by kernel_rfl⟩
theorem cmp_end (v w j2 j3 j4 j5 : Value) (h : Hp) (g : Nat → Value) : GoesE (evC (tabOf Tryd.prog extY conSd true) 100 false (oEnd Tryd.f25) ([v, w, j2, j3, j4, j5] ++ tl 37 g, h, []) ⟨[], [], []⟩) 6 37 (some none)
    [v, w, j2, j3, i6' 0, j5] h [] := by unfold GoesE; kernel_rfl
def cmpC (F : Func) : Code := seqs (nPre F) (.seq (oA F) (.seq (.seq (oR F) (.block 0 (.loop (oLoop F)))) (oEnd F)))
/-- rows of two lengths: nothing is read -/
theorem cmp_runs1 (p q : Option Addr) (n c k d : Nat) (h : Hp) (hn : n ≠ k) :
    Runs (tabOf Tryd.prog extY conSd true) (cmpC Tryd.f25) ([.slice p n c, .slice q k d] ++ List.replicate 41 undef, h, []) fun e y => (e = none ∨ e = some none) ∧ resS Tryd.prog Tryd.f25 y.1 y.2.1 = some (i6' (if n < k then -1 else 1)) := by
  refine goesT_list (tabY_ok conSd_ok) (cmp_pre _ _ _) (fun x hx => by cases hx) fun g => ?_
  by_cases hl : n < k
  · refine Runs.seq (goesT_runs (tabY_ok conSd_ok) (cmp_lt p q n c k d undef undef (i6' 0) undef h g).t (okTwo (decide_eq_true (by omega)) (okOne (by simp; omega)))) (fun y he => by cases he.1) (fun e y he => ?_)
    obtain ⟨h1, ⟨g3, e2⟩, e3⟩ := he
    refine ⟨.inr h1, ?_⟩
    rw [e2, e3, if_pos hl]
    rfl
  · refine Runs.seq (goesT_runs (tabY_ok conSd_ok) (cmp_gt p q n c k d undef undef (i6' 0) undef h g).t (okTwo (decide_eq_false (by omega)) (okOne (by simp; omega)))) (fun y he => by cases he.1) (fun e y he => ?_)
    obtain ⟨h1, ⟨g3, e2⟩, e3⟩ := he
    refine ⟨.inr h1, ?_⟩
    rw [e2, e3, if_neg hl]
    rfl
/-- two rows that are empty -/
theorem cmp_runs0 (p q : Option Addr) (c d : Nat) (h : Hp) :
    Runs (tabOf Tryd.prog extY conSd true) (cmpC Tryd.f25) ([.slice p 0 c, .slice q 0 d] ++ List.replicate 41 undef, h, []) fun e y => (e = none ∨ e = some none) ∧ resS Tryd.prog Tryd.f25 y.1 y.2.1 = some (i6' 0) := by
  refine goesT_list (tabY_ok conSd_ok) (cmp_pre _ _ _) (fun x hx => by cases hx) fun g => ?_
  refine Runs.seq (goesT_runs (tabY_ok conSd_ok) (cmp_eq p q 0 c 0 d undef undef (i6' 0) undef h g).t (okOne (by rfl))) ?_ (fun e y he => by cases he.1)
  rintro ⟨t, h', s⟩ ⟨_, ⟨g1, ht⟩, hh⟩
  simp only at ht hh
  subst ht hh
  refine Runs.seq (P1 := fun e y => e = none ∧ (∃ g i, y.1 = [.slice p 0 c, .slice q 0 d, undef, undef, i6' 0, i6' i] ++ tl 37 g) ∧ y.2.1 = h') ?_ ?_ (fun e y he => by cases he.1)
  · refine Runs.seq (goesT_runs (tabY_ok conSd_ok) (cmp_r p 0 c _ undef undef (i6' 0) undef h' g1).t (fun x hx => by cases hx)) ?_ (fun e y he => by cases he.1)
    rintro ⟨t, h'', s⟩ ⟨_, ⟨g2, ht⟩, hh⟩
    simp only at ht hh
    subst ht hh
    refine (Runs.forLoop (P := fun y => (∃ g i, y.1 = [.slice p 0 c, .slice q 0 d, undef, undef, i6' 0, i6' i] ++ tl 37 g) ∧ y.2.1 = h'') (R := fun _ => False) (fun _ y => ∃ g, y.1 = [.slice p 0 c, .slice q 0 d, undef, undef, i6' 0, i6' (n1 0)] ++ tl 37 g ∧ y.2.1 = h'') ?_ (n := 0) ⟨g2, rfl, rfl⟩).mono fun e y he => ?_
    · rintro _ ⟨t, h3, s⟩ ⟨g, ht, hh⟩
      simp only at ht hh
      subst ht hh
      refine (goesT_runs (tabY_ok conSd_ok) (cmp_out _ _ undef undef (i6' 0) (n1 0) h3 g).t (okOne (by rfl))).mono fun e y he => ?_
      obtain ⟨rfl, ⟨g', e2⟩, e3⟩ := he
      exact ⟨rfl, ⟨g', _, e2⟩, e3⟩
    · match e, he with
      | none, he => exact ⟨rfl, he⟩
  · rintro ⟨t, h'', s⟩ ⟨_, ⟨g2, i, ht⟩, hh⟩
    simp only at ht hh
    subst ht hh
    refine (goesT_runs (tabY_ok conSd_ok) (cmp_end _ _ undef undef (i6' 0) _ h'' g2).t (fun x hx => by cases hx)).mono fun e y he => ?_
    obtain ⟨rfl, ⟨g3, e2⟩, e3⟩ := he
    refine ⟨.inr rfl, ?_⟩
    rw [e2, e3]
    rfl
theorem cmp_runs {la lb : List Value} {o o' c c' : Nat} {La Lb : List Int} (Ra : Row la o La) (Rb : Row lb o' Lb) (hc : La.length < 4611686018427387904) :
    Runs (tabOf Tryd.prog extY conSd true) (cmpC Tryd.f25) ([sl 0 o La.length c, sl 1 o' Lb.length c'] ++ List.replicate 41 undef, h2 la lb, []) fun e y => (e = none ∨ e = some none) ∧ resS Tryd.prog Tryd.f25 y.1 y.2.1 = some (i6' (cmpL La Lb)) := by
  by_cases hn : La.length = Lb.length
  · unfold cmpL
    rw [if_pos hn]
    refine goesT_list (tabY_ok conSd_ok) (cmp_pre _ _ _) (fun x hx => by cases hx) fun g => ?_
    refine Runs.seq (goesT_runs (tabY_ok conSd_ok) (cmp_eq _ _ La.length c Lb.length c' undef undef (i6' 0) undef (h2 la lb) g).t (okOne (by simp [hn]))) ?_ (fun e y he => by cases he.1)
    rintro ⟨t, h', s⟩ ⟨_, ⟨g1, ht⟩, hh⟩
    simp only at ht hh
    subst ht hh
    refine Runs.seq (P1 := fun e y => (e = none ∧ (∃ g i, y.1 = [sl 0 o La.length c, sl 1 o' Lb.length c', undef, undef, i6' 0, i6' i] ++ tl 37 g) ∧ y.2.1 = h2 la lb ∧ topCmp La Lb La.length = 0) ∨ (e = some none ∧ (∃ g i, y.1 = [sl 0 o La.length c, sl 1 o' Lb.length c', undef, undef, i6' (topCmp La Lb La.length), i6' i] ++ tl 37 g) ∧ y.2.1 = h2 la lb)) ?_ ?_ ?_
    · refine Runs.seq (goesT_runs (tabY_ok conSd_ok) (cmp_r _ La.length c _ undef undef (i6' 0) undef _ g1).t (fun x hx => by cases hx)) ?_ (fun e y he => by cases he.1)
      rintro ⟨t, h'', s⟩ ⟨_, ⟨g2, ht⟩, hh⟩
      simp only at ht hh
      subst ht hh
      refine (Runs.forLoop (P := fun y => (∃ g i, y.1 = [sl 0 o La.length c, sl 1 o' Lb.length c', undef, undef, i6' 0, i6' i] ++ tl 37 g) ∧ y.2.1 = h2 la lb ∧ topCmp La Lb La.length = 0) (R := fun y => (∃ g i, y.1 = [sl 0 o La.length c, sl 1 o' Lb.length c', undef, undef, i6' (topCmp La Lb La.length), i6' i] ++ tl 37 g) ∧ y.2.1 = h2 la lb)
        (fun r y => ∃ (g : Nat → Value), r ≤ La.length ∧ y.1 = [sl 0 o La.length c, sl 1 o' Lb.length c', undef, undef, i6' 0, i6' ((r : Int) - 1)] ++ tl 37 g ∧ y.2.1 = h2 la lb ∧ topCmp La Lb La.length = topCmp La Lb r) ?_ (n := La.length) ⟨g2, Nat.le_refl _, by unfold n1; rw [wrapI (by omega) (by omega)]; rfl, rfl, rfl⟩).mono fun e y he => ?_
      · rintro r ⟨t, h3, s⟩ ⟨g, hk, ht, hh, htop⟩
        simp only at ht hh
        subst ht hh
        cases r with
        | zero =>
          refine (goesT_runs (tabY_ok conSd_ok) (cmp_out _ _ undef undef (i6' 0) _ _ g).t (okOne (by rfl))).mono fun e y he => ?_
          obtain ⟨rfl, ⟨g', e2⟩, e3⟩ := he
          exact ⟨rfl, ⟨g', _, e2⟩, e3, htop⟩
        | succ k =>
          have ek : ((k + 1 : Nat) : Int) - 1 = (k : Int) := by omega
          rw [ek]
          have ca := Ra.cell (k := k) (by omega)
          have cb := Rb.cell (k := k) (by omega)
          have ha : cellIs (la[o + ((k : Int)).toNat * 1]?) (.int .u32 (La.getD k 0)) = true := by
            rw [Int.toNat_natCast, Nat.mul_one, ca]; simp [cellIs]
          have hb : cellIs (lb[o' + ((k : Int)).toNat * 1]?) (.int .u32 (Lb.getD k 0)) = true := by
            rw [Int.toNat_natCast, Nat.mul_one, cb]; simp [cellIs]
          have q1 : decide (0 ≤ (k : Int) ∧ (k : Int) < (La.length : Nat)) = true := decide_eq_true (by omega)
          have q2 : decide (0 ≤ (k : Int) ∧ (k : Int) < (Lb.length : Nat)) = true := decide_eq_true (by omega)
          have q3 : decide ((k : Int) ≥ 0) = true := decide_eq_true (by omega)
          by_cases hx : La.getD k 0 = Lb.getD k 0
          · refine (goesT_runs (tabY_ok conSd_ok) (cmp_go o La.length c o' Lb.length c' k (La.getD k 0) (Lb.getD k 0) la lb undef undef (i6' 0) g) (okTwo (by show (La.getD k 0 != Lb.getD k 0) = false; rw [hx]; exact bne_self_eq_false _) (okTwo hb (okTwo q2 (okTwo ha (okTwo q1 (okOne q3))))))).mono fun e y he => ?_
            obtain ⟨rfl, ⟨g', e2⟩, e3⟩ := he
            refine ⟨k, by omega, g', by omega, ?_, e3, ?_⟩
            · rw [e2, wrapI (by omega) (by omega)]
            · rw [htop]
              simp only [topCmp]
              rw [if_pos hx]
          · have hne : (La.getD k 0 != Lb.getD k 0) = true := by simpa using hx
            refine (goesT_runs (tabY_ok conSd_ok) (cmp_no (decide (La.getD k 0 < Lb.getD k 0)) o La.length c o' Lb.length c' k (La.getD k 0) (Lb.getD k 0) la lb undef undef (i6' 0) g) (okTwo rfl (okTwo hb (okTwo q2 (okTwo ha (okTwo q1 (okTwo hne (okTwo hb (okTwo q2 (okTwo ha (okTwo q1 (okOne q3)))))))))))).mono fun e y he => ?_
            obtain ⟨rfl, ⟨g', e2⟩, e3⟩ := he
            refine ⟨⟨g', k, ?_⟩, e3⟩
            rw [e2, htop]
            simp only [topCmp]
            rw [if_neg hx]
            by_cases hlt : La.getD k 0 < Lb.getD k 0
            · rw [if_pos hlt, decide_eq_true hlt]; rfl
            · rw [if_neg hlt, decide_eq_false hlt]; rfl
      · match e, he with
        | none, he => exact .inl ⟨rfl, he⟩
        | some none, he => exact .inr ⟨rfl, he⟩
    · rintro ⟨t, h'', s⟩ (⟨_, ⟨g2, i, ht⟩, hh, heq⟩ | ⟨h, _⟩)
      · simp only at ht hh
        subst ht hh
        refine (goesT_runs (tabY_ok conSd_ok) (cmp_end _ _ undef undef (i6' 0) _ _ g2).t (fun x hx => by cases hx)).mono fun e y he => ?_
        obtain ⟨rfl, ⟨g3, e2⟩, e3⟩ := he
        refine ⟨.inr rfl, ?_⟩
        rw [e2, e3, heq]
        rfl
      · cases h
    · rintro e y (⟨h, _⟩ | ⟨h1, ⟨g3, i, e2⟩, e3⟩)
      · cases h
      · refine ⟨.inr h1, ?_⟩
        rw [e2, e3]
        rfl
  · unfold cmpL
    rw [if_neg hn]
    exact cmp_runs1 _ _ _ _ _ _ _ hn
/-- where one row is none at all -/
def cmp0 (n k : Nat) : Int := if n = k then 0 else if n < k then -1 else 1
theorem cmp_runsN (p q : Option Addr) (n c k d : Nat) (h : Hp) (h0 : n = 0 ∨ k = 0) :
    Runs (tabOf Tryd.prog extY conSd true) (cmpC Tryd.f25) ([.slice p n c, .slice q k d] ++ List.replicate 41 undef, h, []) fun e y => (e = none ∨ e = some none) ∧ resS Tryd.prog Tryd.f25 y.1 y.2.1 = some (i6' (cmp0 n k)) := by
  unfold cmp0
  by_cases hn : n = k
  · rw [if_pos hn]
    have e1 : n = 0 := by omega
    have e2 : k = 0 := by omega
    subst e1 e2
    exact cmp_runs0 p q c d h
  · rw [if_neg hn]
    exact cmp_runs1 p q n c k d h hn
def gCmp : AnsH := fun vals h s =>
  match vals with
  | [.slice (some ⟨b, o, none⟩) n c, .slice (some ⟨b', o', none⟩) n' c'] =>
    match h.blk? b, h.blk? b' with
    | some x, some y => some (i6' (cmpL (cutI x.1 o n) (cutI y.1 o' n')), h, s, [(rowOk x.2 x.1 o n c, true), (rowOk y.2 y.1 o' n' c', true)])
    | _, _ => none
  | [.slice none 0 0, .slice none 0 0] => some (i6' 0, h, s, [])
  | [.slice none 0 0, .slice (some _) k _] => some (i6' (cmp0 0 k), h, s, [])
  | [.slice (some _) n _, .slice none 0 0] => some (i6' (cmp0 n 0), h, s, [])
  | _ => none
theorem gCmp_ok : AnsHOk 25 gCmp := by
  intro vals h s v h' s' lg hg hl m B w E hv
  unfold gCmp at hg
  split at hg
  · rename_i b o n c b' o' n' c'
    split at hg
    · rename_i x y hx hy
      cases hg
      obtain ⟨a1, a2, a3, a4, a5, a6, a7⟩ := row_of (hl _ (List.mem_cons_self))
      obtain ⟨b1, b2, b3, b4, b5, b6, b7⟩ := row_of (hl _ (List.mem_cons_of_mem _ (List.mem_singleton.2 rfl)))
      have hsm : n < 4611686018427387904 := by have := blt_iff.1 a4; unfold dead at this; omega
      have r := cmp_runs (c := c) (c' := c') a1 b1 (by rw [a2]; exact hsm)
      rw [a2, b2] at r
      have lx := Hp.blk_lt hx
      have ly := Hp.blk_lt hy
      have := row_calls (T := tabOf Tryd.prog extY conSd true) Tryd.func25 cmp_body (rows2 a7 b7) (vals := [sl 0 o n c, sl 1 o' n' c']) (fun v hv => by
        simp only [List.mem_cons, List.not_mem_nil, or_false] at hv
        rcases hv with rfl | rfl <;> rfl) (by rfl) r E (s := pair b b') (fun i _ => by unfold pair; split <;> assumption) (fitsR2 hx a5 a6 hy b5 b6)
      exact this.mono fun e w' he => ⟨m, he.1, he.2⟩
    · cases hg
  · cases hg
    have r := cmp_runsN none none 0 0 0 0 ⟨0, []⟩ (.inl rfl)
    refine (calls_of_runs (T := tabOf Tryd.prog extY conSd true) Tryd.func25 cmp_body (vals := [nilS, nilS]) (by rfl) (by rfl) r w).mono fun e w' he => ?_
    obtain ⟨E', hb⟩ := clean_emb E he.2
    exact ⟨m, he.1, ⟨Agree.refl _ _, E', hb, Nat.le_refl _, rfl⟩⟩
  · rename_i a k c
    cases hg
    have r := cmp_runsN none (some { a with block := 0 }) 0 0 k c hT (.inl rfl)
    have hlt : a.block < h.n := by
      have := hv (.slice (some a) k c) (by simp)
      exact blt_iff.1 this
    have := row_calls (T := tabOf Tryd.prog extY conSd true) Tryd.func25 cmp_body rowsT (vals := [nilS, .slice (some { a with block := 0 }) k c]) (fun v hv => by
      simp only [List.mem_cons, List.not_mem_nil, or_false] at hv
      rcases hv with rfl | rfl <;> rfl) (by rfl) r E (s := fun _ => a.block) (fun i _ => hlt) (fitsRT _ _)
    exact this.mono fun e w' he => ⟨m, he.1, he.2⟩
  · rename_i a n c
    cases hg
    have r := cmp_runsN (some { a with block := 0 }) none n c 0 0 hT (.inr rfl)
    have hlt : a.block < h.n := by
      have := hv (.slice (some a) n c) (by simp)
      exact blt_iff.1 this
    have := row_calls (T := tabOf Tryd.prog extY conSd true) Tryd.func25 cmp_body rowsT (vals := [.slice (some { a with block := 0 }) n c, nilS]) (fun v hv => by
      simp only [List.mem_cons, List.not_mem_nil, or_false] at hv
      rcases hv with rfl | rfl <;> rfl) (by rfl) r E (s := fun _ => a.block) (fun i _ => hlt) (fitsRT _ _)
    exact this.mono fun e w' he => ⟨m, he.1, he.2⟩
  · cases hg
end Go.Proofs.YtcnmfjhefioldabDoor
