/-
  ConN3, ConN4, NumO, ConN5, ConN7, ConN8, NumP, ConN9, ConNA, NumV, ConV1, NumW
-/
import Derived.Test.YtjlponbdflkbjaaGreatDoorG07
namespace Go.Proofs.YtjlponbdflkbjaaGreatDoor.Na
open Go.KRun Go.Nt
set_option maxRecDepth 100000
def sideI (d : Bool) : Int := match d with | true => -1 | false => 1
theorem side_fits (d : Bool) : Fits (reckon (tabOf Tryz.prog extY conN true) 100 134 [.bool d] []) (i6' (sideI d)) [] := by
  cases d <;> exact ⟨by kernel_rfl, by kernel_rfl, by kernel_rfl, by kernel_rfl⟩
def gSide : Ans := fun vals s =>
  match vals with
  | [.bool d] => some (i6' (sideI d), s, [])
  | _ => none
theorem gSide_ok : AnsOk 134 gSide := by
  intro vals s v s' lg h hl w
  unfold gSide at h
  split at h
  · cases h
    exact fits_calls (tabY_ok conN_ok) (side_fits _) (fun x hx => by cases hx) (by rfl) (by rfl) w
  · cases h
def conSd : Con := alt 134 gSide conN
theorem conSd_ok : ConOk conSd := alt_ok Tryz.func134 rfl gSide_ok conN_ok
theorem cmp_body : Tryz.f120.body = some (seqs (nPre Tryz.f120) (.seq (oA Tryz.f120) (.seq (.seq (oR Tryz.f120) (.block 0 (.loop (oLoop Tryz.f120)))) (oEnd Tryz.f120)))) := by kernel_rfl
theorem cmp_pre (v w : Value) (h : Hp) : GoesT (evL (tabOf Tryz.prog extY conSd true) 100 (nPre Tryz.f120) ([v, w] ++ List.replicate 41 undef, h, []) ⟨[], [], []⟩) 6 37 none [v, w, undef, undef, i6' 0, undef] h [] := ⟨by kernel_rfl, by kernel_rfl, by kernel_rfl⟩
theorem cmp_lt (p q : Option Addr) (n c k d : Nat) (j2 j3 j4 j5 : Value) (h : Hp) (g : Nat → Value) : GoesE (evC (tabOf Tryz.prog extY conSd true) 100 false (oA Tryz.f120) ([.slice p n c, .slice q k d, j2, j3, j4, j5] ++ tl 37 g, h, [cmp true, cmp true]) ⟨[], [], []⟩) 6 37 (some none)
    [.slice p n c, .slice q k d, j2, j3, i6' (-1), j5] h [(decide ((n : Int) < k), true), ((n : Int) != k, true)] := by unfold GoesE; kernel_rfl
theorem cmp_gt (p q : Option Addr) (n c k d : Nat) (j2 j3 j4 j5 : Value) (h : Hp) (g : Nat → Value) : GoesE (evC (tabOf Tryz.prog extY conSd true) 100 false (oA Tryz.f120) ([.slice p n c, .slice q k d, j2, j3, j4, j5] ++ tl 37 g, h, [cmp true, cmp false]) ⟨[], [], []⟩) 6 37 (some none)
    [.slice p n c, .slice q k d, j2, j3, i6' 1, j5] h [(decide ((n : Int) < k), false), ((n : Int) != k, true)] := by unfold GoesE; kernel_rfl
theorem cmp_eq (p q : Option Addr) (n c k d : Nat) (j2 j3 j4 j5 : Value) (h : Hp) (g : Nat → Value) : GoesE (evC (tabOf Tryz.prog extY conSd true) 100 false (oA Tryz.f120) ([.slice p n c, .slice q k d, j2, j3, j4, j5] ++ tl 37 g, h, [cmp false]) ⟨[], [], []⟩) 6 37 none
    [.slice p n c, .slice q k d, j2, j3, j4, j5] h [((n : Int) != k, false)] := by unfold GoesE; kernel_rfl
theorem cmp_r (p : Option Addr) (n c : Nat) (w j2 j3 j4 j5 : Value) (h : Hp) (g : Nat → Value) : GoesE (evC (tabOf Tryz.prog extY conSd true) 100 false (oR Tryz.f120) ([.slice p n c, w, j2, j3, j4, j5] ++ tl 37 g, h, []) ⟨[], [], []⟩) 6 37 none
    [.slice p n c, w, j2, j3, j4, i6' (n1 n)] h [] := by unfold GoesE; kernel_rfl
theorem cmp_out (v w j2 j3 j4 : Value) (i : Int) (h : Hp) (g : Nat → Value) : GoesE (evC (tabOf Tryz.prog extY conSd true) 100 false (oLoop Tryz.f120) ([v, w, j2, j3, j4, i6' i] ++ tl 37 g, h, [cmp false]) ⟨[], [], []⟩) 6 37 (some (some 0))
    [v, w, j2, j3, j4, i6' i] h [(decide (i ≥ 0), false)] := by unfold GoesE; kernel_rfl
theorem cmp_go (o n c o' n' c' : Nat) (i x y : Int) (la lb : List Value) (j2 j3 j4 : Value) (g : Nat → Value) : GoesT (evC (tabOf Tryz.prog extY conSd true) 100 false (oLoop Tryz.f120) ([sl 0 o n c, sl 1 o' n' c', j2, j3, j4, i6' i] ++ tl 37 g, h2 la lb, [cmp true, at_, val (.int .u32 x), at_, val (.int .u32 y), cmp false]) ⟨[], [], []⟩) 6 37 none
    [sl 0 o n c, sl 1 o' n' c', j2, j3, j4, i6' (IntKind.i64.wrap (i - 1))] (h2 la lb) [(x != y, false), (cellIs (lb[o' + i.toNat * 1]?) (.int .u32 y), true), (decide (0 ≤ i ∧ i < n'), true), (cellIs (la[o + i.toNat * 1]?) (.int .u32 x), true), (decide (0 ≤ i ∧ i < n), true), (decide (i ≥ 0), true)] := ⟨by kernel_rfl, by kernel_rfl, by kernel_rfl⟩
theorem cmp_no (d : Bool) (o n c o' n' c' : Nat) (i x y : Int) (la lb : List Value) (j2 j3 j4 : Value) (g : Nat → Value) : GoesT (evC (tabOf Tryz.prog extY conSd true) 100 false (oLoop Tryz.f120) ([sl 0 o n c, sl 1 o' n' c', j2, j3, j4, i6' i] ++ tl 37 g, h2 la lb, [cmp true, at_, val (.int .u32 x), at_, val (.int .u32 y), cmp true, at_, val (.int .u32 x), at_, val (.int .u32 y), cmp d]) ⟨[], [], []⟩) 6 37 (some none)
    [sl 0 o n c, sl 1 o' n' c', j2, j3, i6' (sideI d), i6' i] (h2 la lb) [(decide (x < y), d), (cellIs (lb[o' + i.toNat * 1]?) (.int .u32 y), true), (decide (0 ≤ i ∧ i < n'), true), (cellIs (la[o + i.toNat * 1]?) (.int .u32 x), true), (decide (0 ≤ i ∧ i < n), true), (x != y, true), (cellIs (lb[o' + i.toNat * 1]?) (.int .u32 y), true), (decide (0 ≤ i ∧ i < n'), true), (cellIs (la[o + i.toNat * 1]?) (.int .u32 x), true), (decide (0 ≤ i ∧ i < n), true), (decide (i ≥ 0), true)] := by
  cases d <;> exact ⟨by kernel_rfl, by kernel_rfl, by kernel_rfl⟩
theorem cmp_end (v w j2 j3 j4 j5 : Value) (h : Hp) (g : Nat → Value) : GoesE (evC (tabOf Tryz.prog extY conSd true) 100 false (oEnd Tryz.f120) ([v, w, j2, j3, j4, j5] ++ tl 37 g, h, []) ⟨[], [], []⟩) 6 37 (some none)
    [v, w, j2, j3, i6' 0, j5] h [] := by unfold GoesE; kernel_rfl
def cmpC (F : Func) : Code := seqs (nPre F) (.seq (oA F) (.seq (.seq (oR F) (.block 0 (.loop (oLoop F)))) (oEnd F)))
/-- rows of two lengths: nothing is read -/
theorem cmp_runs1 (p q : Option Addr) (n c k d : Nat) (h : Hp) (hn : n ≠ k) :
    Runs (tabOf Tryz.prog extY conSd true) (cmpC Tryz.f120) ([.slice p n c, .slice q k d] ++ List.replicate 41 undef, h, []) fun e y => (e = none ∨ e = some none) ∧ resS Tryz.prog Tryz.f120 y.1 y.2.1 = some (i6' (if n < k then -1 else 1)) := by
  refine goesT_list (tabY_ok conSd_ok) (cmp_pre _ _ _) (fun x hx => by cases hx) fun g => ?_
  by_cases hl : n < k
  · refine Runs.seq (goesT_runs (tabY_ok conSd_ok) (cmp_lt p q n c k d undef undef (i6' 0) undef h g).t (okTwo (decide_eq_true (by omega)) (okOne (by simp; omega)))) (fun y he => by cases he.1) (fun e y he => ?_)
    obtain ⟨h1, ⟨g3, e2⟩, e3⟩ := he
    refine ⟨.inr h1, ?_⟩
    rw [e2, e3, if_pos hl]
    rfl
  · refine Runs.seq (goesT_runs (tabY_ok conSd_ok) (cmp_gt p q n c k d undef undef (i6' 0) undef h g).t (okTwo (decide_eq_false (by omega)) (okOne (by simp; omega)))) (fun y he => by cases he.1) (fun e y he => ?_)
    obtain ⟨h1, ⟨g3, e2⟩, e3⟩ := he
    refine ⟨.inr h1, ?_⟩
    rw [e2, e3, if_neg hl]
    rfl
/-- two rows that are empty -/
theorem cmp_runs0 (p q : Option Addr) (c d : Nat) (h : Hp) :
    Runs (tabOf Tryz.prog extY conSd true) (cmpC Tryz.f120) ([.slice p 0 c, .slice q 0 d] ++ List.replicate 41 undef, h, []) fun e y => (e = none ∨ e = some none) ∧ resS Tryz.prog Tryz.f120 y.1 y.2.1 = some (i6' 0) := by
  refine goesT_list (tabY_ok conSd_ok) (cmp_pre _ _ _) (fun x hx => by cases hx) fun g => ?_
  refine Runs.seq (goesT_runs (tabY_ok conSd_ok) (cmp_eq p q 0 c 0 d undef undef (i6' 0) undef h g).t (okOne (by rfl))) ?_ (fun e y he => by cases he.1)
  rintro ⟨t, h', s⟩ ⟨_, ⟨g1, ht⟩, hh⟩
  simp only at ht hh
  subst ht hh
  refine Runs.seq (P1 := fun e y => e = none ∧ (∃ g i, y.1 = [.slice p 0 c, .slice q 0 d, undef, undef, i6' 0, i6' i] ++ tl 37 g) ∧ y.2.1 = h') ?_ ?_ (fun e y he => by cases he.1)
  · refine Runs.seq (goesT_runs (tabY_ok conSd_ok) (cmp_r p 0 c _ undef undef (i6' 0) undef h' g1).t (fun x hx => by cases hx)) ?_ (fun e y he => by cases he.1)
    rintro ⟨t, h'', s⟩ ⟨_, ⟨g2, ht⟩, hh⟩
    simp only at ht hh
    subst ht hh
    refine (Runs.forLoop (P := fun y => (∃ g i, y.1 = [.slice p 0 c, .slice q 0 d, undef, undef, i6' 0, i6' i] ++ tl 37 g) ∧ y.2.1 = h'') (R := fun _ => False) (fun _ y => ∃ g, y.1 = [.slice p 0 c, .slice q 0 d, undef, undef, i6' 0, i6' (n1 0)] ++ tl 37 g ∧ y.2.1 = h'') ?_ (n := 0) ⟨g2, rfl, rfl⟩).mono fun e y he => ?_
    · rintro _ ⟨t, h3, s⟩ ⟨g, ht, hh⟩
      simp only at ht hh
      subst ht hh
      refine (goesT_runs (tabY_ok conSd_ok) (cmp_out _ _ undef undef (i6' 0) (n1 0) h3 g).t (okOne (by rfl))).mono fun e y he => ?_
      obtain ⟨rfl, ⟨g', e2⟩, e3⟩ := he
      exact ⟨rfl, ⟨g', _, e2⟩, e3⟩
    · match e, he with
      | none, he => exact ⟨rfl, he⟩
  · rintro ⟨t, h'', s⟩ ⟨_, ⟨g2, i, ht⟩, hh⟩
    simp only at ht hh
    subst ht hh
    refine (goesT_runs (tabY_ok conSd_ok) (cmp_end _ _ undef undef (i6' 0) _ h'' g2).t (fun x hx => by cases hx)).mono fun e y he => ?_
    obtain ⟨rfl, ⟨g3, e2⟩, e3⟩ := he
    refine ⟨.inr rfl, ?_⟩
    rw [e2, e3]
    rfl
theorem cmp_runs {la lb : List Value} {o o' c c' : Nat} {La Lb : List Int} (Ra : Row la o La) (Rb : Row lb o' Lb) (hc : La.length < 4611686018427387904) :
    Runs (tabOf Tryz.prog extY conSd true) (cmpC Tryz.f120) ([sl 0 o La.length c, sl 1 o' Lb.length c'] ++ List.replicate 41 undef, h2 la lb, []) fun e y => (e = none ∨ e = some none) ∧ resS Tryz.prog Tryz.f120 y.1 y.2.1 = some (i6' (cmpL La Lb)) := by
  by_cases hn : La.length = Lb.length
  · unfold cmpL
    rw [if_pos hn]
    refine goesT_list (tabY_ok conSd_ok) (cmp_pre _ _ _) (fun x hx => by cases hx) fun g => ?_
    refine Runs.seq (goesT_runs (tabY_ok conSd_ok) (cmp_eq _ _ La.length c Lb.length c' undef undef (i6' 0) undef (h2 la lb) g).t (okOne (by simp [hn]))) ?_ (fun e y he => by cases he.1)
    rintro ⟨t, h', s⟩ ⟨_, ⟨g1, ht⟩, hh⟩
    simp only at ht hh
    subst ht hh
    refine Runs.seq (P1 := fun e y => (e = none ∧ (∃ g i, y.1 = [sl 0 o La.length c, sl 1 o' Lb.length c', undef, undef, i6' 0, i6' i] ++ tl 37 g) ∧ y.2.1 = h2 la lb ∧ topCmp La Lb La.length = 0) ∨ (e = some none ∧ (∃ g i, y.1 = [sl 0 o La.length c, sl 1 o' Lb.length c', undef, undef, i6' (topCmp La Lb La.length), i6' i] ++ tl 37 g) ∧ y.2.1 = h2 la lb)) ?_ ?_ ?_
    · refine Runs.seq (goesT_runs (tabY_ok conSd_ok) (cmp_r _ La.length c _ undef undef (i6' 0) undef _ g1).t (fun x hx => by cases hx)) ?_ (fun e y he => by cases he.1)
      rintro ⟨t, h'', s⟩ ⟨_, ⟨g2, ht⟩, hh⟩
      simp only at ht hh
      subst ht hh
      refine (Runs.forLoop (P := fun y => (∃ g i, y.1 = [sl 0 o La.length c, sl 1 o' Lb.length c', undef, undef, i6' 0, i6' i] ++ tl 37 g) ∧ y.2.1 = h2 la lb ∧ topCmp La Lb La.length = 0) (R := fun y => (∃ g i, y.1 = [sl 0 o La.length c, sl 1 o' Lb.length c', undef, undef, i6' (topCmp La Lb La.length), i6' i] ++ tl 37 g) ∧ y.2.1 = h2 la lb)
        (fun r y => ∃ (g : Nat → Value), r ≤ La.length ∧ y.1 = [sl 0 o La.length c, sl 1 o' Lb.length c', undef, undef, i6' 0, i6' ((r : Int) - 1)] ++ tl 37 g ∧ y.2.1 = h2 la lb ∧ topCmp La Lb La.length = topCmp La Lb r) ?_ (n := La.length) ⟨g2, Nat.le_refl _, by unfold n1; rw [wrapI (by omega) (by omega)]; rfl, rfl, rfl⟩).mono fun e y he => ?_
      · rintro r ⟨t, h3, s⟩ ⟨g, hk, ht, hh, htop⟩
        simp only at ht hh
        subst ht hh
        cases r with
        | zero =>
          refine (goesT_runs (tabY_ok conSd_ok) (cmp_out _ _ undef undef (i6' 0) _ _ g).t (okOne (by rfl))).mono fun e y he => ?_
          obtain ⟨rfl, ⟨g', e2⟩, e3⟩ := he
          exact ⟨rfl, ⟨g', _, e2⟩, e3, htop⟩
        | succ k =>
          have ek : ((k + 1 : Nat) : Int) - 1 = (k : Int) := by omega
          rw [ek]
          have ca := Ra.cell (k := k) (by omega)
          have cb := Rb.cell (k := k) (by omega)
          have ha : cellIs (la[o + ((k : Int)).toNat * 1]?) (.int .u32 (La.getD k 0)) = true := by
            rw [Int.toNat_natCast, Nat.mul_one, ca]; simp [cellIs]
          have hb : cellIs (lb[o' + ((k : Int)).toNat * 1]?) (.int .u32 (Lb.getD k 0)) = true := by
            rw [Int.toNat_natCast, Nat.mul_one, cb]; simp [cellIs]
          have q1 : decide (0 ≤ (k : Int) ∧ (k : Int) < (La.length : Nat)) = true := decide_eq_true (by omega)
          have q2 : decide (0 ≤ (k : Int) ∧ (k : Int) < (Lb.length : Nat)) = true := decide_eq_true (by omega)
          have q3 : decide ((k : Int) ≥ 0) = true := decide_eq_true (by omega)
          by_cases hx : La.getD k 0 = Lb.getD k 0
          · refine (goesT_runs (tabY_ok conSd_ok) (cmp_go o La.length c o' Lb.length c' k (La.getD k 0) (Lb.getD k 0) la lb undef undef (i6' 0) g) (okTwo (by show (La.getD k 0 != Lb.getD k 0) = false; rw [hx]; exact bne_self_eq_false _) (okTwo hb (okTwo q2 (okTwo ha (okTwo q1 (okOne q3))))))).mono fun e y he => ?_
            obtain ⟨rfl, ⟨g', e2⟩, e3⟩ := he
            refine ⟨k, by omega, g', by omega, ?_, e3, ?_⟩
            · rw [e2, wrapI (by omega) (by omega)]
            · rw [htop]
              simp only [topCmp]
              rw [if_pos hx]
          · have hne : (La.getD k 0 != Lb.getD k 0) = true := by simpa using hx
            refine (goesT_runs (tabY_ok conSd_ok) (cmp_no (decide (La.getD k 0 < Lb.getD k 0)) o La.length c o' Lb.length c' k (La.getD k 0) (Lb.getD k 0) la lb undef undef (i6' 0) g) (okTwo rfl (okTwo hb (okTwo q2 (okTwo ha (okTwo q1 (okTwo hne (okTwo hb (okTwo q2 (okTwo ha (okTwo q1 (okOne q3)))))))))))).mono fun e y he => ?_
            obtain ⟨rfl, ⟨g', e2⟩, e3⟩ := he
            refine ⟨⟨g', k, ?_⟩, e3⟩
            rw [e2, htop]
            simp only [topCmp]
            rw [if_neg hx]
            by_cases hlt : La.getD k 0 < Lb.getD k 0
            · rw [if_pos hlt, decide_eq_true hlt]; rfl
            · rw [if_neg hlt, decide_eq_false hlt]; rfl
      · match e, he with
        | none, he => exact .inl ⟨rfl, he⟩
        | some none, he => exact .inr ⟨rfl, he⟩
    · rintro ⟨t, h'', s⟩ (⟨_, ⟨g2, i, ht⟩, hh, heq⟩ | ⟨h, _⟩)
      · simp only at ht hh
        subst ht hh
        refine (goesT_runs (tabY_ok conSd_ok) (cmp_end _ _ undef undef (i6' 0) _ _ g2).t (fun x hx => by cases hx)).mono fun e y he => ?_
        obtain ⟨rfl, ⟨g3, e2⟩, e3⟩ := he
        refine ⟨.inr rfl, ?_⟩
        rw [e2, e3, heq]
        rfl
      · cases h
    · rintro e y (⟨h, _⟩ | ⟨h1, ⟨g3, i, e2⟩, e3⟩)
      · cases h
      · refine ⟨.inr h1, ?_⟩
        rw [e2, e3]
        rfl
  · unfold cmpL
    rw [if_neg hn]
    exact cmp_runs1 _ _ _ _ _ _ _ hn
/-- where one row is none at all -/
def cmp0 (n k : Nat) : Int := if n = k then 0 else if n < k then -1 else 1
theorem cmp_runsN (p q : Option Addr) (n c k d : Nat) (h : Hp) (h0 : n = 0 ∨ k = 0) :
    Runs (tabOf Tryz.prog extY conSd true) (cmpC Tryz.f120) ([.slice p n c, .slice q k d] ++ List.replicate 41 undef, h, []) fun e y => (e = none ∨ e = some none) ∧ resS Tryz.prog Tryz.f120 y.1 y.2.1 = some (i6' (cmp0 n k)) := by
  unfold cmp0
  by_cases hn : n = k
  · rw [if_pos hn]
    have e1 : n = 0 := by omega
    have e2 : k = 0 := by omega
    subst e1 e2
    exact cmp_runs0 p q c d h
  · rw [if_neg hn]
    exact cmp_runs1 p q n c k d h hn
def gCmp : AnsH := fun vals h s =>
  match vals with
  | [.slice (some ⟨b, o, none⟩) n c, .slice (some ⟨b', o', none⟩) n' c'] =>
    match h.blk? b, h.blk? b' with
    | some x, some y => some (i6' (cmpL (cutI x.1 o n) (cutI y.1 o' n')), h, s, [(rowOk x.2 x.1 o n c, true), (rowOk y.2 y.1 o' n' c', true)])
    | _, _ => none
  | [.slice none 0 0, .slice none 0 0] => some (i6' 0, h, s, [])
  | [.slice none 0 0, .slice (some _) k _] => some (i6' (cmp0 0 k), h, s, [])
  | [.slice (some _) n _, .slice none 0 0] => some (i6' (cmp0 n 0), h, s, [])
  | _ => none
theorem gCmp_ok : AnsHOk 120 gCmp := by
  intro vals h s v h' s' lg hg hl m B w E hv
  unfold gCmp at hg
  split at hg
  · rename_i b o n c b' o' n' c'
    split at hg
    · rename_i x y hx hy
      cases hg
      obtain ⟨a1, a2, a3, a4, a5, a6, a7⟩ := row_of (hl _ (List.mem_cons_self))
      obtain ⟨b1, b2, b3, b4, b5, b6, b7⟩ := row_of (hl _ (List.mem_cons_of_mem _ (List.mem_singleton.2 rfl)))
      have hsm : n < 4611686018427387904 := by have := blt_iff.1 a4; unfold dead at this; omega
      have r := cmp_runs (c := c) (c' := c') a1 b1 (by rw [a2]; exact hsm)
      rw [a2, b2] at r
      have lx := Hp.blk_lt hx
      have ly := Hp.blk_lt hy
      have := row_calls (T := tabOf Tryz.prog extY conSd true) Tryz.func120 cmp_body (rows2 a7 b7) (vals := [sl 0 o n c, sl 1 o' n' c']) (fun v hv => by
        simp only [List.mem_cons, List.not_mem_nil, or_false] at hv
        rcases hv with rfl | rfl <;> rfl) (by rfl) r E (s := pair b b') (fun i _ => by unfold pair; split <;> assumption) (fitsR2 hx a5 a6 hy b5 b6)
      exact this.mono fun e w' he => ⟨m, he.1, he.2⟩
    · cases hg
  · cases hg
    have r := cmp_runsN none none 0 0 0 0 ⟨0, []⟩ (.inl rfl)
    refine (calls_of_runs (T := tabOf Tryz.prog extY conSd true) Tryz.func120 cmp_body (vals := [nilS, nilS]) (by rfl) (by rfl) r w).mono fun e w' he => ?_
    obtain ⟨E', hb⟩ := clean_emb E he.2
    exact ⟨m, he.1, ⟨Agree.refl _ _, E', hb, Nat.le_refl _, rfl⟩⟩
  · rename_i a k c
    cases hg
    have r := cmp_runsN none (some { a with block := 0 }) 0 0 k c hT (.inl rfl)
    have hlt : a.block < h.n := by
      have := hv (.slice (some a) k c) (by simp)
      exact blt_iff.1 this
    have := row_calls (T := tabOf Tryz.prog extY conSd true) Tryz.func120 cmp_body rowsT (vals := [nilS, .slice (some { a with block := 0 }) k c]) (fun v hv => by
      simp only [List.mem_cons, List.not_mem_nil, or_false] at hv
      rcases hv with rfl | rfl <;> rfl) (by rfl) r E (s := fun _ => a.block) (fun i _ => hlt) (fitsRT _ _)
    exact this.mono fun e w' he => ⟨m, he.1, he.2⟩
  · rename_i a n c
    cases hg
    have r := cmp_runsN (some { a with block := 0 }) none n c 0 0 hT (.inr rfl)
    have hlt : a.block < h.n := by
      have := hv (.slice (some a) n c) (by simp)
      exact blt_iff.1 this
    have := row_calls (T := tabOf Tryz.prog extY conSd true) Tryz.func120 cmp_body rowsT (vals := [.slice (some { a with block := 0 }) n c, nilS]) (fun v hv => by
      simp only [List.mem_cons, List.not_mem_nil, or_false] at hv
      rcases hv with rfl | rfl <;> rfl) (by rfl) r E (s := fun _ => a.block) (fun i _ => hlt) (fitsRT _ _)
    exact this.mono fun e w' he => ⟨m, he.1, he.2⟩
  · cases hg
def errV (k : Int) : Value := .iface 42 (.int .i64 k)
def errD (d : Bool) : Value := match d with | true => errV 1 | false => .nilIface
def badL (L : List Int) : Bool := decide (8192 < L.length) || (decide (0 < L.length) && (L.getD (L.length - 1) 0 == 0))
theorem chk_long (p : Option Addr) (n c : Nat) (h : Hp) : GoesT (evC (tabOf Tryz.prog extY conN true) 100 false (cBody Tryz.f117) ([.slice p n c] ++ List.replicate 20 undef, h, [cmp true]) ⟨[], [], []⟩) 3 18 (some none) [.slice p n c, undef, errV 1] h [(decide ((n : Int) > 8192), true)] := ⟨by kernel_rfl, by kernel_rfl, by kernel_rfl⟩
theorem chk_none (p : Option Addr) (n c : Nat) (h : Hp) : GoesT (evC (tabOf Tryz.prog extY conN true) 100 false (cBody Tryz.f117) ([.slice p n c] ++ List.replicate 20 undef, h, [cmp false, cmp false]) ⟨[], [], []⟩) 3 18 (some none) [.slice p n c, undef, .nilIface] h [(decide ((n : Int) > 0), false), (decide ((n : Int) > 8192), false)] := ⟨by kernel_rfl, by kernel_rfl, by kernel_rfl⟩
theorem chk_last (d : Bool) (o n c : Nat) (x : Int) (l : List Value) : GoesT (evC (tabOf Tryz.prog extY conN true) 100 false (cBody Tryz.f117) ([sl 0 o n c] ++ List.replicate 20 undef, ⟨1, [(l, tR)]⟩, [cmp false, cmp true, at_, val (.int .u32 x), cmp d]) ⟨[], [], []⟩) 3 18 (some none) [sl 0 o n c, undef, errD d] ⟨1, [(l, tR)]⟩ [(x == 0, d), (cellIs (l[o + (n1 n).toNat * 1]?) (.int .u32 x), true), (decide (0 ≤ n1 n ∧ n1 n < n), true), (decide ((n : Int) > 0), true), (decide ((n : Int) > 8192), false)] := by
  cases d <;> exact ⟨by kernel_rfl, by kernel_rfl, by kernel_rfl⟩
theorem chk_body : Tryz.f117.body = some (cBody Tryz.f117) := by kernel_rfl
theorem chk_runs {l : List Value} {o c : Nat} {L : List Int} (hR : Row l o L) :
    Runs (tabOf Tryz.prog extY conN true) (cBody Tryz.f117) ([sl 0 o L.length c] ++ List.replicate 20 undef, ⟨1, [(l, tR)]⟩, []) fun e y => (e = none ∨ e = some none) ∧ resS Tryz.prog Tryz.f117 y.1 y.2.1 = some (errD (badL L)) := by
  unfold badL
  by_cases h1 : 8192 < L.length
  · rw [decide_eq_true h1, Bool.true_or]
    refine (goesT_runs (tabY_ok conN_ok) (chk_long _ _ _ _) (okOne (decide_eq_true (by omega)))).mono fun e y he => ?_
    obtain ⟨rfl, ⟨g, e2⟩, e3⟩ := he
    refine ⟨.inr rfl, ?_⟩
    rw [e2, e3]
    rfl
  · rw [decide_eq_false h1, Bool.false_or]
    by_cases h2 : 0 < L.length
    · rw [decide_eq_true h2, Bool.true_and]
      have ek : n1 L.length = ((L.length - 1 : Nat) : Int) := by
        unfold n1
        rw [wrapI (by omega) (by omega)]
        omega
      refine (goesT_runs (tabY_ok conN_ok) (chk_last (L.getD (L.length - 1) 0 == 0) o L.length c (L.getD (L.length - 1) 0) l) (okTwo rfl (okTwo (by
        rw [ek, Int.toNat_natCast, Nat.mul_one, hR.cell (by omega)]; simp [cellIs]) (okTwo (by rw [ek]; exact decide_eq_true (by omega)) (okTwo (decide_eq_true (by omega)) (okOne (decide_eq_false (by omega)))))))).mono fun e y he => ?_
      obtain ⟨rfl, ⟨g, e2⟩, e3⟩ := he
      refine ⟨.inr rfl, ?_⟩
      rw [e2, e3]
      generalize (L.getD (L.length - 1) 0 == 0) = d
      cases d <;> rfl
    · rw [decide_eq_false h2, Bool.false_and]
      refine (goesT_runs (tabY_ok conN_ok) (chk_none _ _ _ _) (okTwo (decide_eq_false (by omega)) (okOne (decide_eq_false (by omega))))).mono fun e y he => ?_
      obtain ⟨rfl, ⟨g, e2⟩, e3⟩ := he
      refine ⟨.inr rfl, ?_⟩
      rw [e2, e3]
      rfl
theorem chk_nil : Fits (reckon (tabOf Tryz.prog extY conN true) 100 117 [nilS] []) .nilIface [] := ⟨by kernel_rfl, by kernel_rfl, by kernel_rfl, by kernel_rfl⟩
def gChk : AnsH := fun vals h s =>
  match vals with
  | [.slice none 0 0] => some (.nilIface, h, s, [])
  | [.slice (some ⟨b, o, none⟩) n c] =>
    match h.blk? b, s with
    | some x, .inr (.inr (.inr (.inl d))) :: s' => some (errD d, h, s', [(rowOk x.2 x.1 o n c, true), (badL (cutI x.1 o n), d)])
    | _, _ => none
  | _ => none
theorem gChk_ok : AnsHOk 117 gChk := by
  intro vals h s v h' s' lg hg hl m B w E hv
  unfold gChk at hg
  split at hg
  · cases hg
    refine (fits_calls (tabY_ok conN_ok) chk_nil (fun x hx => by cases hx) (by rfl) (by rfl) w).mono fun e w' he => ?_
    obtain ⟨E', hb⟩ := clean_emb E he.2
    exact ⟨m, he.1, ⟨Agree.refl _ _, E', hb, Nat.le_refl _, rfl⟩⟩
  · rename_i b o n c
    split at hg
    · rename_i x d s2 hx
      cases hg
      obtain ⟨h1, h2, h3, h4, h5, h6, h7⟩ := row_of (hl _ (List.mem_cons_self))
      have hd := hl _ (List.mem_cons_of_mem _ (List.mem_singleton.2 rfl))
      simp only at hd
      have hlt := Hp.blk_lt hx
      have r := chk_runs (c := c) h1
      rw [h2, hd] at r
      have e0 : rn (fun _ => b) (errD d) = errD d := by cases d <;> rfl
      have := row_calls (T := tabOf Tryz.prog extY conN true) Tryz.func117 chk_body (rows1 h7) (vals := [sl 0 o n c]) (fun v hv => by rw [List.mem_singleton.1 hv]; rfl) (by cases d <;> rfl) r E (s := fun _ => b) (fun i _ => hlt) (fitsR1 hx h5 h6 rfl)
      rw [e0] at this
      exact this.mono fun e w' he => ⟨m, he.1, he.2⟩
    · cases hg
  · cases hg
def hcK : Hc := altH 117 gChk hcN
theorem hcK_ok : HcOk hcK := altH_ok Tryz.func117 rfl gChk_ok hcN_ok
/-! ### checkBoth -/
def chkL (l : List Value) (o n c : Nat) : Bool × Bool := (rowOk tR l o n c, true)
theorem both_bad (o n c o' n' c' : Nat) (la lb : List Value) : GoesT (evC (tabH Tryz.prog extY conN hcK) 100 false (cBody Tryz.f116) ([sl 0 o n c, sl 1 o' n' c'] ++ List.replicate 11 undef, h2 la lb, [cmp true]) ⟨[], [], []⟩) 5 8 (some none) [sl 0 o n c, sl 1 o' n' c', undef, undef, errV 1] (h2 la lb) [chkL la o n c, (badL (cutI la o n), true)] := ⟨by kernel_rfl, by kernel_rfl, by kernel_rfl⟩
theorem both_d (d : Bool) (o n c o' n' c' : Nat) (la lb : List Value) : GoesT (evC (tabH Tryz.prog extY conN hcK) 100 false (cBody Tryz.f116) ([sl 0 o n c, sl 1 o' n' c'] ++ List.replicate 11 undef, h2 la lb, [cmp false, cmp d]) ⟨[], [], []⟩) 5 8 (some none) [sl 0 o n c, sl 1 o' n' c', undef, undef, errD d] (h2 la lb) [chkL lb o' n' c', (badL (cutI lb o' n'), d), chkL la o n c, (badL (cutI la o n), false)] := by
  cases d <;> exact ⟨by kernel_rfl, by kernel_rfl, by kernel_rfl⟩
theorem rowOk_R {ty : TypeId} {l : List Value} {o n c : Nat} (h : rowOk ty l o n c = true) : rowOk tR l o n c = true := by
  unfold rowOk at *
  simp only [Bool.and_eq_true, Bool.not_eq_true'] at *
  obtain ⟨⟨⟨⟨⟨⟨h1, h2⟩, h3⟩, h4⟩, h5⟩, h6⟩, h7⟩ := h
  exact ⟨⟨⟨⟨⟨⟨tR_tomb, by kernel_rfl⟩, h3⟩, h4⟩, h5⟩, h6⟩, h7⟩
theorem both_body : Tryz.f116.body = some (cBody Tryz.f116) := by kernel_rfl
theorem both_runs {la lb : List Value} {o n c o' n' c' : Nat} (ha : rowOk tR la o n c = true) (hb : rowOk tR lb o' n' c' = true) :
    Runs (tabH Tryz.prog extY conN hcK) (cBody Tryz.f116) ([sl 0 o n c, sl 1 o' n' c'] ++ List.replicate 11 undef, h2 la lb, []) fun e y => (e = none ∨ e = some none) ∧ resS Tryz.prog Tryz.f116 y.1 y.2.1 = some (errD (badL (cutI la o n) || badL (cutI lb o' n'))) := by
  cases h : badL (cutI la o n) with
  | true =>
    refine (goesT_runs (tabH_ok conN_ok hcK_ok) (both_bad o n c o' n' c' la lb) (okTwo ha (okOne h))).mono fun e y he => ?_
    obtain ⟨rfl, ⟨g, e2⟩, e3⟩ := he
    refine ⟨.inr rfl, ?_⟩
    rw [e2, e3]
    rfl
  | false =>
    refine (goesT_runs (tabH_ok conN_ok hcK_ok) (both_d (badL (cutI lb o' n')) o n c o' n' c' la lb) (okTwo hb (okTwo rfl (okTwo ha (okOne h))))).mono fun e y he => ?_
    obtain ⟨rfl, ⟨g, e2⟩, e3⟩ := he
    refine ⟨.inr rfl, ?_⟩
    rw [e2, e3, Bool.false_or]
    generalize badL (cutI lb o' n') = d
    cases d <;> rfl
theorem both_n1 (d : Bool) (o n c : Nat) (l : List Value) : GoesT (evC (tabH Tryz.prog extY conN hcK) 100 false (cBody Tryz.f116) ([nilS, sl 0 o n c] ++ List.replicate 11 undef, ⟨1, [(l, tR)]⟩, [cmp d]) ⟨[], [], []⟩) 5 8 (some none) [nilS, sl 0 o n c, undef, undef, errD d] ⟨1, [(l, tR)]⟩ [chkL l o n c, (badL (cutI l o n), d)] := by
  cases d <;> exact ⟨by kernel_rfl, by kernel_rfl, by kernel_rfl⟩
theorem both_1n (d : Bool) (o n c : Nat) (l : List Value) : GoesT (evC (tabH Tryz.prog extY conN hcK) 100 false (cBody Tryz.f116) ([sl 0 o n c, nilS] ++ List.replicate 11 undef, ⟨1, [(l, tR)]⟩, [cmp d]) ⟨[], [], []⟩) 5 8 (some none) [sl 0 o n c, nilS, undef, undef, errD d] ⟨1, [(l, tR)]⟩ [chkL l o n c, (badL (cutI l o n), d)] := by
  cases d <;> exact ⟨by kernel_rfl, by kernel_rfl, by kernel_rfl⟩
theorem both_nil : Fits (reckon (tabOf Tryz.prog extY conN true) 100 116 [nilS, nilS] []) .nilIface [] := ⟨by kernel_rfl, by kernel_rfl, by kernel_rfl, by kernel_rfl⟩
/-- a row beside nothing -/
theorem both_one {vals : List Value} {l : List Value} {o n c : Nat} {d : Bool} (hf : GoesT (evC (tabH Tryz.prog extY conN hcK) 100 false (cBody Tryz.f116) (vals ++ List.replicate 11 undef, ⟨1, [(l, tR)]⟩, [cmp d]) ⟨[], [], []⟩) 5 8 (some none) (vals ++ [undef, undef, errD d]) ⟨1, [(l, tR)]⟩ [chkL l o n c, (badL (cutI l o n), d)]) (ha : rowOk tR l o n c = true) (hd : badL (cutI l o n) = d) (hr : ∀ g, resS Tryz.prog Tryz.f116 ((vals ++ [undef, undef, errD d]) ++ tl 8 g) ⟨1, [(l, tR)]⟩ = some (errD d)) :
    Runs (tabH Tryz.prog extY conN hcK) (cBody Tryz.f116) (vals ++ List.replicate 11 undef, ⟨1, [(l, tR)]⟩, []) fun e y => (e = none ∨ e = some none) ∧ resS Tryz.prog Tryz.f116 y.1 y.2.1 = some (errD d) := by
  refine (goesT_runs (tabH_ok conN_ok hcK_ok) hf (okTwo ha (okOne hd))).mono fun e y he => ?_
  obtain ⟨rfl, ⟨g, e2⟩, e3⟩ := he
  refine ⟨.inr rfl, ?_⟩
  rw [e2, e3]
  exact hr g
def gBoth : AnsH := fun vals h s =>
  match vals with
  | [.slice (some ⟨b, o, none⟩) n c, .slice (some ⟨b', o', none⟩) n' c'] =>
    match h.blk? b, h.blk? b', s with
    | some x, some y, .inr (.inr (.inr (.inl d))) :: s' => some (errD d, h, s', [(rowOk x.2 x.1 o n c, true), (rowOk y.2 y.1 o' n' c', true), (badL (cutI x.1 o n) || badL (cutI y.1 o' n'), d)])
    | _, _, _ => none
  | [.slice none 0 0, .slice (some ⟨b, o, none⟩) n c] =>
    match h.blk? b, s with
    | some x, .inr (.inr (.inr (.inl d))) :: s' => some (errD d, h, s', [(rowOk x.2 x.1 o n c, true), (badL (cutI x.1 o n), d)])
    | _, _ => none
  | [.slice (some ⟨b, o, none⟩) n c, .slice none 0 0] =>
    match h.blk? b, s with
    | some x, .inr (.inr (.inr (.inl d))) :: s' => some (errD d, h, s', [(rowOk x.2 x.1 o n c, true), (badL (cutI x.1 o n), d)])
    | _, _ => none
  | [.slice none 0 0, .slice none 0 0] => some (.nilIface, h, s, [])
  | _ => none
theorem gBoth_ok : AnsHOk 116 gBoth := by
  intro vals h s v h' s' lg hg hl m B w E hv
  unfold gBoth at hg
  split at hg
  · rename_i b o n c b' o' n' c'
    split at hg
    · rename_i x y d s2 hx hy
      cases hg
      have ra := hl _ (List.mem_cons_self)
      have rb := hl _ (List.mem_cons_of_mem _ List.mem_cons_self)
      obtain ⟨a1, a2, a3, a4, a5, a6, a7⟩ := row_of ra
      obtain ⟨b1, b2, b3, b4, b5, b6, b7⟩ := row_of rb
      have hd := hl _ (List.mem_cons_of_mem _ (List.mem_cons_of_mem _ (List.mem_singleton.2 rfl)))
      simp only at hd
      have r := both_runs (rowOk_R ra) (rowOk_R rb)
      rw [hd] at r
      have lx := Hp.blk_lt hx
      have ly := Hp.blk_lt hy
      have e0 : rn (pair b b') (errD d) = errD d := by cases d <;> rfl
      have := row_calls (T := tabH Tryz.prog extY conN hcK) Tryz.func116 both_body (rows2 a7 b7) (vals := [sl 0 o n c, sl 1 o' n' c']) (fun v hv => by
        simp only [List.mem_cons, List.not_mem_nil, or_false] at hv
        rcases hv with rfl | rfl <;> rfl) (by cases d <;> rfl) r E (s := pair b b') (fun i _ => by unfold pair; split <;> assumption) (fitsR2 hx a5 a6 hy b5 b6)
      rw [e0] at this
      exact this.mono fun e w' he => ⟨m, he.1, he.2⟩
    · cases hg
  · rename_i b o n c
    split at hg
    · rename_i x d s2 hx
      cases hg
      have ra := hl _ (List.mem_cons_self)
      have hd := hl _ (List.mem_cons_of_mem _ (List.mem_singleton.2 rfl))
      simp only at hd
      obtain ⟨a1, a2, a3, a4, a5, a6, a7⟩ := row_of ra
      have hlt := Hp.blk_lt hx
      have e0 : rn (fun _ => b) (errD d) = errD d := by cases d <;> rfl
      have r := both_one (both_n1 d o n c x.1) (rowOk_R ra) hd (fun _ => by cases d <;> rfl)
      have := row_calls (T := tabH Tryz.prog extY conN hcK) Tryz.func116 both_body (rows1 a7) (vals := [nilS, sl 0 o n c]) (fun v hv => by
        simp only [List.mem_cons, List.not_mem_nil, or_false] at hv
        rcases hv with rfl | rfl <;> rfl) (by cases d <;> rfl) r E (s := fun _ => b) (fun i _ => hlt) (fitsR1 hx a5 a6 rfl)
      rw [e0] at this
      exact this.mono fun e w' he => ⟨m, he.1, he.2⟩
    · cases hg
  · rename_i b o n c
    split at hg
    · rename_i x d s2 hx
      cases hg
      have ra := hl _ (List.mem_cons_self)
      have hd := hl _ (List.mem_cons_of_mem _ (List.mem_singleton.2 rfl))
      simp only at hd
      obtain ⟨a1, a2, a3, a4, a5, a6, a7⟩ := row_of ra
      have hlt := Hp.blk_lt hx
      have e0 : rn (fun _ => b) (errD d) = errD d := by cases d <;> rfl
      have r := both_one (both_1n d o n c x.1) (rowOk_R ra) hd (fun _ => by cases d <;> rfl)
      have := row_calls (T := tabH Tryz.prog extY conN hcK) Tryz.func116 both_body (rows1 a7) (vals := [sl 0 o n c, nilS]) (fun v hv => by
        simp only [List.mem_cons, List.not_mem_nil, or_false] at hv
        rcases hv with rfl | rfl <;> rfl) (by cases d <;> rfl) r E (s := fun _ => b) (fun i _ => hlt) (fitsR1 hx a5 a6 rfl)
      rw [e0] at this
      exact this.mono fun e w' he => ⟨m, he.1, he.2⟩
    · cases hg
  · cases hg
    refine (fits_calls (tabY_ok conN_ok) both_nil (fun x hx => by cases hx) (by rfl) (by rfl) w).mono fun e w' he => ?_
    obtain ⟨E', hb⟩ := clean_emb E he.2
    exact ⟨m, he.1, ⟨Agree.refl _ _, E', hb, Nat.le_refl _, rfl⟩⟩
  · cases hg
/-! ### sums and differences of words -/
def wd4 (x y c : Int) : Bool := decide ((0 ≤ x ∧ x < 4294967296) ∧ (0 ≤ y ∧ y < 4294967296) ∧ 0 ≤ c ∧ c ≤ 1)
def add32V (x y c : Int) : Value := .tuple #[uu ((x + y + c) % 4294967296), uu ((x + y + c) / 4294967296)]
def raw32 (x y c : Int) : Int := IntKind.u64.wrap (IntKind.u64.wrap (IntKind.u64.wrap x + IntKind.u64.wrap y) + IntKind.u64.wrap c)
theorem add32_fits (x y c : Int) : Fits (reckon (tabOf Tryz.prog extY conN true) 100 147 [uu x, uu y, uu c] []) (.tuple #[uu (IntKind.u32.wrap (raw32 x y c)), uu (IntKind.u32.wrap ((raw32 x y c).fdiv (2 ^ min ((32 : Int).toNat) 64)))]) [(decide ((32 : Int) < 0), false)] := ⟨by kernel_rfl, by kernel_rfl, by kernel_rfl, by kernel_rfl⟩
theorem u64w (n : Int) : IntKind.u64.wrap n = n % 18446744073709551616 := by simp [IntKind.wrap, IntKind.bits, IntKind.signed]
theorem u32w (n : Int) : IntKind.u32.wrap n = n % 4294967296 := by simp [IntKind.wrap, IntKind.bits, IntKind.signed]
def gAdd32 : Ans := fun vals s =>
  match vals with
  | [.int .u32 x, .int .u32 y, .int .u32 c] => some (add32V x y c, s, [(wd4 x y c, true)])
  | _ => none
theorem gAdd32_ok : AnsOk 147 gAdd32 := by
  intro vals s v s' lg h hl w
  unfold gAdd32 at h
  split at h
  · rename_i x y c
    cases h
    have hr := hl _ (List.mem_singleton.2 rfl)
    simp only [wd4, decide_eq_true_eq] at hr
    have e : raw32 x y c = x + y + c := by
      unfold raw32
      rw [u64w, u64w, u64w, u64w, u64w]
      omega
    have e2 : (2 : Int) ^ min ((32 : Int).toNat) 64 = 4294967296 := rfl
    have := fits_calls (tabY_ok conN_ok) (add32_fits x y c) (okOne (by rfl)) (by rfl) (by rfl) w
    rw [e, e2, u32w, u32w, Int.fdiv_eq_ediv_of_nonneg _ (by omega), Int.emod_eq_of_lt (a := (x + y + c) / 4294967296) (by omega) (by omega)] at this
    exact this
  · cases h
end Go.Proofs.YtjlponbdflkbjaaGreatDoor.Na
namespace Go.Nt
def vN : List Int → Int
  | [] => 0
  | x :: r => x + 4294967296 * vN r
/-- the lowest m words of a number -/
def dg : Nat → Int → List Int
  | 0, _ => []
  | m + 1, V => V % 4294967296 :: dg m (V / 4294967296)
def wds (L : List Int) : Prop := ∀ x ∈ L, 0 ≤ x ∧ x < 4294967296
theorem dg_len : ∀ (m : Nat) (V : Int), (dg m V).length = m
  | 0, _ => rfl
  | m + 1, V => by simp [dg, dg_len m]
theorem dg_wds : ∀ (m : Nat) (V : Int), wds (dg m V)
  | 0, _ => fun x hx => by cases hx
  | m + 1, V => fun x hx => by
    simp only [dg, List.mem_cons] at hx
    rcases hx with rfl | hx
    · omega
    · exact dg_wds m _ x hx
theorem wds_tail {x : Int} {L : List Int} (h : wds (x :: L)) : (0 ≤ x ∧ x < 4294967296) ∧ wds L := ⟨h x List.mem_cons_self, fun y hy => h y (List.mem_cons_of_mem _ hy)⟩
theorem dg_vN : ∀ L : List Int, wds L → dg L.length (vN L) = L
  | [], _ => rfl
  | x :: r, h => by
    obtain ⟨h1, h2⟩ := wds_tail h
    have ih := dg_vN r h2
    simp only [List.length_cons, dg, vN]
    have e1 : (x + 4294967296 * vN r) % 4294967296 = x := by omega
    have e2 : (x + 4294967296 * vN r) / 4294967296 = vN r := by omega
    rw [e1, e2, ih]
theorem pw (k : Nat) : (4294967296 : Int) ^ (k + 1) = 4294967296 * 4294967296 ^ k := by rw [Int.pow_succ, Int.mul_comm]
theorem pw_pos (k : Nat) : (0 : Int) < 4294967296 ^ k := Int.pow_pos (by omega)
theorem pw_le {i j : Nat} (h : i ≤ j) : (4294967296 : Int) ^ i ≤ 4294967296 ^ j := by
  have h1 : ∀ k : Nat, ((4294967296 ^ k : Nat) : Int) = 4294967296 ^ k := fun k => by simp
  rw [← h1, ← h1]
  have := Nat.pow_le_pow_right (n := 4294967296) (by omega) h
  omega
theorem vN_bd : ∀ L : List Int, wds L → 0 ≤ vN L ∧ vN L < 4294967296 ^ L.length
  | [], _ => by simp [vN]
  | x :: r, h => by
    obtain ⟨h1, h2⟩ := wds_tail h
    have ih := vN_bd r h2
    simp only [List.length_cons, vN]
    rw [pw]
    omega
theorem vN_snoc : ∀ (L : List Int) (d : Int), vN (L ++ [d]) = vN L + 4294967296 ^ L.length * d
  | [], d => by simp [vN]
  | x :: r, d => by
    have ih := vN_snoc r d
    simp only [List.cons_append, vN, List.length_cons]
    rw [ih, pw, Int.mul_assoc, Int.mul_add]
    omega
theorem vN_app : ∀ (L M : List Int), vN (L ++ M) = vN L + 4294967296 ^ L.length * vN M
  | [], M => by simp [vN]
  | x :: r, M => by
    have ih := vN_app r M
    simp only [List.cons_append, vN, List.length_cons]
    rw [ih, pw, Int.mul_assoc, Int.mul_add]
    omega
theorem wds_app {L M : List Int} (h1 : wds L) (h2 : wds M) : wds (L ++ M) := fun x hx => by
  rcases List.mem_append.1 hx with hx | hx
  · exact h1 x hx
  · exact h2 x hx
end Go.Nt
namespace Go.Proofs.YtjlponbdflkbjaaGreatDoor.Na
open Go.KRun Go.Nt
set_option maxRecDepth 100000
def conA : Con := alt 147 gAdd32 conN
theorem conA_ok : ConOk conA := alt_ok Tryz.func147 rfl gAdd32_ok conN_ok
def sn (k : Nat) (F : Func) : Code := match k with | 0 => cBody F | k + 1 => cSnd (sn k F)
/-- the new row's length; the row behind the copy -/
def nP (n : Nat) : Int := IntKind.i64.wrap ((n : Int) + 1)
def cpy (la : List Value) (o n : Nat) : List Value := (List.replicate (nP n).toNat (uu 0)).take 0 ++ (la.drop o).take (Nat.min n (nP n).toNat) ++ (List.replicate (nP n).toNat (uu 0)).drop (0 + Nat.min n (nP n).toNat)
def h3 (la lb S : List Value) : Hp := ⟨3, [(S, tU), (lb, tR), (la, tR)]⟩
def cpOk (la : List Value) (o n : Nat) : Bool := !(tomb tR) && !(ro tU) && Nat.ble (o + Nat.min n (nP n).toNat) la.length && Nat.ble (0 + Nat.min n (nP n).toNat) (List.replicate (nP n).toNat (uu 0)).length && ((la.drop o).take (Nat.min n (nP n).toNat)).all one
theorem nP_eq {n : Nat} (h : n ≤ 8192) : nP n = ((n + 1 : Nat) : Int) := by unfold nP; rw [wrapI (by omega) (by omega)]; omega
theorem nP_nat {n : Nat} (h : n ≤ 8192) : (nP n).toNat = n + 1 := by rw [nP_eq h, Int.toNat_natCast]
theorem cpy_eq {la : List Value} {o : Nat} {L : List Int} (hR : Row la o L) (h : L.length ≤ 8192) : cpy la o L.length = wU (L ++ [0]) := by
  unfold cpy
  rw [nP_nat h, show Nat.min L.length (L.length + 1) = L.length from by simp]
  have e1 : (la.drop o).take L.length = wU L := hR.cut
  rw [e1, Nat.zero_add, List.take_zero, List.nil_append, List.drop_replicate, show L.length + 1 - L.length = 1 from by omega]
  unfold wU uu
  simp
theorem cpOk_eq {la : List Value} {o : Nat} {L : List Int} (hR : Row la o L) (h : L.length ≤ 8192) : cpOk la o L.length = true := by
  unfold cpOk
  rw [nP_nat h, show Nat.min L.length (L.length + 1) = L.length from by simp]
  have e1 : (la.drop o).take L.length = wU L := hR.cut
  rw [e1, tR_tomb, show ro tU = false from by kernel_rfl]
  have h1 : Nat.ble (o + L.length) la.length = true := Nat.ble_eq_true_of_le hR.len
  have h2 : Nat.ble (0 + L.length) (List.replicate (L.length + 1) (uu 0)).length = true := Nat.ble_eq_true_of_le (by simp)
  have h3 : ((wU L).all one) = true := by
    unfold wU
    rw [List.all_eq_true]
    intro v hv
    obtain ⟨x, _, rfl⟩ := List.mem_map.1 hv
    rfl
  rw [h1, h2, h3]
  rfl
theorem mk_ok {n : Nat} (h : n ≤ 8192) : okMakeB 4 (nP n) (nP n) = true := by
  rw [nP_eq h]
  exact decide_eq_true (by omega)
theorem wU_row {L : List Int} (h : wds L) {c : Nat} (hc : L.length ≤ c) (h2 : smallC c = true) : rowOk tU (wU L) 0 L.length c = true ∧ cutI (wU L) 0 L.length = L := by
  have e1 : cutV (wU L) 0 L.length = wU L := by
    unfold cutV
    rw [List.drop_zero]
    exact List.take_of_length_le (by unfold wU; simp)
  have e2 : cutI (wU L) 0 L.length = L := by
    unfold cutI
    rw [e1]
    unfold wU
    rw [List.map_map]
    exact (List.map_congr_left fun x _ => rfl).trans (List.map_id' _)
  refine ⟨?_, e2⟩
  unfold rowOk
  rw [e1, h2, show tomb tU = false from by kernel_rfl, show Nat.beq (rt tU) tU = true from by kernel_rfl, Nat.ble_eq_true_of_le (show 0 + L.length ≤ (wU L).length by unfold wU; simp), Nat.ble_eq_true_of_le hc]
  have h3 : ((wU L).all isU) = true := by
    unfold wU
    rw [List.all_eq_true]
    intro v hv
    obtain ⟨x, hx, rfl⟩ := List.mem_map.1 hv
    exact decide_eq_true (h x hx)
  have h4 : ((wU L).all still) = true := by
    unfold wU
    rw [List.all_eq_true]
    intro v hv
    obtain ⟨x, _, rfl⟩ := List.mem_map.1 hv
    rfl
  rw [h3, h4]
  rfl
theorem badL_len {L : List Int} (h : badL L = false) : L.length ≤ 8192 := by
  unfold badL at h
  simp only [Bool.or_eq_false_iff, decide_eq_false_iff_not] at h
  omega
/-! ### the call -/
theorem wU_calm (L : List Int) : ∀ u ∈ wU L, lt1 0 u = true := fun u hu => by
  unfold wU at hu
  obtain ⟨x, _, rfl⟩ := List.mem_map.1 hu
  rfl
theorem tU_own : ro tU = false := by kernel_rfl
def bnt (z : Int) : Int := IntKind.u32.wrap ((BitVec.ofInt 32 4294967295 ^^^ BitVec.ofInt 32 z).toNat : Nat)
def bnd (x y : Int) : Int := IntKind.u32.wrap ((BitVec.ofInt 32 x &&& BitVec.ofInt 32 y).toNat : Nat)
def bxr (x y : Int) : Int := IntKind.u32.wrap ((BitVec.ofInt 32 x ^^^ BitVec.ofInt 32 y).toNat : Nat)
def brr (x y : Int) : Int := IntKind.u32.wrap ((BitVec.ofInt 32 x ||| BitVec.ofInt 32 y).toNat : Nat)
def difR (x y c : Int) : Int := IntKind.u32.wrap (IntKind.u32.wrap (x - y) - c)
def borR (x y c : Int) : Int := (brr (bnd (bnt x) y) (bnd (bnt (bxr x y)) (difR x y c))).fdiv (2 ^ min ((31 : Int).toNat) 32)
theorem sub32_fits (x y c : Int) : Fits (reckon (tabOf Tryz.prog extY conN true) 100 146 [uu x, uu y, uu c] []) (.tuple #[uu (difR x y c), uu (borR x y c)]) [(decide ((31 : Int) < 0), false)] := ⟨by kernel_rfl, by kernel_rfl, by kernel_rfl, by kernel_rfl⟩
theorem ofInt_wrap (v : BitVec 32) : BitVec.ofInt 32 (IntKind.u32.wrap (v.toNat : Nat)) = v := by
  rw [u32w]
  have h := v.isLt
  apply BitVec.eq_of_toNat_eq
  simp
  omega
theorem wrap_nat (v : BitVec 32) : IntKind.u32.wrap (v.toNat : Nat) = v.toNat := by
  rw [u32w]
  have h := v.isLt
  omega
theorem top_div (v : BitVec 32) : v.toNat / 2147483648 = if v.getLsbD 31 = true then 1 else 0 := by
  have h := v.isLt
  unfold BitVec.getLsbD
  rw [Nat.testBit_eq_decide_div_mod_eq]
  have e : (2 : Nat) ^ 31 = 2147483648 := rfl
  rw [e]
  by_cases h1 : v.toNat / 2147483648 % 2 = 1
  · rw [decide_eq_true h1]
    simp
    omega
  · rw [decide_eq_false h1]
    simp
    omega
theorem top_of {x : Int} (h0 : 0 ≤ x) (h1 : x < 4294967296) : (BitVec.ofInt 32 x).getLsbD 31 = decide (2147483648 ≤ x) := by
  have e : (BitVec.ofInt 32 x).toNat = x.toNat := by simp; omega
  unfold BitVec.getLsbD
  rw [e, Nat.testBit_eq_decide_div_mod_eq]
  have e2 : (2 : Nat) ^ 31 = 2147483648 := rfl
  rw [e2]
  by_cases h : 2147483648 ≤ x
  · rw [decide_eq_true h]
    exact decide_eq_true (by omega)
  · rw [decide_eq_false h]
    exact decide_eq_false (by omega)
def subD (x y c : Int) : Int := (x - y - c) % 4294967296
def subB (x y c : Int) : Int := if x < y + c then 1 else 0
theorem sub32_eq {x y c : Int} (hx : 0 ≤ x ∧ x < 4294967296) (hy : 0 ≤ y ∧ y < 4294967296) (hc : 0 ≤ c ∧ c ≤ 1) : difR x y c = subD x y c ∧ borR x y c = subB x y c := by
  have e1 : difR x y c = subD x y c := by
    unfold difR subD
    rw [u32w, u32w]
    omega
  refine ⟨e1, ?_⟩
  have d0 : 0 ≤ subD x y c ∧ subD x y c < 4294967296 := by unfold subD; omega
  unfold borR
  rw [e1]
  unfold brr bnd bnt bxr
  simp only [ofInt_wrap]
  rw [wrap_nat, show (2 : Int) ^ min ((31 : Int).toNat) 32 = 2147483648 from rfl, Int.fdiv_eq_ediv_of_nonneg _ (by omega)]
  have key := top_div ((BitVec.ofInt 32 4294967295 ^^^ BitVec.ofInt 32 x) &&& BitVec.ofInt 32 y ||| (BitVec.ofInt 32 4294967295 ^^^ (BitVec.ofInt 32 x ^^^ BitVec.ofInt 32 y)) &&& BitVec.ofInt 32 (subD x y c))
  simp only [BitVec.getLsbD_or, BitVec.getLsbD_and, BitVec.getLsbD_xor, top_of hx.1 hx.2, top_of hy.1 hy.2, top_of d0.1 d0.2, top_of (x := 4294967295) (by omega) (by omega)] at key
  rw [show decide ((2147483648 : Int) ≤ 4294967295) = true from rfl] at key
  generalize hV : ((BitVec.ofInt 32 4294967295 ^^^ BitVec.ofInt 32 x) &&& BitVec.ofInt 32 y ||| (BitVec.ofInt 32 4294967295 ^^^ (BitVec.ofInt 32 x ^^^ BitVec.ofInt 32 y)) &&& BitVec.ofInt 32 (subD x y c)).toNat = V at *
  have cast : ((V : Nat) : Int) / 2147483648 = ((V / 2147483648 : Nat) : Int) := by omega
  rw [cast, key]
  unfold subB
  unfold subD at *
  by_cases a1 : 2147483648 ≤ x <;> by_cases a2 : 2147483648 ≤ y <;> by_cases a3 : 2147483648 ≤ (x - y - c) % 4294967296 <;> simp only [a1, a2, a3, decide_true, decide_false] <;> split <;> split <;> simp_all <;> omega
def sub32V (x y c : Int) : Value := .tuple #[uu (subD x y c), uu (subB x y c)]
def gSub32 : Ans := fun vals s =>
  match vals with
  | [.int .u32 x, .int .u32 y, .int .u32 c] => some (sub32V x y c, s, [(wd4 x y c, true)])
  | _ => none
theorem gSub32_ok : AnsOk 146 gSub32 := by
  intro vals s v s' lg h hl w
  unfold gSub32 at h
  split at h
  · rename_i x y c
    cases h
    have hr := hl _ (List.mem_singleton.2 rfl)
    simp only [wd4, decide_eq_true_eq] at hr
    obtain ⟨e1, e2⟩ := sub32_eq hr.1 hr.2.1 hr.2.2
    have := fits_calls (tabY_ok conN_ok) (sub32_fits x y c) (okOne (by rfl)) (by rfl) (by rfl) w
    rw [e1, e2] at this
    exact this
  · cases h
/-! ### nat.Sub: its pieces -/
def conB : Con := alt 146 gSub32 conN
theorem conB_ok : ConOk conB := alt_ok Tryz.func146 rfl gSub32_ok conN_ok
def cpS (la : List Value) (o n : Nat) : List Value := (List.replicate ((n : Int)).toNat (uu 0)).take 0 ++ (la.drop o).take (Nat.min n ((n : Int)).toNat) ++ (List.replicate ((n : Int)).toNat (uu 0)).drop (0 + Nat.min n ((n : Int)).toNat)
def csOk (la : List Value) (o n : Nat) : Bool := !(tomb tR) && !(ro tU) && Nat.ble (o + Nat.min n ((n : Int)).toNat) la.length && Nat.ble (0 + Nat.min n ((n : Int)).toNat) (List.replicate ((n : Int)).toNat (uu 0)).length && ((la.drop o).take (Nat.min n ((n : Int)).toNat)).all one
end Go.Proofs.YtjlponbdflkbjaaGreatDoor.Na
namespace Go.Nt
/-- a highest word that is not 0 -/
theorem vN_low {L : List Int} (h : wds L) (h0 : 0 < L.length) (ht : L.getD (L.length - 1) 0 ≠ 0) : 4294967296 ^ (L.length - 1) ≤ vN L := by
  induction L with
  | nil => simp at h0
  | cons x r ih =>
    obtain ⟨h1, h2⟩ := wds_tail h
    cases r with
    | nil =>
      simp at ht ⊢
      simp [vN]
      omega
    | cons y r =>
      have := ih h2 (by simp) (by simpa using ht)
      simp only [List.length_cons, Nat.add_sub_cancel] at this ⊢
      rw [pw]
      have e : vN (x :: y :: r) = x + 4294967296 * vN (y :: r) := rfl
      rw [e]
      omega
theorem take_succ {L : List Int} {k : Nat} (h : k < L.length) : L.take (k + 1) = L.take k ++ [L.getD k 0] := by
  rw [List.take_add_one, List.getElem?_eq_getElem h]
  simp [List.getD, List.getElem?_eq_getElem h]
theorem wds_take {L : List Int} (h : wds L) (k : Nat) : wds (L.take k) := fun x hx => h x (List.mem_of_mem_take hx)
theorem topCmp_val {L M : List Int} (hL : wds L) (hM : wds M) : ∀ k, k ≤ L.length → k ≤ M.length → (topCmp L M k < 0 ↔ vN (L.take k) < vN (M.take k)) ∧ (topCmp L M k = 0 ↔ vN (L.take k) = vN (M.take k))
  | 0, _, _ => by simp [topCmp, vN]
  | k + 1, h1, h2 => by
    have ih := topCmp_val hL hM k (by omega) (by omega)
    have bL := vN_bd (L.take k) (wds_take hL k)
    have bM := vN_bd (M.take k) (wds_take hM k)
    have lL : (L.take k).length = k := by simp; omega
    have lM : (M.take k).length = k := by simp; omega
    rw [lL] at bL
    rw [lM] at bM
    rw [take_succ (by omega : k < L.length), take_succ (by omega : k < M.length), vN_snoc, vN_snoc, lL, lM]
    simp only [topCmp]
    generalize L.getD k 0 = x
    generalize M.getD k 0 = y
    have hp := pw_pos k
    by_cases hxy : x = y
    · subst hxy
      rw [if_pos rfl]
      omega
    · rw [if_neg hxy]
      by_cases hlt : x < y
      · rw [if_pos hlt]
        have : 4294967296 ^ k * x + 4294967296 ^ k ≤ 4294967296 ^ k * y := by
          have := Int.mul_le_mul_of_nonneg_left (show x + 1 ≤ y by omega) (Int.le_of_lt hp)
          rw [Int.mul_add, Int.mul_one] at this
          exact this
        omega
      · rw [if_neg hlt]
        have : 4294967296 ^ k * y + 4294967296 ^ k ≤ 4294967296 ^ k * x := by
          have := Int.mul_le_mul_of_nonneg_left (show y + 1 ≤ x by omega) (Int.le_of_lt hp)
          rw [Int.mul_add, Int.mul_one] at this
          exact this
        omega
/-- words that are a number: the highest is not 0 -/
def canon (L : List Int) : Prop := wds L ∧ (L.length = 0 ∨ L.getD (L.length - 1) 0 ≠ 0)
theorem cmpL_val {L M : List Int} (hL : canon L) (hM : canon M) : (cmpL L M < 0 ↔ vN L < vN M) ∧ (cmpL L M = 0 ↔ vN L = vN M) := by
  obtain ⟨wL, tL⟩ := hL
  obtain ⟨wM, tM⟩ := hM
  unfold cmpL
  by_cases hl : L.length = M.length
  · rw [if_pos hl]
    have := topCmp_val wL wM L.length (Nat.le_refl _) (by omega)
    rw [List.take_length, hl, List.take_length] at this
    rw [hl]
    exact this
  · rw [if_neg hl]
    have bL := vN_bd L wL
    have bM := vN_bd M wM
    by_cases hlt : L.length < M.length
    · rw [if_pos hlt]
      have h1 := vN_low wM (by omega) (by rcases tM with h | h; omega; exact h)
      have h2 := pw_le (show L.length ≤ M.length - 1 by omega)
      omega
    · rw [if_neg hlt]
      have h1 := vN_low wL (by omega) (by rcases tL with h | h; omega; exact h)
      have h2 := pw_le (show M.length ≤ L.length - 1 by omega)
      omega
end Go.Nt
namespace Go.Proofs.YtjlponbdflkbjaaGreatDoor.Na
open Go.KRun Go.Nt
set_option maxRecDepth 100000
theorem borrow_ok {x y c : Int} (hx : 0 ≤ x ∧ x < 4294967296) (hy : 0 ≤ y ∧ y < 4294967296) (hc : 0 ≤ c ∧ c ≤ 1) : (0 ≤ subD x y c ∧ subD x y c < 4294967296) ∧ (0 ≤ subB x y c ∧ subB x y c ≤ 1) ∧ x - y - c = subD x y c - 4294967296 * subB x y c := by
  unfold subD subB
  split <;> omega
theorem cpS_eq {la : List Value} {o : Nat} {L : List Int} (hR : Row la o L) : cpS la o L.length = wU L := by
  unfold cpS
  rw [Int.toNat_natCast, show Nat.min L.length L.length = L.length from by simp]
  have e1 : (la.drop o).take L.length = wU L := hR.cut
  rw [e1, Nat.zero_add, List.take_zero, List.nil_append, List.drop_replicate, Nat.sub_self]
  simp
theorem csOk_eq {la : List Value} {o : Nat} {L : List Int} (hR : Row la o L) : csOk la o L.length = true := by
  unfold csOk
  rw [Int.toNat_natCast, show Nat.min L.length L.length = L.length from by simp]
  have e1 : (la.drop o).take L.length = wU L := hR.cut
  rw [e1, tR_tomb, tU_own]
  have h1 : Nat.ble (o + L.length) la.length = true := Nat.ble_eq_true_of_le hR.len
  have h2 : Nat.ble (0 + L.length) (List.replicate L.length (uu 0)).length = true := Nat.ble_eq_true_of_le (by simp)
  have h3 : ((wU L).all one) = true := by
    unfold wU
    rw [List.all_eq_true]
    intro v hv
    obtain ⟨x, _, rfl⟩ := List.mem_map.1 hv
    rfl
  rw [h1, h2, h3]
  rfl
theorem badL_canon {L : List Int} (hw : wds L) (h : badL L = false) : canon L := by
  unfold badL at h
  simp only [Bool.or_eq_false_iff, decide_eq_false_iff_not, Bool.and_eq_false_iff, beq_eq_false_iff_ne, ne_eq] at h
  refine ⟨hw, ?_⟩
  rcases h.2 with h | h
  · exact .inl (by omega)
  · exact .inr h
theorem canon_len {L M : List Int} (hL : canon L) (hM : canon M) (h : vN M ≤ vN L) : M.length ≤ L.length := by
  rcases Nat.lt_or_ge L.length M.length with hlt | hge
  · exfalso
    have h1 := vN_low hM.1 (by omega) (by rcases hM.2 with h | h; omega; exact h)
    have h2 := pw_le (show L.length ≤ M.length - 1 by omega)
    have := vN_bd L hL.1
    omega
  · exact hge
end Go.Proofs.YtjlponbdflkbjaaGreatDoor.Na
namespace Go.Nt
/-- a number's value, of digits to a base -/
def vb (b : Nat) : List Int → Nat
  | [] => 0
  | x :: l => x.toNat + b * vb b l
/-- a number's digits -/
def db (b V : Nat) : List Int := if _h : V = 0 ∨ b < 2 then [] else ((V % b : Nat) : Int) :: db b (V / b)
  termination_by V
  decreasing_by exact Nat.div_lt_self (by omega) (by omega)
/-- digits to a base -/
abbrev Dg (b : Nat) (x : Int) : Prop := 0 ≤ x ∧ x < b
theorem db_zero (b : Nat) : db b 0 = [] := by rw [db]; simp
theorem db_pos {b V : Nat} (hb : 2 ≤ b) (hV : V ≠ 0) : db b V = ((V % b : Nat) : Int) :: db b (V / b) := by
  rw [db]
  rw [dif_neg (by omega)]
theorem vb_db {b : Nat} (hb : 2 ≤ b) (V : Nat) : vb b (db b V) = V := by
  induction V using Nat.strongRecOn with
  | ind V ih =>
    by_cases hV : V = 0
    · subst hV; rw [db_zero]; rfl
    · rw [db_pos hb hV]
      simp only [vb]
      rw [ih (V / b) (Nat.div_lt_self (by omega) (by omega)), Int.toNat_natCast]
      exact Nat.mod_add_div V b
theorem db_dg {b : Nat} (hb : 2 ≤ b) (V : Nat) : ∀ x ∈ db b V, Dg b x := by
  induction V using Nat.strongRecOn with
  | ind V ih =>
    by_cases hV : V = 0
    · subst hV; rw [db_zero]; intro x hx; cases hx
    · rw [db_pos hb hV]
      intro x hx
      rcases List.mem_cons.1 hx with rfl | hx
      · have := Nat.mod_lt V (show b > 0 by omega)
        exact ⟨by omega, by omega⟩
      · exact ih (V / b) (Nat.div_lt_self (by omega) (by omega)) x hx
theorem db_nil {b V : Nat} (hb : 2 ≤ b) : db b V = [] ↔ V = 0 := by
  constructor
  · intro h
    by_cases hV : V = 0
    · exact hV
    · rw [db_pos hb hV] at h; cases h
  · rintro rfl; exact db_zero b
/-- digits without noughts at the end are the number's -/
theorem take_trim {b : Nat} (hb : 2 ≤ b) : ∀ (L : List Int), (∀ x ∈ L, Dg b x) → L.take (trimN L) = db b (vb b L)
  | [], _ => by simp [vb, db_zero]
  | x :: r, h => by
    have ih := take_trim hb r (fun y hy => h y (List.mem_cons_of_mem _ hy))
    have hx := h x (List.mem_cons_self)
    have hxn : ((x.toNat : Nat) : Int) = x := Int.toNat_of_nonneg hx.1
    have hlt : x.toNat < b := by omega
    have e1 : (x.toNat + b * vb b r) % b = x.toNat := by rw [Nat.add_mul_mod_self_left, Nat.mod_eq_of_lt hlt]
    have e2 : (x.toNat + b * vb b r) / b = vb b r := by rw [Nat.add_mul_div_left _ _ (by omega), Nat.div_eq_of_lt hlt, Nat.zero_add]
    unfold trimN
    by_cases h0 : trimN r = 0
    · rw [if_pos h0]
      rw [h0, List.take_zero] at ih
      have hv : vb b r = 0 := (db_nil hb).1 ih.symm
      by_cases hx0 : x = 0
      · rw [if_pos hx0]
        simp only [List.take_zero, vb, hv, hx0]
        simp [db_zero]
      · rw [if_neg hx0]
        have hx1 : x.toNat ≠ 0 := by omega
        show [x] = _
        simp only [vb]
        rw [db_pos hb (by rw [hv]; omega), e1, e2, hv, db_zero, hxn]
    · rw [if_neg h0]
      have hv : vb b r ≠ 0 := fun hv => by
        rw [hv, db_zero] at ih
        have hl := congrArg List.length ih
        have := trimN_le r
        simp at hl
        rcases hl with hl | hl
        · exact h0 hl
        · subst hl; exact h0 rfl
      have hpos : 0 < b * vb b r := Nat.mul_pos (by omega) (by omega)
      show x :: r.take (trimN r) = _
      simp only [vb]
      rw [db_pos hb (by omega), e1, e2, hxn, ih]
theorem trim_len {b : Nat} (hb : 2 ≤ b) {L : List Int} (h : ∀ x ∈ L, Dg b x) : trimN L = (db b (vb b L)).length := by
  rw [← take_trim hb L h]
  have := trimN_le L
  simp
  omega
/-- a number's digits are those of it -/
def Canon (b : Nat) (L : List Int) : Prop := (∀ x ∈ L, Dg b x) ∧ trimN L = L.length
theorem can_db {b : Nat} (hb : 2 ≤ b) (V : Nat) : Canon b (db b V) := by
  have h := db_dg hb V
  refine ⟨h, ?_⟩
  have := trim_len hb h
  rw [vb_db hb] at this
  exact this
theorem db_len {b : Nat} (hb : 2 ≤ b) : ∀ (k V : Nat), V < b ^ k → (db b V).length ≤ k
  | 0, V, h => by
    have : V = 0 := by simpa using h
    subst this; rw [db_zero]; exact Nat.le_refl _
  | k + 1, V, h => by
    by_cases hV : V = 0
    · subst hV; rw [db_zero]; exact Nat.zero_le _
    · rw [db_pos hb hV]
      have : V / b < b ^ k := Nat.div_lt_of_lt_mul (by rw [Nat.pow_succ] at h; rw [Nat.mul_comm]; exact h)
      have := db_len hb k (V / b) this
      simp
      omega
theorem vb_lt {b : Nat} (hb : 2 ≤ b) : ∀ (L : List Int), (∀ x ∈ L, Dg b x) → vb b L < b ^ L.length
  | [], _ => by simp [vb]
  | x :: r, h => by
    have ih := vb_lt hb r (fun y hy => h y (List.mem_cons_of_mem _ hy))
    have hx := h x (List.mem_cons_self)
    have hlt : x.toNat < b := by omega
    simp only [vb, List.length_cons, Nat.pow_succ]
    calc x.toNat + b * vb b r < b + b * vb b r := by omega
      _ = b * (vb b r + 1) := by rw [Nat.mul_add, Nat.mul_one, Nat.add_comm]
      _ ≤ b * b ^ r.length := Nat.mul_le_mul_left _ ih
      _ = b ^ r.length * b := Nat.mul_comm _ _
theorem vb_append (b : Nat) : ∀ (L M : List Int), vb b (L ++ M) = vb b L + b ^ L.length * vb b M
  | [], M => by simp [vb]
  | x :: r, M => by
    simp only [List.cons_append, vb, vb_append b r M, List.length_cons, Nat.pow_succ]
    rw [Nat.mul_add, ← Nat.mul_assoc, Nat.mul_comm b (b ^ r.length)]
    omega
end Go.Nt
namespace Go.Proofs.YtjlponbdflkbjaaGreatDoor
open Go.KRun Go.Nt
set_option maxRecDepth 100000
/-- a capacity that is known, or the whole block's -/
def capOk (o n c : Nat) : Bool := (smallC c && Nat.ble n c) || (Nat.beq c grown && Nat.beq o 0)
/-- a row of words, its capacity known or the whole block's -/
def rowC (ty : TypeId) (l : List Value) (o n c : Nat) : Bool := !(tomb ty) && Nat.beq (rt ty) tU && Nat.ble (o + n) l.length && Nat.blt n 4611686018427387904 && capOk o n c && (cutV l o n).all isU && l.all still
theorem rowC_of {ty : TypeId} {l : List Value} {o n c : Nat} (h : rowC ty l o n c = true) : Row l o (cutI l o n) ∧ (cutI l o n).length = n ∧ n < 4611686018427387904 ∧ capOk o n c = true ∧ tomb ty = false ∧ rt ty = tU ∧ ∀ v ∈ l, still v = true := by
  unfold rowC at h
  simp only [Bool.and_eq_true, Bool.not_eq_true'] at h
  obtain ⟨⟨⟨⟨⟨⟨h1, h2⟩, h3⟩, h4⟩, h5⟩, h6⟩, h7⟩ := h
  have h2 := Nat.eq_of_beq_eq_true h2
  have h3 := Nat.le_of_ble_eq_true h3
  have h4 := blt_iff.1 h4
  have hlen : (cutI l o n).length = n := by unfold cutI cutV; simp; omega
  refine ⟨⟨by rw [hlen]; exact h3, by rw [hlen]; exact cutV_words h6, fun x hx => ?_⟩, hlen, h4, h5, h1, h2, List.all_eq_true.1 h7⟩
  unfold cutI at hx
  obtain ⟨v, hv, rfl⟩ := List.mem_map.1 hx
  have := isU_spec (List.all_eq_true.1 h6 v hv)
  exact ⟨this.2.1, this.2.2⟩
end Go.Proofs.YtjlponbdflkbjaaGreatDoor
namespace Go.Nt
theorem vb_one (b : Nat) (x : Int) : vb b [x] = x.toNat := by simp [vb]
theorem vb_take (b : Nat) (L : List Int) (i : Nat) : vb b (L.take (i + 1)) = vb b (L.take i) + b ^ i * (L.getD i 0).toNat := by
  by_cases h : i < L.length
  · have e : L.take (i + 1) = L.take i ++ [L.getD i 0] := by
      rw [List.take_add_one, List.getElem?_eq_getElem h]
      simp [List.getD, List.getElem?_eq_getElem h]
    rw [e, vb_append, vb_one, List.length_take]
    rw [show min i L.length = i from by omega]
  · rw [List.take_of_length_le (by omega), List.take_of_length_le (by omega)]
    simp [List.getD, List.getElem?_eq_none (show L.length ≤ i by omega)]
end Go.Nt
