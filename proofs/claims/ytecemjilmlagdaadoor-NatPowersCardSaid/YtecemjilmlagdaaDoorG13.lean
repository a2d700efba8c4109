/-
  nat.Sub, as a call with rows or nothing: its runs.
-/
import Derived.Test.YtecemjilmlagdaaDoorG12
import Derived.Test.YtecemjilmlagdaaDoorG11
import Derived.Test.YtecemjilmlagdaaDoorG06
namespace Go.Proofs.YtecemjilmlagdaaDoor
open Go.KRun Go.Nt
set_option maxRecDepth 100000

theorem subN_bad1 (o n c : Nat) (la : List Value) : GoesT (evC (tabH Tryd.prog extY conB hcB) 200 false (cBody Tryd.f11) ([sl 0 o n c, nilS] ++ List.replicate 68 undef, ⟨1, [(la, tR)]⟩, [cmp true]) ⟨[], [], []⟩) 6 64 (some none) (fA (sl 0 o n c) nilS nilS (errV 1)) ⟨1, [(la, tR)]⟩ [chkL la o n c, (badL (cutI la o n), true)] := ⟨by kernel_rfl, by kernel_rfl, by kernel_rfl⟩
theorem subN_bad2 (o n c : Nat) (la : List Value) : GoesT (evC (tabH Tryd.prog extY conB hcB) 200 false (cBody Tryd.f11) ([nilS, sl 0 o n c] ++ List.replicate 68 undef, ⟨1, [(la, tR)]⟩, [cmp true]) ⟨[], [], []⟩) 6 64 (some none) (fA nilS (sl 0 o n c) nilS (errV 1)) ⟨1, [(la, tR)]⟩ [chkL la o n c, (badL (cutI la o n), true)] := ⟨by kernel_rfl, by kernel_rfl, by kernel_rfl⟩
/-- a row, and nothing -/
theorem subN_1n (o n c : Nat) (la : List Value) : GoesT (evC (tabH Tryd.prog extY conB hcB) 200 false (cBody Tryd.f11) ([sl 0 o n c, nilS] ++ List.replicate 68 undef, ⟨1, [(la, tR)]⟩, [cmp false, cmp false, at_, at_, cmp false, cmp false]) ⟨[], [], []⟩) 6 64 (some none)
    (fA (sl 0 o n c) nilS (sl 1 0 (trimN (cutI (cpS la o n) 0 ((n : Int)).toNat)) ((n : Int)).toNat) .nilIface) (h1S la (cpS la o n)) [(rowOk tU (cpS la o n) 0 ((n : Int)).toNat ((n : Int)).toNat, true), (false, false), (false, false), (csOk la o n, true), (okMakeB 4 n n, true), (decide (cmp0 n 0 < 0), false), chkL la o n c, (badL (cutI la o n), false)] := ⟨by kernel_rfl, by kernel_rfl, by kernel_rfl⟩
/-- nothing, and a row: it is more -/
theorem subN_n1 (o n c : Nat) (la : List Value) : GoesT (evC (tabH Tryd.prog extY conB hcB) 200 false (cBody Tryd.f11) ([nilS, sl 0 o n c] ++ List.replicate 68 undef, ⟨1, [(la, tR)]⟩, [cmp false, cmp true]) ⟨[], [], []⟩) 6 64 (some none)
    (fA nilS (sl 0 o n c) nilS (errV 4)) ⟨1, [(la, tR)]⟩ [(decide (cmp0 0 n < 0), true), chkL la o n c, (badL (cutI la o n), false)] := ⟨by kernel_rfl, by kernel_rfl, by kernel_rfl⟩
/-- nothing, and a row: it is not more -/
theorem subN_n0 (o n c : Nat) (la : List Value) : GoesT (evC (tabH Tryd.prog extY conB hcB) 200 false (cBody Tryd.f11) ([nilS, sl 0 o n c] ++ List.replicate 68 undef, ⟨1, [(la, tR)]⟩, [cmp false, cmp false, at_, at_, cmp false, cmp false]) ⟨[], [], []⟩) 6 64 (some none)
    (fA nilS (sl 0 o n c) (sl 1 0 0 0) .nilIface) (h1S la []) [(true, true), (false, false), (decide ((0 : Int) < n), false), (true, true), (true, true), (decide (cmp0 0 n < 0), false), chkL la o n c, (badL (cutI la o n), false)] := ⟨by kernel_rfl, by kernel_rfl, by kernel_rfl⟩
theorem subN_nn : GoesT (evC (tabH Tryd.prog extY conB hcB) 200 false (cBody Tryd.f11) ([nilS, nilS] ++ List.replicate 68 undef, ⟨0, []⟩, []) ⟨[], [], []⟩) 6 64 (some none) (fA nilS nilS (sl 0 0 0 0) .nilIface) ⟨1, [([], tU)]⟩ [(true, true)] := ⟨by kernel_rfl, by kernel_rfl, by kernel_rfl⟩
end Go.Proofs.YtecemjilmlagdaaDoor

/-
  nat.Sub, as a call with rows or nothing.
-/
namespace Go.Proofs.YtecemjilmlagdaaDoor
open Go.KRun Go.Nt
set_option maxRecDepth 100000

theorem subX_body : Tryd.f11.body = some (cBody Tryd.f11) := by kernel_rfl
theorem sub_one {vals : List Value} {la : List Value} {r e a b : Value} {h' : Hp} {cs : Log} {s : List Dec} (hG : GoesT (evC (tabH Tryd.prog extY conB hcB) 200 false (cBody Tryd.f11) (vals ++ List.replicate 68 undef, ⟨1, [(la, tR)]⟩, s) ⟨[], [], []⟩) 6 64 (some none) (fA a b r e) h' cs) (hcs : okLog cs) (hr : ∀ g, resS Tryd.prog Tryd.f11 (fA a b r e ++ tl 64 g) h' = some (.tuple #[r, e])) :
    Runs (tabH Tryd.prog extY conB hcB) (cBody Tryd.f11) (vals ++ List.replicate 68 undef, ⟨1, [(la, tR)]⟩, []) fun e' y => (e' = none ∨ e' = some none) ∧ resS Tryd.prog Tryd.f11 y.1 y.2.1 = some (.tuple #[r, e]) ∧ y.2.1 = h' := by
  refine (goesT_runs (tabH_ok conB_ok hcB_ok) hG hcs).mono fun e' y he => ?_
  obtain ⟨rfl, ⟨g, e2⟩, e3⟩ := he
  refine ⟨.inr rfl, ?_, e3⟩
  rw [e2, e3]
  exact hr g
theorem sub_1n {la : List Value} {o n c : Nat} (ha : rowOk tR la o n c = true) (hb : badL (cutI la o n) = false) :
    Runs (tabH Tryd.prog extY conB hcB) (cBody Tryd.f11) ([sl 0 o n c, nilS] ++ List.replicate 68 undef, ⟨1, [(la, tR)]⟩, []) fun e' y => (e' = none ∨ e' = some none) ∧ resS Tryd.prog Tryd.f11 y.1 y.2.1 = some (.tuple #[sl 1 0 (trimN (cutI la o n)) n, .nilIface]) ∧ y.2.1 = h1S la (wU (cutI la o n)) := by
  obtain ⟨a1, a2, a3, a4, a5, a6, a7⟩ := row_of ha
  have h8 := badL_len hb
  have g0 := subN_1n o n c la
  generalize hL : cutI la o n = L at *
  subst a2
  have r1 := wU_row a1.rng (c := L.length) (Nat.le_refl _) (blt_iff.2 (by unfold dead; omega))
  rw [cpS_eq a1, Int.toNat_natCast, r1.2] at g0
  have q1 : decide (cmp0 L.length 0 < 0) = false := by
    unfold cmp0
    split
    · rfl
    · rw [if_neg (Nat.not_lt_zero _)]; rfl
  have mk : okMakeB 4 (L.length : Nat) (L.length : Nat) = true := decide_eq_true (by omega)
  exact sub_one g0 (okTwo r1.1 (okTwo rfl (okTwo rfl (okTwo (csOk_eq a1) (okTwo mk (okTwo q1 (okTwo ha (okOne hb)))))))) (fun g => by rfl)
def gSubX : AnsH := fun vals h s =>
  match vals with
  | [.slice (some ⟨b, o, none⟩) n c, .slice none 0 0] =>
    match h.blk? b, s with
    | some x, .inr (.inr (.inr (.inl true))) :: s' => some (.tuple #[nilS, errV 1], h, s', [(rowOk x.2 x.1 o n c, true), (badL (cutI x.1 o n), true)])
    | some x, .inr (.inr (.inr (.inl false))) :: s' => some (.tuple #[sl h.n 0 (trimN (cutI x.1 o n)) n, .nilIface], h.push (wU (cutI x.1 o n)) tU, s', [(rowOk x.2 x.1 o n c, true), (badL (cutI x.1 o n), false)])
    | _, _ => none
  | [.slice none 0 0, .slice (some ⟨b, o, none⟩) n c] =>
    match h.blk? b, s with
    | some x, .inr (.inr (.inr (.inl true))) :: s' => some (.tuple #[nilS, errV 1], h, s', [(rowOk x.2 x.1 o n c, true), (badL (cutI x.1 o n), true)])
    | some x, .inr (.inr (.inr (.inl false))) :: .inr (.inr (.inr (.inl true))) :: s' => some (.tuple #[nilS, errV 4], h, s', [(rowOk x.2 x.1 o n c, true), (badL (cutI x.1 o n), false), (decide (0 < n), true)])
    | some x, .inr (.inr (.inr (.inl false))) :: .inr (.inr (.inr (.inl false))) :: s' => some (.tuple #[sl h.n 0 0 0, .nilIface], h.push (wU []) tU, s', [(rowOk x.2 x.1 o n c, true), (badL (cutI x.1 o n), false), (decide (0 < n), false)])
    | _, _ => none
  | [.slice none 0 0, .slice none 0 0] => some (.tuple #[sl h.n 0 0 0, .nilIface], h.push (wU []) tU, s, [])
  | _ => gSub vals h s
theorem gSubX_ok : AnsHOk 11 gSubX := by
  intro vals h s v h' s' lg hg hl m B w E hv
  unfold gSubX at hg
  split at hg
  · rename_i b o n c
    have one1 : ∀ x : List Value × TypeId, h.blk? b = some x → rowOk x.2 x.1 o n c = true → ∀ v0 : Value, oc (List.range 1) v0 = true → rn (fun _ => b) v0 = v0 →
        Runs (tabH Tryd.prog extY conB hcB) (cBody Tryd.f11) ([sl 0 o n c, nilS] ++ List.replicate 68 undef, ⟨1, [(x.1, tR)]⟩, []) (fun e y => (e = none ∨ e = some none) ∧ resS Tryd.prog Tryd.f11 y.1 y.2.1 = some v0) →
        Calls Tryd.prog 11 ((([sl 0 o n c, nilS] : List Value).map (rn fun _ => b)).map (mv m)).toArray w fun e w' => ∃ m', e = .returned (mv m' v0) ∧ Came m B h w v0 h m' w' := by
      intro x hx ra v0 ho e0 r
      obtain ⟨a1, a2, a3, a4, a5, a6, a7⟩ := row_of ra
      have hlt := Hp.blk_lt hx
      have := row_calls (T := tabH Tryd.prog extY conB hcB) Tryd.func11 subX_body (rows1 a7) (vals := [sl 0 o n c, nilS]) (fun v hv => by
        simp only [List.mem_cons, List.not_mem_nil, or_false] at hv
        rcases hv with rfl | rfl <;> rfl) ho r E (s := fun _ => b) (fun i _ => hlt) (fitsR1 hx a5 a6 rfl)
      rw [e0] at this
      exact this.mono fun e w' he => ⟨m, he.1, he.2⟩
    split at hg
    · rename_i x s2 hx
      cases hg
      have ra := hl _ (List.mem_cons_self)
      have hd := hl _ (List.mem_cons_of_mem _ (List.mem_singleton.2 rfl))
      exact one1 x hx ra _ (by rfl) (rn_still (by rfl)) ((sub_one (subN_bad1 o n c x.1) (okTwo (rowOk_R ra) (okOne hd)) (fun _ => rfl)).mono fun e y h => ⟨h.1, h.2.1⟩)
    · rename_i x s2 hx
      cases hg
      have ra := hl _ (List.mem_cons_self)
      have hb := hl _ (List.mem_cons_of_mem _ (List.mem_singleton.2 rfl))
      have r := sub_1n (rowOk_R ra) hb
      obtain ⟨a1, a2, a3, a4, a5, a6, a7⟩ := row_of ra
      have e1 : ∀ k M : Nat, rn (fun _ => h.n) (.tuple #[sl 1 0 k M, .nilIface]) = .tuple #[sl h.n 0 k M, .nilIface] := fun k M => by simp [rn, rn2, rn1, sl]
      have := row_calls1 (T := tabH Tryd.prog extY conB hcB) Tryd.func11 subX_body (rows1 a7) (vals := [sl 0 o n c, nilS]) (fun v hv => by
        simp only [List.mem_cons, List.not_mem_nil, or_false] at hv
        rcases hv with rfl | rfl <;> rfl) (k := 1) (wU_calm _) tU_own (r.w.mono fun e y h => ⟨h.1, h.2.1, [], by rw [List.append_nil, h.2.2]; rfl⟩) (by rfl) E (s := fun _ => b) (fitsR1 hx a5 a6 rfl)
      rw [e1] at this
      exact this
    · cases hg
  · rename_i b o n c
    have one1 : ∀ x : List Value × TypeId, h.blk? b = some x → rowOk x.2 x.1 o n c = true → ∀ v0 : Value, oc (List.range 1) v0 = true → rn (fun _ => b) v0 = v0 →
        Runs (tabH Tryd.prog extY conB hcB) (cBody Tryd.f11) ([nilS, sl 0 o n c] ++ List.replicate 68 undef, ⟨1, [(x.1, tR)]⟩, []) (fun e y => (e = none ∨ e = some none) ∧ resS Tryd.prog Tryd.f11 y.1 y.2.1 = some v0) →
        Calls Tryd.prog 11 ((([nilS, sl 0 o n c] : List Value).map (rn fun _ => b)).map (mv m)).toArray w fun e w' => ∃ m', e = .returned (mv m' v0) ∧ Came m B h w v0 h m' w' := by
      intro x hx ra v0 ho e0 r
      obtain ⟨a1, a2, a3, a4, a5, a6, a7⟩ := row_of ra
      have hlt := Hp.blk_lt hx
      have := row_calls (T := tabH Tryd.prog extY conB hcB) Tryd.func11 subX_body (rows1 a7) (vals := [nilS, sl 0 o n c]) (fun v hv => by
        simp only [List.mem_cons, List.not_mem_nil, or_false] at hv
        rcases hv with rfl | rfl <;> rfl) ho r E (s := fun _ => b) (fun i _ => hlt) (fitsR1 hx a5 a6 rfl)
      rw [e0] at this
      exact this.mono fun e w' he => ⟨m, he.1, he.2⟩
    split at hg
    · rename_i x s2 hx
      cases hg
      have ra := hl _ (List.mem_cons_self)
      have hd := hl _ (List.mem_cons_of_mem _ (List.mem_singleton.2 rfl))
      exact one1 x hx ra _ (by rfl) (rn_still (by rfl)) ((sub_one (subN_bad2 o n c x.1) (okTwo (rowOk_R ra) (okOne hd)) (fun _ => rfl)).mono fun e y h => ⟨h.1, h.2.1⟩)
    · rename_i x s2 hx
      cases hg
      have ra := hl _ (List.mem_cons_self)
      have hb := hl _ (List.mem_cons_of_mem _ List.mem_cons_self)
      have hd := of_decide_eq_true (hl _ (List.mem_cons_of_mem _ (List.mem_cons_of_mem _ (List.mem_singleton.2 rfl))))
      have q1 : decide (cmp0 0 n < 0) = true := by
        unfold cmp0
        rw [if_neg (by omega), if_pos hd]
        rfl
      exact one1 x hx ra _ (by rfl) (rn_still (by rfl)) ((sub_one (subN_n1 o n c x.1) (okTwo q1 (okTwo (rowOk_R ra) (okOne hb))) (fun _ => rfl)).mono fun e y h => ⟨h.1, h.2.1⟩)
    · rename_i x s2 hx
      cases hg
      have ra := hl _ (List.mem_cons_self)
      have hb := hl _ (List.mem_cons_of_mem _ List.mem_cons_self)
      have hd := of_decide_eq_false (hl _ (List.mem_cons_of_mem _ (List.mem_cons_of_mem _ (List.mem_singleton.2 rfl))))
      have q1 : decide (cmp0 0 n < 0) = false := by
        unfold cmp0
        rw [if_pos (by omega)]
        rfl
      have q2 : decide ((0 : Int) < (n : Nat)) = false := decide_eq_false (by omega)
      have r := sub_one (subN_n0 o n c x.1) (okTwo rfl (okTwo rfl (okTwo q2 (okTwo rfl (okTwo rfl (okTwo q1 (okTwo (rowOk_R ra) (okOne hb)))))))) (fun _ => rfl)
      obtain ⟨a1, a2, a3, a4, a5, a6, a7⟩ := row_of ra
      have e1 : ∀ k M : Nat, rn (fun _ => h.n) (.tuple #[sl 1 0 k M, .nilIface]) = .tuple #[sl h.n 0 k M, .nilIface] := fun k M => by simp [rn, rn2, rn1, sl]
      have := row_calls1 (T := tabH Tryd.prog extY conB hcB) Tryd.func11 subX_body (rows1 a7) (vals := [nilS, sl 0 o n c]) (fun v hv => by
        simp only [List.mem_cons, List.not_mem_nil, or_false] at hv
        rcases hv with rfl | rfl <;> rfl) (k := 1) (wU_calm []) tU_own (r.w.mono fun e y h => ⟨h.1, h.2.1, [], by rw [List.append_nil, h.2.2]; rfl⟩) (by rfl) E (s := fun _ => b) (fitsR1 hx a5 a6 rfl)
      rw [e1] at this
      exact this
    · cases hg
  · cases hg
    have r : Runs (tabH Tryd.prog extY conB hcB) (cBody Tryd.f11) ([nilS, nilS] ++ List.replicate 68 undef, ⟨0, []⟩, []) fun e' y => (e' = none ∨ e' = some none) ∧ resS Tryd.prog Tryd.f11 y.1 y.2.1 = some (.tuple #[sl 0 0 0 0, .nilIface]) ∧ y.2.1 = ⟨1, [([], tU)]⟩ := by
      refine (goesT_runs (tabH_ok conB_ok hcB_ok) subN_nn (okOne rfl)).mono fun e' y he => ?_
      obtain ⟨rfl, ⟨g, e2⟩, e3⟩ := he
      refine ⟨.inr rfl, ?_, e3⟩
      rw [e2, e3]
      rfl
    have e1 : rn (fun _ => h.n) (.tuple #[sl 0 0 0 0, .nilIface]) = .tuple #[sl h.n 0 0 0, .nilIface] := by simp [rn, rn2, rn1, sl]
    have := row_calls1 (T := tabH Tryd.prog extY conB hcB) Tryd.func11 subX_body (h0 := ⟨0, []⟩) ⟨rfl, fun b x hb => absurd (Hp.blk_lt hb) (Nat.not_lt_zero _)⟩ (vals := [nilS, nilS]) (fun v hv => by
      simp only [List.mem_cons, List.not_mem_nil, or_false] at hv
      rcases hv with rfl | rfl <;> rfl) (k := 0) (wU_calm []) tU_own (r.w.mono fun e y h => ⟨h.1, h.2.1, [], by rw [List.append_nil, h.2.2]; rfl⟩) (by rfl) E (s := fun b => b) (fun i x hi => absurd (Hp.blk_lt hi) (Nat.not_lt_zero _))
    rw [e1] at this
    exact this
  · exact gSub_ok _ _ _ _ _ _ _ hg hl m B w E hv
end Go.Proofs.YtecemjilmlagdaaDoor

/-
  PLAIN ARITHMETIC: the digits of a number to a base, the lowest first, the last one not 0; the number of digits.
-/
namespace Go.Nt

/-- a number's value, of digits to a base -/
def vb (b : Nat) : List Int → Nat
  | [] => 0
  | x :: l => x.toNat + b * vb b l
/-- a number's digits -/
def db (b V : Nat) : List Int := if _h : V = 0 ∨ b < 2 then [] else ((V % b : Nat) : Int) :: db b (V / b)
  termination_by V
  decreasing_by exact Nat.div_lt_self (by omega) (by omega)
/-- digits to a base -/
abbrev Dg (b : Nat) (x : Int) : Prop := 0 ≤ x ∧ x < b
theorem db_zero (b : Nat) : db b 0 = [] := by rw [db]; simp
theorem db_pos {b V : Nat} (hb : 2 ≤ b) (hV : V ≠ 0) : db b V = ((V % b : Nat) : Int) :: db b (V / b) := by
  rw [db]
  rw [dif_neg (by omega)]
theorem vb_db {b : Nat} (hb : 2 ≤ b) (V : Nat) : vb b (db b V) = V := by
  induction V using Nat.strongRecOn with
  | ind V ih =>
    by_cases hV : V = 0
    · subst hV; rw [db_zero]; rfl
    · rw [db_pos hb hV]
      simp only [vb]
      rw [ih (V / b) (Nat.div_lt_self (by omega) (by omega)), Int.toNat_natCast]
      exact Nat.mod_add_div V b
theorem db_dg {b : Nat} (hb : 2 ≤ b) (V : Nat) : ∀ x ∈ db b V, Dg b x := by
  induction V using Nat.strongRecOn with
  | ind V ih =>
    by_cases hV : V = 0
    · subst hV; rw [db_zero]; intro x hx; cases hx
    · rw [db_pos hb hV]
      intro x hx
      rcases List.mem_cons.1 hx with rfl | hx
      · have := Nat.mod_lt V (show b > 0 by omega)
        exact ⟨by omega, by omega⟩
      · exact ih (V / b) (Nat.div_lt_self (by omega) (by omega)) x hx
theorem db_nil {b V : Nat} (hb : 2 ≤ b) : db b V = [] ↔ V = 0 := by
  constructor
  · intro h
    by_cases hV : V = 0
    · exact hV
    · rw [db_pos hb hV] at h; cases h
  · rintro rfl; exact db_zero b
/-- digits without noughts at the end are the number's -/
theorem take_trim {b : Nat} (hb : 2 ≤ b) : ∀ (L : List Int), (∀ x ∈ L, Dg b x) → L.take (trimN L) = db b (vb b L)
  | [], _ => by simp [vb, db_zero]
  | x :: r, h => by
    have ih := take_trim hb r (fun y hy => h y (List.mem_cons_of_mem _ hy))
    have hx := h x (List.mem_cons_self)
    have hxn : ((x.toNat : Nat) : Int) = x := Int.toNat_of_nonneg hx.1
    have hlt : x.toNat < b := by omega
    have e1 : (x.toNat + b * vb b r) % b = x.toNat := by rw [Nat.add_mul_mod_self_left, Nat.mod_eq_of_lt hlt]
    have e2 : (x.toNat + b * vb b r) / b = vb b r := by rw [Nat.add_mul_div_left _ _ (by omega), Nat.div_eq_of_lt hlt, Nat.zero_add]
    unfold trimN
    by_cases h0 : trimN r = 0
    · rw [if_pos h0]
      rw [h0, List.take_zero] at ih
      have hv : vb b r = 0 := (db_nil hb).1 ih.symm
      by_cases hx0 : x = 0
      · rw [if_pos hx0]
        simp only [List.take_zero, vb, hv, hx0]
        simp [db_zero]
      · rw [if_neg hx0]
        have hx1 : x.toNat ≠ 0 := by omega
        show [x] = _
        simp only [vb]
        rw [db_pos hb (by rw [hv]; omega), e1, e2, hv, db_zero, hxn]
    · rw [if_neg h0]
      have hv : vb b r ≠ 0 := fun hv => by
        rw [hv, db_zero] at ih
        have hl := congrArg List.length ih
        have := trimN_le r
        simp at hl
        rcases hl with hl | hl
        · exact h0 hl
        · subst hl; exact h0 rfl
      have hpos : 0 < b * vb b r := Nat.mul_pos (by omega) (by omega)
      show x :: r.take (trimN r) = _
      simp only [vb]
      rw [db_pos hb (by omega), e1, e2, hxn, ih]
theorem trim_len {b : Nat} (hb : 2 ≤ b) {L : List Int} (h : ∀ x ∈ L, Dg b x) : trimN L = (db b (vb b L)).length := by
  rw [← take_trim hb L h]
  have := trimN_le L
  simp
  omega
/-- a number's digits are those of it -/
def Canon (b : Nat) (L : List Int) : Prop := (∀ x ∈ L, Dg b x) ∧ trimN L = L.length
theorem can_db {b : Nat} (hb : 2 ≤ b) (V : Nat) : Canon b (db b V) := by
  have h := db_dg hb V
  refine ⟨h, ?_⟩
  have := trim_len hb h
  rw [vb_db hb] at this
  exact this
theorem db_can {b : Nat} (hb : 2 ≤ b) {L : List Int} (h : Canon b L) : db b (vb b L) = L := by
  rw [← take_trim hb L h.1, h.2, List.take_length]
theorem db_len {b : Nat} (hb : 2 ≤ b) : ∀ (k V : Nat), V < b ^ k → (db b V).length ≤ k
  | 0, V, h => by
    have : V = 0 := by simpa using h
    subst this; rw [db_zero]; exact Nat.le_refl _
  | k + 1, V, h => by
    by_cases hV : V = 0
    · subst hV; rw [db_zero]; exact Nat.zero_le _
    · rw [db_pos hb hV]
      have : V / b < b ^ k := Nat.div_lt_of_lt_mul (by rw [Nat.pow_succ] at h; rw [Nat.mul_comm]; exact h)
      have := db_len hb k (V / b) this
      simp
      omega
theorem vb_lt {b : Nat} (hb : 2 ≤ b) : ∀ (L : List Int), (∀ x ∈ L, Dg b x) → vb b L < b ^ L.length
  | [], _ => by simp [vb]
  | x :: r, h => by
    have ih := vb_lt hb r (fun y hy => h y (List.mem_cons_of_mem _ hy))
    have hx := h x (List.mem_cons_self)
    have hlt : x.toNat < b := by omega
    simp only [vb, List.length_cons, Nat.pow_succ]
    calc x.toNat + b * vb b r < b + b * vb b r := by omega
      _ = b * (vb b r + 1) := by rw [Nat.mul_add, Nat.mul_one, Nat.add_comm]
      _ ≤ b * b ^ r.length := Nat.mul_le_mul_left _ ih
      _ = b ^ r.length * b := Nat.mul_comm _ _
theorem vb_append (b : Nat) : ∀ (L M : List Int), vb b (L ++ M) = vb b L + b ^ L.length * vb b M
  | [], M => by simp [vb]
  | x :: r, M => by
    simp only [List.cons_append, vb, vb_append b r M, List.length_cons, Nat.pow_succ]
    rw [Nat.mul_add, ← Nat.mul_assoc, Nat.mul_comm b (b ^ r.length)]
    omega
end Go.Nt
