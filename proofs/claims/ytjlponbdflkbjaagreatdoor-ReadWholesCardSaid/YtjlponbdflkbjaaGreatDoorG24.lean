/-
  RdP
-/
import Derived.Test.YtjlponbdflkbjaaGreatDoorG23
namespace Go.Proofs.YtjlponbdflkbjaaGreatDoor
open Go.KRun Go.Nt Go.Rd Go.Rn
set_option maxRecDepth 100000
def conRW9 : Con := alt 13 gOp (alt 14 gKS conRM)
theorem conRW9_ok : ConOk conRW9 := alt_ok Tryz.func13 rfl gOp_ok (alt_ok Tryz.func14 rfl gKS_ok conRM_ok)
def wlG (n c m p q u v k : Int) (E H : List UInt8) (s : Int) : List Value := [.int .u64 n, .int .i64 c, .int .i64 m, undef, undef, undef, .bool false, .int .i64 m, .int .u64 p, .int .u8 q, .nilIface, .int .u64 u, .int .u8 v, .int .i64 k, bR E, bR H, .int .u64 s]
def wlF (n c m p q u v k : Int) (E H : List UInt8) (s : Int) (x : Int) : List Value := [.int .u64 n, .int .i64 c, .int .i64 m, undef, undef, undef, .bool false, .int .i64 m, .int .u64 p, .int .u8 q, .nilIface, .int .u64 u, .int .u8 v, .int .i64 k, bR E, bR H, .int .u64 s, .int .u64 x]
def wlI (F : Func) : Code := cFst (sP F 9)
def wlL (F : Func) : Code := cIn (cIn (cSnd (sP F 9)))
theorem whole_body13 : Tryz.f7.body = some (seqs [sP Tryz.f7 0, sP Tryz.f7 1, sP Tryz.f7 2, sP Tryz.f7 3, sP Tryz.f7 4, sP Tryz.f7 5, sP Tryz.f7 6, sP Tryz.f7 7, sP Tryz.f7 8] (.seq (.seq (wlI Tryz.f7) (.block 0 (.loop (wlL Tryz.f7)))) (sK Tryz.f7 10))) := by kernel_rfl
theorem wl_i (n c m p q u v k : Int) (E H : List UInt8) (s : Int) (g : Nat → Value) : GoesT (evC (tabOf Tryz.prog extY conRW9 true) 100 false (wlI Tryz.f7) (wlG n c m p q u v k E H s ++ tl 107 g, ⟨0, []⟩, []) ⟨[], [], []⟩) 18 106 none (wlF n c m p q u v k E H s s) ⟨0, []⟩ [] := ⟨by kernel_rfl, by kernel_rfl, by kernel_rfl⟩
theorem wl_pret (n c m : Int) : GoesT (evL (tabOf Tryz.prog extY conRW9 true) 100 [sP Tryz.f7 0, sP Tryz.f7 1, sP Tryz.f7 2, sP Tryz.f7 3, sP Tryz.f7 4, sP Tryz.f7 5, sP Tryz.f7 6, sP Tryz.f7 7, sP Tryz.f7 8] ([.int .u64 n, .int .i64 c, .int .i64 m] ++ List.replicate 121 undef, ⟨0, []⟩, [cmp true, cmp false, cmp true, sam true, cmp false]) ⟨[], [], []⟩) 17 107 none (wlG n c m (rdP m (dcL n.toNat)).1 (rdP m (dcL n.toNat)).2.1 (opP m n) (opF m n) (c.tmod 1200) (([45] : List UInt8) ++ (dcL (IntKind.u64.wrap (if IntKind.i64.wrap (0 - (c.tmod 1200)) > (c.tmod 1200) then IntKind.i64.wrap (0 - (c.tmod 1200)) else (c.tmod 1200))).toNat)) [] (n.tmod 9007199254740992)) ⟨0, []⟩ [(decide ((9007199254740992 : Int) = 0), false), (decide (([45] : List UInt8).length + (dcL (IntKind.u64.wrap (if IntKind.i64.wrap (0 - (c.tmod 1200)) > (c.tmod 1200) then IntKind.i64.wrap (0 - (c.tmod 1200)) else (c.tmod 1200))).toNat).length ≤ 9223372036854775807), true), (decide ((c.tmod 1200) < 0), true), (decide (0 ≤ (IntKind.u64.wrap (if IntKind.i64.wrap (0 - (c.tmod 1200)) > (c.tmod 1200) then IntKind.i64.wrap (0 - (c.tmod 1200)) else (c.tmod 1200))) ∧ (IntKind.u64.wrap (if IntKind.i64.wrap (0 - (c.tmod 1200)) > (c.tmod 1200) then IntKind.i64.wrap (0 - (c.tmod 1200)) else (c.tmod 1200))) < 18446744073709551616), true), (decide ((1200 : Int) = 0), false), (decide (Go.Pt.U n), true), (decide ((rdP m (dcL n.toNat)).2.2 = 0), true), (okTx (dcL n.toNat), true), (decide (0 ≤ n ∧ n < 18446744073709551616), true)] := ⟨by kernel_rfl, by kernel_rfl, by kernel_rfl⟩
theorem wl_pref (n c m : Int) : GoesT (evL (tabOf Tryz.prog extY conRW9 true) 100 [sP Tryz.f7 0, sP Tryz.f7 1, sP Tryz.f7 2, sP Tryz.f7 3, sP Tryz.f7 4, sP Tryz.f7 5, sP Tryz.f7 6, sP Tryz.f7 7, sP Tryz.f7 8] ([.int .u64 n, .int .i64 c, .int .i64 m] ++ List.replicate 121 undef, ⟨0, []⟩, [cmp true, cmp false, cmp false, cmp false]) ⟨[], [], []⟩) 17 107 none (wlG n c m (rdP m (dcL n.toNat)).1 (rdP m (dcL n.toNat)).2.1 (opP m n) (opF m n) (c.tmod 1200) (dcL (IntKind.u64.wrap (if IntKind.i64.wrap (0 - (c.tmod 1200)) > (c.tmod 1200) then IntKind.i64.wrap (0 - (c.tmod 1200)) else (c.tmod 1200))).toNat) [] (n.tmod 9007199254740992)) ⟨0, []⟩ [(decide ((9007199254740992 : Int) = 0), false), (decide ((c.tmod 1200) < 0), false), (decide (0 ≤ (IntKind.u64.wrap (if IntKind.i64.wrap (0 - (c.tmod 1200)) > (c.tmod 1200) then IntKind.i64.wrap (0 - (c.tmod 1200)) else (c.tmod 1200))) ∧ (IntKind.u64.wrap (if IntKind.i64.wrap (0 - (c.tmod 1200)) > (c.tmod 1200) then IntKind.i64.wrap (0 - (c.tmod 1200)) else (c.tmod 1200))) < 18446744073709551616), true), (decide ((1200 : Int) = 0), false), (decide (Go.Pt.U n), true), (decide ((rdP m (dcL n.toNat)).2.2 = 0), true), (okTx (dcL n.toNat), true), (decide (0 ≤ n ∧ n < 18446744073709551616), true)] := ⟨by kernel_rfl, by kernel_rfl, by kernel_rfl⟩
theorem wl_1 (n c m p q u v k : Int) (E H : List UInt8) (s : Int) (x : Int) (g : Nat → Value) : GoesT (evC (tabOf Tryz.prog extY conRW9 true) 100 false (wlL Tryz.f7) (wlF n c m p q u v k E H s x ++ tl 106 g, ⟨0, []⟩, [cmp true, cmp false, cmp false, sam true, sam true]) ⟨[], [], []⟩) 18 106 none (wlF n c m p q u v k E (((([48, 49, 50, 51, 52, 53, 54, 55, 56, 57, 97, 98, 99, 100, 101, 102] : List UInt8).drop (x.tmod 16).toNat).take ((IntKind.u64.wrap (x.tmod 16 + 1)).toNat - (x.tmod 16).toNat)) ++ H) s (IntKind.u64.wrap (x.tdiv 16))) ⟨0, []⟩ [(decide (((([48, 49, 50, 51, 52, 53, 54, 55, 56, 57, 97, 98, 99, 100, 101, 102] : List UInt8).drop (x.tmod 16).toNat).take ((IntKind.u64.wrap (x.tmod 16 + 1)).toNat - (x.tmod 16).toNat)).length + H.length ≤ 9223372036854775807), true), (decide (0 ≤ x.tmod 16 ∧ x.tmod 16 ≤ IntKind.u64.wrap (x.tmod 16 + 1) ∧ IntKind.u64.wrap (x.tmod 16 + 1) ≤ ((16 : Nat) : Int)), true), (decide ((16 : Int) = 0), false), (decide ((16 : Int) = 0), false), (decide (x > 0), true)] := ⟨by kernel_rfl, by kernel_rfl, by kernel_rfl⟩
theorem wl_0 (n c m p q u v k : Int) (E H : List UInt8) (s : Int) (x : Int) (g : Nat → Value) : GoesT (evC (tabOf Tryz.prog extY conRW9 true) 100 false (wlL Tryz.f7) (wlF n c m p q u v k E H s x ++ tl 106 g, ⟨0, []⟩, [cmp false, sam true, cmp false, cmp false, sam true, sam true]) ⟨[], [], []⟩) 18 106 none (wlF n c m p q u v k E (((([48, 49, 50, 51, 52, 53, 54, 55, 56, 57, 97, 98, 99, 100, 101, 102] : List UInt8).drop (x.tmod 16).toNat).take ((IntKind.u64.wrap (x.tmod 16 + 1)).toNat - (x.tmod 16).toNat)) ++ H) s (IntKind.u64.wrap (x.tdiv 16))) ⟨0, []⟩ [(decide (((([48, 49, 50, 51, 52, 53, 54, 55, 56, 57, 97, 98, 99, 100, 101, 102] : List UInt8).drop (x.tmod 16).toNat).take ((IntKind.u64.wrap (x.tmod 16 + 1)).toNat - (x.tmod 16).toNat)).length + H.length ≤ 9223372036854775807), true), (decide (0 ≤ x.tmod 16 ∧ x.tmod 16 ≤ IntKind.u64.wrap (x.tmod 16 + 1) ∧ IntKind.u64.wrap (x.tmod 16 + 1) ≤ ((16 : Nat) : Int)), true), (decide ((16 : Int) = 0), false), (decide ((16 : Int) = 0), false), ((⟨⟨H⟩⟩ : ByteArray) == ⟨⟨[]⟩⟩, true), (decide (x > 0), false)] := ⟨by kernel_rfl, by kernel_rfl, by kernel_rfl⟩
theorem wl_x (n c m p q u v k : Int) (E H : List UInt8) (s : Int) (x : Int) (g : Nat → Value) : GoesT (evC (tabOf Tryz.prog extY conRW9 true) 100 false (wlL Tryz.f7) (wlF n c m p q u v k E H s x ++ tl 106 g, ⟨0, []⟩, [cmp false, sam false]) ⟨[], [], []⟩) 18 106 (some (some 0)) (wlF n c m p q u v k E H s x) ⟨0, []⟩ [((⟨⟨H⟩⟩ : ByteArray) == ⟨⟨[]⟩⟩, false), (decide (x > 0), false)] := ⟨by kernel_rfl, by kernel_rfl, by kernel_rfl⟩
theorem wl_e (n c m p q u v k : Int) (E H : List UInt8) (s : Int) (x : Int) (g : Nat → Value) : GoesT (evC (tabOf Tryz.prog extY conRW9 true) 200 false (sK Tryz.f7 10) (wlF n c m p q u v k E H s x ++ tl 106 g, ⟨0, []⟩, [sam true, sam true, sam true, cmp true, cmp true, cmp true, cmp true, cmp true]) ⟨[], [], []⟩) 7 117 (some none) [.int .u64 n, .int .i64 c, .int .i64 m, undef, undef, undef, .bool true] ⟨0, []⟩ [((rdP m (((([48, 120] : List UInt8) ++ H) ++ ([112] : List UInt8)) ++ E)).2.1 == scaF m (opP m s) k, true), ((rdP m (((([48, 120] : List UInt8) ++ H) ++ ([112] : List UInt8)) ++ E)).1 == scaP m (opP m s) k, true), (q == v, true), (p == u, true), (decide (Go.Pt.U (opP m s)), true), (decide (Go.Pt.U s), true), (decide ((rdP m (((([48, 120] : List UInt8) ++ H) ++ ([112] : List UInt8)) ++ E)).2.2 = 0), true), (okTx (((([48, 120] : List UInt8) ++ H) ++ ([112] : List UInt8)) ++ E), true), (decide (((([48, 120] : List UInt8) ++ H) ++ ([112] : List UInt8)).length + E.length ≤ 9223372036854775807), true), (decide ((([48, 120] : List UInt8) ++ H).length + ([112] : List UInt8).length ≤ 9223372036854775807), true), (decide (([48, 120] : List UInt8).length + H.length ≤ 9223372036854775807), true)] := ⟨by kernel_rfl, by kernel_rfl, by kernel_rfl⟩
/-- behind some letters of base 16: x is left -/
def wlS (n c m p q u v k : Int) (E : List UInt8) (N : Nat) (x : Nat) (s : List UInt8) (y : Lf) : Prop := ∃ (f : Nat) (g : Nat → Value), x < 16 ^ f ∧ x < 18446744073709551616 ∧ s.length + f ≤ 14 ∧ 1 ≤ f + s.length ∧ (s = [] → 1 ≤ f) ∧ hxF 14 N = (if x = 0 ∧ s ≠ [] then [] else hxF f x) ++ s ∧ y.1 = wlF n c m p q u v k E s (N : Nat) x ++ tl 106 g ∧ y.2.1 = ⟨0, []⟩
theorem wl_round {n c m p q u v k : Int} {E : List UInt8} {N : Nat} (r : Nat) (y : Lf) (h : ∃ x s, r = 2 * x + (if s = [] then 1 else 0) ∧ wlS n c m p q u v k E N x s y) :
    Runs (tabOf Tryz.prog extY conRW9 true) (wlL Tryz.f7) y fun e z => match e with | none => ∃ r', r' < r ∧ ∃ x s, r' = 2 * x + (if s = [] then 1 else 0) ∧ wlS n c m p q u v k E N x s z | some none => False | some (some id') => id' = 0 ∧ wlS n c m p q u v k E N 0 (hxF 14 N) z := by
  have hT := tabY_ok conRW9_ok
  obtain ⟨x, s, hr, f, g, hc, hu, hf, hf1, hf2, hS, ht, hh⟩ := h
  obtain ⟨t, h', sc⟩ := y
  simp only at ht hh
  subst ht hh
  by_cases hx : x = 0 ∧ s ≠ []
  · have es : hxF 14 N = s := by rw [hS, if_pos hx]; rfl
    refine (goesT_runs (s0 := sc) hT (wl_x n c m p q u v k E s (N : Nat) (x : Nat) g) (okCons (by rw [bs_eqR]; exact decide_eq_false hx.2) (okL1 (decide_eq_false (by omega))))).mono fun e z he => ?_
    obtain ⟨rfl, ⟨g', z1⟩, z2⟩ := he
    rw [hx.1] at z1
    refine ⟨rfl, f, g', Nat.pow_pos (by omega), by omega, by rw [es]; exact hf, by rw [es]; exact hf1, by rw [es]; exact hf2, ?_, by rw [es]; exact z1, z2⟩
    rw [es, if_pos ⟨rfl, hx.2⟩]
    rfl
  · rw [if_neg hx] at hS
    have et : ((x : Nat) : Int).tmod 16 = ((x % 16 : Nat) : Int) := by rw [Int.tmod_eq_emod_of_nonneg (by omega)]; omega
    have ed : IntKind.u64.wrap (((x : Nat) : Int).tdiv 16) = ((x / 16 : Nat) : Int) := by
      rw [Int.tdiv_eq_ediv_of_nonneg (by omega)]
      simp [IntKind.wrap, IntKind.bits, IntKind.signed]
      omega
    have ew : IntKind.u64.wrap (((x % 16 : Nat) : Int) + 1) = ((x % 16 + 1 : Nat) : Int) := by
      simp [IntKind.wrap, IntKind.bits, IntKind.signed]
      omega
    have hm : x % 16 < 16 := Nat.mod_lt _ (by omega)
    have ep : ((([48, 49, 50, 51, 52, 53, 54, 55, 56, 57, 97, 98, 99, 100, 101, 102] : List UInt8).drop ((x % 16 : Nat) : Int).toNat).take (((x % 16 + 1 : Nat) : Int).toNat - ((x % 16 : Nat) : Int).toNat)) = [chH (x % 16)] := by
      rw [Int.toNat_natCast, Int.toNat_natCast, show x % 16 + 1 - x % 16 = 1 by omega]
      exact hx_part hm
    obtain ⟨f', rfl⟩ : ∃ f', f = f' + 1 := by
      cases f with
      | zero =>
        exfalso
        have h0 : x = 0 := by simpa using hc
        exact hx ⟨h0, fun h => by have := hf2 h; omega⟩
      | succ f => exact ⟨f, rfl⟩
    have fin : ∀ z : Lf, ((none : Ex) = none ∧ (∃ g', z.1 = wlF n c m p q u v k E ([chH (x % 16)] ++ s) (N : Nat) ((x / 16 : Nat) : Int) ++ tl 106 g') ∧ z.2.1 = ⟨0, []⟩) → ∃ r', r' < r ∧ ∃ x s, r' = 2 * x + (if s = [] then 1 else 0) ∧ wlS n c m p q u v k E N x s z := fun z hz => by
      obtain ⟨_, ⟨g', z1⟩, z2⟩ := hz
      refine ⟨2 * (x / 16), ?_, x / 16, chH (x % 16) :: s, by rw [if_neg (by simp), Nat.add_zero], f', g', by rw [Nat.pow_succ] at hc; omega, by omega, by rw [List.length_cons]; omega, by rw [List.length_cons]; omega, fun h => by simp at h, ?_, z1, z2⟩
      · rw [hr]
        by_cases h0 : x = 0
        · have : s = [] := Decidable.of_not_not fun h => hx ⟨h0, h⟩
          rw [if_pos this]
          omega
        · omega
      · rw [hS, hxF]
        by_cases h1 : x < 16
        · rw [if_pos h1, if_pos ⟨by omega, by simp⟩, Nat.mod_eq_of_lt h1]
          rfl
        · rw [if_neg h1, if_neg (fun h => by have := h.1; omega)]
          simp
    by_cases h0 : 0 < x
    · have hg := wl_1 n c m p q u v k E s (N : Nat) (x : Nat) g
      rw [et, ed, ew, ep] at hg
      refine (goesT_runs (s0 := sc) hT hg (okCons (decide_eq_true (by rw [List.length_singleton]; omega)) (okCons (decide_eq_true ⟨by omega, by omega, by omega⟩) (okCons (by decide) (okCons (by decide) (okL1 (decide_eq_true (by omega)))))))).mono fun e z he => ?_
      obtain ⟨rfl, he⟩ := he
      exact fin z ⟨rfl, he⟩
    · have hs0 : s = [] := Decidable.of_not_not fun h => hx ⟨by omega, h⟩
      have hg := wl_0 n c m p q u v k E s (N : Nat) (x : Nat) g
      rw [et, ed, ew, ep] at hg
      refine (goesT_runs (s0 := sc) hT hg (okCons (decide_eq_true (by rw [List.length_singleton]; omega)) (okCons (decide_eq_true ⟨by omega, by omega, by omega⟩) (okCons (by decide) (okCons (by decide) (okCons (by rw [bs_eqR]; exact decide_eq_true hs0) (okL1 (decide_eq_false (by omega))))))))).mono fun e z he => ?_
      obtain ⟨rfl, he⟩ := he
      exact fin z ⟨rfl, he⟩
theorem sS_f (x : Int) : sS false x = x := by unfold sS; rw [if_neg (by decide)]
/-- a whole number of 53 bits, scaled -/
theorem sca_small (m : Int) {N : Nat} (h : N < 9007199254740992) {k : Int} (hk : k.natAbs ≤ 1199) : Go.Pt.U (opP m N) ∧ scaP m (opP m N) k = rnP m false N k ∧ scaF m (opP m N) k = rnF m false N k := by
  obtain ⟨a1, a2, a3, a4, a5⟩ := small_pat m h
  have eo : opP m N = rnP m false N 0 := by unfold opP; rw [sS_f, Int.toNat_natCast]
  rw [eo]
  obtain ⟨P, hP⟩ : ∃ P, P = rnP m false N 0 := ⟨_, rfl⟩
  rw [← hP] at a2 a3 a4 a5 ⊢
  have hs : Go.Pt.sgn P = false := decide_eq_false (by omega)
  have hm : Go.Pt.mag P = P := by unfold Go.Pt.mag; omega
  have hc : Go.Pt.cl P ≤ 2 := (mag_cl P).2.2.2 (by omega)
  have hkn : kN9 k = k := by unfold kN9; split <;> split <;> omega
  refine ⟨⟨by omega, by omega⟩, ?_⟩
  have h3 : ¬ 3 < Go.Pt.cl P := by omega
  unfold scaP scaF
  rw [if_neg h3, if_neg h3]
  by_cases h0 : Go.Pt.cl P = 0
  · have h4 : Go.Pt.cl P = 0 ∨ Go.Pt.cl P = 3 := .inl h0
    rw [if_pos h4, if_pos h4]
    have hz := mag_cl0 h0
    rw [hm] at hz
    have n0 := a5.1 hz
    rw [hz, n0]
    unfold rnP rnF
    exact ⟨rfl, rfl⟩
  · have h4 : ¬ (Go.Pt.cl P = 0 ∨ Go.Pt.cl P = 3) := by omega
    rw [if_neg h4, if_neg h4, hkn]
    unfold scP scF
    rw [hs, sS_f]
    exact a4 k
theorem whole_calls13 (n c m : Int) (hn : 0 ≤ n ∧ n < 18446744073709551616) (w : World) : Calls Tryz.prog 7 #[.int .u64 n, .int .i64 c, .int .i64 m] w fun e w' => e = .returned (.bool true) ∧ Tidy w w' := by
  have hT := tabY_ok conRW9_ok
  refine calls_of_runs (T := (tabOf Tryz.prog extY conRW9 true)) Tryz.func7 whole_body13 (by rfl) (by rfl) ?_ w
  obtain ⟨k, hk⟩ : ∃ k, k = c.tmod 1200 := ⟨_, rfl⟩
  have hk2 : k.natAbs ≤ 1199 := by
    have h1 := Int.tmod_lt_of_pos c (show (0 : Int) < 1200 by omega)
    have h2 := Int.lt_tmod_of_pos c (show (0 : Int) < 1200 by omega)
    omega
  have em : (IntKind.u64.wrap (if IntKind.i64.wrap (0 - k) > k then IntKind.i64.wrap (0 - k) else k)) = (k.natAbs : Nat) := by
    rw [wrapI (n := 0 - k) (by omega) (by omega)]
    rw [wrapU9 (by split <;> omega) (by split <;> omega)]
    split <;> omega
  obtain ⟨S, hS, hS2⟩ : ∃ S : Nat, n.tmod 9007199254740992 = (S : Int) ∧ S < 9007199254740992 := by
    have h1 : n.tmod 9007199254740992 = n % 9007199254740992 := Int.tmod_eq_emod_of_nonneg hn.1
    exact ⟨(n % 9007199254740992).toNat, by rw [h1]; omega, by omega⟩
  have hlk := dcL_len k.natAbs
  have hln := dcL_len n.toNat
  have hlx := expL_len k
  have q1 := wholes_ok m (n := n.toNat) (by omega)
  have z1 : (rdP m (dcL n.toNat)).2.2 = 0 := by rw [q1]
  have l1 : (dcL n.toNat).length ≤ 10000 := by omega
  have main : ∀ g : Nat → Value, Runs (tabOf Tryz.prog extY conRW9 true) (.seq (.seq (wlI Tryz.f7) (.block 0 (.loop (wlL Tryz.f7)))) (sK Tryz.f7 10)) (wlG n c m (rdP m (dcL n.toNat)).1 (rdP m (dcL n.toNat)).2.1 (opP m n) (opF m n) k (expL k) [] (S : Nat) ++ tl 107 g, ⟨0, []⟩, []) fun e z => (e = none ∨ e = some none) ∧ resS Tryz.prog Tryz.f7 z.1 z.2.1 = some (.bool true) := fun g => by
    refine Runs.seq (P1 := fun e y => match e with | none => wlS n c m (rdP m (dcL n.toNat)).1 (rdP m (dcL n.toNat)).2.1 (opP m n) (opF m n) k (expL k) S 0 (hxF 14 S) y | some none => False | some (some _) => False) ?_ ?_ (fun e y he => by match e, he with | none, he => exact he.elim | some _, he => exact he.elim)
    · refine Runs.seq (goesT_runs hT (wl_i n c m _ _ _ _ k (expL k) [] (S : Nat) g) okN9R) ?_ (fun e y he => by cases he.1)
      rintro ⟨t, hh, sc⟩ ⟨_, ⟨g', e1⟩, e2⟩
      exact Runs.forLoop (R := fun _ => False) (P := wlS n c m (rdP m (dcL n.toNat)).1 (rdP m (dcL n.toNat)).2.1 (opP m n) (opF m n) k (expL k) S 0 (hxF 14 S)) (fun r y => ∃ x s, r = 2 * x + (if s = [] then 1 else 0) ∧ wlS n c m (rdP m (dcL n.toNat)).1 (rdP m (dcL n.toNat)).2.1 (opP m n) (opF m n) k (expL k) S x s y) wl_round (n := 2 * S + 1) ⟨S, [], rfl, 14, g', Nat.lt_trans hS2 (by decide), by omega, by simp, by omega, by omega, by rw [if_neg (by simp), List.append_nil], e1, e2⟩
    · rintro ⟨t, hh, sc⟩ ⟨f, g', _, _, _, _, _, _, y1, y2⟩
      simp only at y1 y2
      subst y1 y2
      have hg := wl_e n c m (rdP m (dcL n.toNat)).1 (rdP m (dcL n.toNat)).2.1 (opP m n) (opF m n) k (expL k) (hxF 14 S) (S : Nat) ((0 : Nat) : Int) g'
      have hlh := hxF_len 14 S
      have q6 := hexrd_ok m (f := 13) (n := S) (Nat.lt_trans hS2 (by decide)) (by omega) (k := k) (by omega)
      have s6 : [48, 120] ++ hxF 14 S ++ [112] ++ expL k = 48 :: 120 :: (hxF (13 + 1) S ++ 112 :: expL k) := by simp
      rw [← s6] at q6
      have z6 : (rdP m ([48, 120] ++ hxF 14 S ++ [112] ++ expL k)).2.2 = 0 := by rw [q6]
      have l6 : ([48, 120] ++ hxF 14 S ++ [112] ++ expL k).length ≤ 10000 := by simp only [List.length_append, List.length_cons, List.length_nil]; omega
      obtain ⟨ut, t1, t2⟩ := sca_small m hS2 (k := k) hk2
      have us : Go.Pt.U (S : Int) := ⟨by omega, by omega⟩
      have e1 : (rdP m (dcL n.toNat)).1 = opP m n := by rw [q1]; unfold opP; rw [sS_f]
      have e2 : (rdP m (dcL n.toNat)).2.1 = opF m n := by rw [q1]; rfl
      have e3 : (rdP m ([48, 120] ++ hxF 14 S ++ [112] ++ expL k)).1 = scaP m (opP m (S : Nat)) k := by rw [q6, t1]
      have e4 : (rdP m ([48, 120] ++ hxF 14 S ++ [112] ++ expL k)).2.1 = scaF m (opP m (S : Nat)) k := by rw [q6, t2]
      refine (goesT_runs (s0 := sc) hT hg (okCons (beqR_t e4) (okCons (beqR_t e3) (okCons (beqR_t e2) (okCons (beqR_t e1) (okCons (decide_eq_true ut) (okCons (decide_eq_true us) (okCons (decide_eq_true z6) (okCons (show okTx _ = true from decide_eq_true (.inl l6)) (okCons (decide_eq_true (by simp only [List.length_append, List.length_cons, List.length_nil]; omega)) (okCons (decide_eq_true (by simp only [List.length_append, List.length_cons, List.length_nil]; omega)) (okL1 (decide_eq_true (by simp only [List.length_cons, List.length_nil]; omega)))))))))))))).mono fun e z he => ?_
      obtain ⟨rfl, ⟨g2, x1⟩, x2⟩ := he
      exact ⟨.inr rfl, by rw [x1, x2]; rfl⟩
  by_cases h0 : k < 0
  · have hp := wl_pret n c m
    rw [← hk, em, Int.toNat_natCast, hS] at hp
    refine goesT_list hT hp (okCons (by decide) (okCons (decide_eq_true (by simp only [List.length_cons, List.length_nil]; omega)) (okCons (decide_eq_true (by omega)) (okCons (decide_eq_true ⟨by omega, by omega⟩) (okCons (by decide) (okCons (decide_eq_true hn) (okCons (decide_eq_true z1) (okCons (show okTx (dcL n.toNat) = true from decide_eq_true (.inl l1)) (okL1 (decide_eq_true hn)))))))))) fun g => ?_
    have := main g
    unfold expL at this
    rw [if_pos h0] at this
    exact this
  · have hp := wl_pref n c m
    rw [← hk, em, Int.toNat_natCast, hS] at hp
    refine goesT_list hT hp (okCons (by decide) (okCons (decide_eq_false (by omega)) (okCons (decide_eq_true ⟨by omega, by omega⟩) (okCons (by decide) (okCons (decide_eq_true hn) (okCons (decide_eq_true z1) (okCons (show okTx (dcL n.toNat) = true from decide_eq_true (.inl l1)) (okL1 (decide_eq_true hn))))))))) fun g => ?_
    have := main g
    unfold expL at this
    rw [if_neg h0] at this
    exact this
end Go.Proofs.YtjlponbdflkbjaaGreatDoor
