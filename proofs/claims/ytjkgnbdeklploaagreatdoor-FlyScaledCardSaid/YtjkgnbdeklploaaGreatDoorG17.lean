/-
  ConV6, ConV7, ConV8, ConV9
-/
import Derived.Test.YtjkgnbdeklploaaGreatDoorG16
namespace Go.Proofs.YtjkgnbdeklploaaGreatDoor
open Go.KRun Go.Nt
set_option maxRecDepth 100000
theorem usub_body : Tryz.f66.body = some (seqs (aPreV Tryz.f66) (.seq (.seq (aR3 Tryz.f66) (.block 0 (.loop (aLoop Tryz.f66)))) (aEnd Tryz.f66))) := by kernel_rfl
theorem usub_body1 : Tryz.f66.body = some (cBody Tryz.f66) := by kernel_rfl
theorem usub_pre (a b : Value) (h : Hp) : GoesT (evL (tabH Tryz.prog extY conN hcV) 100 (aPreV Tryz.f66) ([a, b] ++ List.replicate 33 undef, h, []) ⟨[], [], []⟩) 7 28 none [a, b, undef, undef, nilS, nilS, .int .u32 0] h [] := ⟨by kernel_rfl, by kernel_rfl, by kernel_rfl⟩
theorem usub_r3 (a b : Value) (h : Hp) (g : Nat → Value) : GoesT (evC (tabH Tryz.prog extY conN hcV) 100 false (aR3 Tryz.f66) ([a, b, undef, undef, nilS, nilS, .int .u32 0] ++ tl 28 g, h, []) ⟨[], [], []⟩) 8 27 none [a, b, undef, undef, nilS, nilS, .int .u32 0, .int .i64 0] h [] := ⟨by kernel_rfl, by kernel_rfl, by kernel_rfl⟩
def df (A B : List Int) (k i : Int) : Int := IntKind.u32.wrap (IntKind.u32.wrap (IntKind.u32.wrap (65536 + atN A i) - atN B i) - k)
theorem usub_nil (p q : Option Addr) (n c n' c' : Nat) (k i : Int) (x y : List Value × TypeId) (g : Nat → Value) : GoesT (evC (tabH Tryz.prog extY conN hcV) 100 false (aLoop Tryz.f66) ([.slice p n c, .slice q n' c', undef, undef, nilS, nilS, .int .u32 k, .int .i64 i] ++ tl 27 g, hp2 y x, [cmp true, cmp true]) ⟨[], [], []⟩) 8 27 none [.slice p n c, .slice q n' c', undef, undef, nilS, sl 3 0 1 grown, .int .u32 (IntKind.u32.wrap (1 - IntKind.u32.wrap ((df (rowOf (hp2 y x) p n) (rowOf (hp2 y x) q n') k i).tdiv 65536))), .int .i64 (IntKind.i64.wrap (i + 1))] ⟨4, [([.int .u32 ((df (rowOf (hp2 y x) p n) (rowOf (hp2 y x) q n') k i).tmod 65536)], tU), ([.int .u32 ((df (rowOf (hp2 y x) p n) (rowOf (hp2 y x) q n') k i).tmod 65536)], tU), y, x]⟩ [(decide ((65536 : Int) = 0), false), rP (hp2 y x) q n' c', rP (hp2 y x) p n c, (decide (i < n), true)] := ⟨by kernel_rfl, by kernel_rfl, by kernel_rfl⟩
theorem usub_some (p q : Option Addr) (n c n' c' z : Nat) (k i : Int) (x y : List Value × TypeId) (lo : List Value) (g : Nat → Value) : GoesT (evC (tabH Tryz.prog extY conN hcV) 100 false (aLoop Tryz.f66) ([.slice p n c, .slice q n' c', undef, undef, nilS, sl 2 0 z grown, .int .u32 k, .int .i64 i] ++ tl 27 g, hu3 lo y x, [cmp true, cmp true, at_]) ⟨[], [], []⟩) 8 27 none [.slice p n c, .slice q n' c', undef, undef, nilS, sl 4 0 (z + 1) grown, .int .u32 (IntKind.u32.wrap (1 - IntKind.u32.wrap ((df (rowOf (hu3 lo y x) p n) (rowOf (hu3 lo y x) q n') k i).tdiv 65536))), .int .i64 (IntKind.i64.wrap (i + 1))] ⟨5, [(lo ++ [.int .u32 ((df (rowOf (hu3 lo y x) p n) (rowOf (hu3 lo y x) q n') k i).tmod 65536)], tU), ([.int .u32 ((df (rowOf (hu3 lo y x) p n) (rowOf (hu3 lo y x) q n') k i).tmod 65536)], tU), ([], 2 * dead), y, x]⟩ [(appChk tU (lo, tU) ([.int .u32 ((df (rowOf (hu3 lo y x) p n) (rowOf (hu3 lo y x) q n') k i).tmod 65536)], tU) z 0 1, true), (decide ((65536 : Int) = 0), false), rP (hu3 lo y x) q n' c', rP (hu3 lo y x) p n c, (decide (i < n), true)] := ⟨by kernel_rfl, by kernel_rfl, by kernel_rfl⟩
theorem usub_out (p q : Option Addr) (n c n' c' : Nat) (v : Value) (k i : Int) (h : Hp) (g : Nat → Value) : GoesT (evC (tabH Tryz.prog extY conN hcV) 100 false (aLoop Tryz.f66) ([.slice p n c, .slice q n' c', undef, undef, nilS, v, .int .u32 k, .int .i64 i] ++ tl 27 g, h, [cmp false]) ⟨[], [], []⟩) 8 27 (some (some 0)) [.slice p n c, .slice q n' c', undef, undef, nilS, v, .int .u32 k, .int .i64 i] h [(decide (i < n), false)] := ⟨by kernel_rfl, by kernel_rfl, by kernel_rfl⟩
theorem usub_end (a b : Value) (z : Nat) (k i : Int) (x y : List Value × TypeId) (lo : List Value) (g : Nat → Value) : GoesT (evC (tabH Tryz.prog extY conN hcV) 100 false (aEnd Tryz.f66) ([a, b, undef, undef, nilS, sl 2 0 z grown, .int .u32 k, .int .i64 i] ++ tl 27 g, hu3 lo y x, []) ⟨[], [], []⟩) 5 30 (some none) [a, b, undef, undef, sl 2 0 (trimN (cutI lo 0 z)) (trimN (cutI lo 0 z))] (hu3 lo y x) [(rowC tU lo 0 z grown, true)] := ⟨by kernel_rfl, by kernel_rfl, by kernel_rfl⟩
theorem usub_empty (p q : Option Addr) (n c n' c' : Nat) (h : Hp) : GoesT (evC (tabH Tryz.prog extY conN hcV) 100 false (cBody Tryz.f66) ([.slice p n c, .slice q n' c'] ++ List.replicate 33 undef, h, [cmp false]) ⟨[], [], []⟩) 5 30 (some none) [.slice p n c, .slice q n' c', undef, undef, nilS] h [(decide ((0 : Int) < n), false)] := ⟨by kernel_rfl, by kernel_rfl, by kernel_rfl⟩
/-- a digit of a difference, and what is borrowed -/
def dfN (A B : List Int) (k i : Nat) : Nat := 65536 + dgN A i - dgN B i - k
theorem df_eq {A B : List Int} (hA : ∀ x ∈ A, Dg 65536 x) (hB : ∀ x ∈ B, Dg 65536 x) {k : Nat} (hk : k ≤ 1) (i : Nat) : df A B k i = ((dfN A B k i : Nat) : Int) ∧ dfN A B k i < 131072 ∧ dfN A B k i + dgN B i + k = 65536 + dgN A i := by
  have h1 := dgN_lt hA i
  have h2 := dgN_lt hB i
  unfold df dfN
  rw [atN_nat, atN_nat, ← h1.2, ← h2.2, wrap32 (n := 65536 + _) (by omega) (by omega), wrap32 (n := 65536 + _ - _) (by omega) (by omega), wrap32 (by omega) (by omega)]
  omega
theorem bor_eq {d : Nat} (h : d < 131072) : IntKind.u32.wrap (1 - IntKind.u32.wrap ((d : Int).tdiv 65536)) = ((1 - d / 65536 : Nat) : Int) := by
  rw [tdiv_nat (by omega), wrap32 (by omega) (by omega)]
  omega
section
variable {x y : List Value × TypeId} {p q : Option Addr} {n c n' c' : Nat} {A B : List Int}
/-- one round of Sub -/
theorem usub_round (NA : Nu 0 x p n c A) (NB : Nu 1 y q n' c' B) (hA : ∀ x ∈ A, Dg 65536 x) (hB : ∀ x ∈ B, Dg 65536 x) {k i : Nat} {O : List Int} (hk : k ≤ 1) (hi : i < 1073741823) (hO : O.length = i) (hgo : i < n) {Y : Lf}
    (hY : (i = 0 ∧ k = 0 ∧ (∃ g, Y.1 = [.slice p n c, .slice q n' c', undef, undef, nilS, nilS, .int .u32 (k : Nat), .int .i64 (i : Nat)] ++ tl 27 g) ∧ Y.2.1 = hp2 y x) ∨ (0 < i ∧ (∃ g, Y.1 = [.slice p n c, .slice q n' c', undef, undef, nilS, sl 2 0 i grown, .int .u32 (k : Nat), .int .i64 (i : Nat)] ++ tl 27 g) ∧ Y.2.1 = hu3 (wU O) y x)) :
    RunsW (tabH Tryz.prog extY conN hcV) (aLoop Tryz.f66) Y fun e z => e = none ∧ (∃ g, z.1 = [.slice p n c, .slice q n' c', undef, undef, nilS, sl 2 0 (i + 1) grown, .int .u32 ((1 - dfN A B k i / 65536 : Nat) : Int), .int .i64 ((i + 1 : Nat) : Int)] ++ tl 27 g) ∧ z.2.1 = hu3 (wU (O ++ [((dfN A B k i % 65536 : Nat) : Int)])) y x := by
  obtain ⟨t, h', s⟩ := Y
  obtain ⟨es, hlt, _⟩ := df_eq hA hB hk i
  have e1 : (df A B k i).tmod 65536 = ((dfN A B k i % 65536 : Nat) : Int) := by rw [es, tmod_nat]
  have e2 : IntKind.u32.wrap (1 - IntKind.u32.wrap ((df A B k i).tdiv 65536)) = ((1 - dfN A B k i / 65536 : Nat) : Int) := by rw [es, bor_eq hlt]
  have e3 : IntKind.i64.wrap ((i : Int) + 1) = ((i + 1 : Nat) : Int) := by rw [wrapI (by omega) (by omega)]; omega
  have hl : decide ((i : Int) < (n : Nat)) = true := decide_eq_true (by omega)
  rcases hY with ⟨h0, k0, ⟨g, ht⟩, hh⟩ | ⟨h0, ⟨g, ht⟩, hh⟩
  · simp only at ht hh
    subst ht hh
    have r0 := NA.row (hp2 y x) rfl
    have r1 := NB.row (hp2 y x) rfl
    have fin := goesT_runsW (tabH_ok conN_ok hcV_ok) (s0 := s) (usub_nil p q n c n' c' k i x y g) (okW rfl (okW r1.1 (okW r0.1 (okOne hl))))
    have hO' : O = [] := List.length_eq_zero_iff.1 (by omega)
    rw [r0.2, r1.2, e1, e2, e3] at fin
    have := fin.kept (k := 2) (b := 3) (base := [y, x]) (y := ([.int .u32 ((dfN A B k i % 65536 : Nat) : Int)], tU)) (front' := [.slice p n c, .slice q n' c', undef, undef, nilS, sl 2 0 1 grown, .int .u32 ((1 - dfN A B k i / 65536 : Nat) : Int), .int .i64 ((i + 1 : Nat) : Int)]) rfl
      (by simp only [List.map_cons, List.map_nil, NA.rn (f := keepK 2 3) rfl, NB.rn (f := keepK 2 3) rfl]; kernel_rfl) (kept_base NA NB rfl rfl) rfl (by omega) (fun v hv => by rw [List.mem_singleton.1 hv]; rfl) (fun v hv => by
        simp only [List.mem_cons, List.not_mem_nil, or_false] at hv
        rcases hv with rfl | rfl | rfl | rfl | rfl | rfl | rfl | rfl
        · exact NA.lt (by omega)
        · exact NB.lt (by omega)
        all_goals rfl)
    refine this.mono fun e z hz => ?_
    obtain ⟨rfl, ⟨g', q1⟩, q2⟩ := hz
    subst hO' h0
    exact ⟨rfl, ⟨g', q1⟩, q2⟩
  · simp only at ht hh
    subst ht hh
    have r0 := NA.row (hu3 (wU O) y x) rfl
    have r1 := NB.row (hu3 (wU O) y x) rfl
    have hchk : appChk tU (wU O, tU) ([.int .u32 ((df A B k i).tmod 65536)], tU) i 0 1 = true :=
      appChk_of (L := O) (M := [(df A B k i).tmod 65536]) hO.symm (show 0 < 1 by omega) (by show O.length + 1 ≤ _; omega)
    have fin := goesT_runsW (tabH_ok conN_ok hcV_ok) (s0 := s) (usub_some p q n c n' c' i k i x y (wU O) g) (by rw [r0.2, r1.2]; exact okW hchk (okW rfl (okW r1.1 (okW r0.1 (okOne hl)))))
    rw [r0.2, r1.2, e1, e2, e3] at fin
    have ew : wU O ++ [.int .u32 ((dfN A B k i % 65536 : Nat) : Int)] = wU (O ++ [((dfN A B k i % 65536 : Nat) : Int)]) := by rw [wU_append]; rfl
    rw [ew] at fin
    exact fin.kept (k := 2) (b := 4) (base := [y, x]) (y := (wU (O ++ [((dfN A B k i % 65536 : Nat) : Int)]), tU)) (front' := [.slice p n c, .slice q n' c', undef, undef, nilS, sl 2 0 (i + 1) grown, .int .u32 ((1 - dfN A B k i / 65536 : Nat) : Int), .int .i64 ((i + 1 : Nat) : Int)]) rfl
      (by simp only [List.map_cons, List.map_nil, NA.rn (f := keepK 2 4) rfl, NB.rn (f := keepK 2 4) rfl]; kernel_rfl) (kept_base NA NB rfl rfl) rfl (by omega) (wU_still _) (fun v hv => by
        simp only [List.mem_cons, List.not_mem_nil, or_false] at hv
        rcases hv with rfl | rfl | rfl | rfl | rfl | rfl | rfl | rfl
        · exact NA.lt (by omega)
        · exact NB.lt (by omega)
        all_goals rfl)
def sSt (x y : List Value × TypeId) (p q : Option Addr) (n c n' c' : Nat) (O : List Int) (i k : Nat) (Y : Lf) : Prop :=
  (i = 0 ∧ k = 0 ∧ (∃ g, Y.1 = [.slice p n c, .slice q n' c', undef, undef, nilS, nilS, .int .u32 (k : Nat), .int .i64 (i : Nat)] ++ tl 27 g) ∧ Y.2.1 = hp2 y x) ∨ (0 < i ∧ (∃ g, Y.1 = [.slice p n c, .slice q n' c', undef, undef, nilS, sl 2 0 i grown, .int .u32 (k : Nat), .int .i64 (i : Nat)] ++ tl 27 g) ∧ Y.2.1 = hu3 (wU O) y x)
def sInv (x y : List Value × TypeId) (p q : Option Addr) (n c n' c' : Nat) (A B : List Int) (m : Nat) (Y : Lf) : Prop :=
  ∃ (i k : Nat) (O : List Int), O.length = i ∧ m = n - i ∧ i ≤ n ∧ k ≤ 1 ∧ (∀ x ∈ O, Dg 65536 x) ∧ vb 65536 O + vb 65536 (B.take i) = vb 65536 (A.take i) + 65536 ^ O.length * k ∧ sSt x y p q n c n' c' O i k Y
def sFin (x y : List Value × TypeId) (p q : Option Addr) (n c n' c' : Nat) (A B : List Int) (Y : Lf) : Prop :=
  ∃ (k : Nat) (O : List Int), O.length = n ∧ (∀ x ∈ O, Dg 65536 x) ∧ vb 65536 O + vb 65536 (B.take n) = vb 65536 A + 65536 ^ n * k ∧ sSt x y p q n c n' c' O n k Y
theorem usub_loop (NA : Nu 0 x p n c A) (NB : Nu 1 y q n' c' B) (lA : A.length = n) (hA : ∀ x ∈ A, Dg 65536 x) (hB : ∀ x ∈ B, Dg 65536 x) (hn : n < 1073741823) (g : Nat → Value) :
    RunsW (tabH Tryz.prog extY conN hcV) (.block 0 (.loop (aLoop Tryz.f66))) ([.slice p n c, .slice q n' c', undef, undef, nilS, nilS, .int .u32 0, .int .i64 0] ++ tl 27 g, hp2 y x, []) fun e Y => match e with | none => sFin x y p q n c n' c' A B Y | some none => False | some (some _) => False := by
  refine RunsW.forLoop (P := sFin x y p q n c n' c' A B) (R := fun _ => False) (sInv x y p q n c n' c' A B) ?_ (n := n) ⟨0, 0, [], rfl, by omega, by omega, by omega, (fun x hx => by cases hx), by simp [vb], .inl ⟨rfl, rfl, ⟨g, rfl⟩, rfl⟩⟩
  rintro m Y ⟨i, k, O, hO, hm, hi, hk, hOd, hval, hY⟩
  by_cases hgo : i < n
  · have r := usub_round NA NB hA hB hk (by omega) hO hgo hY
    refine r.mono fun e z hz => ?_
    obtain ⟨rfl, z1, z2⟩ := hz
    obtain ⟨_, hlt, hsum⟩ := df_eq hA hB hk i
    refine ⟨n - (i + 1), by omega, i + 1, 1 - dfN A B k i / 65536, O ++ [((dfN A B k i % 65536 : Nat) : Int)], by simp [hO], rfl, by omega, by omega, fun x hx => ?_, ?_, .inr ⟨by omega, z1, z2⟩⟩
    · rcases List.mem_append.1 hx with hx | hx
      · exact hOd x hx
      · rw [List.mem_singleton.1 hx]
        exact ⟨by omega, by omega⟩
    · have ha : vb 65536 (A.take (i + 1)) = vb 65536 (A.take i) + 65536 ^ i * dgN A i := vb_take 65536 A i
      have hb : vb 65536 (B.take (i + 1)) = vb 65536 (B.take i) + 65536 ^ i * dgN B i := vb_take 65536 B i
      rw [ha, hb, vb_snoc, Int.toNat_natCast, List.length_append, hO, List.length_singleton, Nat.pow_succ, Nat.mul_assoc]
      rw [hO] at hval
      generalize 65536 ^ i = P at *
      have hq : dfN A B k i / 65536 ≤ 1 := by omega
      have e : dfN A B k i % 65536 + dgN B i + k = dgN A i + 65536 * (1 - dfN A B k i / 65536) := by omega
      have e' : P * (dfN A B k i % 65536) + P * dgN B i + P * k = P * dgN A i + P * (65536 * (1 - dfN A B k i / 65536)) := by rw [← Nat.mul_add, ← Nat.mul_add, ← Nat.mul_add, e]
      omega
  · have hin : i = n := by omega
    subst hin
    have hv : vb 65536 O + vb 65536 (B.take i) = vb 65536 A + 65536 ^ i * k := by
      rw [List.take_of_length_le (show A.length ≤ i by omega), hO] at hval
      exact hval
    have out : ∀ (v : Value) (h : Hp) (g : Nat → Value) (s : List Dec), RunsW (tabH Tryz.prog extY conN hcV) (aLoop Tryz.f66) ([.slice p i c, .slice q n' c', undef, undef, nilS, v, .int .u32 (k : Nat), .int .i64 (i : Nat)] ++ tl 27 g, h, s) fun e z => e = some (some 0) ∧ (∃ g, z.1 = [.slice p i c, .slice q n' c', undef, undef, nilS, v, .int .u32 (k : Nat), .int .i64 (i : Nat)] ++ tl 27 g) ∧ z.2.1 = h := fun v h g s =>
      goesT_runsW (tabH_ok conN_ok hcV_ok) (usub_out p q i c n' c' v k i h g) (okOne (decide_eq_false (by omega)))
    obtain ⟨t, h', s⟩ := Y
    rcases hY with ⟨h0, k0, ⟨g, ht⟩, hh⟩ | ⟨h0, ⟨g, ht⟩, hh⟩
    · simp only at ht hh
      subst ht hh
      refine (out nilS _ g s).mono fun e z hz => ?_
      obtain ⟨rfl, z1, z2⟩ := hz
      exact ⟨rfl, k, O, hO, hOd, hv, .inl ⟨h0, k0, z1, z2⟩⟩
    · simp only at ht hh
      subst ht hh
      refine (out (sl 2 0 i grown) _ g s).mono fun e z hz => ?_
      obtain ⟨rfl, z1, z2⟩ := hz
      exact ⟨rfl, k, O, hO, hOd, hv, .inr ⟨h0, z1, z2⟩⟩
theorem usub_runs (NA : Nu 0 x p n c A) (NB : Nu 1 y q n' c' B) (lA : A.length = n) (hA : ∀ x ∈ A, Dg 65536 x) (hB : ∀ x ∈ B, Dg 65536 x) (hn : n < 1073741823) (h0 : 0 < n) (hle : vb 65536 B ≤ vb 65536 A) {V : Nat} (hV : V = vb 65536 A - vb 65536 B) :
    RunsW (tabH Tryz.prog extY conN hcV) (seqs (aPreV Tryz.f66) (.seq (.seq (aR3 Tryz.f66) (.block 0 (.loop (aLoop Tryz.f66)))) (aEnd Tryz.f66))) ([.slice p n c, .slice q n' c'] ++ List.replicate 33 undef, hp2 y x, []) fun e z => (e = none ∨ e = some none) ∧ resS Tryz.prog Tryz.f66 z.1 z.2.1 = some (sl 2 0 (d16 V).length (d16 V).length) ∧ ∃ r, z.2.1.blk? 2 = some (wU (d16 V) ++ r, tU) := by
  refine goesT_listW (tabH_ok conN_ok hcV_ok) (usub_pre _ _ _) (fun x hx => by cases hx) fun g => ?_
  refine seqW3 (goesT_runsW (tabH_ok conN_ok hcV_ok) (usub_r3 _ _ _ g) (fun x hx => by cases hx)) (fun e y he => by cases he.1) (P2 := fun e Y => match e with | none => sFin x y p q n c n' c' A B Y | some none => False | some (some _) => False) ?_ ?_ ?_
  · rintro ⟨t, h', s⟩ ⟨_, ⟨g', ht⟩, hh⟩
    simp only at ht hh
    subst ht hh
    exact RunsW.script (usub_loop NA NB lA hA hB hn g')
  · intro e y he
    match e, he with
    | none, he => exact he
    | some id, he => exact he
  · rintro ⟨t, h', s⟩ ⟨k, O, hO, hOd, hval, hY⟩
    have hv : vb 65536 O = vb 65536 A - vb 65536 B := by
      have l1 := vb_lt (by omega) A hA
      have l2 := vb_lt (by omega) O hOd
      have hsp : vb 65536 B = vb 65536 (B.take n) + 65536 ^ (B.take n).length * vb 65536 (B.drop n) := by rw [← vb_append, List.take_append_drop]
      rw [lA] at l1
      rw [hO] at l2
      have hpos : 0 < 65536 ^ n := Nat.pow_pos (by omega)
      have hz : 65536 ^ (B.take n).length * vb 65536 (B.drop n) = 0 := by
        by_cases hb : B.length ≤ n
        · rw [List.drop_eq_nil_of_le hb]; simp [vb]
        · have hl : (B.take n).length = n := by rw [List.length_take]; omega
          rw [hl] at hsp ⊢
          rcases Nat.eq_zero_or_pos (vb 65536 (B.drop n)) with h | h
          · rw [h]; rfl
          · have := Nat.le_mul_of_pos_right (65536 ^ n) h
            omega
      have hk : k = 0 := by
        rcases Nat.eq_zero_or_pos k with h | h
        · exact h
        · have := Nat.le_mul_of_pos_right (65536 ^ n) h
          omega
      subst hk
      omega
    rcases hY with ⟨e0, _⟩ | ⟨_, ⟨g', ht⟩, hh⟩
    · omega
    · simp only at ht hh
      subst ht hh
      have hrow : rowC tU (wU O) 0 n grown = true := by
        rw [← hO]
        exact rowC_wU (fun x hx => ⟨(hOd x hx).1, by have := (hOd x hx).2; omega⟩) (by omega) (capG _)
      refine (goesT_runsW (tabH_ok conN_ok hcV_ok) (usub_end _ _ n k n x y (wU O) g') (okOne hrow)).mono fun e z he => ?_
      obtain ⟨rfl, ⟨g2, e1⟩, e2⟩ := he
      have et : trimN (cutI (wU O) 0 n) = (d16 V).length := by
        rw [← hO, cut_wU, trim_len (by omega) hOd, hv, ← hV]
        rfl
      refine ⟨.inr rfl, ?_, ?_⟩
      · rw [e1, e2, et]
        rfl
      · rw [e2]
        refine ⟨wU (O.drop (trimN O)), ?_⟩
        have e3 : wU (d16 V) ++ wU (O.drop (trimN O)) = wU O := by
          unfold d16
          rw [hV, ← hv, ← take_trim (by omega) _ hOd, ← wU_append, List.take_append_drop]
        rw [e3]
        rfl
end
def gUsub : AnsH := fun vals h s =>
  match vals, s with
  | [.slice p n c, .slice q n' c'], .inr (.inr (.inr (.inl d))) :: s' =>
    match d with
    | true => mk16 (vO h p n - vO h q n') h s' [(two16 h p q n c n' c' && Nat.ble (vO h q n') (vO h p n), true), (decide (0 < n), true)]
    | false => some (nilS, h, s', [(two16 h p q n c n' c', true), (decide (0 < n), false)])
  | _, _ => none
theorem gUsub_ok : AnsHOk 66 gUsub := by
  intro vals h s v h' s' lg hg hl m B w E hv
  unfold gUsub at hg
  split at hg
  · rename_i p n c q n' c' d s2
    split at hg
    · unfold mk16 at hg
      cases hg
      have q1 := hl _ (List.mem_cons_self)
      have q2 := hl _ (List.mem_cons_of_mem _ (List.mem_singleton.2 rfl))
      simp only [decide_eq_true_eq, Bool.and_eq_true] at q1 q2
      obtain ⟨q1, q3⟩ := q1
      have q3 := Nat.le_of_ble_eq_true q3
      obtain ⟨r1, r2, d1, d2, hn⟩ := two16_of q1
      obtain ⟨x, p', a, NA, eA, fA⟩ := nu_of 0 r1
      obtain ⟨y, q', b, NB, eB, fB⟩ := nu_of 1 r2
      have r := usub_runs NA NB (rowOf_len r1) d1 d2 (by omega) q2 q3 rfl
      have := row_calls1 (T := tabH Tryz.prog extY conN hcV) Tryz.func66 usub_body (rows_hp2 NA NB) (vals := [.slice p' n c, .slice q' n' c']) (fun v hv => by
        simp only [List.mem_cons, List.not_mem_nil, or_false] at hv
        rcases hv with rfl | rfl
        · exact NA.lt (by show 0 < 2; omega)
        · exact NB.lt (by show 1 < 2; omega)) (k := 2) (cs := wU (d16 (vO h p n - vO h q n'))) (ty := tU) (wU_lt _) (by kernel_rfl) r (by rfl) E (s := pair a b) (fits_hp2 fA fB)
      simp only [List.map_cons, List.map_nil] at this
      rw [eA _ rfl, eB _ rfl] at this
      exact this
    · cases hg
      have q1 := hl _ (List.mem_cons_self)
      have q2 := hl _ (List.mem_cons_of_mem _ (List.mem_singleton.2 rfl))
      simp only [decide_eq_false_iff_not] at q1 q2
      obtain ⟨r1, r2, d1, d2, hn⟩ := two16_of q1
      obtain ⟨x, p', a, NA, eA, fA⟩ := nu_of 0 r1
      obtain ⟨y, q', b, NB, eB, fB⟩ := nu_of 1 r2
      have hr : Runs (tabH Tryz.prog extY conN hcV) (cBody Tryz.f66) ([.slice p' n c, .slice q' n' c'] ++ List.replicate 33 undef, hp2 y x, []) fun e z => (e = none ∨ e = some none) ∧ resS Tryz.prog Tryz.f66 z.1 z.2.1 = some nilS := by
        refine (goesT_runs (tabH_ok conN_ok hcV_ok) (usub_empty p' q' n c n' c' _) (okOne (decide_eq_false (by omega)))).mono fun e z he => ?_
        obtain ⟨rfl, ⟨g, e2⟩, e3⟩ := he
        refine ⟨.inr rfl, ?_⟩
        rw [e2, e3]
        rfl
      have := row_calls0 (T := tabH Tryz.prog extY conN hcV) Tryz.func66 usub_body1 (rows_hp2 NA NB) (vals := [.slice p' n c, .slice q' n' c']) (fun v hv => by
        simp only [List.mem_cons, List.not_mem_nil, or_false] at hv
        rcases hv with rfl | rfl
        · exact NA.lt (by show 0 < 2; omega)
        · exact NB.lt (by show 1 < 2; omega)) (v := nilS) (by rfl) hr.w E (s := pair a b) (fits_hp2 fA fB)
      simp only [List.map_cons, List.map_nil] at this
      rw [eA _ rfl, eB _ rfl] at this
      exact this
  · cases hg
def cmpZ (a b : Nat) : Int := if a < b then -1 else if a = b then 0 else 1
theorem vb_split (b : Nat) (L : List Int) (k : Nat) : vb b L = vb b (L.take k) + b ^ k * vb b (L.drop k) := by
  by_cases h : k ≤ L.length
  · have e : (L.take k).length = k := by rw [List.length_take]; omega
    have := vb_append b (L.take k) (L.drop k)
    rw [List.take_append_drop, e] at this
    exact this
  · rw [List.take_of_length_le (by omega), List.drop_eq_nil_of_le (by omega)]
    simp [vb]
theorem vb_drop {L : List Int} (k : Nat) : vb 65536 (L.drop k) = dgN L k + 65536 * vb 65536 (L.drop (k + 1)) := by
  by_cases h : k < L.length
  · rw [List.drop_eq_getElem_cons h]
    simp only [vb, dgN]
    rw [getD_get h]
  · rw [List.drop_eq_nil_of_le (by omega), List.drop_eq_nil_of_le (by omega), dgN_out (by omega)]
    rfl
theorem take_lt {L : List Int} (h : ∀ x ∈ L, Dg 65536 x) (k : Nat) : vb 65536 (L.take k) < 65536 ^ k := by
  have h1 := vb_lt (b := 65536) (by omega) (L.take k) (fun x hx => h x (List.mem_of_mem_take hx))
  have h2 : (L.take k).length ≤ k := by rw [List.length_take]; omega
  exact Nat.lt_of_lt_of_le h1 (Nat.pow_le_pow_right (by omega) h2)
theorem less_of {A B : List Int} (hA : ∀ x ∈ A, Dg 65536 x) {k : Nat} (he : vb 65536 (A.drop (k + 1)) = vb 65536 (B.drop (k + 1))) (hd : dgN A k < dgN B k) : vb 65536 A < vb 65536 B := by
  have a1 := vb_split 65536 A k
  have b1 := vb_split 65536 B k
  have a2 := take_lt hA k
  rw [vb_drop, he] at a1
  rw [vb_drop] at b1
  generalize vb 65536 (B.drop (k + 1)) = D at *
  generalize 65536 ^ k = P at *
  have h1 : P * (dgN A k + 65536 * D + 1) ≤ P * (dgN B k + 65536 * D) := Nat.mul_le_mul_left _ (by omega)
  rw [Nat.mul_add P _ 1, Nat.mul_one] at h1
  omega
def kPre (F : Func) : List Code := [cFst (cBody F)]
def kR1 (F : Func) : Code := cFst (cFst (cSnd (cBody F)))
def kLoop (F : Func) : Code := cIn (cIn (cSnd (cFst (cSnd (cBody F)))))
def kEnd (F : Func) : Code := cSnd (cSnd (cBody F))
theorem ucmp_body : Tryz.f83.body = some (seqs (kPre Tryz.f83) (.seq (.seq (kR1 Tryz.f83) (.block 0 (.loop (kLoop Tryz.f83)))) (kEnd Tryz.f83))) := by kernel_rfl
def mxI (n n' : Nat) : Int := IntKind.i64.wrap ((if (n' : Int) > n then (n' : Int) else n) - 1)
theorem ucmp_pre (a b : Value) (h : Hp) : GoesT (evL (tabH Tryz.prog extY conN hcV) 100 (kPre Tryz.f83) ([a, b] ++ List.replicate 28 undef, h, []) ⟨[], [], []⟩) 5 25 none [a, b, undef, undef, .int .i64 0] h [] := ⟨by kernel_rfl, by kernel_rfl, by kernel_rfl⟩
theorem ucmp_r1 (p q : Option Addr) (n c n' c' : Nat) (h : Hp) (g : Nat → Value) : GoesT (evC (tabH Tryz.prog extY conN hcV) 100 false (kR1 Tryz.f83) ([.slice p n c, .slice q n' c', undef, undef, .int .i64 0] ++ tl 25 g, h, []) ⟨[], [], []⟩) 6 24 none [.slice p n c, .slice q n' c', undef, undef, .int .i64 0, .int .i64 (mxI n n')] h [] := ⟨by kernel_rfl, by kernel_rfl, by kernel_rfl⟩
theorem ucmp_lt (p q : Option Addr) (n c n' c' : Nat) (i : Int) (x y : List Value × TypeId) (g : Nat → Value) : GoesT (evC (tabH Tryz.prog extY conN hcV) 100 false (kLoop Tryz.f83) ([.slice p n c, .slice q n' c', undef, undef, .int .i64 0, .int .i64 i] ++ tl 24 g, hp2 y x, [cmp true, cmp true]) ⟨[], [], []⟩) 6 24 (some none) [.slice p n c, .slice q n' c', undef, undef, .int .i64 (-1), .int .i64 i] (hp2 y x) [(decide (atN (rowOf (hp2 y x) p n) i < atN (rowOf (hp2 y x) q n') i), true), rP (hp2 y x) q n' c', rP (hp2 y x) p n c, (decide (i ≥ 0), true)] := ⟨by kernel_rfl, by kernel_rfl, by kernel_rfl⟩
theorem ucmp_gt (p q : Option Addr) (n c n' c' : Nat) (i : Int) (x y : List Value × TypeId) (g : Nat → Value) : GoesT (evC (tabH Tryz.prog extY conN hcV) 100 false (kLoop Tryz.f83) ([.slice p n c, .slice q n' c', undef, undef, .int .i64 0, .int .i64 i] ++ tl 24 g, hp2 y x, [cmp true, cmp false, cmp true]) ⟨[], [], []⟩) 6 24 (some none) [.slice p n c, .slice q n' c', undef, undef, .int .i64 1, .int .i64 i] (hp2 y x) [(decide (atN (rowOf (hp2 y x) p n) i > atN (rowOf (hp2 y x) q n') i), true), rP (hp2 y x) q n' c', rP (hp2 y x) p n c, (decide (atN (rowOf (hp2 y x) p n) i < atN (rowOf (hp2 y x) q n') i), false), rP (hp2 y x) q n' c', rP (hp2 y x) p n c, (decide (i ≥ 0), true)] := ⟨by kernel_rfl, by kernel_rfl, by kernel_rfl⟩
theorem ucmp_eq (p q : Option Addr) (n c n' c' : Nat) (i : Int) (x y : List Value × TypeId) (g : Nat → Value) : GoesT (evC (tabH Tryz.prog extY conN hcV) 100 false (kLoop Tryz.f83) ([.slice p n c, .slice q n' c', undef, undef, .int .i64 0, .int .i64 i] ++ tl 24 g, hp2 y x, [cmp true, cmp false, cmp false]) ⟨[], [], []⟩) 6 24 none [.slice p n c, .slice q n' c', undef, undef, .int .i64 0, .int .i64 (i1 i)] (hp2 y x) [(decide (atN (rowOf (hp2 y x) p n) i > atN (rowOf (hp2 y x) q n') i), false), rP (hp2 y x) q n' c', rP (hp2 y x) p n c, (decide (atN (rowOf (hp2 y x) p n) i < atN (rowOf (hp2 y x) q n') i), false), rP (hp2 y x) q n' c', rP (hp2 y x) p n c, (decide (i ≥ 0), true)] := ⟨by kernel_rfl, by kernel_rfl, by kernel_rfl⟩
theorem ucmp_out (a b : Value) (i : Int) (h : Hp) (g : Nat → Value) : GoesT (evC (tabH Tryz.prog extY conN hcV) 100 false (kLoop Tryz.f83) ([a, b, undef, undef, .int .i64 0, .int .i64 i] ++ tl 24 g, h, [cmp false]) ⟨[], [], []⟩) 6 24 (some (some 0)) [a, b, undef, undef, .int .i64 0, .int .i64 i] h [(decide (i ≥ 0), false)] := ⟨by kernel_rfl, by kernel_rfl, by kernel_rfl⟩
theorem ucmp_end (a b : Value) (i : Int) (h : Hp) (g : Nat → Value) : GoesT (evC (tabH Tryz.prog extY conN hcV) 100 false (kEnd Tryz.f83) ([a, b, undef, undef, .int .i64 0, .int .i64 i] ++ tl 24 g, h, []) ⟨[], [], []⟩) 5 25 (some none) [a, b, undef, undef, .int .i64 0] h [] := ⟨by kernel_rfl, by kernel_rfl, by kernel_rfl⟩
section
variable {x y : List Value × TypeId} {p q : Option Addr} {n c n' c' : Nat} {A B : List Int}
def kRet (p q : Option Addr) (n c n' c' : Nat) (A B : List Int) (Y : Lf) : Prop := ∃ i g, Y.1 = [.slice p n c, .slice q n' c', undef, undef, .int .i64 (cmpZ (vb 65536 A) (vb 65536 B)), .int .i64 i] ++ tl 24 g
theorem ucmp_loop (NA : Nu 0 x p n c A) (NB : Nu 1 y q n' c' B) (lA : A.length = n) (lB : B.length = n') (hA : ∀ x ∈ A, Dg 65536 x) (hB : ∀ x ∈ B, Dg 65536 x) (hn : max n n' + 2 < 1073741824) (g : Nat → Value) :
    Runs (tabH Tryz.prog extY conN hcV) (.block 0 (.loop (kLoop Tryz.f83))) ([.slice p n c, .slice q n' c', undef, undef, .int .i64 0, .int .i64 (mxI n n')] ++ tl 24 g, hp2 y x, []) fun e Y => match e with | none => cmpZ (vb 65536 A) (vb 65536 B) = 0 ∧ ∃ i g, Y.1 = [.slice p n c, .slice q n' c', undef, undef, .int .i64 0, .int .i64 i] ++ tl 24 g | some none => kRet p q n c n' c' A B Y | some (some _) => False := by
  have em : mxI n n' = ((max n n' : Nat) : Int) - 1 := by
    unfold mxI
    split
    · rw [wrapI (by omega) (by omega)]; omega
    · rw [wrapI (by omega) (by omega)]; omega
  refine Runs.forLoop (P := fun Y => cmpZ (vb 65536 A) (vb 65536 B) = 0 ∧ ∃ i g, Y.1 = [.slice p n c, .slice q n' c', undef, undef, .int .i64 0, .int .i64 i] ++ tl 24 g) (R := kRet p q n c n' c' A B)
    (fun k Y => k ≤ max n n' ∧ vb 65536 (A.drop k) = vb 65536 (B.drop k) ∧ (∃ g, Y.1 = [.slice p n c, .slice q n' c', undef, undef, .int .i64 0, .int .i64 ((k : Nat) - 1 : Int)] ++ tl 24 g) ∧ Y.2.1 = hp2 y x) ?_ (n := max n n') ⟨Nat.le_refl _, by rw [List.drop_eq_nil_of_le (by omega), List.drop_eq_nil_of_le (by omega)], ⟨g, by rw [em]⟩, rfl⟩
  rintro k ⟨t, h', s⟩ ⟨hk, he, ⟨g, ht⟩, hh⟩
  simp only at ht hh
  subst ht hh
  cases k with
  | zero =>
    refine (goesT_runs (tabH_ok conN_ok hcV_ok) (ucmp_out _ _ _ _ g) (okOne (decide_eq_false (by omega)))).mono fun e z hz => ?_
    obtain ⟨rfl, ⟨g', z1⟩, z2⟩ := hz
    refine ⟨rfl, ?_, _, g', z1⟩
    simp only [List.drop_zero] at he
    unfold cmpZ
    rw [he]
    simp
  | succ k =>
    have ek : ((k + 1 : Nat) : Int) - 1 = (k : Int) := by omega
    rw [ek]
    have r0 := NA.row (hp2 y x) rfl
    have r1 := NB.row (hp2 y x) rfl
    have d1 := dgN_lt hA k
    have d2 := dgN_lt hB k
    have hg : decide ((k : Int) ≥ 0) = true := decide_eq_true (by omega)
    by_cases h1 : dgN A k < dgN B k
    · have hlt := less_of hA he h1
      refine (goesT_runs (tabH_ok conN_ok hcV_ok) (ucmp_lt p q n c n' c' k x y g) (by
        rw [r0.2, r1.2, atN_nat, atN_nat, ← d1.2, ← d2.2]
        exact okW (decide_eq_true (by omega)) (okW r1.1 (okW r0.1 (okOne hg))))).mono fun e z hz => ?_
      obtain ⟨rfl, ⟨g', z1⟩, z2⟩ := hz
      refine ⟨k, g', ?_⟩
      rw [z1]
      unfold cmpZ
      rw [if_pos hlt]
    · by_cases h2 : dgN B k < dgN A k
      · have hlt := less_of hB he.symm h2
        refine (goesT_runs (tabH_ok conN_ok hcV_ok) (ucmp_gt p q n c n' c' k x y g) (by
          rw [r0.2, r1.2, atN_nat, atN_nat, ← d1.2, ← d2.2]
          exact okW (decide_eq_true (by omega)) (okW r1.1 (okW r0.1 (okW (decide_eq_false (by omega)) (okW r1.1 (okW r0.1 (okOne hg)))))))).mono fun e z hz => ?_
        obtain ⟨rfl, ⟨g', z1⟩, z2⟩ := hz
        refine ⟨k, g', ?_⟩
        rw [z1]
        unfold cmpZ
        rw [if_neg (by omega), if_neg (by omega)]
      · refine (goesT_runs (tabH_ok conN_ok hcV_ok) (ucmp_eq p q n c n' c' k x y g) (by
          rw [r0.2, r1.2, atN_nat, atN_nat, ← d1.2, ← d2.2]
          exact okW (decide_eq_false (by omega)) (okW r1.1 (okW r0.1 (okW (decide_eq_false (by omega)) (okW r1.1 (okW r0.1 (okOne hg)))))))).mono fun e z hz => ?_
        obtain ⟨rfl, ⟨g', z1⟩, z2⟩ := hz
        have e1 : i1 (k : Int) = (k : Int) - 1 := by unfold i1; rw [wrapI (by omega) (by omega)]
        refine ⟨k, by omega, by omega, ?_, ⟨g', by rw [z1, e1]⟩, z2⟩
        rw [vb_drop, vb_drop (L := B), he]
        omega
theorem ucmp_runs (NA : Nu 0 x p n c A) (NB : Nu 1 y q n' c' B) (lA : A.length = n) (lB : B.length = n') (hA : ∀ x ∈ A, Dg 65536 x) (hB : ∀ x ∈ B, Dg 65536 x) (hn : max n n' + 2 < 1073741824) :
    Runs (tabH Tryz.prog extY conN hcV) (seqs (kPre Tryz.f83) (.seq (.seq (kR1 Tryz.f83) (.block 0 (.loop (kLoop Tryz.f83)))) (kEnd Tryz.f83))) ([.slice p n c, .slice q n' c'] ++ List.replicate 28 undef, hp2 y x, []) fun e z => (e = none ∨ e = some none) ∧ resS Tryz.prog Tryz.f83 z.1 z.2.1 = some (.int .i64 (cmpZ (vb 65536 A) (vb 65536 B))) := by
  refine goesT_list (tabH_ok conN_ok hcV_ok) (ucmp_pre _ _ _) (fun x hx => by cases hx) fun g => ?_
  refine Runs.seq (P1 := fun e Y => match e with | none => cmpZ (vb 65536 A) (vb 65536 B) = 0 ∧ ∃ i g, Y.1 = [.slice p n c, .slice q n' c', undef, undef, .int .i64 0, .int .i64 i] ++ tl 24 g | some none => kRet p q n c n' c' A B Y | some (some _) => False) (Runs.seq (P1 := fun e Y => e = none ∧ (∃ g, Y.1 = [.slice p n c, .slice q n' c', undef, undef, .int .i64 0, .int .i64 (mxI n n')] ++ tl 24 g) ∧ Y.2.1 = hp2 y x) (goesT_runs (tabH_ok conN_ok hcV_ok) (ucmp_r1 p q n c n' c' _ g) (fun x hx => by cases hx)) ?_ (fun e y he => by cases he.1)) ?_ ?_
  · rintro ⟨t, h', s⟩ ⟨_, ⟨g', ht⟩, hh⟩
    simp only at ht hh
    subst ht hh
    exact Runs.script (ucmp_loop NA NB lA lB hA hB hn g')
  · rintro ⟨t, h', s⟩ ⟨e0, i, g', ht⟩
    simp only at ht
    subst ht
    refine (goesT_runs (tabH_ok conN_ok hcV_ok) (ucmp_end _ _ i h' g') (fun x hx => by cases hx)).mono fun e z hz => ?_
    obtain ⟨rfl, ⟨g2, z1⟩, z2⟩ := hz
    refine ⟨.inr rfl, ?_⟩
    rw [z1, e0]
    rfl
  · intro e Y he
    match e, he with
    | none, ⟨i, g', h1⟩ =>
      refine ⟨.inr rfl, ?_⟩
      rw [h1]
      rfl
end
def gUcmp : AnsH := fun vals h s =>
  match vals with
  | [.slice p n c, .slice q n' c'] => some (.int .i64 (cmpZ (vO h p n) (vO h q n')), h, s, [(two16 h p q n c n' c', true)])
  | _ => none
theorem gUcmp_ok : AnsHOk 83 gUcmp := by
  intro vals h s v h' s' lg hg hl m B w E hv
  unfold gUcmp at hg
  split at hg
  · rename_i p n c q n' c'
    cases hg
    have q1 := hl _ (List.mem_singleton.2 rfl)
    simp only at q1
    obtain ⟨r1, r2, d1, d2, hn⟩ := two16_of q1
    obtain ⟨x, p', a, NA, eA, fA⟩ := nu_of 0 r1
    obtain ⟨y, q', b, NB, eB, fB⟩ := nu_of 1 r2
    have r := ucmp_runs NA NB (rowOf_len r1) (rowOf_len r2) d1 d2 hn
    have := row_calls0 (T := tabH Tryz.prog extY conN hcV) Tryz.func83 ucmp_body (rows_hp2 NA NB) (vals := [.slice p' n c, .slice q' n' c']) (fun v hv => by
      simp only [List.mem_cons, List.not_mem_nil, or_false] at hv
      rcases hv with rfl | rfl
      · exact NA.lt (by show 0 < 2; omega)
      · exact NB.lt (by show 1 < 2; omega)) (by rfl) r.w E (s := pair a b) (fits_hp2 fA fB)
    simp only [List.map_cons, List.map_nil] at this
    rw [eA _ rfl, eB _ rfl] at this
    exact this
  · cases hg
def nA (F : Func) : Code := cFst (cSnd (cBody F))
def nR3 (F : Func) : Code := cFst (cSnd (cSnd (cBody F)))
def nR4 (F : Func) : Code := cFst (cFst (cSnd (cSnd (cSnd (cBody F)))))
def nLp (F : Func) : Code := cIn (cIn (cSnd (cFst (cSnd (cSnd (cSnd (cBody F)))))))
def nEn (F : Func) : Code := cSnd (cSnd (cSnd (cSnd (cBody F))))
def nPr (F : Func) : List Code := [cFst (cBody F), nA F, nR3 F]
theorem ulen_body : Tryz.f78.body = some (seqs (nPr Tryz.f78) (.seq (.seq (nR4 Tryz.f78) (.block 0 (.loop (nLp Tryz.f78)))) (nEn Tryz.f78))) := by kernel_rfl
theorem ulen_body1 : Tryz.f78.body = some (cBody Tryz.f78) := by kernel_rfl
def n16 (n : Nat) : Int := IntKind.i64.wrap (16 * n1 n)
theorem ulen_pre (o n c : Nat) (h : Hp) : GoesT (evL (tabH Tryz.prog extY conN hcV) 100 (nPr Tryz.f78) ([sl 0 o n c] ++ List.replicate 24 undef, h, [cmp false]) ⟨[], [], []⟩) 4 21 none [sl 0 o n c, undef, .int .i64 0, .int .i64 (n16 n)] h [((n : Int) == 0, false)] := ⟨by kernel_rfl, by kernel_rfl, by kernel_rfl⟩
theorem ulen_r4 (o n c : Nat) (x : Int) (l : List Value) (v : Value) (g : Nat → Value) : GoesT (evC (tabH Tryz.prog extY conN hcV) 100 false (nR4 Tryz.f78) ([sl 0 o n c, undef, .int .i64 0, v] ++ tl 21 g, ⟨1, [(l, tR)]⟩, [at_, val (.int .u32 x)]) ⟨[], [], []⟩) 5 20 none [sl 0 o n c, undef, .int .i64 0, v, .int .u32 x] ⟨1, [(l, tR)]⟩ [(cellIs (l[o + (n1 n).toNat * 1]?) (.int .u32 x), true), (decide (0 ≤ n1 n ∧ n1 n < n), true)] := ⟨by kernel_rfl, by kernel_rfl, by kernel_rfl⟩
theorem ulen_zero (p : Option Addr) (n c : Nat) (h : Hp) : GoesT (evC (tabH Tryz.prog extY conN hcV) 100 false (cBody Tryz.f78) ([.slice p n c] ++ List.replicate 24 undef, h, [cmp true]) ⟨[], [], []⟩) 3 22 (some none) [.slice p n c, undef, .int .i64 0] h [((n : Int) == 0, true)] := ⟨by kernel_rfl, by kernel_rfl, by kernel_rfl⟩
theorem ulen_go (a : Value) (n x : Int) (h : Hp) (g : Nat → Value) : GoesT (evC (tabH Tryz.prog extY conN hcV) 100 false (nLp Tryz.f78) ([a, undef, .int .i64 0, .int .i64 n, .int .u32 x] ++ tl 20 g, h, [cmp true]) ⟨[], [], []⟩) 5 20 none [a, undef, .int .i64 0, .int .i64 (IntKind.i64.wrap (n + 1)), .int .u32 (IntKind.u32.wrap (x.tdiv 2))] h [(decide (x > 0), true)] := ⟨by kernel_rfl, by kernel_rfl, by kernel_rfl⟩
theorem ulen_out (a : Value) (n x : Int) (h : Hp) (g : Nat → Value) : GoesT (evC (tabH Tryz.prog extY conN hcV) 100 false (nLp Tryz.f78) ([a, undef, .int .i64 0, .int .i64 n, .int .u32 x] ++ tl 20 g, h, [cmp false]) ⟨[], [], []⟩) 5 20 (some (some 0)) [a, undef, .int .i64 0, .int .i64 n, .int .u32 x] h [(decide (x > 0), false)] := ⟨by kernel_rfl, by kernel_rfl, by kernel_rfl⟩
theorem ulen_end (a : Value) (n x : Int) (h : Hp) (g : Nat → Value) : GoesT (evC (tabH Tryz.prog extY conN hcV) 100 false (nEn Tryz.f78) ([a, undef, .int .i64 0, .int .i64 n, .int .u32 x] ++ tl 20 g, h, []) ⟨[], [], []⟩) 3 22 (some none) [a, undef, .int .i64 n] h [] := ⟨by kernel_rfl, by kernel_rfl, by kernel_rfl⟩
theorem ulen_loop (a : Value) (n x : Nat) (hn : n + 32 < 4611686018427387904) (hx : x < 4294967296) (h : Hp) (g : Nat → Value) :
    Runs (tabH Tryz.prog extY conN hcV) (.block 0 (.loop (nLp Tryz.f78))) ([a, undef, .int .i64 0, .int .i64 (n : Nat), .int .u32 (x : Nat)] ++ tl 20 g, h, []) fun e Y => match e with | none => (∃ g, Y.1 = [a, undef, .int .i64 0, .int .i64 ((n + bl x : Nat) : Int), .int .u32 0] ++ tl 20 g) ∧ Y.2.1 = h | some none => False | some (some _) => False := by
  refine Runs.forLoop (P := fun Y => (∃ g, Y.1 = [a, undef, .int .i64 0, .int .i64 ((n + bl x : Nat) : Int), .int .u32 0] ++ tl 20 g) ∧ Y.2.1 = h) (R := fun _ => False)
    (fun k Y => ∃ j : Nat, k ≤ x ∧ j + bl k = n + bl x ∧ (∃ g, Y.1 = [a, undef, .int .i64 0, .int .i64 (j : Nat), .int .u32 (k : Nat)] ++ tl 20 g) ∧ Y.2.1 = h) ?_ (n := x) ⟨n, Nat.le_refl _, rfl, ⟨g, rfl⟩, rfl⟩
  rintro k ⟨t, h', s⟩ ⟨j, hk, hj, ⟨g, ht⟩, hh⟩
  simp only at ht hh
  subst ht hh
  have hb : bl x ≤ 32 := bl_le_of (by show x < 2 ^ 32; omega)
  by_cases h0 : k = 0
  · subst h0
    refine (goesT_runs (tabH_ok conN_ok hcV_ok) (ulen_out a j 0 h' g) (okOne rfl)).mono fun e z hz => ?_
    obtain ⟨rfl, ⟨g', z1⟩, z2⟩ := hz
    rw [bl_zero] at hj
    exact ⟨rfl, ⟨g', by rw [z1, show (n + bl x) = j from by omega]⟩, z2⟩
  · refine (goesT_runs (tabH_ok conN_ok hcV_ok) (ulen_go a j k h' g) (okOne (decide_eq_true (by omega)))).mono fun e z hz => ?_
    obtain ⟨rfl, ⟨g', z1⟩, z2⟩ := hz
    have e1 := bl_pos h0
    have e2 : IntKind.i64.wrap ((j : Int) + 1) = ((j + 1 : Nat) : Int) := by rw [wrapI (by omega) (by omega)]; omega
    have e3 : IntKind.u32.wrap ((k : Int).tdiv 2) = ((k / 2 : Nat) : Int) := by rw [Int.tdiv_eq_ediv_of_nonneg (by omega), wrap32 (by omega) (by omega)]; omega
    exact ⟨k / 2, by omega, j + 1, by omega, by omega, ⟨g', by rw [z1, e2, e3]⟩, z2⟩
theorem ulen_runs {l : List Value} {o c : Nat} {L : List Int} (hR : Row l o L) (hC : Canon 65536 L) (h0 : 0 < L.length) (hn : L.length < 1073741824) :
    Runs (tabH Tryz.prog extY conN hcV) (seqs (nPr Tryz.f78) (.seq (.seq (nR4 Tryz.f78) (.block 0 (.loop (nLp Tryz.f78)))) (nEn Tryz.f78))) ([sl 0 o L.length c] ++ List.replicate 24 undef, ⟨1, [(l, tR)]⟩, []) fun e z => (e = none ∨ e = some none) ∧ resS Tryz.prog Tryz.f78 z.1 z.2.1 = some (.int .i64 ((bl (vb 65536 L) : Nat) : Int)) := by
  have ek : n1 L.length = ((L.length - 1 : Nat) : Int) := by
    unfold n1
    rw [wrapI (by omega) (by omega)]
    omega
  have e16 : n16 L.length = ((16 * (L.length - 1) : Nat) : Int) := by
    unfold n16
    rw [ek, wrapI (by omega) (by omega)]
    omega
  have htop : dgN L (L.length - 1) ≠ 0 := by
    rcases trimN_top L with h | h
    · rw [hC.2] at h; omega
    · rw [hC.2] at h
      have := at_dg hC.1 (L.length - 1)
      unfold dgN
      omega
  have hd := dgN_lt hC.1 (L.length - 1)
  have hval : bl (vb 65536 L) = 16 * (L.length - 1) + bl (dgN L (L.length - 1)) := by
    have e := vb_take 65536 L (L.length - 1)
    rw [show L.length - 1 + 1 = L.length by omega, List.take_length] at e
    rw [e]
    exact bl_top htop (take_lt hC.1 _)
  refine goesT_list (tabH_ok conN_ok hcV_ok) (ulen_pre o L.length c _) (okOne (beq_eq_false_iff_ne.2 (by omega))) fun g => ?_
  refine Runs.seq (P1 := fun e Y => match e with | none => (∃ g, Y.1 = [sl 0 o L.length c, undef, .int .i64 0, .int .i64 ((bl (vb 65536 L) : Nat) : Int), .int .u32 0] ++ tl 20 g) ∧ Y.2.1 = ⟨1, [(l, tR)]⟩ | some none => False | some (some _) => False) (Runs.seq (P1 := fun e Y => e = none ∧ (∃ g, Y.1 = [sl 0 o L.length c, undef, .int .i64 0, .int .i64 (n16 L.length), .int .u32 (L.getD (L.length - 1) 0)] ++ tl 20 g) ∧ Y.2.1 = ⟨1, [(l, tR)]⟩) (goesT_runs (tabH_ok conN_ok hcV_ok) (ulen_r4 o L.length c (L.getD (L.length - 1) 0) l _ g) (okTwo (by rw [ek, Int.toNat_natCast, Nat.mul_one, hR.cell (by omega)]; simp [cellIs]) (okOne (by rw [ek]; exact decide_eq_true (by omega))))) ?_ (fun e y he => by cases he.1)) ?_ (fun e Y he => by match e, he with | none, he => exact he.elim | some id, he => exact he.elim)
  · rintro ⟨t, h', s⟩ ⟨_, ⟨g', ht⟩, hh⟩
    simp only at ht hh
    subst ht hh
    rw [e16, ← hd.2]
    refine Runs.script ((ulen_loop _ (16 * (L.length - 1)) (dgN L (L.length - 1)) (by omega) (by omega) _ g').mono fun e Y he => ?_)
    match e, he with
    | none, he => rw [hval]; exact he
  · rintro ⟨t, h', s⟩ ⟨⟨g', ht⟩, hh⟩
    simp only at ht hh
    subst ht hh
    refine (goesT_runs (tabH_ok conN_ok hcV_ok) (ulen_end _ _ _ _ g') (fun x hx => by cases hx)).mono fun e z hz => ?_
    obtain ⟨rfl, ⟨g2, z1⟩, z2⟩ := hz
    refine ⟨.inr rfl, ?_⟩
    rw [z1, z2]
    rfl
/-- a number's row: its parts, the last one not 0 -/
def canB (L : List Int) : Bool := dgB L && Nat.beq (trimN L) L.length
theorem canB_of {L : List Int} (h : canB L = true) : Canon 65536 L := by
  unfold canB at h
  simp only [Bool.and_eq_true] at h
  exact ⟨dgB_of h.1, Nat.eq_of_beq_eq_true h.2⟩
theorem canB_mk {L : List Int} (h : Canon 65536 L) : canB L = true := by
  unfold canB
  rw [dgB_mk h.1, h.2, Nat.beq_refl]
  rfl
def gUlen : AnsH := fun vals h s =>
  match vals with
  | [.slice p n c] => some (.int .i64 ((bl (vO h p n) : Nat) : Int), h, s, [(rowP h p n c && canB (rowOf h p n) && Nat.blt n 1073741824, true)])
  | _ => none
theorem gUlen_ok : AnsHOk 78 gUlen := by
  intro vals h s v h' s' lg hg hl m B w E hv
  unfold gUlen at hg
  split at hg
  · rename_i p n c
    cases hg
    have q := hl _ (List.mem_singleton.2 rfl)
    simp only [Bool.and_eq_true] at q
    obtain ⟨⟨q1, q2⟩, q3⟩ := q
    have q2 := canB_of q2
    have q3 := blt_iff.1 q3
    have hlen := rowOf_len q1
    by_cases hn : n = 0
    · subst hn
      have e0 : rowOf h p 0 = [] := List.length_eq_zero_iff.1 hlen
      have ev : vO h p 0 = 0 := by unfold vO; rw [e0]; rfl
      obtain ⟨x, p', a, NA, eA, fA⟩ := nu_of 0 q1
      have hr : Runs (tabH Tryz.prog extY conN hcV) (cBody Tryz.f78) ([.slice p' 0 c] ++ List.replicate 24 undef, ⟨1, [x]⟩, []) fun e z => (e = none ∨ e = some none) ∧ resS Tryz.prog Tryz.f78 z.1 z.2.1 = some (.int .i64 ((bl (vO h p 0) : Nat) : Int)) := by
        refine (goesT_runs (tabH_ok conN_ok hcV_ok) (ulen_zero p' 0 c _) (okOne rfl)).mono fun e z he => ?_
        obtain ⟨rfl, ⟨g, e2⟩, e3⟩ := he
        refine ⟨.inr rfl, ?_⟩
        rw [e2, e3, ev, bl_zero]
        rfl
      have b1 : ∀ {i : Nat} {z : List Value × TypeId}, (⟨1, [x]⟩ : Hp).blk? i = some z → i = 0 ∧ z = x := fun {i z} hz => by
        have : i < 1 := Hp.blk_lt hz
        have hi : i = 0 := by omega
        subst hi
        exact ⟨rfl, (Option.some.inj hz).symm⟩
      have := row_calls0 (T := tabH Tryz.prog extY conN hcV) Tryz.func78 ulen_body1 (h0 := ⟨1, [x]⟩) ⟨rfl, fun b z hz => by obtain ⟨_, rfl⟩ := b1 hz; exact ⟨NA.ros.1, NA.lt0, NA.ros.2⟩⟩ (vals := [.slice p' 0 c]) (fun v hv => by rw [List.mem_singleton.1 hv]; exact NA.lt (by show 0 < 1; omega)) (by rfl) hr.w E (s := fun _ => a) (fun i z hz ht => by obtain ⟨_, rfl⟩ := b1 hz; exact fA ht)
      simp only [List.map_cons, List.map_nil] at this
      rw [eA _ rfl] at this
      exact this
    · rcases rowP_cases q1 with ⟨rfl, rfl, rfl, e0⟩ | ⟨b, o, x, rfl, hx, r1, _, e0⟩
      · exact absurd rfl hn
      · rw [e0] at q2 hlen
        obtain ⟨h1, h2, h3, h4, h5, h6, h7⟩ := rowC_of r1
        have r := ulen_runs (c := c) h1 q2 (by rw [h2]; omega) (by rw [h2]; exact q3)
        rw [h2] at r
        have ev : vO h (some ⟨b, o, none⟩) n = vb 65536 (cutI x.1 o n) := by unfold vO; rw [e0]
        rw [ev]
        exact row_calls0 (T := tabH Tryz.prog extY conN hcV) Tryz.func78 ulen_body (rows1 h7) (vals := [sl 0 o n c]) (fun v hv => by rw [List.mem_singleton.1 hv]; rfl) (by rfl) r.w E (s := fun _ => b) (fitsR1 hx h5 h6 rfl)
  · cases hg
def sA (F : Func) : Code := cFst (cSnd (cBody F))
def sR (F : Func) : Code := cSnd (cSnd (cBody F))
def sR3 (F : Func) : Code := cFst (sR F)
def sR4 (F : Func) : Code := cFst (cSnd (sR F))
def sR5 (F : Func) : Code := cFst (cFst (cSnd (cSnd (sR F))))
def sL1 (F : Func) : Code := cIn (cIn (cSnd (cFst (cSnd (cSnd (sR F))))))
def sR9 (F : Func) : Code := cFst (cSnd (cSnd (cSnd (sR F))))
def sT (F : Func) : Code := cSnd (cSnd (cSnd (cSnd (sR F))))
def sR10 (F : Func) : Code := cFst (cFst (sT F))
def sL2 (F : Func) : Code := cIn (cIn (cSnd (cFst (sT F))))
def sEn (F : Func) : Code := cSnd (sT F)
def sPr (F : Func) : List Code := [cFst (cBody F), sA F, sR3 F, sR4 F]
theorem ushl_body : Tryz.f64.body = some (seqs (sPr Tryz.f64) (.seq (.seq (sR5 Tryz.f64) (.block 0 (.loop (sL1 Tryz.f64)))) (.seq (sR9 Tryz.f64) (.seq (.seq (sR10 Tryz.f64) (.block 2 (.loop (sL2 Tryz.f64)))) (sEn Tryz.f64))))) := by kernel_rfl
theorem ushl_body1 : Tryz.f64.body = some (cBody Tryz.f64) := by kernel_rfl
def k16 (k : Int) : Int := IntKind.i64.wrap (k.tdiv 16)
def zz (z : Nat) : List Value := List.replicate z (.int .u32 0)
theorem ushl_zero (p : Option Addr) (n c : Nat) (k : Value) (h : Hp) : GoesT (evC (tabH Tryz.prog extY conN hcV) 100 false (cBody Tryz.f64) ([.slice p n c, k] ++ List.replicate 48 undef, h, [cmp true]) ⟨[], [], []⟩) 5 45 (some none) [.slice p n c, k, undef, undef, nilS] h [((n : Int) == 0, true)] := ⟨by kernel_rfl, by kernel_rfl, by kernel_rfl⟩
theorem ushl_pre (o n c : Nat) (k : Int) (x : List Value × TypeId) : GoesT (evL (tabH Tryz.prog extY conN hcV) 100 (sPr Tryz.f64) ([sl 0 o n c, .int .i64 k] ++ List.replicate 48 undef, ⟨1, [x]⟩, [cmp false, at_]) ⟨[], [], []⟩) 7 43 none [sl 0 o n c, .int .i64 k, undef, undef, nilS, sl 1 0 (k16 k).toNat (k16 k).toNat, .int .u32 1] ⟨2, [(zz (k16 k).toNat, tU), x]⟩ [(okMakeB 4 (k16 k) (k16 k), true), ((n : Int) == 0, false)] := ⟨by kernel_rfl, by kernel_rfl, by kernel_rfl⟩
theorem ushl_r5 (a v : Value) (k : Int) (h : Hp) (g : Nat → Value) : GoesT (evC (tabH Tryz.prog extY conN hcV) 100 false (sR5 Tryz.f64) ([a, .int .i64 k, undef, undef, nilS, v, .int .u32 1] ++ tl 43 g, h, []) ⟨[], [], []⟩) 8 42 none [a, .int .i64 k, undef, undef, nilS, v, .int .u32 1, .int .i64 0] h [] := ⟨by kernel_rfl, by kernel_rfl, by kernel_rfl⟩
theorem ushl_l1 (a v : Value) (k b i : Int) (h : Hp) (g : Nat → Value) : GoesT (evC (tabH Tryz.prog extY conN hcV) 100 false (sL1 Tryz.f64) ([a, .int .i64 k, undef, undef, nilS, v, .int .u32 b, .int .i64 i] ++ tl 42 g, h, [cmp true, cmp true]) ⟨[], [], []⟩) 8 42 none [a, .int .i64 k, undef, undef, nilS, v, .int .u32 (IntKind.u32.wrap (2 * b)), .int .i64 (IntKind.i64.wrap (i + 1))] h [(decide (i < k.tmod 16), true), (decide ((16 : Int) = 0), false)] := ⟨by kernel_rfl, by kernel_rfl, by kernel_rfl⟩
theorem ushl_o1 (a v : Value) (k b i : Int) (h : Hp) (g : Nat → Value) : GoesT (evC (tabH Tryz.prog extY conN hcV) 100 false (sL1 Tryz.f64) ([a, .int .i64 k, undef, undef, nilS, v, .int .u32 b, .int .i64 i] ++ tl 42 g, h, [cmp true, cmp false]) ⟨[], [], []⟩) 8 42 (some (some 0)) [a, .int .i64 k, undef, undef, nilS, v, .int .u32 b, .int .i64 i] h [(decide (i < k.tmod 16), false), (decide ((16 : Int) = 0), false)] := ⟨by kernel_rfl, by kernel_rfl, by kernel_rfl⟩
theorem ushl_r9 (a v : Value) (k b i : Int) (h : Hp) (g : Nat → Value) : GoesT (evC (tabH Tryz.prog extY conN hcV) 100 false (sR9 Tryz.f64) ([a, .int .i64 k, undef, undef, nilS, v, .int .u32 b, .int .i64 i] ++ tl 42 g, h, []) ⟨[], [], []⟩) 9 41 none [a, .int .i64 k, undef, undef, nilS, v, .int .u32 b, .int .i64 i, .int .u32 0] h [] := ⟨by kernel_rfl, by kernel_rfl, by kernel_rfl⟩
theorem ushl_r10 (a v : Value) (k b i : Int) (h : Hp) (g : Nat → Value) : GoesT (evC (tabH Tryz.prog extY conN hcV) 100 false (sR10 Tryz.f64) ([a, .int .i64 k, undef, undef, nilS, v, .int .u32 b, .int .i64 i, .int .u32 0] ++ tl 41 g, h, []) ⟨[], [], []⟩) 10 40 none [a, .int .i64 k, undef, undef, nilS, v, .int .u32 b, .int .i64 i, .int .u32 0, .int .i64 0] h [] := ⟨by kernel_rfl, by kernel_rfl, by kernel_rfl⟩
/-- what is carried and one part more -/
def cy (e x b : Int) : Int := IntKind.u32.wrap (e + IntKind.u32.wrap (x * b))
def lAx (l : List Value) (o n : Nat) (i x : Int) : Log := [(decide ((65536 : Int) = 0), false), (cellIs (l[o + i.toNat * 1]?) (.int .u32 x), true), (decide (0 ≤ i ∧ i < n), true), (decide (i < n), true)]
theorem ushl_fst (o n c z z' : Nat) (b e i x : Int) (l lo : List Value) (j1 j7 : Value) (g : Nat → Value) : GoesT (evC (tabH Tryz.prog extY conN hcV) 100 false (sL2 Tryz.f64) ([sl 0 o n c, j1, undef, undef, nilS, sl 1 0 z z', .int .u32 b, j7, .int .u32 e, .int .i64 i] ++ tl 40 g, ⟨2, [(lo, tU), (l, tR)]⟩, [cmp true, at_, val (.int .u32 x), cmp true, num 0]) ⟨[], [], []⟩) 10 40 none [sl 0 o n c, j1, undef, undef, nilS, sl 3 0 (z + 1) grown, .int .u32 b, j7, .int .u32 (IntKind.u32.wrap ((cy e x b).tdiv 65536)), .int .i64 (IntKind.i64.wrap (i + 1))] ⟨4, [(lo ++ [.int .u32 ((cy e x b).tmod 65536)], tU), ([.int .u32 ((cy e x b).tmod 65536)], tU), (lo, tU), (l, tR)]⟩ ((appChz (lo, tU) ([.int .u32 ((cy e x b).tmod 65536)], tU) z z' 0 1, true) :: lAx l o n i x) := ⟨by kernel_rfl, by kernel_rfl, by kernel_rfl⟩
theorem ushl_nxt (o n c z : Nat) (b e i x : Int) (l lo : List Value) (j1 j7 : Value) (g : Nat → Value) : GoesT (evC (tabH Tryz.prog extY conN hcV) 100 false (sL2 Tryz.f64) ([sl 0 o n c, j1, undef, undef, nilS, sl 1 0 z grown, .int .u32 b, j7, .int .u32 e, .int .i64 i] ++ tl 40 g, ⟨2, [(lo, tU), (l, tR)]⟩, [cmp true, at_, val (.int .u32 x), cmp true, at_]) ⟨[], [], []⟩) 10 40 none [sl 0 o n c, j1, undef, undef, nilS, sl 3 0 (z + 1) grown, .int .u32 b, j7, .int .u32 (IntKind.u32.wrap ((cy e x b).tdiv 65536)), .int .i64 (IntKind.i64.wrap (i + 1))] ⟨4, [(lo ++ [.int .u32 ((cy e x b).tmod 65536)], tU), ([.int .u32 ((cy e x b).tmod 65536)], tU), ([], 2 * dead), (l, tR)]⟩ ((appChk tU (lo, tU) ([.int .u32 ((cy e x b).tmod 65536)], tU) z 0 1, true) :: lAx l o n i x) := ⟨by kernel_rfl, by kernel_rfl, by kernel_rfl⟩
theorem ushl_o2 (p : Option Addr) (n c : Nat) (v : Value) (b e i : Int) (h : Hp) (j1 j7 : Value) (g : Nat → Value) : GoesT (evC (tabH Tryz.prog extY conN hcV) 100 false (sL2 Tryz.f64) ([.slice p n c, j1, undef, undef, nilS, v, .int .u32 b, j7, .int .u32 e, .int .i64 i] ++ tl 40 g, h, [cmp false]) ⟨[], [], []⟩) 10 40 (some (some 2)) [.slice p n c, j1, undef, undef, nilS, v, .int .u32 b, j7, .int .u32 e, .int .i64 i] h [(decide (i < n), false)] := ⟨by kernel_rfl, by kernel_rfl, by kernel_rfl⟩
theorem ushl_end (a : Value) (z : Nat) (b e i : Int) (x : List Value × TypeId) (lo : List Value) (j1 j7 : Value) (g : Nat → Value) : GoesT (evC (tabH Tryz.prog extY conN hcV) 100 false (sEn Tryz.f64) ([a, j1, undef, undef, nilS, sl 1 0 z grown, .int .u32 b, j7, .int .u32 e, .int .i64 i] ++ tl 40 g, ⟨2, [(lo, tU), x]⟩, [at_]) ⟨[], [], []⟩) 5 45 (some none) [a, j1, undef, undef, sl 3 0 (trimN (cutI (lo ++ [.int .u32 e]) 0 (z + 1))) (trimN (cutI (lo ++ [.int .u32 e]) 0 (z + 1)))] ⟨4, [(lo ++ [.int .u32 e], tU), ([.int .u32 e], tU), ([], 2 * dead), x]⟩ [(rowC tU (lo ++ [.int .u32 e]) 0 (z + 1) grown, true), (appChk tU (lo, tU) ([.int .u32 e], tU) z 0 1, true)] := ⟨by kernel_rfl, by kernel_rfl, by kernel_rfl⟩
end Go.Proofs.YtjkgnbdeklploaaGreatDoor
