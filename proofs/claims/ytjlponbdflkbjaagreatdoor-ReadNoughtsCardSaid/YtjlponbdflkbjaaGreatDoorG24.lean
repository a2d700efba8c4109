/-
  RdO, Flat
-/
import Derived.Test.YtjlponbdflkbjaaGreatDoorG23
import Derived.Test.YtjlponbdflkbjaaGreatDoorG10
namespace Go.Proofs.YtjlponbdflkbjaaGreatDoor
open Go.KRun Go.Nt Go.Rd Go.Rn
set_option maxRecDepth 100000
def noG (n a b m k x : Int) (E Z : List UInt8) : List Value := [.int .u64 n, ofV a b, .int .i64 m, undef, pO 0, undef, .bool false, .int .i64 k, .int .i64 x, bR E, bR Z]
def noF (n a b m k x : Int) (E Z : List UInt8) (i : Int) : List Value := [.int .u64 n, ofV a b, .int .i64 m, undef, pO 0, undef, .bool false, .int .i64 k, .int .i64 x, bR E, bR Z, .int .i64 i]
def noI (F : Func) : Code := cFst (sP F 6)
def noL (F : Func) : Code := cIn (cIn (cSnd (sP F 6)))
theorem nought_body : Tryz.f5.body = some (seqs [sP Tryz.f5 0, sP Tryz.f5 1, sP Tryz.f5 2, sP Tryz.f5 3, sP Tryz.f5 4, sP Tryz.f5 5] (.seq (.seq (noI Tryz.f5) (.block 0 (.loop (noL Tryz.f5)))) (sK Tryz.f5 7))) := by kernel_rfl
theorem no_i (n a b m k x : Int) (E Z : List UInt8) (g : Nat → Value) : GoesT (evC (tabOf Tryz.prog extY conRM true) 100 false (noI Tryz.f5) (noG n a b m k x E Z ++ tl 141 g, rnM a b, []) ⟨[], [], []⟩) 12 140 none (noF n a b m k x E Z 0) (rnM a b) [] := ⟨by kernel_rfl, by kernel_rfl, by kernel_rfl⟩
theorem no_x (n a b m k x : Int) (E Z : List UInt8) (i : Int) (g : Nat → Value) : GoesT (evC (tabOf Tryz.prog extY conRM true) 100 false (noL Tryz.f5) (noF n a b m k x E Z i ++ tl 140 g, rnM a b, [cmp false]) ⟨[], [], []⟩) 12 140 (some (some 0)) (noF n a b m k x E Z i) (rnM a b) [(decide (i < k), false)] := ⟨by kernel_rfl, by kernel_rfl, by kernel_rfl⟩
theorem no_g (n a b m k x : Int) (E Z : List UInt8) (i : Int) (g : Nat → Value) : GoesT (evC (tabOf Tryz.prog extY conRM true) 100 false (noL Tryz.f5) (noF n a b m k x E Z i ++ tl 140 g, rnM a b, [cmp true, sam true]) ⟨[], [], []⟩) 12 140 none (noF n a b m k x E (Z ++ [48]) (IntKind.i64.wrap (i + 1))) (rnM a b) [(decide (Z.length + 1 ≤ 9223372036854775807), true), (decide (i < k), true)] := ⟨by kernel_rfl, by kernel_rfl, by kernel_rfl⟩
theorem no_pret (n a b m : Int) : GoesT (evL (tabOf Tryz.prog extY conRM true) 100 [sP Tryz.f5 0, sP Tryz.f5 1, sP Tryz.f5 2, sP Tryz.f5 3, sP Tryz.f5 4, sP Tryz.f5 5] ([.int .u64 n, ofV a b, .int .i64 m] ++ List.replicate 149 undef, ⟨0, []⟩, [cmp false, cmp false, cmp true, sam true]) ⟨[], [], []⟩) 11 141 none (noG n a b m (IntKind.i64.wrap ((IntKind.u64.wrap a).tmod 60)) (b.tmod 400) (([45] : List UInt8) ++ (dcL (IntKind.u64.wrap (if IntKind.i64.wrap (0 - (b.tmod 400)) > (b.tmod 400) then IntKind.i64.wrap (0 - (b.tmod 400)) else (b.tmod 400))).toNat)) []) (rnM a b) [(decide (([45] : List UInt8).length + (dcL (IntKind.u64.wrap (if IntKind.i64.wrap (0 - (b.tmod 400)) > (b.tmod 400) then IntKind.i64.wrap (0 - (b.tmod 400)) else (b.tmod 400))).toNat).length ≤ 9223372036854775807), true), (decide ((b.tmod 400) < 0), true), (decide (0 ≤ (IntKind.u64.wrap (if IntKind.i64.wrap (0 - (b.tmod 400)) > (b.tmod 400) then IntKind.i64.wrap (0 - (b.tmod 400)) else (b.tmod 400))) ∧ (IntKind.u64.wrap (if IntKind.i64.wrap (0 - (b.tmod 400)) > (b.tmod 400) then IntKind.i64.wrap (0 - (b.tmod 400)) else (b.tmod 400))) < 18446744073709551616), true), (decide ((400 : Int) = 0), false), (decide ((60 : Int) = 0), false)] := ⟨by kernel_rfl, by kernel_rfl, by kernel_rfl⟩
theorem no_pref (n a b m : Int) : GoesT (evL (tabOf Tryz.prog extY conRM true) 100 [sP Tryz.f5 0, sP Tryz.f5 1, sP Tryz.f5 2, sP Tryz.f5 3, sP Tryz.f5 4, sP Tryz.f5 5] ([.int .u64 n, ofV a b, .int .i64 m] ++ List.replicate 149 undef, ⟨0, []⟩, [cmp false, cmp false, cmp false]) ⟨[], [], []⟩) 11 141 none (noG n a b m (IntKind.i64.wrap ((IntKind.u64.wrap a).tmod 60)) (b.tmod 400) (dcL (IntKind.u64.wrap (if IntKind.i64.wrap (0 - (b.tmod 400)) > (b.tmod 400) then IntKind.i64.wrap (0 - (b.tmod 400)) else (b.tmod 400))).toNat) []) (rnM a b) [(decide ((b.tmod 400) < 0), false), (decide (0 ≤ (IntKind.u64.wrap (if IntKind.i64.wrap (0 - (b.tmod 400)) > (b.tmod 400) then IntKind.i64.wrap (0 - (b.tmod 400)) else (b.tmod 400))) ∧ (IntKind.u64.wrap (if IntKind.i64.wrap (0 - (b.tmod 400)) > (b.tmod 400) then IntKind.i64.wrap (0 - (b.tmod 400)) else (b.tmod 400))) < 18446744073709551616), true), (decide ((400 : Int) = 0), false), (decide ((60 : Int) = 0), false)] := ⟨by kernel_rfl, by kernel_rfl, by kernel_rfl⟩
theorem no_et (n a b m k x : Int) (E Z : List UInt8) (i : Int) (g : Nat → Value) : GoesT (evC (tabOf Tryz.prog extY conRM true) 200 false (sK Tryz.f5 7) (noF n a b m k x E Z i ++ tl 140 g, rnM a b, [sam true, sam true, cmp true, sam true, sam true, sam true, sam true, sam true, cmp true, sam true, sam true, sam true, sam true, cmp true, cmp true, sam true, sam true, sam true, sam true, cmp true, cmp true, cmp true, cmp true, cmp true]) ⟨[], [], []⟩) 7 145 (some none) [.int .u64 n, ofV a b, .int .i64 m, undef, pO 0, undef, .bool true] (rnM a b) [((rdP m ((((([45] : List UInt8) ++ (dcL n.toNat)) ++ Z) ++ ([101] : List UInt8)) ++ E)).2.1 == (rdP m (((([45] : List UInt8) ++ (dcL n.toNat)) ++ ([101] : List UInt8)) ++ (([45] : List UInt8) ++ (dcL (IntKind.u64.wrap (if IntKind.i64.wrap (0 - (IntKind.i64.wrap (x + k))) > (IntKind.i64.wrap (x + k)) then IntKind.i64.wrap (0 - (IntKind.i64.wrap (x + k))) else (IntKind.i64.wrap (x + k)))).toNat)))).2.1, true), ((rdP m ((((([45] : List UInt8) ++ (dcL n.toNat)) ++ Z) ++ ([101] : List UInt8)) ++ E)).1 == (rdP m (((([45] : List UInt8) ++ (dcL n.toNat)) ++ ([101] : List UInt8)) ++ (([45] : List UInt8) ++ (dcL (IntKind.u64.wrap (if IntKind.i64.wrap (0 - (IntKind.i64.wrap (x + k))) > (IntKind.i64.wrap (x + k)) then IntKind.i64.wrap (0 - (IntKind.i64.wrap (x + k))) else (IntKind.i64.wrap (x + k)))).toNat)))).1, true), ((rdP m (((dcL n.toNat) ++ ([101] : List UInt8)) ++ E)).2.1 == (rdP m (((((Z ++ (dcL n.toNat)) ++ ([46] : List UInt8)) ++ Z) ++ ([101] : List UInt8)) ++ E)).2.1, true), ((rdP m (((dcL n.toNat) ++ ([101] : List UInt8)) ++ E)).1 == (rdP m (((((Z ++ (dcL n.toNat)) ++ ([46] : List UInt8)) ++ Z) ++ ([101] : List UInt8)) ++ E)).1, true), (decide ((rdP m (((([45] : List UInt8) ++ (dcL n.toNat)) ++ ([101] : List UInt8)) ++ (([45] : List UInt8) ++ (dcL (IntKind.u64.wrap (if IntKind.i64.wrap (0 - (IntKind.i64.wrap (x + k))) > (IntKind.i64.wrap (x + k)) then IntKind.i64.wrap (0 - (IntKind.i64.wrap (x + k))) else (IntKind.i64.wrap (x + k)))).toNat)))).2.2 = 0), true), (okTx (((([45] : List UInt8) ++ (dcL n.toNat)) ++ ([101] : List UInt8)) ++ (([45] : List UInt8) ++ (dcL (IntKind.u64.wrap (if IntKind.i64.wrap (0 - (IntKind.i64.wrap (x + k))) > (IntKind.i64.wrap (x + k)) then IntKind.i64.wrap (0 - (IntKind.i64.wrap (x + k))) else (IntKind.i64.wrap (x + k)))).toNat))), true), (decide (((([45] : List UInt8) ++ (dcL n.toNat)) ++ ([101] : List UInt8)).length + (([45] : List UInt8) ++ (dcL (IntKind.u64.wrap (if IntKind.i64.wrap (0 - (IntKind.i64.wrap (x + k))) > (IntKind.i64.wrap (x + k)) then IntKind.i64.wrap (0 - (IntKind.i64.wrap (x + k))) else (IntKind.i64.wrap (x + k)))).toNat)).length ≤ 9223372036854775807), true), (decide ((([45] : List UInt8) ++ (dcL n.toNat)).length + ([101] : List UInt8).length ≤ 9223372036854775807), true), (decide (([45] : List UInt8).length + (dcL n.toNat).length ≤ 9223372036854775807), true), (decide (([45] : List UInt8).length + (dcL (IntKind.u64.wrap (if IntKind.i64.wrap (0 - (IntKind.i64.wrap (x + k))) > (IntKind.i64.wrap (x + k)) then IntKind.i64.wrap (0 - (IntKind.i64.wrap (x + k))) else (IntKind.i64.wrap (x + k)))).toNat).length ≤ 9223372036854775807), true), (decide ((IntKind.i64.wrap (x + k)) < 0), true), (decide (0 ≤ (IntKind.u64.wrap (if IntKind.i64.wrap (0 - (IntKind.i64.wrap (x + k))) > (IntKind.i64.wrap (x + k)) then IntKind.i64.wrap (0 - (IntKind.i64.wrap (x + k))) else (IntKind.i64.wrap (x + k)))) ∧ (IntKind.u64.wrap (if IntKind.i64.wrap (0 - (IntKind.i64.wrap (x + k))) > (IntKind.i64.wrap (x + k)) then IntKind.i64.wrap (0 - (IntKind.i64.wrap (x + k))) else (IntKind.i64.wrap (x + k)))) < 18446744073709551616), true), (decide ((rdP m ((((([45] : List UInt8) ++ (dcL n.toNat)) ++ Z) ++ ([101] : List UInt8)) ++ E)).2.2 = 0), true), (okTx ((((([45] : List UInt8) ++ (dcL n.toNat)) ++ Z) ++ ([101] : List UInt8)) ++ E), true), (decide ((((([45] : List UInt8) ++ (dcL n.toNat)) ++ Z) ++ ([101] : List UInt8)).length + E.length ≤ 9223372036854775807), true), (decide (((([45] : List UInt8) ++ (dcL n.toNat)) ++ Z).length + ([101] : List UInt8).length ≤ 9223372036854775807), true), (decide ((([45] : List UInt8) ++ (dcL n.toNat)).length + Z.length ≤ 9223372036854775807), true), (decide (([45] : List UInt8).length + (dcL n.toNat).length ≤ 9223372036854775807), true), (decide ((rdP m (((((Z ++ (dcL n.toNat)) ++ ([46] : List UInt8)) ++ Z) ++ ([101] : List UInt8)) ++ E)).2.2 = 0), true), (okTx (((((Z ++ (dcL n.toNat)) ++ ([46] : List UInt8)) ++ Z) ++ ([101] : List UInt8)) ++ E), true), (decide (((((Z ++ (dcL n.toNat)) ++ ([46] : List UInt8)) ++ Z) ++ ([101] : List UInt8)).length + E.length ≤ 9223372036854775807), true), (decide ((((Z ++ (dcL n.toNat)) ++ ([46] : List UInt8)) ++ Z).length + ([101] : List UInt8).length ≤ 9223372036854775807), true), (decide (((Z ++ (dcL n.toNat)) ++ ([46] : List UInt8)).length + Z.length ≤ 9223372036854775807), true), (decide ((Z ++ (dcL n.toNat)).length + ([46] : List UInt8).length ≤ 9223372036854775807), true), (decide (Z.length + (dcL n.toNat).length ≤ 9223372036854775807), true), (decide ((rdP m (((dcL n.toNat) ++ ([101] : List UInt8)) ++ E)).2.2 = 0), true), (okTx (((dcL n.toNat) ++ ([101] : List UInt8)) ++ E), true), (decide (((dcL n.toNat) ++ ([101] : List UInt8)).length + E.length ≤ 9223372036854775807), true), (decide ((dcL n.toNat).length + ([101] : List UInt8).length ≤ 9223372036854775807), true), (decide (0 ≤ n ∧ n < 18446744073709551616), true)] := ⟨by kernel_rfl, by kernel_rfl, by kernel_rfl⟩
theorem no_ef (n a b m k x : Int) (E Z : List UInt8) (i : Int) (g : Nat → Value) : GoesT (evC (tabOf Tryz.prog extY conRM true) 200 false (sK Tryz.f5 7) (noF n a b m k x E Z i ++ tl 140 g, rnM a b, [sam true, sam true, cmp true, sam true, sam true, sam true, sam true, sam true, cmp true, sam true, sam true, sam true, sam true, cmp true, cmp false, sam true, sam true, sam true, cmp true, cmp true, cmp true, cmp true, cmp true]) ⟨[], [], []⟩) 7 145 (some none) [.int .u64 n, ofV a b, .int .i64 m, undef, pO 0, undef, .bool true] (rnM a b) [((rdP m ((((([45] : List UInt8) ++ (dcL n.toNat)) ++ Z) ++ ([101] : List UInt8)) ++ E)).2.1 == (rdP m (((([45] : List UInt8) ++ (dcL n.toNat)) ++ ([101] : List UInt8)) ++ (dcL (IntKind.u64.wrap (if IntKind.i64.wrap (0 - (IntKind.i64.wrap (x + k))) > (IntKind.i64.wrap (x + k)) then IntKind.i64.wrap (0 - (IntKind.i64.wrap (x + k))) else (IntKind.i64.wrap (x + k)))).toNat))).2.1, true), ((rdP m ((((([45] : List UInt8) ++ (dcL n.toNat)) ++ Z) ++ ([101] : List UInt8)) ++ E)).1 == (rdP m (((([45] : List UInt8) ++ (dcL n.toNat)) ++ ([101] : List UInt8)) ++ (dcL (IntKind.u64.wrap (if IntKind.i64.wrap (0 - (IntKind.i64.wrap (x + k))) > (IntKind.i64.wrap (x + k)) then IntKind.i64.wrap (0 - (IntKind.i64.wrap (x + k))) else (IntKind.i64.wrap (x + k)))).toNat))).1, true), ((rdP m (((dcL n.toNat) ++ ([101] : List UInt8)) ++ E)).2.1 == (rdP m (((((Z ++ (dcL n.toNat)) ++ ([46] : List UInt8)) ++ Z) ++ ([101] : List UInt8)) ++ E)).2.1, true), ((rdP m (((dcL n.toNat) ++ ([101] : List UInt8)) ++ E)).1 == (rdP m (((((Z ++ (dcL n.toNat)) ++ ([46] : List UInt8)) ++ Z) ++ ([101] : List UInt8)) ++ E)).1, true), (decide ((rdP m (((([45] : List UInt8) ++ (dcL n.toNat)) ++ ([101] : List UInt8)) ++ (dcL (IntKind.u64.wrap (if IntKind.i64.wrap (0 - (IntKind.i64.wrap (x + k))) > (IntKind.i64.wrap (x + k)) then IntKind.i64.wrap (0 - (IntKind.i64.wrap (x + k))) else (IntKind.i64.wrap (x + k)))).toNat))).2.2 = 0), true), (okTx (((([45] : List UInt8) ++ (dcL n.toNat)) ++ ([101] : List UInt8)) ++ (dcL (IntKind.u64.wrap (if IntKind.i64.wrap (0 - (IntKind.i64.wrap (x + k))) > (IntKind.i64.wrap (x + k)) then IntKind.i64.wrap (0 - (IntKind.i64.wrap (x + k))) else (IntKind.i64.wrap (x + k)))).toNat)), true), (decide (((([45] : List UInt8) ++ (dcL n.toNat)) ++ ([101] : List UInt8)).length + (dcL (IntKind.u64.wrap (if IntKind.i64.wrap (0 - (IntKind.i64.wrap (x + k))) > (IntKind.i64.wrap (x + k)) then IntKind.i64.wrap (0 - (IntKind.i64.wrap (x + k))) else (IntKind.i64.wrap (x + k)))).toNat).length ≤ 9223372036854775807), true), (decide ((([45] : List UInt8) ++ (dcL n.toNat)).length + ([101] : List UInt8).length ≤ 9223372036854775807), true), (decide (([45] : List UInt8).length + (dcL n.toNat).length ≤ 9223372036854775807), true), (decide ((IntKind.i64.wrap (x + k)) < 0), false), (decide (0 ≤ (IntKind.u64.wrap (if IntKind.i64.wrap (0 - (IntKind.i64.wrap (x + k))) > (IntKind.i64.wrap (x + k)) then IntKind.i64.wrap (0 - (IntKind.i64.wrap (x + k))) else (IntKind.i64.wrap (x + k)))) ∧ (IntKind.u64.wrap (if IntKind.i64.wrap (0 - (IntKind.i64.wrap (x + k))) > (IntKind.i64.wrap (x + k)) then IntKind.i64.wrap (0 - (IntKind.i64.wrap (x + k))) else (IntKind.i64.wrap (x + k)))) < 18446744073709551616), true), (decide ((rdP m ((((([45] : List UInt8) ++ (dcL n.toNat)) ++ Z) ++ ([101] : List UInt8)) ++ E)).2.2 = 0), true), (okTx ((((([45] : List UInt8) ++ (dcL n.toNat)) ++ Z) ++ ([101] : List UInt8)) ++ E), true), (decide ((((([45] : List UInt8) ++ (dcL n.toNat)) ++ Z) ++ ([101] : List UInt8)).length + E.length ≤ 9223372036854775807), true), (decide (((([45] : List UInt8) ++ (dcL n.toNat)) ++ Z).length + ([101] : List UInt8).length ≤ 9223372036854775807), true), (decide ((([45] : List UInt8) ++ (dcL n.toNat)).length + Z.length ≤ 9223372036854775807), true), (decide (([45] : List UInt8).length + (dcL n.toNat).length ≤ 9223372036854775807), true), (decide ((rdP m (((((Z ++ (dcL n.toNat)) ++ ([46] : List UInt8)) ++ Z) ++ ([101] : List UInt8)) ++ E)).2.2 = 0), true), (okTx (((((Z ++ (dcL n.toNat)) ++ ([46] : List UInt8)) ++ Z) ++ ([101] : List UInt8)) ++ E), true), (decide (((((Z ++ (dcL n.toNat)) ++ ([46] : List UInt8)) ++ Z) ++ ([101] : List UInt8)).length + E.length ≤ 9223372036854775807), true), (decide ((((Z ++ (dcL n.toNat)) ++ ([46] : List UInt8)) ++ Z).length + ([101] : List UInt8).length ≤ 9223372036854775807), true), (decide (((Z ++ (dcL n.toNat)) ++ ([46] : List UInt8)).length + Z.length ≤ 9223372036854775807), true), (decide ((Z ++ (dcL n.toNat)).length + ([46] : List UInt8).length ≤ 9223372036854775807), true), (decide (Z.length + (dcL n.toNat).length ≤ 9223372036854775807), true), (decide ((rdP m (((dcL n.toNat) ++ ([101] : List UInt8)) ++ E)).2.2 = 0), true), (okTx (((dcL n.toNat) ++ ([101] : List UInt8)) ++ E), true), (decide (((dcL n.toNat) ++ ([101] : List UInt8)).length + E.length ≤ 9223372036854775807), true), (decide ((dcL n.toNat).length + ([101] : List UInt8).length ≤ 9223372036854775807), true), (decide (0 ≤ n ∧ n < 18446744073709551616), true)] := ⟨by kernel_rfl, by kernel_rfl, by kernel_rfl⟩
/-- behind some noughts -/
def noS (n a b m x : Int) (k : Nat) (E : List UInt8) (i : Nat) (y : Lf) : Prop := i ≤ k ∧ ∃ g, y.1 = noF n a b m k x E (List.replicate i 48) i ++ tl 140 g ∧ y.2.1 = rnM a b
theorem no_round {n a b m x : Int} {k : Nat} {E : List UInt8} (hk : k ≤ 100000) (r : Nat) (y : Lf) (h : ∃ i, r = k - i ∧ noS n a b m x k E i y) :
    Runs (tabOf Tryz.prog extY conRM true) (noL Tryz.f5) y fun e z => match e with | none => ∃ r', r' < r ∧ ∃ i, r' = k - i ∧ noS n a b m x k E i z | some none => False | some (some id') => id' = 0 ∧ noS n a b m x k E k z := by
  have hT := tabY_ok conRM_ok
  obtain ⟨i, hr, hi, g, ht, hh⟩ := h
  obtain ⟨t, h', sc⟩ := y
  simp only at ht hh
  subst ht hh
  by_cases hc : i < k
  · have hg := no_g n a b m k x E (List.replicate i 48) (i : Nat) g
    rw [wN (by omega), ← List.replicate_succ'] at hg
    refine (goesT_runs (s0 := sc) hT hg (okCons (decide_eq_true (by rw [List.length_replicate]; omega)) (okL1 (decide_eq_true (by omega))))).mono fun e z he => ?_
    obtain ⟨rfl, ⟨g', z1⟩, z2⟩ := he
    exact ⟨k - (i + 1), by omega, i + 1, rfl, by omega, g', z1, z2⟩
  · have hik : i = k := by omega
    subst hik
    refine (goesT_runs (s0 := sc) hT (no_x n a b m i x E (List.replicate i 48) (i : Nat) g) (okL1 (decide_eq_false (by omega)))).mono fun e z he => ?_
    obtain ⟨rfl, ⟨g', z1⟩, z2⟩ := he
    exact ⟨rfl, hi, g', z1, z2⟩
theorem mx_eq {x : Int} (h : x.natAbs ≤ 1000) : (IntKind.u64.wrap (if IntKind.i64.wrap (0 - x) > x then IntKind.i64.wrap (0 - x) else x)) = (x.natAbs : Nat) := by
  rw [wrapI (n := 0 - x) (by omega) (by omega)]
  rw [wrapU9 (by split <;> omega) (by split <;> omega)]
  split <;> omega
/-- the law behind its loop -/
theorem no_tail {n a b m x : Int} {k : Nat} (hn : 0 ≤ n ∧ n < 18446744073709551616) (hx : x.natAbs ≤ 399) (hk : k ≤ 59) (g : Nat → Value) (sc : List Dec) : Runs (tabOf Tryz.prog extY conRM true) (sK Tryz.f5 7) (noF n a b m k x (expL x) (List.replicate k 48) k ++ tl 140 g, rnM a b, sc) fun e z => (e = none ∨ e = some none) ∧ resS Tryz.prog Tryz.f5 z.1 z.2.1 = some (.bool true) := by
  have hT := tabY_ok conRM_ok
  obtain ⟨N, hN⟩ : ∃ N : Nat, n = (N : Int) := ⟨n.toNat, by omega⟩
  obtain ⟨q1, q2, q3, q4⟩ := noughts_ok m (n := N) (by omega) (x := x) (by omega) (k := k) (by omega)
  have hl := dcL_len N
  have hlx := expL_len x
  have ey : IntKind.i64.wrap (x + (k : Int)) = x + k := wrapI (by omega) (by omega)
  have em := mx_eq (x := x + k) (by omega)
  have hly := dcL_len (x + (k : Int)).natAbs
  have s1 : dcL N ++ [101] ++ expL x = dcL N ++ 101 :: expL x := by simp
  have s2 : List.replicate k 48 ++ dcL N ++ [46] ++ List.replicate k 48 ++ [101] ++ expL x = List.replicate k 48 ++ dcL N ++ 46 :: (List.replicate k 48 ++ 101 :: expL x) := by simp
  have s3 : [45] ++ dcL N ++ List.replicate k 48 ++ [101] ++ expL x = 45 :: (dcL N ++ List.replicate k 48 ++ 101 :: expL x) := by simp
  have r1 := q1
  have r2 := q2
  have r3 := q3
  rw [← s1] at r1
  rw [← s2] at r2
  rw [← s3] at r3
  have z1 : (rdP m (dcL N ++ [101] ++ expL x)).2.2 = 0 := by rw [r1]; exact rdN_err _ _ _ _
  have z2 : (rdP m (List.replicate k 48 ++ dcL N ++ [46] ++ List.replicate k 48 ++ [101] ++ expL x)).2.2 = 0 := by rw [r2]; exact rdN_err _ _ _ _
  have z3 : (rdP m ([45] ++ dcL N ++ List.replicate k 48 ++ [101] ++ expL x)).2.2 = 0 := by rw [r3]; exact rdN_err _ _ _ _
  have l1 : (dcL N ++ [101] ++ expL x).length ≤ 10000 := by simp only [List.length_append, List.length_cons, List.length_nil]; omega
  have l2 : (List.replicate k 48 ++ dcL N ++ [46] ++ List.replicate k 48 ++ [101] ++ expL x).length ≤ 10000 := by simp only [List.length_append, List.length_cons, List.length_nil, List.length_replicate]; omega
  have l3 : ([45] ++ dcL N ++ List.replicate k 48 ++ [101] ++ expL x).length ≤ 10000 := by simp only [List.length_append, List.length_cons, List.length_nil, List.length_replicate]; omega
  by_cases hy : x + (k : Int) < 0
  · skip
    have s4 : [45] ++ dcL N ++ [101] ++ ([45] ++ dcL (x + (k : Int)).natAbs) = 45 :: (dcL N ++ 101 :: expL (x + k)) := by unfold expL; rw [if_pos hy]; simp
    have r4 := q4
    rw [← s4] at r4
    have z4 : (rdP m ([45] ++ dcL N ++ [101] ++ ([45] ++ dcL (x + (k : Int)).natAbs))).2.2 = 0 := by rw [r4]; exact rdN_err _ _ _ _
    have l4 : ([45] ++ dcL N ++ [101] ++ ([45] ++ dcL (x + (k : Int)).natAbs)).length ≤ 10000 := by simp only [List.length_append, List.length_cons, List.length_nil]; omega
    have hg := no_et n a b m k x (expL x) (List.replicate k 48) (k : Nat) g
    rw [ey, em, Int.toNat_natCast, show n.toNat = N by omega] at hg
    refine (goesT_runs (s0 := sc) hT hg (okCons (beqR_t (by rw [r3, r4])) (okCons (beqR_t (by rw [r3, r4])) (okCons (beqR_t (by rw [r1, r2])) (okCons (beqR_t (by rw [r1, r2])) (okCons (decide_eq_true z4) (okCons (show okTx _ = true from decide_eq_true (.inl l4)) (okCons (decide_eq_true (by simp only [List.length_append, List.length_cons, List.length_nil]; omega)) (okCons (decide_eq_true (by simp only [List.length_append, List.length_cons, List.length_nil]; omega)) (okCons (decide_eq_true (by simp only [List.length_cons, List.length_nil]; omega)) (okCons (decide_eq_true (by simp only [List.length_cons, List.length_nil]; omega)) (okCons (decide_eq_true (by omega)) (okCons (decide_eq_true ⟨by omega, by omega⟩) (okCons (decide_eq_true z3) (okCons (show okTx _ = true from decide_eq_true (.inl l3)) (okCons (decide_eq_true (by simp only [List.length_append, List.length_cons, List.length_nil, List.length_replicate]; omega)) (okCons (decide_eq_true (by simp only [List.length_append, List.length_cons, List.length_nil, List.length_replicate]; omega)) (okCons (decide_eq_true (by simp only [List.length_append, List.length_cons, List.length_nil, List.length_replicate]; omega)) (okCons (decide_eq_true (by simp only [List.length_cons, List.length_nil]; omega)) (okCons (decide_eq_true z2) (okCons (show okTx _ = true from decide_eq_true (.inl l2)) (okCons (decide_eq_true (by simp only [List.length_append, List.length_cons, List.length_nil, List.length_replicate]; omega)) (okCons (decide_eq_true (by simp only [List.length_append, List.length_cons, List.length_nil, List.length_replicate]; omega)) (okCons (decide_eq_true (by simp only [List.length_append, List.length_cons, List.length_nil, List.length_replicate]; omega)) (okCons (decide_eq_true (by simp only [List.length_append, List.length_cons, List.length_nil, List.length_replicate]; omega)) (okCons (decide_eq_true (by simp only [List.length_replicate]; omega)) (okCons (decide_eq_true z1) (okCons (show okTx _ = true from decide_eq_true (.inl l1)) (okCons (decide_eq_true (by simp only [List.length_append, List.length_cons, List.length_nil]; omega)) (okCons (decide_eq_true (by simp only [List.length_cons, List.length_nil]; omega)) (okL1 (decide_eq_true hn)))))))))))))))))))))))))))))))).mono fun e z he => ?_
    obtain ⟨rfl, ⟨g2, y1⟩, y2⟩ := he
    exact ⟨.inr rfl, by rw [y1, y2]; rfl⟩
  · skip
    have s4 : [45] ++ dcL N ++ [101] ++ dcL (x + (k : Int)).natAbs = 45 :: (dcL N ++ 101 :: expL (x + k)) := by unfold expL; rw [if_neg hy]; simp
    have r4 := q4
    rw [← s4] at r4
    have z4 : (rdP m ([45] ++ dcL N ++ [101] ++ dcL (x + (k : Int)).natAbs)).2.2 = 0 := by rw [r4]; exact rdN_err _ _ _ _
    have l4 : ([45] ++ dcL N ++ [101] ++ dcL (x + (k : Int)).natAbs).length ≤ 10000 := by simp only [List.length_append, List.length_cons, List.length_nil]; omega
    have hg := no_ef n a b m k x (expL x) (List.replicate k 48) (k : Nat) g
    rw [ey, em, Int.toNat_natCast, show n.toNat = N by omega] at hg
    refine (goesT_runs (s0 := sc) hT hg (okCons (beqR_t (by rw [r3, r4])) (okCons (beqR_t (by rw [r3, r4])) (okCons (beqR_t (by rw [r1, r2])) (okCons (beqR_t (by rw [r1, r2])) (okCons (decide_eq_true z4) (okCons (show okTx _ = true from decide_eq_true (.inl l4)) (okCons (decide_eq_true (by simp only [List.length_append, List.length_cons, List.length_nil]; omega)) (okCons (decide_eq_true (by simp only [List.length_append, List.length_cons, List.length_nil]; omega)) (okCons (decide_eq_true (by simp only [List.length_cons, List.length_nil]; omega)) (okCons (decide_eq_false (by omega)) (okCons (decide_eq_true ⟨by omega, by omega⟩) (okCons (decide_eq_true z3) (okCons (show okTx _ = true from decide_eq_true (.inl l3)) (okCons (decide_eq_true (by simp only [List.length_append, List.length_cons, List.length_nil, List.length_replicate]; omega)) (okCons (decide_eq_true (by simp only [List.length_append, List.length_cons, List.length_nil, List.length_replicate]; omega)) (okCons (decide_eq_true (by simp only [List.length_append, List.length_cons, List.length_nil, List.length_replicate]; omega)) (okCons (decide_eq_true (by simp only [List.length_cons, List.length_nil]; omega)) (okCons (decide_eq_true z2) (okCons (show okTx _ = true from decide_eq_true (.inl l2)) (okCons (decide_eq_true (by simp only [List.length_append, List.length_cons, List.length_nil, List.length_replicate]; omega)) (okCons (decide_eq_true (by simp only [List.length_append, List.length_cons, List.length_nil, List.length_replicate]; omega)) (okCons (decide_eq_true (by simp only [List.length_append, List.length_cons, List.length_nil, List.length_replicate]; omega)) (okCons (decide_eq_true (by simp only [List.length_append, List.length_cons, List.length_nil, List.length_replicate]; omega)) (okCons (decide_eq_true (by simp only [List.length_replicate]; omega)) (okCons (decide_eq_true z1) (okCons (show okTx _ = true from decide_eq_true (.inl l1)) (okCons (decide_eq_true (by simp only [List.length_append, List.length_cons, List.length_nil]; omega)) (okCons (decide_eq_true (by simp only [List.length_cons, List.length_nil]; omega)) (okL1 (decide_eq_true hn))))))))))))))))))))))))))))))).mono fun e z he => ?_
    obtain ⟨rfl, ⟨g2, y1⟩, y2⟩ := he
    exact ⟨.inr rfl, by rw [y1, y2]; rfl⟩
theorem nought_calls (n a b m : Int) (hn : 0 ≤ n ∧ n < 18446744073709551616) (w : World) : Calls Tryz.prog 5 #[.int .u64 n, ofV a b, .int .i64 m] w fun e w' => e = .returned (.bool true) ∧ Tidy w w' := by
  have hT := tabY_ok conRM_ok
  refine calls_of_runs (T := (tabOf Tryz.prog extY conRM true)) Tryz.func5 nought_body (by rfl) (by rfl) ?_ w
  have ha : 0 ≤ IntKind.u64.wrap a := by simp [IntKind.wrap, IntKind.bits, IntKind.signed]; omega
  obtain ⟨k, hk, hk2⟩ : ∃ k : Nat, (IntKind.i64.wrap ((IntKind.u64.wrap a).tmod 60)) = (k : Int) ∧ k < 60 := by
    have h1 : (IntKind.u64.wrap a).tmod 60 = IntKind.u64.wrap a % 60 := Int.tmod_eq_emod_of_nonneg ha
    refine ⟨(IntKind.u64.wrap a % 60).toNat, ?_, by omega⟩
    rw [h1, wrapI (by omega) (by omega)]
    omega
  obtain ⟨x, hx⟩ : ∃ x, x = b.tmod 400 := ⟨_, rfl⟩
  have hx2 : x.natAbs ≤ 399 := by
    have h1 := Int.tmod_lt_of_pos b (show (0 : Int) < 400 by omega)
    have h2 := Int.lt_tmod_of_pos b (show (0 : Int) < 400 by omega)
    omega
  have em := mx_eq (x := x) (by omega)
  have hlx := dcL_len x.natAbs
  have main : ∀ g : Nat → Value, Runs (tabOf Tryz.prog extY conRM true) (.seq (.seq (noI Tryz.f5) (.block 0 (.loop (noL Tryz.f5)))) (sK Tryz.f5 7)) (noG n a b m k x (expL x) [] ++ tl 141 g, rnM a b, []) fun e z => (e = none ∨ e = some none) ∧ resS Tryz.prog Tryz.f5 z.1 z.2.1 = some (.bool true) := fun g => by
    refine Runs.seq (P1 := fun e y => match e with | none => noS n a b m x k (expL x) k y | some none => False | some (some _) => False) ?_ ?_ (fun e y he => by match e, he with | none, he => exact he.elim | some _, he => exact he.elim)
    · refine Runs.seq (goesT_runs hT (no_i n a b m k x (expL x) [] g) okN9R) ?_ (fun e y he => by cases he.1)
      rintro ⟨t, hh, sc⟩ ⟨_, ⟨g', e1⟩, e2⟩
      exact Runs.forLoop (R := fun _ => False) (P := noS n a b m x k (expL x) k) (fun r y => ∃ i, r = k - i ∧ noS n a b m x k (expL x) i y) (no_round (by omega)) (n := k) ⟨0, by omega, by omega, g', e1, e2⟩
    · rintro ⟨t, hh, sc⟩ ⟨_, g', e1, e2⟩
      simp only at e1 e2
      subst e1 e2
      exact no_tail hn hx2 (by omega) g' sc
  by_cases h0 : x < 0
  · have hp := no_pret n a b m
    rw [hk, ← hx, em, Int.toNat_natCast] at hp
    refine goesT_list hT hp (okCons (decide_eq_true (by simp only [List.length_cons, List.length_nil]; omega)) (okCons (decide_eq_true (by omega)) (okCons (decide_eq_true ⟨by omega, by omega⟩) (okCons (by decide) (okL1 (by decide)))))) fun g => ?_
    have := main g
    unfold expL at this
    rw [if_pos h0] at this
    exact this
  · have hp := no_pref n a b m
    rw [hk, ← hx, em, Int.toNat_natCast] at hp
    refine goesT_list hT hp (okCons (decide_eq_false (by omega)) (okCons (decide_eq_true ⟨by omega, by omega⟩) (okCons (by decide) (okL1 (by decide))))) fun g => ?_
    have := main g
    unfold expL at this
    rw [if_neg h0] at this
    exact this
end Go.Proofs.YtjlponbdflkbjaaGreatDoor
namespace Go.KRun
open Go.ChangeShapes Go.WideShapes Go.ChangeAt Go.RowKit Go.Joins
/-- cells of known kinds: 'none': a truth -/
def okC : List (Option IntKind) → List Value → Prop
  | [], [] => True
  | none :: l, v :: vs => (∃ b, v = .bool b) ∧ okC l vs
  | some k :: l, v :: vs => (∃ n, v = .int k n ∧ (Lit.int k n).wf = true) ∧ okC l vs
  | _, _ => False
theorem okC_append : ∀ {l1 : List (Option IntKind)} {v1 : List Value} {l2 : List (Option IntKind)} {v2 : List Value}, okC l1 v1 → okC l2 v2 → okC (l1 ++ l2) (v1 ++ v2)
  | [], [], _, _, _, h2 => by simpa using h2
  | none :: l, v :: vs, _, _, h1, h2 => ⟨h1.1, okC_append (l1 := l) (v1 := vs) h1.2 h2⟩
  | some k :: l, v :: vs, _, _, h1, h2 => ⟨h1.1, okC_append (l1 := l) (v1 := vs) h1.2 h2⟩
  | [], _ :: _, _, _, h1, _ => h1.elim
  | none :: _, [], _, _, h1, _ => h1.elim
  | some _ :: _, [], _, _, h1, _ => h1.elim
theorem okC_length : ∀ {l : List (Option IntKind)} {vs : List Value}, okC l vs → vs.length = l.length
  | [], [], _ => rfl
  | none :: l, v :: vs, h => by simp [okC_length (l := l) h.2]
  | some k :: l, v :: vs, h => by simp [okC_length (l := l) h.2]
  | [], _ :: _, h => h.elim
  | none :: _, [], h => h.elim
  | some _ :: _, [], h => h.elim
def leavesF (P : Program) (q : TypeId → Option (List (Option IntKind))) : Nat → List Field → Option (List (Option IntKind))
  | _, [] => some []
  | off, f :: fs =>
    match q f.type with
    | some l =>
      if (Nat.beq f.offset off && Nat.beq (P.cellsOf f.type) l.length) = true then
        match leavesF P q (off + l.length) fs with
        | some r => some (l ++ r)
        | none => none
      else none
    | none => none
def leavesA (P : Program) (e : TypeId) (l : List (Option IntKind)) : Nat → List (Option IntKind)
  | 0 => []
  | n + 1 => l ++ leavesA P e l n
/-- the kinds of a type's cells -/
def leaves (P : Program) : Nat → TypeId → Option (List (Option IntKind))
  | 0, _ => none
  | n + 1, t =>
    match P.underlying t with
    | some .bool => some [none]
    | some (.int k) => some [some k]
    | some (.struct fs) =>
      match leavesF P (leaves P n) 0 fs.toList with
      | some l => if Nat.beq (P.cellsOf t) l.length = true then some l else none
      | none => none
    | some (.array m e) =>
      match leaves P n e with
      | some l => if (Nat.beq (P.cellsOf e) l.length && Nat.beq (P.cellsOf t) (leavesA P e l m).length) = true then some (leavesA P e l m) else none
      | none => none
    | _ => none
theorem cut_cs {α : Type} (cs : List α) (off a b : Nat) : ((cs.drop off).take (a + b)) = ((cs.drop off).take a) ++ ((cs.drop (off + a)).take b) := by
  rw [List.take_add, List.drop_drop]
section
variable {H : Type} {enc : TypeId × Value → H} {P : Program}
/-- what is said of a type's reading -/
def FlatAt (enc : TypeId × Value → H) (P : Program) (t : TypeId) (L : List (Option IntKind)) : Prop :=
  ∀ w base spare held fuel cs x, DataW.trod enc P w base spare held fuel t cs = some x → okC L cs ∧ x.2 = [] ∧ ∀ w' base' spare' held', DataW.trod enc P w' base' spare' held' fuel t cs = some x
theorem flat_fields {q : TypeId → Option (List (Option IntKind))} (hq : ∀ t L, q t = some L → FlatAt enc P t L) {w : World} {base : Nat} {spare : Nat → Bool} {held : Bool} {fuel : Nat} {cs : List Value} :
    ∀ (fs : List Field) (off : Nat) (L : List (Option IntKind)), leavesF P q off fs = some L → ∀ xs, fs.mapM (fun f => DataW.trod enc P w base spare held fuel f.type ((cs.drop f.offset).take (P.cellsOf f.type))) = some xs →
      okC L ((cs.drop off).take L.length) ∧ xs.flatMap (·.2) = [] ∧ ∀ w' base' spare' held', fs.mapM (fun f => DataW.trod enc P w' base' spare' held' fuel f.type ((cs.drop f.offset).take (P.cellsOf f.type))) = some xs
  | [], off, L, hL, xs, hx => by
    simp only [leavesF] at hL
    cases hL
    simp at hx
    subst hx
    exact ⟨by simp [okC], by simp, fun _ _ _ _ => by simp⟩
  | f :: fs, off, L, hL, xs, hx => by
    unfold leavesF at hL
    split at hL
    · rename_i l hl
      split at hL
      · rename_i hc
        simp only [Bool.and_eq_true] at hc
        have ho := Nat.eq_of_beq_eq_true hc.1
        have hs := Nat.eq_of_beq_eq_true hc.2
        split at hL
        · rename_i r hr
          cases hL
          rw [List.mapM_cons] at hx
          simp only [bind, Option.bind_eq_some_iff, pure, Option.some.injEq] at hx
          obtain ⟨y, hy, ys, hys, rfl⟩ := hx
          obtain ⟨a1, a2, a3⟩ := hq _ _ hl _ _ _ _ _ _ _ hy
          obtain ⟨b1, b2, b3⟩ := flat_fields hq fs (off + l.length) r hr ys hys
          rw [ho, hs] at a1
          refine ⟨?_, ?_, fun w' base' spare' held' => ?_⟩
          · rw [List.length_append, cut_cs]
            exact okC_append a1 b1
          · simp [a2, b2]
          · rw [List.mapM_cons, a3 w' base' spare' held', b3 w' base' spare' held']
            rfl
        · cases hL
      · cases hL
    · cases hL
theorem flat_items {e : TypeId} {l : List (Option IntKind)} (hl : FlatAt enc P e l) (hs : P.cellsOf e = l.length) {w : World} {base : Nat} {spare : Nat → Bool} {held : Bool} {fuel : Nat} {cs : List Value} :
    ∀ (n k : Nat) xs, (List.range' k n).mapM (fun i => DataW.trod enc P w base spare held fuel e ((cs.drop (i * P.cellsOf e)).take (P.cellsOf e))) = some xs →
      okC (leavesA P e l n) ((cs.drop (k * l.length)).take (leavesA P e l n).length) ∧ xs.flatMap (·.2) = [] ∧ ∀ w' base' spare' held', (List.range' k n).mapM (fun i => DataW.trod enc P w' base' spare' held' fuel e ((cs.drop (i * P.cellsOf e)).take (P.cellsOf e))) = some xs
  | 0, k, xs, hx => by
    simp at hx
    subst hx
    exact ⟨by simp [leavesA, okC], by simp, fun _ _ _ _ => by simp⟩
  | n + 1, k, xs, hx => by
    rw [List.range'_succ, List.mapM_cons] at hx
    simp only [bind, Option.bind_eq_some_iff, pure, Option.some.injEq] at hx
    obtain ⟨y, hy, ys, hys, rfl⟩ := hx
    obtain ⟨a1, a2, a3⟩ := hl _ _ _ _ _ _ _ hy
    obtain ⟨b1, b2, b3⟩ := flat_items hl hs n (k + 1) ys hys
    rw [hs] at a1
    refine ⟨?_, ?_, fun w' base' spare' held' => ?_⟩
    · show okC (l ++ leavesA P e l n) _
      rw [show (leavesA P e l (n + 1)).length = l.length + (leavesA P e l n).length by simp [leavesA], cut_cs]
      rw [Nat.add_mul, Nat.one_mul] at b1
      exact okC_append a1 b1
    · simp [a2, b2]
    · rw [List.range'_succ, List.mapM_cons, a3 w' base' spare' held', b3 w' base' spare' held']
      rfl
theorem flat_ok : ∀ (n : Nat) (t : TypeId) (L : List (Option IntKind)), leaves P n t = some L → FlatAt enc P t L
  | 0, t, L, h => by simp [leaves] at h
  | n + 1, t, L, h => by
    intro w base spare held fuel cs x hx
    cases fuel with
    | zero => simp [DataW.trod] at hx
    | succ fuel =>
      unfold leaves at h
      split at h
      · rename_i hu
        cases h
        obtain ⟨b, rfl, rfl⟩ := DataW.trod_bool hu hx
        exact ⟨⟨⟨b, rfl⟩, trivial⟩, rfl, fun _ _ _ _ => by simp [DataW.trod, hu]⟩
      · rename_i k hu
        cases h
        obtain ⟨a, rfl, rfl, hw⟩ := DataW.trod_int hu hx
        exact ⟨⟨⟨a, rfl, hw⟩, trivial⟩, rfl, fun _ _ _ _ => by simp [DataW.trod, hu, hw]⟩
      · rename_i fs hu
        split at h
        · rename_i l hl
          split at h
          · rename_i hc
            cases h
            have hc := Nat.eq_of_beq_eq_true hc
            have key : ∀ (w : World) (base : Nat) (spare : Nat → Bool) (held : Bool), DataW.trod enc P w base spare held (fuel + 1) t cs = if cs.length = P.cellsOf t then (fs.toList.mapM fun f => DataW.trod enc P w base spare held fuel f.type ((cs.drop f.offset).take (P.cellsOf f.type))).map fun xs => (.agg (xs.map (·.1)), xs.flatMap (·.2)) else none := fun w base spare held => by
              rw [DataW.trod.eq_def]
              simp only [hu]
            rw [key] at hx
            split at hx
            · rename_i hlen
              simp only [Option.map_eq_some_iff] at hx
              obtain ⟨xs, hxs, rfl⟩ := hx
              obtain ⟨b1, b2, b3⟩ := flat_fields (fun t L h => flat_ok n t L h) fs.toList 0 L hl xs hxs
              refine ⟨?_, b2, fun w' base' spare' held' => ?_⟩
              · rw [List.drop_zero, ← hc, ← hlen, List.take_length] at b1
                exact b1
              · rw [key, if_pos hlen, b3]
                rfl
            · cases hx
          · cases h
        · cases h
      · rename_i m e hu
        split at h
        · rename_i l hl
          split at h
          · rename_i hc
            cases h
            simp only [Bool.and_eq_true] at hc
            have hs := Nat.eq_of_beq_eq_true hc.1
            have hc := Nat.eq_of_beq_eq_true hc.2
            have key : ∀ (w : World) (base : Nat) (spare : Nat → Bool) (held : Bool), DataW.trod enc P w base spare held (fuel + 1) t cs = if cs.length = P.cellsOf t then ((List.range m).mapM fun i => DataW.trod enc P w base spare held fuel e ((cs.drop (i * P.cellsOf e)).take (P.cellsOf e))).map fun xs => (.agg (xs.map (·.1)), xs.flatMap (·.2)) else none := fun w base spare held => by
              rw [DataW.trod.eq_def]
              simp only [hu]
            rw [key] at hx
            split at hx
            · rename_i hlen
              simp only [Option.map_eq_some_iff] at hx
              obtain ⟨xs, hxs, rfl⟩ := hx
              rw [List.range_eq_range'] at hxs
              obtain ⟨b1, b2, b3⟩ := flat_items (flat_ok n e l hl) hs m 0 xs hxs
              refine ⟨?_, b2, fun w' base' spare' held' => ?_⟩
              · rw [Nat.zero_mul, List.drop_zero, ← hc, ← hlen, List.take_length] at b1
                exact b1
              · rw [key, if_pos hlen, List.range_eq_range', b3]
                rfl
            · cases hx
          · cases h
        · cases h
      · cases h
/-- a flat argument: its cells, no places, and it reads so everywhere -/
theorem flat_open {w : World} {base : Nat} {spare : Nat → Bool} {held : Bool} {t : TypeId} {v : Value} {d : DataW H} {p : List MemPlace} {L : List (Option IntKind)} (hL : leaves P 6 t = some L) (h : DataW.Trod enc P w base spare held t v d p) :
    okC L v.cells.toList ∧ p = [] ∧ ∀ w' base' spare' held', DataW.Trod enc P w' base' spare' held' t v d [] := by
  obtain ⟨fuel, hf⟩ := h
  obtain ⟨h1, h2, h3⟩ := flat_ok 6 t L hL _ _ _ _ _ _ _ hf
  simp only at h2
  subst h2
  exact ⟨h1, rfl, fun w' base' spare' held' => ⟨fuel, h3 w' base' spare' held'⟩⟩
theorem agg_array {r : Go.Reach} {w : World} {b0 : Nat} {t e : TypeId} {n : Nat} {v : Value} (hu : P.underlying t = some (.array n e)) (hv : Value.okWide P w r b0 t v) : ∃ cs : Array Value, v = .agg cs := by
  have hv' := hv
  simp only [Value.okWide, hu] at hv'
  obtain ⟨cs, h, _⟩ := hv'
  exact ⟨cs, h⟩
end
end Go.KRun
