/-
  The document's own bits: tillerref01.Bit, and tillerref01.bitsOf, as calls: what they answer of any number, in every world.
-/
import Derived.Test.YtdahpclbjeeeiaaDoorConR1
namespace Go.Proofs.YtdahpclbjeeeiaaDoor
open Go.KRun Go.Wd

theorem word_bit {x : W4} (hx : x.ok) {n : Int} (h0 : 0 ≤ n) (_h1 : n ≤ 255) :
    (n / 64 = 0 → x.a / 2 ^ (n % 64).toNat % 2 = x.val / 2 ^ n.toNat % 2) ∧ (n / 64 = 1 → x.b / 2 ^ (n % 64).toNat % 2 = x.val / 2 ^ n.toNat % 2) ∧
    (n / 64 = 2 → x.c / 2 ^ (n % 64).toNat % 2 = x.val / 2 ^ n.toNat % 2) ∧ (n / 64 = 3 → x.d / 2 ^ (n % 64).toNat % 2 = x.val / 2 ^ n.toNat % 2) := by
  obtain ⟨k1, k2, k3, k4⟩ := hx
  have P := parts n
  have key : ∀ {a : Int}, (0 ≤ a ∧ a < 18446744073709551616) → andd (dn' a n) = x.val / 2 ^ n.toNat % 2 → a / 2 ^ (n % 64).toNat % 2 = x.val / 2 ^ n.toNat % 2 := fun {a} ha h => by
    have bd := div_bd ha (n % 64).toNat
    rw [dn'_eq h0 P, andd_eq bd.1 bd.2] at h
    exact h
  refine ⟨fun hj => ?_, fun hj => ?_, fun hj => ?_, fun hj => ?_⟩
  · obtain ⟨e1, _⟩ := shr0_eq (x := x) ⟨k1, k2, k3, k4⟩ h0 hj
    exact key k1 (low_bit h0 k1 k2 (by rw [← e1]; rfl))
  · obtain ⟨e1, _⟩ := shr1_eq (x := x) ⟨k1, k2, k3, k4⟩ h0 hj
    exact key k2 (low_bit h0 k2 k3 (by rw [← e1]; rfl))
  · obtain ⟨e1, _⟩ := shr2_eq (x := x) ⟨k1, k2, k3, k4⟩ h0 hj
    exact key k3 (low_bit h0 k3 k4 (by rw [← e1]; rfl))
  · obtain ⟨e1, _⟩ := shr3_eq (x := x) ⟨k1, k2, k3, k4⟩ h0 hj
    exact key k4 (low_bit' h0 k4 (by rw [← e1]; rfl))

theorem rbit_low (x : W4) (n : Int) : Fits (reckon (tabOf Tryd.prog extY conN true) 3000 19 [vW x, .int .i64 n] [cmp true]) (.int .i64 0) [(decide (n < 0), true)] := ⟨by kernel_rfl, by kernel_rfl, by kernel_rfl, by kernel_rfl⟩
theorem rbit_high (x : W4) (n : Int) : Fits (reckon (tabOf Tryd.prog extY conN true) 3000 19 [vW x, .int .i64 n] [cmp false, cmp true]) (.int .i64 0) [(decide (n > 255), true), (decide (n < 0), false)] := ⟨by kernel_rfl, by kernel_rfl, by kernel_rfl, by kernel_rfl⟩
def rbitV4 (x : W4) (n : Int) : Value := .int .i64 (bitI x n)
theorem bLog_ok {n k : Int} (h1 : ¬ n < 0) (h2 : ¬ 255 < n) (h3 : n / 64 = k) : okLog (bLog n k) := by
  refine okCons (by rfl) (okCons (decide_eq_true ?_) (okCons (decide_eq_false h2) (okL1 (decide_eq_false h1))))
  rw [Int.tdiv_eq_ediv_of_nonneg (by omega), wrap_i64' (by omega) (by omega)]
  exact h3
set_option maxRecDepth 100000 in
theorem rbit_calls (x : W4) (n : Int) (hx : x.ok) (_h0 : -9223372036854775808 ≤ n) (_h9 : n ≤ 9223372036854775807) (w : World) : Calls Tryd.prog 19 #[vW x, .int .i64 n] w fun e w' => e = .returned (rbitV4 x n) ∧ Tidy w w' := by
  unfold rbitV4 bitI
  by_cases h1 : n < 0
  · rw [if_pos h1]
    exact fits_calls (tabY_ok conN_ok) (rbit_low x n) (okL1 (decide_eq_true h1)) (by rfl) (by rfl) w
  · rw [if_neg h1]
    by_cases h2 : 256 ≤ n
    · rw [if_pos h2]
      exact fits_calls (tabY_ok conN_ok) (rbit_high x n) (okCons (decide_eq_true (by omega)) (okL1 (decide_eq_false h1))) (by rfl) (by rfl) w
    · rw [if_neg h2]
      have hn : 0 ≤ n := by omega
      have h3 : ¬ 255 < n := by omega
      obtain ⟨b0, b1, b2, b3⟩ := word_bit hx hn (by omega)
      obtain ⟨k1, k2, k3, k4⟩ := hx
      have hj : n / 64 = 0 ∨ n / 64 = 1 ∨ n / 64 = 2 ∨ n / 64 = 3 := by omega
      rcases hj with hj | hj | hj | hj
      · rw [← b0 hj]
        exact calls_of_runs (T := (tabOf Tryd.prog extY conN true)) Tryd.func19 bit_body (vals := [vW x, .int .i64 n]) (by rfl) (by rfl)
          (goes_list (tabY_ok conN_ok) (bit_pre0 x n) (bLog_ok h1 h3 hj) (bit_rest n x.a hn k1 (bHp x) (vW x) (.pointer (some ⟨0, 0, none⟩)) undef (.int .i64 0) undef [.int .i64 n, .bool false, .bool false, .int .i64 n, .bool false, .bool false, .int .i64 n, .int .i64 0, .pointer (some ⟨0, 0, none⟩), .int .u64 x.a, undef, undef, undef, undef, undef, undef, undef, undef, undef, undef, undef] rfl)) w
      · rw [← b1 hj]
        exact calls_of_runs (T := (tabOf Tryd.prog extY conN true)) Tryd.func19 bit_body (vals := [vW x, .int .i64 n]) (by rfl) (by rfl)
          (goes_list (tabY_ok conN_ok) (bit_pre1 x n) (bLog_ok h1 h3 hj) (bit_rest n x.b hn k2 (bHp x) (vW x) (.pointer (some ⟨0, 0, none⟩)) undef (.int .i64 0) undef [.int .i64 n, .bool false, .bool false, .int .i64 n, .bool false, .bool false, .int .i64 n, .int .i64 1, .pointer (some ⟨0, 1, none⟩), .int .u64 x.b, undef, undef, undef, undef, undef, undef, undef, undef, undef, undef, undef] rfl)) w
      · rw [← b2 hj]
        exact calls_of_runs (T := (tabOf Tryd.prog extY conN true)) Tryd.func19 bit_body (vals := [vW x, .int .i64 n]) (by rfl) (by rfl)
          (goes_list (tabY_ok conN_ok) (bit_pre2 x n) (bLog_ok h1 h3 hj) (bit_rest n x.c hn k3 (bHp x) (vW x) (.pointer (some ⟨0, 0, none⟩)) undef (.int .i64 0) undef [.int .i64 n, .bool false, .bool false, .int .i64 n, .bool false, .bool false, .int .i64 n, .int .i64 2, .pointer (some ⟨0, 2, none⟩), .int .u64 x.c, undef, undef, undef, undef, undef, undef, undef, undef, undef, undef, undef] rfl)) w
      · rw [← b3 hj]
        exact calls_of_runs (T := (tabOf Tryd.prog extY conN true)) Tryd.func19 bit_body (vals := [vW x, .int .i64 n]) (by rfl) (by rfl)
          (goes_list (tabY_ok conN_ok) (bit_pre3 x n) (bLog_ok h1 h3 hj) (bit_rest n x.d hn k4 (bHp x) (vW x) (.pointer (some ⟨0, 0, none⟩)) undef (.int .i64 0) undef [.int .i64 n, .bool false, .bool false, .int .i64 n, .bool false, .bool false, .int .i64 n, .int .i64 3, .pointer (some ⟨0, 3, none⟩), .int .u64 x.d, undef, undef, undef, undef, undef, undef, undef, undef, undef, undef, undef] rfl)) w

/-! ### bitsOf -/
def bt0 (z : Int) : Value := .int .i64 (IntKind.i64.wrap (z.tmod 2))
def rawL : Nat → Int → List Value
  | 0, _ => []
  | n + 1, z => bt0 z :: rawL n (hlf z)
set_option maxRecDepth 100000 in
theorem bits_fits (x : W4) : Fits (reckon (tabOf Tryd.prog extY conN true) 5000 17 [vW x] []) (.agg (rawL 64 x.a ++ (rawL 64 x.b ++ (rawL 64 x.c ++ rawL 64 x.d))).toArray) [] := ⟨by kernel_rfl, by kernel_rfl, by kernel_rfl, by kernel_rfl⟩
def bt (x : W4) (j : Nat) : Int := x.val / 2 ^ j % 2
def bitsN (x : W4) : List Value := (List.range 256).map fun j => .int .i64 (bt x j)
theorem rawL_eq : ∀ (n : Nat) (z : Int), (0 ≤ z ∧ z < 18446744073709551616) → rawL n z = (List.range n).map fun i => Value.int .i64 (z / 2 ^ i % 2)
  | 0, z, _ => rfl
  | n + 1, z, hz => by
    rw [rawL, hlf_eq hz.1 hz.2, rawL_eq n (z / 2) ⟨by omega, by omega⟩, List.range_succ_eq_map, List.map_cons, List.map_map]
    congr 1
    · unfold bt0
      rw [Int.tmod_eq_emod_of_nonneg hz.1, wrap_i64' (by omega) (by omega)]
      simp
    · refine List.map_congr_left fun i _ => ?_
      simp only [Function.comp]
      rw [Int.ediv_ediv_of_nonneg (by omega), Int.mul_comm, ← Int.pow_succ]
theorem bits_eq {x : W4} (hx : x.ok) : rawL 64 x.a ++ (rawL 64 x.b ++ (rawL 64 x.c ++ rawL 64 x.d)) = bitsN x := by
  have hx' := hx
  obtain ⟨h1, h2, h3, h4⟩ := hx
  have wb : ∀ (j i : Nat), j < 4 → i < 64 → ((64 * j + i : Nat) : Int) / 64 = j ∧ (((64 * j + i : Nat) : Int) % 64).toNat = i ∧ ((64 * j + i : Nat) : Int).toNat = 64 * j + i := fun j i hj hi => by omega
  unfold bitsN
  rw [show 256 = 64 + (64 + (64 + 64)) from rfl, List.range_add, List.range_add, List.range_add, List.map_append, List.map_append, List.map_append, List.map_append, List.map_append, List.map_append,
    rawL_eq 64 _ h1, rawL_eq 64 _ h2, rawL_eq 64 _ h3, rawL_eq 64 _ h4]
  simp only [List.map_map]
  congr 1
  · refine List.map_congr_left fun i hi => ?_
    have hi := List.mem_range.1 hi
    obtain ⟨e1, e2, e3⟩ := wb 0 i (by omega) hi
    have := (word_bit hx' (n := ((64 * 0 + i : Nat) : Int)) (by omega) (by omega)).1 (by omega)
    rw [e2, e3] at this
    simp only [bt]
    rw [this]
    congr 4
    omega
  · congr 1
    · refine List.map_congr_left fun i hi => ?_
      have hi := List.mem_range.1 hi
      obtain ⟨e1, e2, e3⟩ := wb 1 i (by omega) hi
      have := (word_bit hx' (n := ((64 * 1 + i : Nat) : Int)) (by omega) (by omega)).2.1 (by omega)
      rw [e2, e3] at this
      simp only [bt, Function.comp]
      rw [this]
    · congr 1
      · refine List.map_congr_left fun i hi => ?_
        have hi := List.mem_range.1 hi
        obtain ⟨e1, e2, e3⟩ := wb 2 i (by omega) hi
        have := (word_bit hx' (n := ((64 * 2 + i : Nat) : Int)) (by omega) (by omega)).2.2.1 (by omega)
        rw [e2, e3] at this
        simp only [bt, Function.comp]
        rw [this]
        congr 4
        omega
      · refine List.map_congr_left fun i hi => ?_
        have hi := List.mem_range.1 hi
        obtain ⟨e1, e2, e3⟩ := wb 3 i (by omega) hi
        have := (word_bit hx' (n := ((64 * 3 + i : Nat) : Int)) (by omega) (by omega)).2.2.2 (by omega)
        rw [e2, e3] at this
        simp only [bt, Function.comp]
        rw [this]
        congr 4
        omega
def bitsV4 (x : W4) : Value := .agg (bitsN x).toArray
set_option maxRecDepth 100000 in
theorem bits_calls (x : W4) (hx : x.ok) (w : World) : Calls Tryd.prog 17 #[vW x] w fun e w' => e = .returned (bitsV4 x) ∧ Tidy w w' := by
  have h := fits_calls (tabY_ok conN_ok) (bits_fits x) okNil (by rfl) (by rfl) w
  unfold bitsV4
  rw [← bits_eq hx]
  exact h
end Go.Proofs.YtdahpclbjeeeiaaDoor
