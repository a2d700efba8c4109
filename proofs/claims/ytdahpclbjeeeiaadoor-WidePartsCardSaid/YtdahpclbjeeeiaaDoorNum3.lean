/-
  PLAIN ARITHMETIC: lists of bits and the numbers that they are; sums and differences bit by bit. No program is named here.
-/
import Derived.Test.YtdahpclbjeeeiaaDoorNum2
namespace Go.Wd

def valB : List Int → Int
  | [] => 0
  | d :: ds => d + 2 * valB ds
def bits01 (l : List Int) : Prop := ∀ d ∈ l, d = 0 ∨ d = 1
/-- a word out of its bits, the highest first, as a loop makes it -/
def ofL : List Int → Int
  | [] => 0
  | d :: ds => IntKind.u64.wrap (IntKind.u64.wrap (2 * ofL ds) + IntKind.u64.wrap d)
theorem pow_pos2 (n : Nat) : (0 : Int) < 2 ^ n := Int.pow_pos (by omega)
theorem valB_bd : ∀ (l : List Int), bits01 l → 0 ≤ valB l ∧ valB l < 2 ^ l.length
  | [], _ => by simp [valB]
  | d :: ds, h => by
    have h1 := valB_bd ds fun x hx => h x (List.mem_cons_of_mem _ hx)
    have h2 := h d List.mem_cons_self
    simp only [valB, List.length_cons, Int.pow_succ]
    omega
theorem ofL_eq : ∀ (l : List Int), bits01 l → l.length ≤ 64 → ofL l = valB l
  | [], _, _ => rfl
  | d :: ds, h, hl => by
    have h0 : bits01 ds := fun x hx => h x (List.mem_cons_of_mem _ hx)
    have h1 := valB_bd ds h0
    have h2 := h d List.mem_cons_self
    simp only [List.length_cons] at hl
    have h3 : (2 : Int) ^ ds.length ≤ 2 ^ 63 := by exact_mod_cast Nat.pow_le_pow_right (n := 2) (by omega) (by omega : ds.length ≤ 63)
    have e : (2 : Int) ^ 63 = 9223372036854775808 := rfl
    rw [e] at h3
    simp only [ofL, valB, wrap_u64]
    rw [ofL_eq ds h0 (by omega)]
    omega
theorem valB_append : ∀ (l m : List Int), valB (l ++ m) = valB l + 2 ^ l.length * valB m
  | [], m => by simp [valB]
  | d :: ds, m => by
    simp only [List.cons_append, valB, List.length_cons, Int.pow_succ]
    rw [valB_append ds m, Int.mul_add, Int.mul_comm (2 ^ ds.length) 2, Int.mul_assoc]
    omega
def w4L (l : List Int) : W4 := ⟨ofL (l.take 64), ofL ((l.drop 64).take 64), ofL ((l.drop 128).take 64), ofL ((l.drop 192).take 64)⟩
theorem bits01_take {l : List Int} (h : bits01 l) (n : Nat) : bits01 (l.take n) := fun x hx => h x (List.mem_of_mem_take hx)
theorem bits01_drop {l : List Int} (h : bits01 l) (n : Nat) : bits01 (l.drop n) := fun x hx => h x (List.mem_of_mem_drop hx)
theorem w4L_eq {l : List Int} (h : bits01 l) (hl : l.length = 256) : w4L l = W4.of (valB l) := by
  have l0 : (l.take 64).length = 64 := by rw [List.length_take]; omega
  have l1 : ((l.drop 64).take 64).length = 64 := by rw [List.length_take, List.length_drop]; omega
  have l2 : ((l.drop 128).take 64).length = 64 := by rw [List.length_take, List.length_drop]; omega
  have l3 : ((l.drop 192).take 64).length = 64 := by rw [List.length_take, List.length_drop]; omega
  have b0 := valB_bd _ (bits01_take h 64)
  have b1 := valB_bd _ (bits01_take (bits01_drop h 64) 64)
  have b2 := valB_bd _ (bits01_take (bits01_drop h 128) 64)
  have b3 := valB_bd _ (bits01_take (bits01_drop h 192) 64)
  rw [l0] at b0
  rw [l1] at b1
  rw [l2] at b2
  rw [l3] at b3
  have e64 : (2 : Int) ^ 64 = 18446744073709551616 := rfl
  rw [e64] at b0 b1 b2 b3
  have s : l = l.take 64 ++ ((l.drop 64).take 64 ++ ((l.drop 128).take 64 ++ (l.drop 192).take 64)) := by
    have s3 : (l.drop 192).take 64 = l.drop 192 := List.take_of_length_le (by rw [List.length_drop]; omega)
    have s2 : (l.drop 128).take 64 ++ l.drop 192 = l.drop 128 := by
      have := List.take_append_drop 64 (l.drop 128)
      rwa [List.drop_drop] at this
    have s1 : (l.drop 64).take 64 ++ l.drop 128 = l.drop 64 := by
      have := List.take_append_drop 64 (l.drop 64)
      rwa [List.drop_drop] at this
    rw [s3, s2, s1, List.take_append_drop]
  have v : valB l = valB (l.take 64) + 18446744073709551616 * valB ((l.drop 64).take 64) + 340282366920938463463374607431768211456 * valB ((l.drop 128).take 64) + 6277101735386680763835789423207666416102355444464034512896 * valB ((l.drop 192).take 64) := by
    conv => lhs; rw [s, valB_append, valB_append, valB_append, l0, l1, l2, e64]
    omega
  have w : w4L l = ⟨valB (l.take 64), valB ((l.drop 64).take 64), valB ((l.drop 128).take 64), valB ((l.drop 192).take 64)⟩ := by
    unfold w4L
    rw [ofL_eq _ (bits01_take h 64) (by omega), ofL_eq _ (bits01_take (bits01_drop h 64) 64) (by omega), ofL_eq _ (bits01_take (bits01_drop h 128) 64) (by omega), ofL_eq _ (bits01_take (bits01_drop h 192) 64) (by omega)]
  rw [w]
  exact (W4.of_eq (k := 0) (x := ⟨valB (l.take 64), valB ((l.drop 64).take 64), valB ((l.drop 128).take 64), valB ((l.drop 192).take 64)⟩) ⟨b0, b1, b2, b3⟩ (by unfold W4.val; rw [v]; dsimp only; omega)).symm

/-! ### a number's bits -/
def bitL (n : Nat) (v : Int) : List Int := (List.range n).map fun j => v / 2 ^ j % 2
theorem bitL_len (n : Nat) (v : Int) : (bitL n v).length = n := by simp [bitL]
theorem bitL_01 (n : Nat) (v : Int) : bits01 (bitL n v) := fun d hd => by
  unfold bitL at hd
  obtain ⟨j, _, rfl⟩ := List.mem_map.1 hd
  omega
theorem valB_bits : ∀ (n : Nat) (v : Int), valB (bitL n v) = v % 2 ^ n
  | 0, v => by simp [bitL, valB, Int.emod_one]
  | n + 1, v => by
    have e : bitL (n + 1) v = v % 2 :: bitL n (v / 2) := by
      unfold bitL
      rw [List.range_succ_eq_map, List.map_cons, List.map_map]
      congr 1
      · simp
      · refine List.map_congr_left fun i _ => ?_
        simp only [Function.comp]
        rw [Int.ediv_ediv_of_nonneg (by omega), Int.mul_comm 2, ← Int.pow_succ]
    rw [e]
    simp only [valB]
    rw [valB_bits n (v / 2)]
    have h1 := Int.mul_ediv_add_emod v 2
    have h2 := Int.mul_ediv_add_emod (v / 2) (2 ^ n)
    have h3 := Int.mul_ediv_add_emod v (2 ^ (n + 1))
    have h4 : v / 2 / 2 ^ n = v / 2 ^ (n + 1) := by rw [Int.ediv_ediv_of_nonneg (by omega), Int.mul_comm 2, ← Int.pow_succ]
    rw [h4] at h2
    have e3 : ∀ k : Int, (2 : Int) ^ (n + 1) * k = 2 * (2 ^ n * k) := fun k => by rw [Int.pow_succ, Int.mul_comm (2 ^ n) 2, Int.mul_assoc]
    rw [e3] at h3
    generalize 2 ^ n * (v / 2 ^ (n + 1)) = t at h2 h3
    omega

/-! ### sums and differences, bit by bit -/
def goD (dig car : Int → Int → Int → Int) : List Int → List Int → Int → List Int
  | p :: ps, q :: qs, c => dig p q c :: goD dig car ps qs (car p q c)
  | _, _, _ => []
def goE (car : Int → Int → Int → Int) : List Int → List Int → Int → Int
  | p :: ps, q :: qs, c => goE car ps qs (car p q c)
  | _, _, c => c
/-- k: 1 for a sum, -1 for a difference -/
theorem goD_spec {dig car : Int → Int → Int → Int} {k : Int} (hk : ∀ p q c : Int, (p = 0 ∨ p = 1) → (q = 0 ∨ q = 1) → (c = 0 ∨ c = 1) → dig p q c + k * (2 * car p q c) = p + k * (q + c) ∧ (dig p q c = 0 ∨ dig p q c = 1) ∧ (car p q c = 0 ∨ car p q c = 1)) :
    ∀ (ps qs : List Int) (c : Int), bits01 ps → bits01 qs → ps.length = qs.length → (c = 0 ∨ c = 1) →
    bits01 (goD dig car ps qs c) ∧ (goD dig car ps qs c).length = ps.length ∧ (goE car ps qs c = 0 ∨ goE car ps qs c = 1) ∧ valB (goD dig car ps qs c) + k * (2 ^ ps.length * goE car ps qs c) = valB ps + k * (valB qs + c)
  | [], [], c, _, _, _, hc => by
    refine ⟨?_, rfl, hc, ?_⟩
    · intro x hx; simp [goD] at hx
    · simp [goD, goE, valB]
  | p :: ps, q :: qs, c, hp, hq, hl, hc => by
    obtain ⟨e1, e2, e3⟩ := hk p q c (hp p List.mem_cons_self) (hq q List.mem_cons_self) hc
    obtain ⟨g1, g2, g3, g4⟩ := goD_spec hk ps qs (car p q c) (fun x hx => hp x (List.mem_cons_of_mem _ hx)) (fun x hx => hq x (List.mem_cons_of_mem _ hx)) (by simpa using hl) e3
    refine ⟨?_, ?_, ?_, ?_⟩
    · intro x hx
      simp only [goD] at hx
      rcases List.mem_cons.1 hx with rfl | hx
      · exact e2
      · exact g1 x hx
    · simp only [goD, List.length_cons, g2]
    · exact g3
    · simp only [goD, goE, valB, List.length_cons, Int.pow_succ]
      have a1 : ∀ E : Int, k * (2 ^ ps.length * 2 * E) = 2 * (k * (2 ^ ps.length * E)) := fun E => by
        rw [Int.mul_comm (2 ^ ps.length) 2, Int.mul_assoc, Int.mul_left_comm]
      have a2 : k * (valB qs + car p q c) = k * valB qs + k * car p q c := Int.mul_add ..
      have a3 : k * (2 * car p q c) = 2 * (k * car p q c) := Int.mul_left_comm ..
      have a4 : k * (q + c) = k * q + k * c := Int.mul_add ..
      have a5 : k * (q + 2 * valB qs + c) = k * q + 2 * (k * valB qs) + k * c := by rw [Int.mul_add, Int.mul_add, Int.mul_left_comm]
      rw [a1, a5]
      rw [a2] at g4
      rw [a3, a4] at e1
      omega
  | [], _ :: _, _, _, _, hl, _ => by simp at hl
  | _ :: _, [], _, _, _, hl, _ => by simp at hl
def nA (p q c : Int) : Int := IntKind.i64.wrap (IntKind.i64.wrap (p + q) + c)
def digA (p q c : Int) : Int := (nA p q c).tmod 2
def carA (p q c : Int) : Int := IntKind.i64.wrap ((nA p q c).tdiv 2)
theorem stepA (p q c : Int) (hp : p = 0 ∨ p = 1) (hq : q = 0 ∨ q = 1) (hc : c = 0 ∨ c = 1) : digA p q c + 1 * (2 * carA p q c) = p + 1 * (q + c) ∧ (digA p q c = 0 ∨ digA p q c = 1) ∧ (carA p q c = 0 ∨ carA p q c = 1) := by
  rcases hp with rfl | rfl <;> rcases hq with rfl | rfl <;> rcases hc with rfl | rfl <;> decide
def nS (p q c : Int) : Int := IntKind.i64.wrap (IntKind.i64.wrap (IntKind.i64.wrap (2 + p) - q) - c)
def digS (p q c : Int) : Int := (nS p q c).tmod 2
def carS (p q c : Int) : Int := IntKind.i64.wrap (1 - IntKind.i64.wrap ((nS p q c).tdiv 2))
theorem stepS (p q c : Int) (hp : p = 0 ∨ p = 1) (hq : q = 0 ∨ q = 1) (hc : c = 0 ∨ c = 1) : digS p q c + (-1) * (2 * carS p q c) = p + (-1) * (q + c) ∧ (digS p q c = 0 ∨ digS p q c = 1) ∧ (carS p q c = 0 ∨ carS p q c = 1) := by
  rcases hp with rfl | rfl <;> rcases hq with rfl | rfl <;> rcases hc with rfl | rfl <;> decide
theorem p256 : (2 : Int) ^ 256 = 115792089237316195423570985008687907853269984665640564039457584007913129639936 := rfl
theorem sum_bits {x y : W4} (hx : x.ok) (hy : y.ok) : w4L (goD digA carA (bitL 256 x.val) (bitL 256 y.val) 0) = W4.of (x.val + y.val) ∧
    (goE carA (bitL 256 x.val) (bitL 256 y.val) 0 == 1) = decide (115792089237316195423570985008687907853269984665640564039457584007913129639936 ≤ x.val + y.val) := by
  have bx := W4.val_bd hx
  have hy' := W4.val_bd hy
  obtain ⟨g1, g2, g3, g4⟩ := goD_spec stepA (bitL 256 x.val) (bitL 256 y.val) 0 (bitL_01 _ _) (bitL_01 _ _) (by rw [bitL_len, bitL_len]) (.inl rfl)
  have hb := valB_bd _ g1
  rw [bitL_len] at g2 g4
  rw [g2] at hb
  rw [valB_bits, valB_bits, p256, Int.emod_eq_of_lt bx.1 bx.2, Int.emod_eq_of_lt hy'.1 hy'.2] at g4
  rw [p256] at hb
  rw [w4L_eq g1 g2]
  generalize valB (goD digA carA (bitL 256 x.val) (bitL 256 y.val) 0) = V at *
  generalize goE carA (bitL 256 x.val) (bitL 256 y.val) 0 = E at *
  refine ⟨?_, ?_⟩
  · refine (W4.of_eq (k := E) (W4.ok_of V) ?_).symm
    rw [W4.val_of]
    omega
  · rw [Bool.eq_iff_iff, beq_iff_eq, decide_eq_true_eq]
    omega
theorem dif_bits {x y : W4} (hx : x.ok) (hy : y.ok) : w4L (goD digS carS (bitL 256 x.val) (bitL 256 y.val) 0) = W4.of (x.val - y.val) ∧
    (goE carS (bitL 256 x.val) (bitL 256 y.val) 0 == 1) = decide (x.val < y.val) := by
  have bx := W4.val_bd hx
  have hy' := W4.val_bd hy
  obtain ⟨g1, g2, g3, g4⟩ := goD_spec stepS (bitL 256 x.val) (bitL 256 y.val) 0 (bitL_01 _ _) (bitL_01 _ _) (by rw [bitL_len, bitL_len]) (.inl rfl)
  have hb := valB_bd _ g1
  rw [bitL_len] at g2 g4
  rw [g2] at hb
  rw [valB_bits, valB_bits, p256, Int.emod_eq_of_lt bx.1 bx.2, Int.emod_eq_of_lt hy'.1 hy'.2] at g4
  rw [p256] at hb
  rw [w4L_eq g1 g2]
  generalize valB (goD digS carS (bitL 256 x.val) (bitL 256 y.val) 0) = V at *
  generalize goE carS (bitL 256 x.val) (bitL 256 y.val) 0 = E at *
  refine ⟨?_, ?_⟩
  · refine (W4.of_eq (k := -E) (W4.ok_of V) ?_).symm
    rw [W4.val_of]
    omega
  · rw [Bool.eq_iff_iff, beq_iff_eq, decide_eq_true_eq]
    omega
end Go.Wd
