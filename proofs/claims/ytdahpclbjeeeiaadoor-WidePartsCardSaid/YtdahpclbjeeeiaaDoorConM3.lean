/-
  The document's own product (tillerref01.Mul), III: the numbers behind the parts.
-/
import Derived.Test.YtdahpclbjeeeiaaDoorConM2
import Derived.Test.YtdahpclbjeeeiaaDoorNum5
namespace Go.Proofs.YtdahpclbjeeeiaaDoor
open Go.KRun Go.Wd
set_option maxRecDepth 100000

theorem pt_eq {a : Int} (h : 0 ≤ a ∧ a < 18446744073709551616) : pt a 0 = a % 65536 ∧ pt a 16 = a / 65536 % 65536 ∧ pt a 32 = a / 4294967296 % 65536 ∧ pt a 48 = a / 281474976710656 % 65536 := by
  have e0 : (2 : Int) ^ min ((0 : Int).toNat) 64 = 1 := rfl
  have e1 : (2 : Int) ^ min ((16 : Int).toNat) 64 = 65536 := rfl
  have e2 : (2 : Int) ^ min ((32 : Int).toNat) 64 = 4294967296 := rfl
  have e3 : (2 : Int) ^ min ((48 : Int).toNat) 64 = 281474976710656 := rfl
  unfold pt
  rw [e0, e1, e2, e3, Int.fdiv_eq_ediv_of_nonneg _ (by omega), Int.fdiv_eq_ediv_of_nonneg _ (by omega), Int.fdiv_eq_ediv_of_nonneg _ (by omega), Int.fdiv_eq_ediv_of_nonneg _ (by omega),
    Int.tmod_eq_emod_of_nonneg (by omega), Int.tmod_eq_emod_of_nonneg (by omega), Int.tmod_eq_emod_of_nonneg (by omega), Int.tmod_eq_emod_of_nonneg (by omega)]
  refine ⟨?_, rfl, rfl, rfl⟩
  rw [Int.ediv_one]
def part (d : Int) : Prop := 0 ≤ d ∧ d ≤ 65535
theorem word_parts {a : Int} (h : 0 ≤ a ∧ a < 18446744073709551616) : part (pt a 0) ∧ part (pt a 16) ∧ part (pt a 32) ∧ part (pt a 48) ∧ pt a 0 + 65536 * (pt a 16 + 65536 * (pt a 32 + 65536 * pt a 48)) = a := by
  obtain ⟨e0, e1, e2, e3⟩ := pt_eq h
  rw [e0, e1, e2, e3]
  unfold part
  omega
theorem x16_spec {x : W4} (hx : x.ok) : (∀ d ∈ x16 x, part d) ∧ vR (x16 x) = x.val := by
  obtain ⟨h1, h2, h3, h4⟩ := hx
  obtain ⟨a0, a1, a2, a3, a4⟩ := word_parts h1
  obtain ⟨b0, b1, b2, b3, b4⟩ := word_parts h2
  obtain ⟨c0, c1, c2, c3, c4⟩ := word_parts h3
  obtain ⟨d0, d1, d2, d3, d4⟩ := word_parts h4
  refine ⟨fun d hd => ?_, ?_⟩
  · unfold x16 at hd
    simp only [List.mem_cons, List.not_mem_nil, or_false] at hd
    rcases hd with rfl | rfl | rfl | rfl | rfl | rfl | rfl | rfl | rfl | rfl | rfl | rfl | rfl | rfl | rfl | rfl <;> assumption
  · unfold x16 W4.val
    simp only [vR]
    omega
/-- the carries: what is left of the sums, part by part -/
theorem digs_spec : ∀ (zs : List Int) (c : Int), (∀ d ∈ zs, 0 ≤ d ∧ d ≤ 68717379600) → (0 ≤ c ∧ c ≤ 68717379600) →
    (∀ d ∈ digs zs c, part d) ∧ (digs zs c).length = zs.length ∧ 0 ≤ digE zs c ∧ vR (digs zs c) + 65536 ^ zs.length * digE zs c = vR zs + c
  | [], c, _, hc => by
    refine ⟨?_, rfl, hc.1, by simp [digs, digE, vR]⟩
    intro d hd; simp [digs] at hd
  | z :: zs, c, hz, hc => by
    have z1 := hz z List.mem_cons_self
    have e1 : cz c z = c + z := by unfold cz; rw [wrap_u64]; omega
    have e2 : cq c z = (c + z) / 65536 := by unfold cq; rw [e1, Int.tdiv_eq_ediv_of_nonneg (by omega), wrap_u64]; omega
    have e3 : (cz c z).tmod 65536 = (c + z) % 65536 := by rw [e1, Int.tmod_eq_emod_of_nonneg (by omega)]
    obtain ⟨g1, g2, g3, g4⟩ := digs_spec zs (cq c z) (fun d hd => hz d (List.mem_cons_of_mem _ hd)) (by rw [e2]; omega)
    refine ⟨fun d hd => ?_, by simp only [digs, List.length_cons, g2], g3, ?_⟩
    · simp only [digs] at hd
      rcases List.mem_cons.1 hd with rfl | hd
      · rw [e3]; unfold part; omega
      · exact g1 d hd
    · simp only [digs, digE, vR, List.length_cons, Int.pow_succ]
      rw [e3, Int.mul_comm (65536 ^ zs.length) 65536, Int.mul_assoc]
      rw [e2] at g4 ⊢
      generalize 65536 ^ zs.length * digE zs ((c + z) / 65536) = t at *
      omega
theorem out4_eq {a b c d : Int} {l : List Int} (ha : part a) (hb : part b) (hc : part c) (hd : part d) : out4 (a :: b :: c :: d :: l) = a + 65536 * (b + 65536 * (c + 65536 * d)) := by
  unfold part at *
  have e0 : (2 : Int) ^ min ((0 : Int).toNat) 64 = 1 := rfl
  have e1 : (2 : Int) ^ min ((16 : Int).toNat) 64 = 65536 := rfl
  have e2 : (2 : Int) ^ min ((32 : Int).toNat) 64 = 4294967296 := rfl
  have e3 : (2 : Int) ^ min ((48 : Int).toNat) 64 = 281474976710656 := rfl
  unfold out4 shm
  simp only [List.getD_cons_zero, List.getD_cons_succ, e0, e1, e2, e3, wrap_u64]
  omega
end Go.Proofs.YtdahpclbjeeeiaaDoor
