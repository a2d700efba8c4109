/-
  wide.DivMod, as a call: the quotient and the rest of any two numbers, the second not 0.
-/
import Derived.Test.YtdahpclbjeeeiaaDoorConQ9
import Derived.Laws.MathBits
namespace Go.Proofs.YtdahpclbjeeeiaaDoor
open Go.KRun Go.Wd
set_option maxRecDepth 100000

theorem quo_loop {n : Nat} (hn : 1 ≤ n) (h4 : n ≤ 4) {ds rs0 : List Int} (ld : ds.length = 4) (lr : rs0.length = 5) (wd' : words ds) (wr : words rs0) (top : 9223372036854775808 ≤ (ds.take n).getD (n - 1) 0) (h3 : vB (rs0.drop (5 - n)) < vB (ds.take n))
    (v0 v1 v14 v15 : Value) (up : Int) (a b lw : W4) (g : Nat → Value) (s : List Dec) :
    Runs (tabOf Tryd.prog extY conQ true) (.block 0 (.loop (qLoop Tryd.f4))) (qFr v0 v1 n up (IntKind.i64.wrap (4 - (n : Int))) v14 v15 ++ tl 70 g, qHp a b lw ds rs0 [0, 0, 0, 0], s) fun e y => match e with
      | none => ∃ (rs qs : List Int) (i : Int) (g : Nat → Value), y.1 = qFr v0 v1 n up i v14 v15 ++ tl 70 g ∧ y.2.1 = qHp a b lw ds rs qs ∧ rs.length = 5 ∧ words rs ∧ qs.length = 4 ∧ words qs ∧ vB rs < vB (ds.take n) ∧ vB rs + vB qs * vB (ds.take n) = vB rs0
      | some none => False
      | some (some _) => False := by
  have w0 : words [0, 0, 0, 0] := fun d hd => by
    simp only [List.mem_cons, List.not_mem_nil, or_false, or_self] at hd
    rw [hd]; unfold word; omega
  refine Runs.forLoop (n := 5 - n) (R := fun _ => False) (P := fun y => ∃ (rs qs : List Int) (i : Int) (g : Nat → Value), y.1 = qFr v0 v1 n up i v14 v15 ++ tl 70 g ∧ y.2.1 = qHp a b lw ds rs qs ∧ rs.length = 5 ∧ words rs ∧ qs.length = 4 ∧ words qs ∧ vB rs < vB (ds.take n) ∧ vB rs + vB qs * vB (ds.take n) = vB rs0)
    (fun r y => ∃ (rs qs : List Int) (g : Nat → Value), n + r ≤ 5 ∧ y.1 = qFr v0 v1 n up ((r : Int) - 1) v14 v15 ++ tl 70 g ∧ y.2.1 = qHp a b lw ds rs qs ∧ rs.length = 5 ∧ words rs ∧ qs.length = 4 ∧ words qs ∧ vB (rs.drop r) < vB (ds.take n) ∧ qs.take r = List.replicate r 0 ∧ vB rs + vB qs * vB (ds.take n) = vB rs0) ?_
    ⟨rs0, [0, 0, 0, 0], g, by omega, by rw [wrap_i64' (by omega) (by omega), show (4 : Int) - n = ((5 - n : Nat) : Int) - 1 from by omega], rfl, lr, wr, rfl, w0, h3, by
      have hn' : n = 1 ∨ n = 2 ∨ n = 3 ∨ n = 4 := by omega
      rcases hn' with rfl | rfl | rfl | rfl <;> rfl, by simp [vB]⟩
  rintro r ⟨t, h', s'⟩ ⟨rs, qs, g, e0, ht, hh, lr, wr, lq, wq, h3, hz, hv⟩
  simp only at ht hh
  subst ht hh
  cases r with
  | zero =>
    refine (goesT_runs (tabY_ok conQ_ok) (quo_out v0 v1 v14 v15 n up _ g).t (okL1 (by rfl))).mono fun e y he => ?_
    obtain ⟨rfl, ⟨g', h2⟩, h3'⟩ := he
    exact ⟨rfl, rs, qs, _, g', h2, h3', lr, wr, lq, wq, h3, hv⟩
  | succ i =>
    obtain ⟨c, hc, t1, t2, t3, t4, t5, t6, t7, t8⟩ := quo_step hn (by omega) ld lr lq wd' wr wq top h3 hz
    have ei : ((i + 1 : Nat) : Int) - 1 = (i : Int) := by omega
    rw [ei]
    refine (goesT_runs (tabY_ok conQ_ok) (rd_all hn (by omega) hc ld lr lq v0 v1 v14 v15 up a b lw g) t1).mono fun e y he => ?_
    obtain ⟨rfl, ⟨g', h2⟩, h3'⟩ := he
    refine ⟨i, by omega, _, _, g', by omega, ?_, h3', t2, t3, t4, t5, t6, t7, by rw [t8]; exact hv⟩
    rw [h2, wrap_i64' (by omega) (by omega)]
theorem pow64 (j : Nat) : (18446744073709551616 : Int) ^ j = 2 ^ (64 * j) := by
  rw [show (18446744073709551616 : Int) = 2 ^ 64 from rfl, ← Int.pow_mul]
theorem l4_val (x : W4) : vB (l4 x) = x.val := by unfold l4 W4.val; simp only [vB]; omega
theorem l4_words {x : W4} (h : x.ok) : words (l4 x) := fun d hd => by
  obtain ⟨y0, y1, y2, y3⟩ := h
  unfold l4 at hd
  simp only [List.mem_cons, List.not_mem_nil, or_false] at hd
  rcases hd with rfl | rfl | rfl | rfl
  · exact y0
  · exact y1
  · exact y2
  · exact y3
theorem shlW_spec {x : W4} (hx : x.ok) {u : Nat} (hu : u < 64) : (shlW x u).ok ∧ (shlW x u).val = x.val * 2 ^ u % 115792089237316195423570985008687907853269984665640564039457584007913129639936 := by
  have b := W4.val_bd hx
  unfold shlW
  split
  · have : u = 0 := by omega
    subst this
    refine ⟨hx, ?_⟩
    rw [Int.pow_zero, Int.mul_one, Int.emod_eq_of_lt b.1 b.2]
  · rw [if_neg (by omega), Int.toNat_natCast]
    exact ⟨W4.ok_of _, W4.val_of _⟩
theorem pow_pos2' (n : Nat) : (0 : Int) < 2 ^ n := Int.pow_pos (by omega)
theorem topI_eq {a : W4} (ha : a.ok) {u : Nat} (hu : u < 64) : topI a u = a.val * 2 ^ u / 115792089237316195423570985008687907853269984665640564039457584007913129639936 ∧ 0 ≤ topI a u ∧ topI a u < 18446744073709551616 := by
  have e1 : (IntKind.u64.wrap (IntKind.i64.wrap (64 - (u : Int)))).toNat = 64 - u := by
    rw [wrap_i64' (by omega) (by omega), wrap_u64' (by omega) (by omega)]; omega
  obtain ⟨h1, h2, h3, h4⟩ := ha
  have ed : a.val / 6277101735386680763835789423207666416102355444464034512896 = a.d := by unfold W4.val; omega
  have pp : (115792089237316195423570985008687907853269984665640564039457584007913129639936 : Int) = 6277101735386680763835789423207666416102355444464034512896 * 2 ^ (64 - u) * 2 ^ u := by
    rw [Int.mul_assoc, ← Int.pow_add, show 64 - u + u = 64 from by omega]
    rfl
  have hp := pow_pos2' u
  have hp2 := pow_pos2' (64 - u)
  have key : topI a u = a.val * 2 ^ u / 115792089237316195423570985008687907853269984665640564039457584007913129639936 := by
    unfold topI
    rw [e1, show min (64 - u) 64 = 64 - u from by omega, Int.fdiv_eq_ediv_of_nonneg _ (by omega), pp, Int.mul_ediv_mul_of_pos_left _ _ hp, ← Int.ediv_ediv_of_nonneg (by omega), ed]
  refine ⟨key, ?_, ?_⟩
  · unfold topI
    rw [e1, show min (64 - u) 64 = 64 - u from by omega, Int.fdiv_eq_ediv_of_nonneg _ (by omega)]
    exact Int.ediv_nonneg h4.1 (by omega)
  · unfold topI
    rw [e1, show min (64 - u) 64 = 64 - u from by omega, Int.fdiv_eq_ediv_of_nonneg _ (by omega)]
    exact Int.lt_of_le_of_lt (Int.ediv_le_self _ h4.1) h4.2
end Go.Proofs.YtdahpclbjeeeiaaDoor
