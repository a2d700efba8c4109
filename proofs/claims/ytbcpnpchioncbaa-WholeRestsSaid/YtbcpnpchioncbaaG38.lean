/-
  The pieces of wide.DivMod, III: what stands ahead of the digits and behind them.
-/
import Derived.Test.YtbcpnpchioncbaaG37
import Derived.Test.YtbcpnpchioncbaaG36
import Derived.Laws.MathBits
namespace Go.Proofs.Ytbcpnpchioncbaa
open Go.KRun Go.Wd
set_option maxRecDepth 100000

theorem rd_all {n i c : Nat} (hn : 1 ≤ n) (hi : n + i ≤ 4) (hc : c < 3) {ds rs qs : List Int} (ld : ds.length = 4) (lr : rs.length = 5) (lq : qs.length = 4) (v0 v1 v14 v15 : Value) (up : Int) (a b lw : W4) (g : Nat → Value) :
    GoesT (evC (tabOf Try.prog extY conQW true) 500 false (qLoop Try.f67) (qFr v0 v1 n up i v14 v15 ++ tl 70 g, qHp a b lw ds rs qs, tkS n c) ⟨[], [], []⟩) 16 70 none (qFr v0 v1 n up (IntKind.i64.wrap ((i : Int) - 1)) v14 v15)
      (qHp a b lw ds (rs.take i ++ (tkO n c (ds.take n) ((rs.drop i).take (n + 1)) ++ rs.drop (i + n + 1))) (qs.set i (tkD n c (ds.take n) ((rs.drop i).take (n + 1))))) (tkG n c (ds.take n) ((rs.drop i).take (n + 1))) := by
  match ds, ld, rs, lr, qs, lq with
  | [d0, d1, d2, d3], _, [r0, r1, r2, r3, r4], _, [q0, q1, q2, q3], _ =>
    have hn' : n = 1 ∨ n = 2 ∨ n = 3 ∨ n = 4 := by omega
    have hc' : c = 0 ∨ c = 1 ∨ c = 2 := by omega
    rcases hn' with rfl | rfl | rfl | rfl
    · have hi' : i = 0 ∨ i = 1 ∨ i = 2 ∨ i = 3 := by omega
      rcases hi' with rfl | rfl | rfl | rfl
      · rcases hc' with rfl | rfl | rfl
        · exact rd_100 v0 v1 v14 v15 up d0 d1 d2 d3 r0 r1 r2 r3 r4 q0 q1 q2 q3 a b lw g
        · exact rd_101 v0 v1 v14 v15 up d0 d1 d2 d3 r0 r1 r2 r3 r4 q0 q1 q2 q3 a b lw g
        · exact rd_102 v0 v1 v14 v15 up d0 d1 d2 d3 r0 r1 r2 r3 r4 q0 q1 q2 q3 a b lw g
      · rcases hc' with rfl | rfl | rfl
        · exact rd_110 v0 v1 v14 v15 up d0 d1 d2 d3 r0 r1 r2 r3 r4 q0 q1 q2 q3 a b lw g
        · exact rd_111 v0 v1 v14 v15 up d0 d1 d2 d3 r0 r1 r2 r3 r4 q0 q1 q2 q3 a b lw g
        · exact rd_112 v0 v1 v14 v15 up d0 d1 d2 d3 r0 r1 r2 r3 r4 q0 q1 q2 q3 a b lw g
      · rcases hc' with rfl | rfl | rfl
        · exact rd_120 v0 v1 v14 v15 up d0 d1 d2 d3 r0 r1 r2 r3 r4 q0 q1 q2 q3 a b lw g
        · exact rd_121 v0 v1 v14 v15 up d0 d1 d2 d3 r0 r1 r2 r3 r4 q0 q1 q2 q3 a b lw g
        · exact rd_122 v0 v1 v14 v15 up d0 d1 d2 d3 r0 r1 r2 r3 r4 q0 q1 q2 q3 a b lw g
      · rcases hc' with rfl | rfl | rfl
        · exact rd_130 v0 v1 v14 v15 up d0 d1 d2 d3 r0 r1 r2 r3 r4 q0 q1 q2 q3 a b lw g
        · exact rd_131 v0 v1 v14 v15 up d0 d1 d2 d3 r0 r1 r2 r3 r4 q0 q1 q2 q3 a b lw g
        · exact rd_132 v0 v1 v14 v15 up d0 d1 d2 d3 r0 r1 r2 r3 r4 q0 q1 q2 q3 a b lw g
    · have hi' : i = 0 ∨ i = 1 ∨ i = 2 := by omega
      rcases hi' with rfl | rfl | rfl
      · rcases hc' with rfl | rfl | rfl
        · exact rd_200 v0 v1 v14 v15 up d0 d1 d2 d3 r0 r1 r2 r3 r4 q0 q1 q2 q3 a b lw g
        · exact rd_201 v0 v1 v14 v15 up d0 d1 d2 d3 r0 r1 r2 r3 r4 q0 q1 q2 q3 a b lw g
        · exact rd_202 v0 v1 v14 v15 up d0 d1 d2 d3 r0 r1 r2 r3 r4 q0 q1 q2 q3 a b lw g
      · rcases hc' with rfl | rfl | rfl
        · exact rd_210 v0 v1 v14 v15 up d0 d1 d2 d3 r0 r1 r2 r3 r4 q0 q1 q2 q3 a b lw g
        · exact rd_211 v0 v1 v14 v15 up d0 d1 d2 d3 r0 r1 r2 r3 r4 q0 q1 q2 q3 a b lw g
        · exact rd_212 v0 v1 v14 v15 up d0 d1 d2 d3 r0 r1 r2 r3 r4 q0 q1 q2 q3 a b lw g
      · rcases hc' with rfl | rfl | rfl
        · exact rd_220 v0 v1 v14 v15 up d0 d1 d2 d3 r0 r1 r2 r3 r4 q0 q1 q2 q3 a b lw g
        · exact rd_221 v0 v1 v14 v15 up d0 d1 d2 d3 r0 r1 r2 r3 r4 q0 q1 q2 q3 a b lw g
        · exact rd_222 v0 v1 v14 v15 up d0 d1 d2 d3 r0 r1 r2 r3 r4 q0 q1 q2 q3 a b lw g
    · have hi' : i = 0 ∨ i = 1 := by omega
      rcases hi' with rfl | rfl
      · rcases hc' with rfl | rfl | rfl
        · exact rd_300 v0 v1 v14 v15 up d0 d1 d2 d3 r0 r1 r2 r3 r4 q0 q1 q2 q3 a b lw g
        · exact rd_301 v0 v1 v14 v15 up d0 d1 d2 d3 r0 r1 r2 r3 r4 q0 q1 q2 q3 a b lw g
        · exact rd_302 v0 v1 v14 v15 up d0 d1 d2 d3 r0 r1 r2 r3 r4 q0 q1 q2 q3 a b lw g
      · rcases hc' with rfl | rfl | rfl
        · exact rd_310 v0 v1 v14 v15 up d0 d1 d2 d3 r0 r1 r2 r3 r4 q0 q1 q2 q3 a b lw g
        · exact rd_311 v0 v1 v14 v15 up d0 d1 d2 d3 r0 r1 r2 r3 r4 q0 q1 q2 q3 a b lw g
        · exact rd_312 v0 v1 v14 v15 up d0 d1 d2 d3 r0 r1 r2 r3 r4 q0 q1 q2 q3 a b lw g
    · have hi' : i = 0 := by omega
      subst hi'
      rcases hc' with rfl | rfl | rfl
      · exact rd_400 v0 v1 v14 v15 up d0 d1 d2 d3 r0 r1 r2 r3 r4 q0 q1 q2 q3 a b lw g
      · exact rd_401 v0 v1 v14 v15 up d0 d1 d2 d3 r0 r1 r2 r3 r4 q0 q1 q2 q3 a b lw g
      · exact rd_402 v0 v1 v14 v15 up d0 d1 d2 d3 r0 r1 r2 r3 r4 q0 q1 q2 q3 a b lw g
theorem quo_out (v0 v1 v14 v15 : Value) (n up : Int) (h : Hp) (g : Nat → Value) : GoesE (evC (tabOf Try.prog extY conQW true) 300 false (qLoop Try.f67) (qFr v0 v1 n up (-1) v14 v15 ++ tl 70 g, h, [cmp false]) ⟨[], [], []⟩) 16 70 (some (some 0))
    (qFr v0 v1 n up (-1) v14 v15) h [(decide ((-1 : Int) ≥ 0), false)] := by unfold GoesE; kernel_rfl
theorem quo_r (v0 v1 v13 v14 v15 : Value) (n up : Int) (h : Hp) (g : Nat → Value) : GoesE (evC (tabOf Try.prog extY conQW true) 300 false (qRW Try.f67) ([v0, v1, t_ 0, t_ 1, t_ 2, t_ 3, .nilIface, .int .i64 n, .int .i64 up, t_ 4, t_ 5, t_ 6, t_ 7, v13, v14, v15] ++ tl 70 g, h, []) ⟨[], [], []⟩) 16 70 none
    (qFr v0 v1 n up (IntKind.i64.wrap (4 - n)) v14 v15) h [] := by unfold GoesE; kernel_rfl
def upI (b : W4) (n : Int) : Int := IntKind.i64.wrap (IntKind.i64.wrap (n * 64) - lenI b)
def topI (a : W4) (up : Int) : Int := a.d.fdiv (2 ^ min ((IntKind.u64.wrap (IntKind.i64.wrap (64 - up))).toNat) 64)
def szI (b : W4) : Int := IntKind.i64.wrap (IntKind.i64.wrap (lenI b + 64) - 1)
def l4 (x : W4) : List Int := [x.a, x.b, x.c, x.d]
def l5 (x : W4) (t : Int) : List Int := [x.a, x.b, x.c, x.d, t]
def okQ (x : W4) : Bool × Bool := (decide x.ok, true)
theorem quo_pre (a b : W4) (n : Int) : GoesE (evL (tabOf Try.prog extY conQW true) 500 (qPre Try.f67) ([vW a, vW b] ++ List.replicate 84 undef, ⟨0, []⟩, [sam false, num n]) ⟨[], [], []⟩) 16 70 none
    [vW a, vW b, t_ 0, t_ 1, t_ 2, t_ 3, .nilIface, .int .i64 n, .int .i64 (upI b n), t_ 4, t_ 5, t_ 6, t_ 7, undef, undef, undef]
    (qHp a b (shlW a (upI b n)) (l4 (shlW b (upI b n))) (l5 (shlW a (upI b n)) (topI a (upI b n))) [0, 0, 0, 0])
    [(decide (IntKind.u64.wrap (IntKind.i64.wrap (64 - upI b n)) < 0), false), lk a (upI b n), lk b (upI b n), okQ b, (decide ((64 : Int) = 0), false), (decide (IntKind.i64.wrap ((szI b).tdiv 64) = n), true), okQ b, (eqW b ⟨0, 0, 0, 0⟩, false)] := by unfold GoesE; kernel_rfl
theorem quo_end (v0 v1 v14 v15 : Value) (n up i : Int) (a b lw : W4) (ds : List Int) (r0 r1 r2 r3 r4 : Int) (q : W4) (g : Nat → Value) :
    GoesT (evC (tabOf Try.prog extY conQW true) 500 false (qEnd Try.f67) (qFr v0 v1 n up i v14 v15 ++ tl 70 g, qHp a b lw ds [r0, r1, r2, r3, r4] (l4 q), []) ⟨[], [], []⟩) 7 79 (some none)
      [v0, v1, t_ 0, t_ 1, t_ 2, t_ 3, .nilIface] ⟨9, [cW (shrW ⟨r0, r1, r2, r3⟩ up), (vQ (l4 q), 42), (vQ [r0, r1, r2, r3, r4], 112), cW lw, (vQ ds, 42), cW (shrW ⟨r0, r1, r2, r3⟩ up), cW q, cW b, cW a]⟩ [lk ⟨r0, r1, r2, r3⟩ up] := ⟨by kernel_rfl, by kernel_rfl, by kernel_rfl⟩
end Go.Proofs.Ytbcpnpchioncbaa

/-
  wide.DivMod: the digits one behind the other.
-/
namespace Go.Proofs.Ytbcpnpchioncbaa
open Go.KRun Go.Wd
set_option maxRecDepth 100000

theorem vB_zeros : ∀ n : Nat, vB (List.replicate n 0) = 0
  | 0 => rfl
  | n + 1 => by simp only [List.replicate_succ, vB, vB_zeros n]; omega
theorem words_take {l : List Int} (h : words l) (n : Nat) : words (l.take n) := fun x hx => h x (List.mem_of_mem_take hx)
theorem words_drop {l : List Int} (h : words l) (n : Nat) : words (l.drop n) := fun x hx => h x (List.mem_of_mem_drop hx)
/-- words above a number's bound are nothing -/
theorem high_zero {l : List Int} (h : words l) {n : Nat} (hn : n ≤ l.length) {D : Int} (hD : D ≤ 18446744073709551616 ^ n) (hl : vB l < D) : vB (l.drop n) = 0 := by
  have e := vB_append (l.take n) (l.drop n)
  rw [List.take_append_drop, List.length_take, Nat.min_eq_left hn] at e
  have b1 := vB_bd _ (words_take h n)
  have b2 := vB_bd _ (words_drop h n)
  have p := pow_posB n
  rcases Int.lt_or_le (vB (l.drop n)) 1 with hc | hc
  · omega
  · have : 18446744073709551616 ^ n * 1 ≤ 18446744073709551616 ^ n * vB (l.drop n) := Int.mul_le_mul_of_nonneg_left hc (Int.le_of_lt p)
    omega
theorem quo_step {n i : Nat} (hn : 1 ≤ n) (hi : n + i ≤ 4) {ds rs qs : List Int} (ld : ds.length = 4) (lr : rs.length = 5) (lq : qs.length = 4) (wd' : words ds) (wr : words rs) (wq : words qs) (top : 9223372036854775808 ≤ (ds.take n).getD (n - 1) 0)
    (h3 : vB (rs.drop (i + 1)) < vB (ds.take n)) (hz : qs.take (i + 1) = List.replicate (i + 1) 0) :
    ∃ c, c < 3 ∧ okLog (tkG n c (ds.take n) ((rs.drop i).take (n + 1))) ∧
      (rs.take i ++ (tkO n c (ds.take n) ((rs.drop i).take (n + 1)) ++ rs.drop (i + n + 1))).length = 5 ∧ words (rs.take i ++ (tkO n c (ds.take n) ((rs.drop i).take (n + 1)) ++ rs.drop (i + n + 1))) ∧
      (qs.set i (tkD n c (ds.take n) ((rs.drop i).take (n + 1)))).length = 4 ∧ words (qs.set i (tkD n c (ds.take n) ((rs.drop i).take (n + 1)))) ∧
      vB ((rs.take i ++ (tkO n c (ds.take n) ((rs.drop i).take (n + 1)) ++ rs.drop (i + n + 1))).drop i) < vB (ds.take n) ∧ (qs.set i (tkD n c (ds.take n) ((rs.drop i).take (n + 1)))).take i = List.replicate i 0 ∧
      vB (rs.take i ++ (tkO n c (ds.take n) ((rs.drop i).take (n + 1)) ++ rs.drop (i + n + 1))) + vB (qs.set i (tkD n c (ds.take n) ((rs.drop i).take (n + 1)))) * vB (ds.take n) = vB rs + vB qs * vB (ds.take n) := by
  have wy := words_take wd' n
  have ly : (ds.take n).length = n := by rw [List.length_take]; omega
  have lp : ((rs.drop i).take (n + 1)).length = n + 1 := by rw [List.length_take, List.length_drop]; omega
  have wp := words_take (words_drop wr i) (n + 1)
  have by_ := vB_bd _ wy
  rw [ly] at by_
  have z : vB (rs.drop (i + n + 1)) = 0 := by
    have := high_zero (words_drop wr (i + 1)) (n := n) (by rw [List.length_drop]; omega) (Int.le_of_lt by_.2) h3
    rw [List.drop_drop, show i + 1 + n = i + n + 1 from by omega] at this
    exact this
  have eP : vB (rs.drop i) = vB ((rs.drop i).take (n + 1)) := by
    have e := vB_append ((rs.drop i).take (n + 1)) ((rs.drop i).drop (n + 1))
    rw [List.take_append_drop, List.drop_drop, show i + (n + 1) = i + n + 1 from by omega, z, Int.mul_zero, Int.add_zero] at e
    exact e
  have ex : ∃ x, rs[i]? = some x := ⟨rs[i]'(by omega), List.getElem?_eq_getElem (by omega)⟩
  obtain ⟨x, hx⟩ := ex
  have wx : word x := wr x (List.mem_of_getElem? hx)
  have ed : rs.drop i = x :: rs.drop (i + 1) := by
    have hlt : i < rs.length := by omega
    rw [List.drop_eq_getElem_cons hlt]
    rw [List.getElem?_eq_getElem hlt] at hx
    cases hx
    rfl
  have eP2 : vB (rs.drop i) = x + 18446744073709551616 * vB (rs.drop (i + 1)) := by rw [ed]; rfl
  have hlt : vB ((rs.drop i).take (n + 1)) < 18446744073709551616 * vB (ds.take n) := by
    rw [← eP, eP2]
    unfold word at wx
    omega
  obtain ⟨k, rfl⟩ : ∃ k, n = k + 1 := ⟨n - 1, by omega⟩
  rw [Nat.add_sub_cancel] at top
  obtain ⟨c, hc, t1, t2, t3, t4, t5⟩ := tk_spec ly lp wy wp top hlt
  have hy0 : 0 < vB (ds.take (k + 1)) := by
    have := vB_bd _ (words_drop wr (i + 1))
    omega
  have dm := Int.mul_ediv_add_emod (vB ((rs.drop i).take (k + 1 + 1))) (vB (ds.take (k + 1)))
  have r1 := Int.emod_lt_of_pos (vB ((rs.drop i).take (k + 1 + 1))) hy0
  have hp0 := (vB_bd _ wp).1
  have q0 : 0 ≤ vB ((rs.drop i).take (k + 1 + 1)) / vB (ds.take (k + 1)) := Int.ediv_nonneg hp0 (by omega)
  have q9 : vB ((rs.drop i).take (k + 1 + 1)) / vB (ds.take (k + 1)) < 18446744073709551616 := Int.ediv_lt_of_lt_mul hy0 hlt
  have lt : (rs.take i).length = i := by rw [List.length_take]; omega
  refine ⟨c, hc, t5, ?_, ?_, by rw [List.length_set]; exact lq, ?_, ?_, ?_, ?_⟩
  · rw [List.length_append, List.length_append, lt, t3, List.length_drop]; omega
  · intro d hd
    rcases List.mem_append.1 hd with hd | hd
    · exact words_take wr i d hd
    · rcases List.mem_append.1 hd with hd | hd
      · exact t2 d hd
      · exact words_drop wr _ d hd
  · intro d hd
    rcases List.mem_or_eq_of_mem_set hd with hd | hd
    · exact wq d hd
    · rw [hd, t1]; exact ⟨q0, q9⟩
  · rw [List.drop_left' lt, vB_append, z, t4, Int.mul_zero, Int.add_zero]
    exact r1
  · have : qs.take i = List.replicate i 0 := by
      have := congrArg (List.take i) hz
      rw [List.take_take, Nat.min_eq_left (by omega), List.take_replicate, Nat.min_eq_left (by omega)] at this
      exact this
    rw [List.take_set_of_le (by omega)]
    exact this
  · have e1 := vB_append (rs.take i) (rs.drop i)
    rw [List.take_append_drop, lt, eP] at e1
    have e2 : vB (rs.take i ++ (tkO (k + 1) c (ds.take (k + 1)) ((rs.drop i).take (k + 1 + 1)) ++ rs.drop (i + (k + 1) + 1))) = vB (rs.take i) + 18446744073709551616 ^ i * (vB ((rs.drop i).take (k + 1 + 1)) % vB (ds.take (k + 1))) := by
      rw [vB_append, vB_append, z, t4, Int.mul_zero, Int.add_zero, lt]
    have eq0 : qs = List.replicate i 0 ++ 0 :: qs.drop (i + 1) := by
      have := List.take_append_drop (i + 1) qs
      rw [hz, List.replicate_succ', List.append_assoc] at this
      exact this.symm
    have e3 : vB (qs.set i (tkD (k + 1) c (ds.take (k + 1)) ((rs.drop i).take (k + 1 + 1)))) = vB qs + 18446744073709551616 ^ i * (vB ((rs.drop i).take (k + 1 + 1)) / vB (ds.take (k + 1))) := by
      rw [t1]
      generalize vB ((rs.drop i).take (k + 1 + 1)) / vB (ds.take (k + 1)) = q
      generalize qs.drop (i + 1) = tt at eq0
      rw [eq0, List.set_append_right _ _ (by simp), List.length_replicate, Nat.sub_self, List.set_cons_zero, vB_append, vB_append, List.length_replicate]
      simp only [vB]
      rw [Int.mul_add, Int.mul_add]
      omega
    rw [e1, e2, e3, Int.add_mul]
    generalize vB ((rs.drop i).take (k + 1 + 1)) / vB (ds.take (k + 1)) = q at *
    generalize vB ((rs.drop i).take (k + 1 + 1)) % vB (ds.take (k + 1)) = r at *
    rw [← dm, Int.mul_add, Int.mul_assoc, Int.mul_comm q]
    omega
end Go.Proofs.Ytbcpnpchioncbaa

/-
  wide.DivMod, as a call: the quotient and the rest of any two numbers, the second not 0.
-/
namespace Go.Proofs.Ytbcpnpchioncbaa
open Go.KRun Go.Wd
set_option maxRecDepth 100000

theorem quo_loop {n : Nat} (hn : 1 ≤ n) (h4 : n ≤ 4) {ds rs0 : List Int} (ld : ds.length = 4) (lr : rs0.length = 5) (wd' : words ds) (wr : words rs0) (top : 9223372036854775808 ≤ (ds.take n).getD (n - 1) 0) (h3 : vB (rs0.drop (5 - n)) < vB (ds.take n))
    (v0 v1 v14 v15 : Value) (up : Int) (a b lw : W4) (g : Nat → Value) (s : List Dec) :
    Runs (tabOf Try.prog extY conQW true) (.block 0 (.loop (qLoop Try.f67))) (qFr v0 v1 n up (IntKind.i64.wrap (4 - (n : Int))) v14 v15 ++ tl 70 g, qHp a b lw ds rs0 [0, 0, 0, 0], s) fun e y => match e with
      | none => ∃ (rs qs : List Int) (i : Int) (g : Nat → Value), y.1 = qFr v0 v1 n up i v14 v15 ++ tl 70 g ∧ y.2.1 = qHp a b lw ds rs qs ∧ rs.length = 5 ∧ words rs ∧ qs.length = 4 ∧ words qs ∧ vB rs < vB (ds.take n) ∧ vB rs + vB qs * vB (ds.take n) = vB rs0
      | some none => False
      | some (some _) => False := by
  have w0 : words [0, 0, 0, 0] := fun d hd => by
    simp only [List.mem_cons, List.not_mem_nil, or_false, or_self] at hd
    rw [hd]; unfold word; omega
  refine Runs.forLoop (n := 5 - n) (R := fun _ => False) (P := fun y => ∃ (rs qs : List Int) (i : Int) (g : Nat → Value), y.1 = qFr v0 v1 n up i v14 v15 ++ tl 70 g ∧ y.2.1 = qHp a b lw ds rs qs ∧ rs.length = 5 ∧ words rs ∧ qs.length = 4 ∧ words qs ∧ vB rs < vB (ds.take n) ∧ vB rs + vB qs * vB (ds.take n) = vB rs0)
    (fun r y => ∃ (rs qs : List Int) (g : Nat → Value), n + r ≤ 5 ∧ y.1 = qFr v0 v1 n up ((r : Int) - 1) v14 v15 ++ tl 70 g ∧ y.2.1 = qHp a b lw ds rs qs ∧ rs.length = 5 ∧ words rs ∧ qs.length = 4 ∧ words qs ∧ vB (rs.drop r) < vB (ds.take n) ∧ qs.take r = List.replicate r 0 ∧ vB rs + vB qs * vB (ds.take n) = vB rs0) ?_
    ⟨rs0, [0, 0, 0, 0], g, by omega, by rw [wrap_i64' (by omega) (by omega), show (4 : Int) - n = ((5 - n : Nat) : Int) - 1 from by omega], rfl, lr, wr, rfl, w0, h3, by
      have hn' : n = 1 ∨ n = 2 ∨ n = 3 ∨ n = 4 := by omega
      rcases hn' with rfl | rfl | rfl | rfl <;> rfl, by simp [vB]⟩
  rintro r ⟨t, h', s'⟩ ⟨rs, qs, g, e0, ht, hh, lr, wr, lq, wq, h3, hz, hv⟩
  simp only at ht hh
  subst ht hh
  cases r with
  | zero =>
    refine (goesT_runs (tabY_ok conQ_okW) (quo_out v0 v1 v14 v15 n up _ g).t (okL1 (by rfl))).mono fun e y he => ?_
    obtain ⟨rfl, ⟨g', h2⟩, h3'⟩ := he
    exact ⟨rfl, rs, qs, _, g', h2, h3', lr, wr, lq, wq, h3, hv⟩
  | succ i =>
    obtain ⟨c, hc, t1, t2, t3, t4, t5, t6, t7, t8⟩ := quo_step hn (by omega) ld lr lq wd' wr wq top h3 hz
    have ei : ((i + 1 : Nat) : Int) - 1 = (i : Int) := by omega
    rw [ei]
    refine (goesT_runs (tabY_ok conQ_okW) (rd_all hn (by omega) hc ld lr lq v0 v1 v14 v15 up a b lw g) t1).mono fun e y he => ?_
    obtain ⟨rfl, ⟨g', h2⟩, h3'⟩ := he
    refine ⟨i, by omega, _, _, g', by omega, ?_, h3', t2, t3, t4, t5, t6, t7, by rw [t8]; exact hv⟩
    rw [h2, wrap_i64' (by omega) (by omega)]
theorem pow64 (j : Nat) : (18446744073709551616 : Int) ^ j = 2 ^ (64 * j) := by
  rw [show (18446744073709551616 : Int) = 2 ^ 64 from rfl, ← Int.pow_mul]
theorem l4_val (x : W4) : vB (l4 x) = x.val := by unfold l4 W4.val; simp only [vB]; omega
theorem l4_words {x : W4} (h : x.ok) : words (l4 x) := fun d hd => by
  obtain ⟨y0, y1, y2, y3⟩ := h
  unfold l4 at hd
  simp only [List.mem_cons, List.not_mem_nil, or_false] at hd
  rcases hd with rfl | rfl | rfl | rfl
  · exact y0
  · exact y1
  · exact y2
  · exact y3
theorem shlW_spec {x : W4} (hx : x.ok) {u : Nat} (hu : u < 64) : (shlW x u).ok ∧ (shlW x u).val = x.val * 2 ^ u % 115792089237316195423570985008687907853269984665640564039457584007913129639936 := by
  have b := W4.val_bd hx
  unfold shlW
  split
  · have : u = 0 := by omega
    subst this
    refine ⟨hx, ?_⟩
    rw [Int.pow_zero, Int.mul_one, Int.emod_eq_of_lt b.1 b.2]
  · rw [if_neg (by omega), Int.toNat_natCast]
    exact ⟨W4.ok_of _, W4.val_of _⟩
theorem pow_pos2' (n : Nat) : (0 : Int) < 2 ^ n := Int.pow_pos (by omega)
theorem topI_eq {a : W4} (ha : a.ok) {u : Nat} (hu : u < 64) : topI a u = a.val * 2 ^ u / 115792089237316195423570985008687907853269984665640564039457584007913129639936 ∧ 0 ≤ topI a u ∧ topI a u < 18446744073709551616 := by
  have e1 : (IntKind.u64.wrap (IntKind.i64.wrap (64 - (u : Int)))).toNat = 64 - u := by
    rw [wrap_i64' (by omega) (by omega), wrap_u64' (by omega) (by omega)]; omega
  obtain ⟨h1, h2, h3, h4⟩ := ha
  have ed : a.val / 6277101735386680763835789423207666416102355444464034512896 = a.d := by unfold W4.val; omega
  have pp : (115792089237316195423570985008687907853269984665640564039457584007913129639936 : Int) = 6277101735386680763835789423207666416102355444464034512896 * 2 ^ (64 - u) * 2 ^ u := by
    rw [Int.mul_assoc, ← Int.pow_add, show 64 - u + u = 64 from by omega]
    rfl
  have hp := pow_pos2' u
  have hp2 := pow_pos2' (64 - u)
  have key : topI a u = a.val * 2 ^ u / 115792089237316195423570985008687907853269984665640564039457584007913129639936 := by
    unfold topI
    rw [e1, show min (64 - u) 64 = 64 - u from by omega, Int.fdiv_eq_ediv_of_nonneg _ (by omega), pp, Int.mul_ediv_mul_of_pos_left _ _ hp, ← Int.ediv_ediv_of_nonneg (by omega), ed]
  refine ⟨key, ?_, ?_⟩
  · unfold topI
    rw [e1, show min (64 - u) 64 = 64 - u from by omega, Int.fdiv_eq_ediv_of_nonneg _ (by omega)]
    exact Int.ediv_nonneg h4.1 (by omega)
  · unfold topI
    rw [e1, show min (64 - u) 64 = 64 - u from by omega, Int.fdiv_eq_ediv_of_nonneg _ (by omega)]
    exact Int.lt_of_le_of_lt (Int.ediv_le_self _ h4.1) h4.2
end Go.Proofs.Ytbcpnpchioncbaa
