/-
  The pieces of wide.DivMod, III: what stands ahead of the digits and behind them.
-/
import Derived.Test.YtnolcojnodoecaaG26
import Derived.Test.YtnolcojnodoecaaG27
namespace Go.Proofs.Ytnolcojnodoecaa
open Go.KRun Go.Wd
set_option maxRecDepth 100000

theorem rd_all {n i c : Nat} (hn : 1 ≤ n) (hi : n + i ≤ 4) (hc : c < 3) {ds rs qs : List Int} (ld : ds.length = 4) (lr : rs.length = 5) (lq : qs.length = 4) (v0 v1 v14 v15 : Value) (up : Int) (a b lw : W4) (g : Nat → Value) :
    GoesT (evC (tabOf Try.prog extY conQW true) 500 false (qLoop Try.f50) (qFr v0 v1 n up i v14 v15 ++ tl 70 g, qHp a b lw ds rs qs, tkS n c) ⟨[], [], []⟩) 16 70 none (qFr v0 v1 n up (IntKind.i64.wrap ((i : Int) - 1)) v14 v15)
      (qHp a b lw ds (rs.take i ++ (tkO n c (ds.take n) ((rs.drop i).take (n + 1)) ++ rs.drop (i + n + 1))) (qs.set i (tkD n c (ds.take n) ((rs.drop i).take (n + 1))))) (tkG n c (ds.take n) ((rs.drop i).take (n + 1))) := by
  match ds, ld, rs, lr, qs, lq with
  | [d0, d1, d2, d3], _, [r0, r1, r2, r3, r4], _, [q0, q1, q2, q3], _ =>
    have hn' : n = 1 ∨ n = 2 ∨ n = 3 ∨ n = 4 := by omega
    have hc' : c = 0 ∨ c = 1 ∨ c = 2 := by omega
    rcases hn' with rfl | rfl | rfl | rfl
    · have hi' : i = 0 ∨ i = 1 ∨ i = 2 ∨ i = 3 := by omega
      rcases hi' with rfl | rfl | rfl | rfl
      · rcases hc' with rfl | rfl | rfl
        · exact rd_100 v0 v1 v14 v15 up d0 d1 d2 d3 r0 r1 r2 r3 r4 q0 q1 q2 q3 a b lw g
        · exact rd_101 v0 v1 v14 v15 up d0 d1 d2 d3 r0 r1 r2 r3 r4 q0 q1 q2 q3 a b lw g
        · exact rd_102 v0 v1 v14 v15 up d0 d1 d2 d3 r0 r1 r2 r3 r4 q0 q1 q2 q3 a b lw g
      · rcases hc' with rfl | rfl | rfl
        · exact rd_110 v0 v1 v14 v15 up d0 d1 d2 d3 r0 r1 r2 r3 r4 q0 q1 q2 q3 a b lw g
        · exact rd_111 v0 v1 v14 v15 up d0 d1 d2 d3 r0 r1 r2 r3 r4 q0 q1 q2 q3 a b lw g
        · exact rd_112 v0 v1 v14 v15 up d0 d1 d2 d3 r0 r1 r2 r3 r4 q0 q1 q2 q3 a b lw g
      · rcases hc' with rfl | rfl | rfl
        · exact rd_120 v0 v1 v14 v15 up d0 d1 d2 d3 r0 r1 r2 r3 r4 q0 q1 q2 q3 a b lw g
        · exact rd_121 v0 v1 v14 v15 up d0 d1 d2 d3 r0 r1 r2 r3 r4 q0 q1 q2 q3 a b lw g
        · exact rd_122 v0 v1 v14 v15 up d0 d1 d2 d3 r0 r1 r2 r3 r4 q0 q1 q2 q3 a b lw g
      · rcases hc' with rfl | rfl | rfl
        · exact rd_130 v0 v1 v14 v15 up d0 d1 d2 d3 r0 r1 r2 r3 r4 q0 q1 q2 q3 a b lw g
        · exact rd_131 v0 v1 v14 v15 up d0 d1 d2 d3 r0 r1 r2 r3 r4 q0 q1 q2 q3 a b lw g
        · exact rd_132 v0 v1 v14 v15 up d0 d1 d2 d3 r0 r1 r2 r3 r4 q0 q1 q2 q3 a b lw g
    · have hi' : i = 0 ∨ i = 1 ∨ i = 2 := by omega
      rcases hi' with rfl | rfl | rfl
      · rcases hc' with rfl | rfl | rfl
        · exact rd_200 v0 v1 v14 v15 up d0 d1 d2 d3 r0 r1 r2 r3 r4 q0 q1 q2 q3 a b lw g
        · exact rd_201 v0 v1 v14 v15 up d0 d1 d2 d3 r0 r1 r2 r3 r4 q0 q1 q2 q3 a b lw g
        · exact rd_202 v0 v1 v14 v15 up d0 d1 d2 d3 r0 r1 r2 r3 r4 q0 q1 q2 q3 a b lw g
      · rcases hc' with rfl | rfl | rfl
        · exact rd_210 v0 v1 v14 v15 up d0 d1 d2 d3 r0 r1 r2 r3 r4 q0 q1 q2 q3 a b lw g
        · exact rd_211 v0 v1 v14 v15 up d0 d1 d2 d3 r0 r1 r2 r3 r4 q0 q1 q2 q3 a b lw g
        · exact rd_212 v0 v1 v14 v15 up d0 d1 d2 d3 r0 r1 r2 r3 r4 q0 q1 q2 q3 a b lw g
      · rcases hc' with rfl | rfl | rfl
        · exact rd_220 v0 v1 v14 v15 up d0 d1 d2 d3 r0 r1 r2 r3 r4 q0 q1 q2 q3 a b lw g
        · exact rd_221 v0 v1 v14 v15 up d0 d1 d2 d3 r0 r1 r2 r3 r4 q0 q1 q2 q3 a b lw g
        · exact rd_222 v0 v1 v14 v15 up d0 d1 d2 d3 r0 r1 r2 r3 r4 q0 q1 q2 q3 a b lw g
    · have hi' : i = 0 ∨ i = 1 := by omega
      rcases hi' with rfl | rfl
      · rcases hc' with rfl | rfl | rfl
        · exact rd_300 v0 v1 v14 v15 up d0 d1 d2 d3 r0 r1 r2 r3 r4 q0 q1 q2 q3 a b lw g
        · exact rd_301 v0 v1 v14 v15 up d0 d1 d2 d3 r0 r1 r2 r3 r4 q0 q1 q2 q3 a b lw g
        · exact rd_302 v0 v1 v14 v15 up d0 d1 d2 d3 r0 r1 r2 r3 r4 q0 q1 q2 q3 a b lw g
      · rcases hc' with rfl | rfl | rfl
        · exact rd_310 v0 v1 v14 v15 up d0 d1 d2 d3 r0 r1 r2 r3 r4 q0 q1 q2 q3 a b lw g
        · exact rd_311 v0 v1 v14 v15 up d0 d1 d2 d3 r0 r1 r2 r3 r4 q0 q1 q2 q3 a b lw g
        · exact rd_312 v0 v1 v14 v15 up d0 d1 d2 d3 r0 r1 r2 r3 r4 q0 q1 q2 q3 a b lw g
    · have hi' : i = 0 := by omega
      subst hi'
      rcases hc' with rfl | rfl | rfl
      · exact rd_400 v0 v1 v14 v15 up d0 d1 d2 d3 r0 r1 r2 r3 r4 q0 q1 q2 q3 a b lw g
      · exact rd_401 v0 v1 v14 v15 up d0 d1 d2 d3 r0 r1 r2 r3 r4 q0 q1 q2 q3 a b lw g
      · exact rd_402 v0 v1 v14 v15 up d0 d1 d2 d3 r0 r1 r2 r3 r4 q0 q1 q2 q3 a b lw g
theorem quo_out (v0 v1 v14 v15 : Value) (n up : Int) (h : Hp) (g : Nat → Value) : GoesE (evC (tabOf Try.prog extY conQW true) 300 false (qLoop Try.f50) (qFr v0 v1 n up (-1) v14 v15 ++ tl 70 g, h, [cmp false]) ⟨[], [], []⟩) 16 70 (some (some 0))
    (qFr v0 v1 n up (-1) v14 v15) h [(decide ((-1 : Int) ≥ 0), false)] := by unfold GoesE; kernel_rfl
theorem quo_r (v0 v1 v13 v14 v15 : Value) (n up : Int) (h : Hp) (g : Nat → Value) : GoesE (evC (tabOf Try.prog extY conQW true) 300 false (qRW Try.f50) ([v0, v1, t_ 0, t_ 1, t_ 2, t_ 3, .nilIface, .int .i64 n, .int .i64 up, t_ 4, t_ 5, t_ 6, t_ 7, v13, v14, v15] ++ tl 70 g, h, []) ⟨[], [], []⟩) 16 70 none
    (qFr v0 v1 n up (IntKind.i64.wrap (4 - n)) v14 v15) h [] := by unfold GoesE; kernel_rfl
def upI (b : W4) (n : Int) : Int := IntKind.i64.wrap (IntKind.i64.wrap (n * 64) - lenI b)
def topI (a : W4) (up : Int) : Int := a.d.fdiv (2 ^ min ((IntKind.u64.wrap (IntKind.i64.wrap (64 - up))).toNat) 64)
def szI (b : W4) : Int := IntKind.i64.wrap (IntKind.i64.wrap (lenI b + 64) - 1)
def l4 (x : W4) : List Int := [x.a, x.b, x.c, x.d]
def l5 (x : W4) (t : Int) : List Int := [x.a, x.b, x.c, x.d, t]
def okQ (x : W4) : Bool × Bool := (decide x.ok, true)
theorem quo_pre (a b : W4) (n : Int) : GoesE (evL (tabOf Try.prog extY conQW true) 500 (qPre Try.f50) ([vW a, vW b] ++ List.replicate 84 undef, ⟨0, []⟩, [sam false, num n]) ⟨[], [], []⟩) 16 70 none
    [vW a, vW b, t_ 0, t_ 1, t_ 2, t_ 3, .nilIface, .int .i64 n, .int .i64 (upI b n), t_ 4, t_ 5, t_ 6, t_ 7, undef, undef, undef]
    (qHp a b (shlW a (upI b n)) (l4 (shlW b (upI b n))) (l5 (shlW a (upI b n)) (topI a (upI b n))) [0, 0, 0, 0])
    [(decide (IntKind.u64.wrap (IntKind.i64.wrap (64 - upI b n)) < 0), false), lk a (upI b n), lk b (upI b n), okQ b, (decide ((64 : Int) = 0), false), (decide (IntKind.i64.wrap ((szI b).tdiv 64) = n), true), okQ b, (eqW b ⟨0, 0, 0, 0⟩, false)] := by unfold GoesE; kernel_rfl
theorem quo_end (v0 v1 v14 v15 : Value) (n up i : Int) (a b lw : W4) (ds : List Int) (r0 r1 r2 r3 r4 : Int) (q : W4) (g : Nat → Value) :
    GoesT (evC (tabOf Try.prog extY conQW true) 500 false (qEnd Try.f50) (qFr v0 v1 n up i v14 v15 ++ tl 70 g, qHp a b lw ds [r0, r1, r2, r3, r4] (l4 q), []) ⟨[], [], []⟩) 7 79 (some none)
      [v0, v1, t_ 0, t_ 1, t_ 2, t_ 3, .nilIface] ⟨9, [cW (shrW ⟨r0, r1, r2, r3⟩ up), (vQ (l4 q), 40), (vQ [r0, r1, r2, r3, r4], 103), cW lw, (vQ ds, 40), cW (shrW ⟨r0, r1, r2, r3⟩ up), cW q, cW b, cW a]⟩ [lk ⟨r0, r1, r2, r3⟩ up] := ⟨by kernel_rfl, by kernel_rfl, by kernel_rfl⟩
end Go.Proofs.Ytnolcojnodoecaa

/-
  wide.DivMod: the digits one behind the other.
-/
namespace Go.Proofs.Ytnolcojnodoecaa
open Go.KRun Go.Wd
set_option maxRecDepth 100000

theorem vB_zeros : ∀ n : Nat, vB (List.replicate n 0) = 0
  | 0 => rfl
  | n + 1 => by simp only [List.replicate_succ, vB, vB_zeros n]; omega
theorem words_take {l : List Int} (h : words l) (n : Nat) : words (l.take n) := fun x hx => h x (List.mem_of_mem_take hx)
theorem words_drop {l : List Int} (h : words l) (n : Nat) : words (l.drop n) := fun x hx => h x (List.mem_of_mem_drop hx)
/-- words above a number's bound are nothing -/
theorem high_zero {l : List Int} (h : words l) {n : Nat} (hn : n ≤ l.length) {D : Int} (hD : D ≤ 18446744073709551616 ^ n) (hl : vB l < D) : vB (l.drop n) = 0 := by
  have e := vB_append (l.take n) (l.drop n)
  rw [List.take_append_drop, List.length_take, Nat.min_eq_left hn] at e
  have b1 := vB_bd _ (words_take h n)
  have b2 := vB_bd _ (words_drop h n)
  have p := pow_posB n
  rcases Int.lt_or_le (vB (l.drop n)) 1 with hc | hc
  · omega
  · have : 18446744073709551616 ^ n * 1 ≤ 18446744073709551616 ^ n * vB (l.drop n) := Int.mul_le_mul_of_nonneg_left hc (Int.le_of_lt p)
    omega
theorem quo_step {n i : Nat} (hn : 1 ≤ n) (hi : n + i ≤ 4) {ds rs qs : List Int} (ld : ds.length = 4) (lr : rs.length = 5) (lq : qs.length = 4) (wd' : words ds) (wr : words rs) (wq : words qs) (top : 9223372036854775808 ≤ (ds.take n).getD (n - 1) 0)
    (h3 : vB (rs.drop (i + 1)) < vB (ds.take n)) (hz : qs.take (i + 1) = List.replicate (i + 1) 0) :
    ∃ c, c < 3 ∧ okLog (tkG n c (ds.take n) ((rs.drop i).take (n + 1))) ∧
      (rs.take i ++ (tkO n c (ds.take n) ((rs.drop i).take (n + 1)) ++ rs.drop (i + n + 1))).length = 5 ∧ words (rs.take i ++ (tkO n c (ds.take n) ((rs.drop i).take (n + 1)) ++ rs.drop (i + n + 1))) ∧
      (qs.set i (tkD n c (ds.take n) ((rs.drop i).take (n + 1)))).length = 4 ∧ words (qs.set i (tkD n c (ds.take n) ((rs.drop i).take (n + 1)))) ∧
      vB ((rs.take i ++ (tkO n c (ds.take n) ((rs.drop i).take (n + 1)) ++ rs.drop (i + n + 1))).drop i) < vB (ds.take n) ∧ (qs.set i (tkD n c (ds.take n) ((rs.drop i).take (n + 1)))).take i = List.replicate i 0 ∧
      vB (rs.take i ++ (tkO n c (ds.take n) ((rs.drop i).take (n + 1)) ++ rs.drop (i + n + 1))) + vB (qs.set i (tkD n c (ds.take n) ((rs.drop i).take (n + 1)))) * vB (ds.take n) = vB rs + vB qs * vB (ds.take n) := by
  have wy := words_take wd' n
  have ly : (ds.take n).length = n := by rw [List.length_take]; omega
  have lp : ((rs.drop i).take (n + 1)).length = n + 1 := by rw [List.length_take, List.length_drop]; omega
  have wp := words_take (words_drop wr i) (n + 1)
  have by_ := vB_bd _ wy
  rw [ly] at by_
  have z : vB (rs.drop (i + n + 1)) = 0 := by
    have := high_zero (words_drop wr (i + 1)) (n := n) (by rw [List.length_drop]; omega) (Int.le_of_lt by_.2) h3
    rw [List.drop_drop, show i + 1 + n = i + n + 1 from by omega] at this
    exact this
  have eP : vB (rs.drop i) = vB ((rs.drop i).take (n + 1)) := by
    have e := vB_append ((rs.drop i).take (n + 1)) ((rs.drop i).drop (n + 1))
    rw [List.take_append_drop, List.drop_drop, show i + (n + 1) = i + n + 1 from by omega, z, Int.mul_zero, Int.add_zero] at e
    exact e
  have ex : ∃ x, rs[i]? = some x := ⟨rs[i]'(by omega), List.getElem?_eq_getElem (by omega)⟩
  obtain ⟨x, hx⟩ := ex
  have wx : word x := wr x (List.mem_of_getElem? hx)
  have ed : rs.drop i = x :: rs.drop (i + 1) := by
    have hlt : i < rs.length := by omega
    rw [List.drop_eq_getElem_cons hlt]
    rw [List.getElem?_eq_getElem hlt] at hx
    cases hx
    rfl
  have eP2 : vB (rs.drop i) = x + 18446744073709551616 * vB (rs.drop (i + 1)) := by rw [ed]; rfl
  have hlt : vB ((rs.drop i).take (n + 1)) < 18446744073709551616 * vB (ds.take n) := by
    rw [← eP, eP2]
    unfold word at wx
    omega
  obtain ⟨k, rfl⟩ : ∃ k, n = k + 1 := ⟨n - 1, by omega⟩
  rw [Nat.add_sub_cancel] at top
  obtain ⟨c, hc, t1, t2, t3, t4, t5⟩ := tk_spec ly lp wy wp top hlt
  have hy0 : 0 < vB (ds.take (k + 1)) := by
    have := vB_bd _ (words_drop wr (i + 1))
    omega
  have dm := Int.mul_ediv_add_emod (vB ((rs.drop i).take (k + 1 + 1))) (vB (ds.take (k + 1)))
  have r1 := Int.emod_lt_of_pos (vB ((rs.drop i).take (k + 1 + 1))) hy0
  have hp0 := (vB_bd _ wp).1
  have q0 : 0 ≤ vB ((rs.drop i).take (k + 1 + 1)) / vB (ds.take (k + 1)) := Int.ediv_nonneg hp0 (by omega)
  have q9 : vB ((rs.drop i).take (k + 1 + 1)) / vB (ds.take (k + 1)) < 18446744073709551616 := Int.ediv_lt_of_lt_mul hy0 hlt
  have lt : (rs.take i).length = i := by rw [List.length_take]; omega
  refine ⟨c, hc, t5, ?_, ?_, by rw [List.length_set]; exact lq, ?_, ?_, ?_, ?_⟩
  · rw [List.length_append, List.length_append, lt, t3, List.length_drop]; omega
  · intro d hd
    rcases List.mem_append.1 hd with hd | hd
    · exact words_take wr i d hd
    · rcases List.mem_append.1 hd with hd | hd
      · exact t2 d hd
      · exact words_drop wr _ d hd
  · intro d hd
    rcases List.mem_or_eq_of_mem_set hd with hd | hd
    · exact wq d hd
    · rw [hd, t1]; exact ⟨q0, q9⟩
  · rw [List.drop_left' lt, vB_append, z, t4, Int.mul_zero, Int.add_zero]
    exact r1
  · have : qs.take i = List.replicate i 0 := by
      have := congrArg (List.take i) hz
      rw [List.take_take, Nat.min_eq_left (by omega), List.take_replicate, Nat.min_eq_left (by omega)] at this
      exact this
    rw [List.take_set_of_le (by omega)]
    exact this
  · have e1 := vB_append (rs.take i) (rs.drop i)
    rw [List.take_append_drop, lt, eP] at e1
    have e2 : vB (rs.take i ++ (tkO (k + 1) c (ds.take (k + 1)) ((rs.drop i).take (k + 1 + 1)) ++ rs.drop (i + (k + 1) + 1))) = vB (rs.take i) + 18446744073709551616 ^ i * (vB ((rs.drop i).take (k + 1 + 1)) % vB (ds.take (k + 1))) := by
      rw [vB_append, vB_append, z, t4, Int.mul_zero, Int.add_zero, lt]
    have eq0 : qs = List.replicate i 0 ++ 0 :: qs.drop (i + 1) := by
      have := List.take_append_drop (i + 1) qs
      rw [hz, List.replicate_succ', List.append_assoc] at this
      exact this.symm
    have e3 : vB (qs.set i (tkD (k + 1) c (ds.take (k + 1)) ((rs.drop i).take (k + 1 + 1)))) = vB qs + 18446744073709551616 ^ i * (vB ((rs.drop i).take (k + 1 + 1)) / vB (ds.take (k + 1))) := by
      rw [t1]
      generalize vB ((rs.drop i).take (k + 1 + 1)) / vB (ds.take (k + 1)) = q
      generalize qs.drop (i + 1) = tt at eq0
      rw [eq0, List.set_append_right _ _ (by simp), List.length_replicate, Nat.sub_self, List.set_cons_zero, vB_append, vB_append, List.length_replicate]
      simp only [vB]
      rw [Int.mul_add, Int.mul_add]
      omega
    rw [e1, e2, e3, Int.add_mul]
    generalize vB ((rs.drop i).take (k + 1 + 1)) / vB (ds.take (k + 1)) = q at *
    generalize vB ((rs.drop i).take (k + 1 + 1)) % vB (ds.take (k + 1)) = r at *
    rw [← dm, Int.mul_add, Int.mul_assoc, Int.mul_comm q]
    omega
end Go.Proofs.Ytnolcojnodoecaa
