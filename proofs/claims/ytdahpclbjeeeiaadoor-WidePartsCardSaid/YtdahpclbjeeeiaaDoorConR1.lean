/-
  The document's own bit (tillerref01.Bit), as a call: what it answers of any number and any place, in every world: a loop that halves a word.
-/
import Derived.Test.YtdahpclbjeeeiaaDoorRunS
import Derived.Test.YtdahpclbjeeeiaaDoorCon3
namespace Go.Proofs.YtdahpclbjeeeiaaDoor
open Go.KRun Go.Wd

def bLoop (F : Func) : Code := cIn (cIn (cSnd (cFst (cSnd (cSnd (cSnd (cBody F)))))))
def bPre (F : Func) : List Code := [cFst (cBody F), cFst (cSnd (cBody F)), cFst (cSnd (cSnd (cBody F)))]
def bR4 (F : Func) : Code := cFst (cFst (cSnd (cSnd (cSnd (cBody F)))))
def bEnd (F : Func) : Code := cSnd (cSnd (cSnd (cSnd (cBody F))))
theorem bit_body : Tryd.f19.body = some (seqs (bPre Tryd.f19) (.seq (.seq (bR4 Tryd.f19) (.block 0 (.loop (bLoop Tryd.f19)))) (bEnd Tryd.f19))) := by kernel_rfl
def hlf (z : Int) : Int := IntKind.u64.wrap (z.tdiv 2)
theorem bit_round (n z i : Int) (h : Hp) (v0 v2 v3 v4 j7 j8 j9 j10 j11 j12 j13 j14 j15 j16 j17 j18 j19 j20 j21 j22 j23 j24 j25 j26 j27 : Value) : Goes (evC (tabOf Tryd.prog extY conN true) 200 false (bLoop Tryd.f19) ([v0, .int .i64 n, v2, v3, v4, .int .u64 z, .int .i64 i, j7, j8, j9, j10, j11, j12, j13, j14, j15, j16, j17, j18, j19, j20, j21, j22, j23, j24, j25, j26, j27], h, [tst true]) ⟨[], [], []⟩) none
    [v0, .int .i64 n, v2, v3, v4, .int .u64 (hlf z), .int .i64 (IntKind.i64.wrap (i + 1)), j7, j8, j9, j10, j11, j12, j13, j14, j15, j16, .int .i64 i, .int .i64 n, .int .i64 (n.tmod 64), .bool (decide (i < n.tmod 64)), .int .i64 i, .int .i64 (IntKind.i64.wrap (i + 1)), .int .u64 z, .int .u64 (hlf z), j25, j26, j27] h
    [(decide (i < n.tmod 64), true)] := ⟨by kernel_rfl, by kernel_rfl, by kernel_rfl, by kernel_rfl, by kernel_rfl, by kernel_rfl⟩
theorem bit_out (n z i : Int) (h : Hp) (v0 v2 v3 v4 j7 j8 j9 j10 j11 j12 j13 j14 j15 j16 j17 j18 j19 j20 j21 j22 j23 j24 j25 j26 j27 : Value) : Goes (evC (tabOf Tryd.prog extY conN true) 200 false (bLoop Tryd.f19) ([v0, .int .i64 n, v2, v3, v4, .int .u64 z, .int .i64 i, j7, j8, j9, j10, j11, j12, j13, j14, j15, j16, j17, j18, j19, j20, j21, j22, j23, j24, j25, j26, j27], h, [tst false]) ⟨[], [], []⟩) (some (some 0))
    [v0, .int .i64 n, v2, v3, v4, .int .u64 z, .int .i64 i, j7, j8, j9, j10, j11, j12, j13, j14, j15, j16, .int .i64 i, .int .i64 n, .int .i64 (n.tmod 64), .bool (decide (i < n.tmod 64)), j21, j22, j23, j24, j25, j26, j27] h
    [(decide (i < n.tmod 64), false)] := ⟨by kernel_rfl, by kernel_rfl, by kernel_rfl, by kernel_rfl, by kernel_rfl, by kernel_rfl⟩
theorem bit_end (n z i : Int) (h : Hp) (v0 v2 v3 v4 j7 j8 j9 j10 j11 j12 j13 j14 j15 j16 j17 j18 j19 j20 j21 j22 j23 j24 j25 j26 j27 : Value) : Goes (evC (tabOf Tryd.prog extY conN true) 200 false (bEnd Tryd.f19) ([v0, .int .i64 n, v2, v3, v4, .int .u64 z, .int .i64 i, j7, j8, j9, j10, j11, j12, j13, j14, j15, j16, j17, j18, j19, j20, j21, j22, j23, j24, j25, j26, j27], h, []) ⟨[], [], []⟩) (some none)
    [v0, .int .i64 n, v2, v3, .int .i64 (IntKind.i64.wrap (z.tmod 2)), .int .u64 z, .int .i64 i, j7, j8, j9, j10, j11, j12, j13, j14, j15, j16, j17, j18, j19, j20, j21, j22, j23, j24, .int .u64 z, .int .u64 (z.tmod 2), .int .i64 (IntKind.i64.wrap (z.tmod 2))] h [] := ⟨by kernel_rfl, by kernel_rfl, by kernel_rfl, by kernel_rfl, by kernel_rfl, by kernel_rfl⟩
def bLog (n k : Int) : Log := [(decide ((64 : Int) = 0), false), (decide (IntKind.i64.wrap (n.tdiv 64) = k), true), (decide (n > 255), false), (decide (n < 0), false)]
def bHp (x : W4) : Hp := ⟨1, [([.int .u64 x.a, .int .u64 x.b, .int .u64 x.c, .int .u64 x.d], 31)]⟩
theorem bit_pre0 (x : W4) (n : Int) : Goes (evL (tabOf Tryd.prog extY conN true) 200 (bPre Tryd.f19) ([vW x, .int .i64 n] ++ List.replicate 26 undef, ⟨0, []⟩, [cmp false, cmp false, num 0]) ⟨[], [], []⟩) none
    [vW x, .int .i64 n, .pointer (some ⟨0, 0, none⟩), undef, .int .i64 0, .int .u64 x.a, undef, .int .i64 n, .bool false, .bool false, .int .i64 n, .bool false, .bool false, .int .i64 n, .int .i64 0, .pointer (some ⟨0, 0, none⟩), .int .u64 x.a, undef, undef, undef, undef, undef, undef, undef, undef, undef, undef, undef] (bHp x) (bLog n 0) := ⟨by kernel_rfl, by kernel_rfl, by kernel_rfl, by kernel_rfl, by kernel_rfl, by kernel_rfl⟩
theorem bit_pre1 (x : W4) (n : Int) : Goes (evL (tabOf Tryd.prog extY conN true) 200 (bPre Tryd.f19) ([vW x, .int .i64 n] ++ List.replicate 26 undef, ⟨0, []⟩, [cmp false, cmp false, num 1]) ⟨[], [], []⟩) none
    [vW x, .int .i64 n, .pointer (some ⟨0, 0, none⟩), undef, .int .i64 0, .int .u64 x.b, undef, .int .i64 n, .bool false, .bool false, .int .i64 n, .bool false, .bool false, .int .i64 n, .int .i64 1, .pointer (some ⟨0, 1, none⟩), .int .u64 x.b, undef, undef, undef, undef, undef, undef, undef, undef, undef, undef, undef] (bHp x) (bLog n 1) := ⟨by kernel_rfl, by kernel_rfl, by kernel_rfl, by kernel_rfl, by kernel_rfl, by kernel_rfl⟩
theorem bit_pre2 (x : W4) (n : Int) : Goes (evL (tabOf Tryd.prog extY conN true) 200 (bPre Tryd.f19) ([vW x, .int .i64 n] ++ List.replicate 26 undef, ⟨0, []⟩, [cmp false, cmp false, num 2]) ⟨[], [], []⟩) none
    [vW x, .int .i64 n, .pointer (some ⟨0, 0, none⟩), undef, .int .i64 0, .int .u64 x.c, undef, .int .i64 n, .bool false, .bool false, .int .i64 n, .bool false, .bool false, .int .i64 n, .int .i64 2, .pointer (some ⟨0, 2, none⟩), .int .u64 x.c, undef, undef, undef, undef, undef, undef, undef, undef, undef, undef, undef] (bHp x) (bLog n 2) := ⟨by kernel_rfl, by kernel_rfl, by kernel_rfl, by kernel_rfl, by kernel_rfl, by kernel_rfl⟩
theorem bit_pre3 (x : W4) (n : Int) : Goes (evL (tabOf Tryd.prog extY conN true) 200 (bPre Tryd.f19) ([vW x, .int .i64 n] ++ List.replicate 26 undef, ⟨0, []⟩, [cmp false, cmp false, num 3]) ⟨[], [], []⟩) none
    [vW x, .int .i64 n, .pointer (some ⟨0, 0, none⟩), undef, .int .i64 0, .int .u64 x.d, undef, .int .i64 n, .bool false, .bool false, .int .i64 n, .bool false, .bool false, .int .i64 n, .int .i64 3, .pointer (some ⟨0, 3, none⟩), .int .u64 x.d, undef, undef, undef, undef, undef, undef, undef, undef, undef, undef, undef] (bHp x) (bLog n 3) := ⟨by kernel_rfl, by kernel_rfl, by kernel_rfl, by kernel_rfl, by kernel_rfl, by kernel_rfl⟩
theorem bit_r4 (n z : Int) (h : Hp) (v0 v2 v3 v4 j6 j7 j8 j9 j10 j11 j12 j13 j14 j15 j16 j17 j18 j19 j20 j21 j22 j23 j24 j25 j26 j27 : Value) : Goes (evC (tabOf Tryd.prog extY conN true) 200 false (bR4 Tryd.f19) ([v0, .int .i64 n, v2, v3, v4, .int .u64 z, j6, j7, j8, j9, j10, j11, j12, j13, j14, j15, j16, j17, j18, j19, j20, j21, j22, j23, j24, j25, j26, j27], h, []) ⟨[], [], []⟩) none [v0, .int .i64 n, v2, v3, v4, .int .u64 z, .int .i64 0, j7, j8, j9, j10, j11, j12, j13, j14, j15, j16, j17, j18, j19, j20, j21, j22, j23, j24, j25, j26, j27] h [] := ⟨by kernel_rfl, by kernel_rfl, by kernel_rfl, by kernel_rfl, by kernel_rfl, by kernel_rfl⟩

/-- the state in and behind the loop, but for what lies in the scratch slots -/
def bSt (n z i : Int) (v0 v2 v3 v4 : Value) (J : List Value) : List Value := [v0, .int .i64 n, v2, v3, v4, .int .u64 z, .int .i64 i] ++ J
theorem list21 {J : List Value} (h : J.length = 21) : ∃ j7 j8 j9 j10 j11 j12 j13 j14 j15 j16 j17 j18 j19 j20 j21 j22 j23 j24 j25 j26 j27, J = [j7, j8, j9, j10, j11, j12, j13, j14, j15, j16, j17, j18, j19, j20, j21, j22, j23, j24, j25, j26, j27] := by
  match J, h with
  | [j7, j8, j9, j10, j11, j12, j13, j14, j15, j16, j17, j18, j19, j20, j21, j22, j23, j24, j25, j26, j27], _ => exact ⟨j7, j8, j9, j10, j11, j12, j13, j14, j15, j16, j17, j18, j19, j20, j21, j22, j23, j24, j25, j26, j27, rfl⟩
theorem hlf_eq {z : Int} (h0 : 0 ≤ z) (h1 : z < 18446744073709551616) : hlf z = z / 2 := by
  unfold hlf
  rw [Int.tdiv_eq_ediv_of_nonneg h0, wrap_u64]
  omega
theorem half_pow (w0 : Int) (k : Nat) : w0 / 2 ^ k / 2 = w0 / 2 ^ (k + 1) := by
  rw [Int.ediv_ediv_of_nonneg (Int.le_of_lt (Int.pow_pos (by omega))), Int.pow_succ]
theorem div_bd {w0 : Int} (hw : 0 ≤ w0 ∧ w0 < 18446744073709551616) (k : Nat) : 0 ≤ w0 / 2 ^ k ∧ w0 / 2 ^ k < 18446744073709551616 := by
  have hp : (0 : Int) < 2 ^ k := Int.pow_pos (by omega)
  refine ⟨Int.ediv_nonneg hw.1 (by omega), ?_⟩
  have := Int.ediv_le_self (a := w0) (2 ^ k) hw.1
  omega
theorem bit_loop (n w0 : Int) (hn : 0 ≤ n) (hw : 0 ≤ w0 ∧ w0 < 18446744073709551616) (h : Hp) (v0 v2 v3 v4 : Value) (J : List Value) (hJ : J.length = 21) :
    Runs (tabOf Tryd.prog extY conN true) (.loop (bLoop Tryd.f19)) (bSt n w0 0 v0 v2 v3 v4 J, h, []) fun e y => e = some (some 0) ∧ (∃ J', J'.length = 21 ∧ y.1 = bSt n (w0 / 2 ^ (n % 64).toNat) (n % 64) v0 v2 v3 v4 J') ∧ y.2.1 = h := by
  have em : n.tmod 64 = n % 64 := Int.tmod_eq_emod_of_nonneg hn
  refine Runs.loop (n := (n % 64).toNat) (fun r x => ∃ (k : Nat) (J : List Value), J.length = 21 ∧ (k : Int) ≤ n % 64 ∧ r = (n % 64).toNat - k ∧ x.1 = bSt n (w0 / 2 ^ k) k v0 v2 v3 v4 J ∧ x.2.1 = h) ?_ ⟨0, J, hJ, by omega, by omega, by simp [bSt], rfl⟩
  rintro r ⟨t, h', s⟩ ⟨k, J, hJ, hk, hr, ht, hh⟩
  simp only at ht hh
  subst ht hh
  obtain ⟨j7, j8, j9, j10, j11, j12, j13, j14, j15, j16, j17, j18, j19, j20, j21, j22, j23, j24, j25, j26, j27, rfl⟩ := list21 hJ
  have bd := div_bd hw k
  by_cases hlt : (k : Int) < n % 64
  · refine (goes_runs (tabY_ok conN_ok) (bit_round n (w0 / 2 ^ k) k h' v0 v2 v3 v4 j7 j8 j9 j10 j11 j12 j13 j14 j15 j16 j17 j18 j19 j20 j21 j22 j23 j24 j25 j26 j27) (okL1 (decide_eq_true (by rw [em]; exact hlt)))).mono fun e y he => ?_
    obtain ⟨rfl, h2, h3⟩ := he
    refine ⟨(n % 64).toNat - (k + 1), by omega, k + 1, y.1.drop 7, by rw [h2]; rfl, by omega, rfl, ?_, h3⟩
    rw [h2, hlf_eq bd.1 bd.2, half_pow, wrap_i64' (by omega) (by omega)]
    rfl
  · refine (goes_runs (tabY_ok conN_ok) (bit_out n (w0 / 2 ^ k) k h' v0 v2 v3 v4 j7 j8 j9 j10 j11 j12 j13 j14 j15 j16 j17 j18 j19 j20 j21 j22 j23 j24 j25 j26 j27) (okL1 (decide_eq_false (by rw [em]; exact hlt)))).mono fun e y he => ?_
    obtain ⟨rfl, h2, h3⟩ := he
    have ek : k = (n % 64).toNat := by omega
    refine ⟨rfl, ⟨y.1.drop 7, by rw [h2]; rfl, ?_⟩, h3⟩
    rw [h2, ← ek, show (k : Int) = n % 64 by omega]
    rfl

/-- behind the loop's words: the whole from the word on -/
theorem bit_rest (n w0 : Int) (hn : 0 ≤ n) (hw : 0 ≤ w0 ∧ w0 < 18446744073709551616) (h : Hp) (v0 v2 v3 v4 j6 : Value) (J : List Value) (hJ : J.length = 21) :
    Runs (tabOf Tryd.prog extY conN true) (.seq (.seq (bR4 Tryd.f19) (.block 0 (.loop (bLoop Tryd.f19)))) (bEnd Tryd.f19)) ([v0, .int .i64 n, v2, v3, v4, .int .u64 w0, j6] ++ J, h, []) fun e y => (e = none ∨ e = some none) ∧ resS Tryd.prog Tryd.f19 y.1 y.2.1 = some (.int .i64 (w0 / 2 ^ (n % 64).toNat % 2)) := by
  obtain ⟨j7, j8, j9, j10, j11, j12, j13, j14, j15, j16, j17, j18, j19, j20, j21, j22, j23, j24, j25, j26, j27, rfl⟩ := list21 hJ
  refine Runs.seq (P1 := fun e y => e = none ∧ (∃ J', J'.length = 21 ∧ y.1 = bSt n (w0 / 2 ^ (n % 64).toNat) (n % 64) v0 v2 v3 v4 J') ∧ y.2.1 = h) (Runs.seq (goes_runs (tabY_ok conN_ok) (bit_r4 n w0 h v0 v2 v3 v4 j6 j7 j8 j9 j10 j11 j12 j13 j14 j15 j16 j17 j18 j19 j20 j21 j22 j23 j24 j25 j26 j27) okNil) ?_ (fun e y he => by cases he.1)) ?_ (fun e y he => by cases he.1)
  · rintro ⟨t, h', s⟩ ⟨_, ht, hh⟩
    simp only at ht hh
    subst ht hh
    refine Runs.script (Runs.block (bit_loop n w0 hn hw h' v0 v2 v3 v4 [j7, j8, j9, j10, j11, j12, j13, j14, j15, j16, j17, j18, j19, j20, j21, j22, j23, j24, j25, j26, j27] rfl) (fun y he => by cases he.1) (fun y he => by cases he.1) (fun y he => ⟨rfl, he.2⟩) (fun id y hid he => by cases he.1; exact absurd rfl hid))
  · rintro ⟨t, h', s⟩ ⟨_, ⟨J', hJ', ht⟩, hh⟩
    simp only at ht hh
    subst ht hh
    obtain ⟨q7, q8, q9, q10, q11, q12, q13, q14, q15, q16, q17, q18, q19, q20, q21, q22, q23, q24, q25, q26, q27, rfl⟩ := list21 hJ'
    have bd := div_bd hw (n % 64).toNat
    refine (goes_runs (tabY_ok conN_ok) (bit_end n (w0 / 2 ^ (n % 64).toNat) (n % 64) h' v0 v2 v3 v4 q7 q8 q9 q10 q11 q12 q13 q14 q15 q16 q17 q18 q19 q20 q21 q22 q23 q24 q25 q26 q27) okNil).mono fun e y he => ?_
    obtain ⟨rfl, h2, h3⟩ := he
    refine ⟨.inr rfl, ?_⟩
    have e1 : IntKind.i64.wrap ((w0 / 2 ^ (n % 64).toNat).tmod 2) = w0 / 2 ^ (n % 64).toNat % 2 := by
      rw [Int.tmod_eq_emod_of_nonneg bd.1, wrap_i64' (by omega) (by omega)]
    rw [h2, h3, ← e1]
    rfl
end Go.Proofs.YtdahpclbjeeeiaaDoor
