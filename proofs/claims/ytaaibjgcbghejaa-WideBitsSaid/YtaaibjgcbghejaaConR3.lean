/-
  The document's own length (tillerref01.Len), as a call: what it answers of any number, in every world: a loop down the bits.
-/
import Derived.Test.YtaaibjgcbghejaaConR2
namespace Go.Proofs.Ytaaibjgcbghejaa
open Go.KRun Go.Wd

def conB : Con := alt 28 (g1 bitsV4) conN
theorem conB_ok : ConOk conB := alt_ok Try.func28 rfl (g1_ok bits_calls) conN_ok
def lPre (F : Func) : List Code := [cFst (cBody F), cFst (cSnd (cBody F)), cFst (cSnd (cSnd (cBody F)))]
def lLoop (F : Func) : Code := cIn (cIn (cFst (cSnd (cSnd (cSnd (cBody F))))))
def lEnd (F : Func) : Code := cSnd (cSnd (cSnd (cSnd (cBody F))))
theorem len_body : Try.f18.body = some (seqs (lPre Try.f18) (.seq (.block 0 (.loop (lLoop Try.f18))) (lEnd Try.f18))) := by kernel_rfl
def lHp (l : List Value) (b : List Value × TypeId) : Hp := ⟨2, [(l, 54), b]⟩
def inr (i : Int) : Bool × Bool := (decide (0 ≤ i ∧ i < ((256 : Nat) : Int)), true)
def cel (l : List Value) (i g : Int) : Bool × Bool := (cellIs (l[0 + i.toNat * 1]?) (.int .i64 g), true)
theorem len_down (n g : Int) (l : List Value) (b : List Value × TypeId) (v0 v1 v2 j5 j6 j7 j8 j9 j10 j11 j12 j13 j14 j15 j16 j17 j18 : Value) : Goes (evC (tabOf Try.prog extY conB true) 200 false (lLoop Try.f18) ([v0, v1, v2, .pointer (some ⟨1, 0, none⟩), .int .i64 n, j5, j6, j7, j8, j9, j10, j11, j12, j13, j14, j15, j16, j17, j18], lHp l b, [cmp true, at_, val (.int .i64 g), cmp true]) ⟨[], [], []⟩) none
    [v0, v1, v2, .pointer (some ⟨1, 0, none⟩), .int .i64 (IntKind.i64.wrap (n - 1)), j5, j6, .int .i64 n, .bool true, .bool true, .int .i64 n, .int .i64 (IntKind.i64.wrap (n - 1)), .pointer (some ⟨1, 0 + (IntKind.i64.wrap (n - 1)).toNat * 1, none⟩), .int .i64 g, .bool true, .bool true, .int .i64 n, .int .i64 (IntKind.i64.wrap (n - 1)), j18] (lHp l b)
    [(g == 0, true), cel l (IntKind.i64.wrap (n - 1)) g, inr (IntKind.i64.wrap (n - 1)), (decide (n > 0), true)] := ⟨by kernel_rfl, by kernel_rfl, by kernel_rfl, by kernel_rfl, by kernel_rfl, by kernel_rfl⟩
theorem len_hit (n g : Int) (l : List Value) (b : List Value × TypeId) (v0 v1 v2 j5 j6 j7 j8 j9 j10 j11 j12 j13 j14 j15 j16 j17 j18 : Value) : Goes (evC (tabOf Try.prog extY conB true) 200 false (lLoop Try.f18) ([v0, v1, v2, .pointer (some ⟨1, 0, none⟩), .int .i64 n, j5, j6, j7, j8, j9, j10, j11, j12, j13, j14, j15, j16, j17, j18], lHp l b, [cmp true, at_, val (.int .i64 g), cmp false]) ⟨[], [], []⟩) (some (some 0))
    [v0, v1, v2, .pointer (some ⟨1, 0, none⟩), .int .i64 n, j5, j6, .int .i64 n, .bool true, .bool true, .int .i64 n, .int .i64 (IntKind.i64.wrap (n - 1)), .pointer (some ⟨1, 0 + (IntKind.i64.wrap (n - 1)).toNat * 1, none⟩), .int .i64 g, .bool false, .bool false, j16, j17, j18] (lHp l b)
    [(g == 0, false), cel l (IntKind.i64.wrap (n - 1)) g, inr (IntKind.i64.wrap (n - 1)), (decide (n > 0), true)] := ⟨by kernel_rfl, by kernel_rfl, by kernel_rfl, by kernel_rfl, by kernel_rfl, by kernel_rfl⟩
theorem len_none (n : Int) (l : List Value) (b : List Value × TypeId) (v0 v1 v2 j5 j6 j7 j8 j9 j10 j11 j12 j13 j14 j15 j16 j17 j18 : Value) : Goes (evC (tabOf Try.prog extY conB true) 200 false (lLoop Try.f18) ([v0, v1, v2, .pointer (some ⟨1, 0, none⟩), .int .i64 n, j5, j6, j7, j8, j9, j10, j11, j12, j13, j14, j15, j16, j17, j18], lHp l b, [cmp false]) ⟨[], [], []⟩) (some (some 0))
    [v0, v1, v2, .pointer (some ⟨1, 0, none⟩), .int .i64 n, j5, j6, .int .i64 n, .bool false, .bool false, undef, undef, undef, undef, undef, .bool false, j16, j17, j18] (lHp l b)
    [(decide (n > 0), false)] := ⟨by kernel_rfl, by kernel_rfl, by kernel_rfl, by kernel_rfl, by kernel_rfl, by kernel_rfl⟩
theorem len_end (n : Int) (l : List Value) (b : List Value × TypeId) (v0 v1 v2 j5 j6 j7 j8 j9 j10 j11 j12 j13 j14 j15 j16 j17 j18 : Value) : Goes (evC (tabOf Try.prog extY conB true) 200 false (lEnd Try.f18) ([v0, v1, v2, .pointer (some ⟨1, 0, none⟩), .int .i64 n, j5, j6, j7, j8, j9, j10, j11, j12, j13, j14, j15, j16, j17, j18], lHp l b, []) ⟨[], [], []⟩) (some none)
    [v0, v1, .int .i64 n, .pointer (some ⟨1, 0, none⟩), .int .i64 n, j5, j6, j7, j8, j9, j10, j11, j12, j13, j14, j15, j16, j17, .int .i64 n] (lHp l b) [] := ⟨by kernel_rfl, by kernel_rfl, by kernel_rfl, by kernel_rfl, by kernel_rfl, by kernel_rfl⟩
def xCells (x : W4) : List Value × TypeId := ([.int .u64 x.a, .int .u64 x.b, .int .u64 x.c, .int .u64 x.d], 27)
set_option maxRecDepth 100000 in
theorem len_pre (x : W4) : Goes (evL (tabOf Try.prog extY conB true) 2000 (lPre Try.f18) ([vW x] ++ List.replicate 18 undef, ⟨0, []⟩, []) ⟨[], [], []⟩) none
    ([vW x, .pointer (some ⟨0, 0, none⟩), .int .i64 0, .pointer (some ⟨1, 0, none⟩), .int .i64 256, vW x, bitsV4 x] ++ List.replicate 12 undef) (lHp (bitsN x) (xCells x)) [(decide x.ok, true)] := ⟨by kernel_rfl, by kernel_rfl, by kernel_rfl, by kernel_rfl, by kernel_rfl, by kernel_rfl⟩

def lSt (n : Int) (v0 v1 v2 : Value) (J : List Value) : List Value := [v0, v1, v2, .pointer (some ⟨1, 0, none⟩), .int .i64 n] ++ J
theorem list14 {J : List Value} (h : J.length = 14) : ∃ j5 j6 j7 j8 j9 j10 j11 j12 j13 j14 j15 j16 j17 j18, J = [j5, j6, j7, j8, j9, j10, j11, j12, j13, j14, j15, j16, j17, j18] := by
  match J, h with
  | [j5, j6, j7, j8, j9, j10, j11, j12, j13, j14, j15, j16, j17, j18], _ => exact ⟨j5, j6, j7, j8, j9, j10, j11, j12, j13, j14, j15, j16, j17, j18, rfl⟩
theorem bits_get (x : W4) {k : Nat} (h : k < 256) : (bitsN x)[k]? = some (.int .i64 (bt x k)) := by
  unfold bitsN
  rw [List.getElem?_map, List.getElem?_range h]
  rfl
theorem cel_ok (x : W4) {k : Nat} (h : k < 256) : (cel (bitsN x) (k : Int) (bt x k)).1 = (cel (bitsN x) (k : Int) (bt x k)).2 := by
  unfold cel
  rw [Int.toNat_natCast, Nat.mul_one, Nat.zero_add, bits_get x h]
  simp [cellIs]
theorem inr_ok {k : Nat} (h : k < 256) : (inr (k : Int)).1 = (inr (k : Int)).2 := by
  unfold inr
  simp only [decide_eq_true_eq]
  constructor <;> omega
/-- what Len is, from a bit that is set with none above it -/
theorem len_is {x : W4} (hx : x.ok) {k : Nat} (h1 : x.val < 2 ^ (k + 1)) (h2 : bt x k = 1) : lenI x = k + 1 := by
  have b := W4.val_bd hx
  unfold bt at h2
  have hp : (0 : Int) < 2 ^ k := Int.pow_pos (by omega)
  have e : x.val / 2 ^ k = 1 := by
    have h3 : x.val / 2 ^ k < 2 := Int.ediv_lt_of_lt_mul hp (by rw [Int.pow_succ, Int.mul_comm] at h1; exact h1)
    have h4 : 0 ≤ x.val / 2 ^ k := Int.ediv_nonneg b.1 (by omega)
    omega
  have e2 : x.val.toNat / 2 ^ k = 1 := by
    have : ((x.val.toNat / 2 ^ k : Nat) : Int) = 1 := by
      rw [Int.natCast_ediv, Int.toNat_of_nonneg b.1]
      simpa using e
    omega
  have := bitLen_shift x.val.toNat k (by omega)
  unfold lenI
  rw [this, e2, show bitLen 1 = 1 from by rfl]
  omega
theorem len_zero {x : W4} (h : x.val = 0) : lenI x = 0 := by unfold lenI; rw [h]; rfl
theorem bit_down {x : W4} (hx : x.ok) {k : Nat} (h1 : x.val < 2 ^ (k + 1)) (h2 : bt x k = 0) : x.val < 2 ^ k := by
  have b := W4.val_bd hx
  unfold bt at h2
  have hp : (0 : Int) < 2 ^ k := Int.pow_pos (by omega)
  have h3 : x.val / 2 ^ k < 2 := Int.ediv_lt_of_lt_mul hp (by rw [Int.pow_succ, Int.mul_comm] at h1; exact h1)
  have h4 : 0 ≤ x.val / 2 ^ k := Int.ediv_nonneg b.1 (by omega)
  have h5 : x.val / 2 ^ k = 0 := by omega
  have h6 := Int.mul_ediv_add_emod x.val (2 ^ k)
  have h7 := Int.emod_lt_of_pos x.val hp
  rw [h5, Int.mul_zero] at h6
  omega
theorem len_loop {x : W4} (hx : x.ok) (b : List Value × TypeId) (v0 v1 v2 : Value) (J : List Value) (hJ : J.length = 14) :
    Runs (tabOf Try.prog extY conB true) (.loop (lLoop Try.f18)) (lSt 256 v0 v1 v2 J, lHp (bitsN x) b, []) fun e y => e = some (some 0) ∧ (∃ J', J'.length = 14 ∧ y.1 = lSt (lenI x) v0 v1 v2 J') ∧ y.2.1 = lHp (bitsN x) b := by
  have bd := W4.val_bd hx
  have p256 : (2 : Int) ^ 256 = 115792089237316195423570985008687907853269984665640564039457584007913129639936 := rfl
  refine Runs.loop (n := 256) (fun r y => ∃ J, J.length = 14 ∧ r ≤ 256 ∧ x.val < 2 ^ r ∧ y.1 = lSt (r : Nat) v0 v1 v2 J ∧ y.2.1 = lHp (bitsN x) b) ?_ ⟨J, hJ, by omega, by rw [p256]; exact bd.2, rfl, rfl⟩
  rintro r ⟨t, h', s⟩ ⟨J, hJ, hr, hv, ht, hh⟩
  simp only at ht hh
  subst ht hh
  obtain ⟨j5, j6, j7, j8, j9, j10, j11, j12, j13, j14, j15, j16, j17, j18, rfl⟩ := list14 hJ
  cases r with
  | zero =>
    refine (goes_runs (tabY_ok conB_ok) (len_none ((0 : Nat) : Int) (bitsN x) b v0 v1 v2 j5 j6 j7 j8 j9 j10 j11 j12 j13 j14 j15 j16 j17 j18) (okL1 (by rfl))).mono fun e y he => ?_
    obtain ⟨rfl, h2, h3⟩ := he
    have e0 : lenI x = ((0 : Nat) : Int) := len_zero (by simp at hv; omega)
    refine ⟨rfl, ⟨y.1.drop 5, by rw [h2]; rfl, ?_⟩, h3⟩
    rw [h2, e0]
    rfl
  | succ k =>
    have em : IntKind.i64.wrap (((k + 1 : Nat) : Int) - 1) = (k : Int) := by rw [wrap_i64' (by omega) (by omega)]; omega
    have i1 : (inr (k : Int)).1 = (inr (k : Int)).2 := inr_ok (by omega)
    have i2 := cel_ok x (k := k) (by omega)
    have i3 : (decide (((k + 1 : Nat) : Int) > 0)) = true := decide_eq_true (by omega)
    have b01 : bt x k = 0 ∨ bt x k = 1 := by unfold bt; omega
    rcases b01 with hb | hb
    · refine (goes_runs (tabY_ok conB_ok) (len_down ((k + 1 : Nat) : Int) (bt x k) (bitsN x) b v0 v1 v2 j5 j6 j7 j8 j9 j10 j11 j12 j13 j14 j15 j16 j17 j18) (by rw [em]; exact okCons (beq_iff_eq.2 hb) (okCons i2 (okCons i1 (okL1 i3))))).mono fun e y he => ?_
      obtain ⟨rfl, h2, h3⟩ := he
      refine ⟨k, by omega, y.1.drop 5, by rw [h2]; rfl, by omega, bit_down hx hv hb, ?_, h3⟩
      rw [h2, em]
      rfl
    · refine (goes_runs (tabY_ok conB_ok) (len_hit ((k + 1 : Nat) : Int) (bt x k) (bitsN x) b v0 v1 v2 j5 j6 j7 j8 j9 j10 j11 j12 j13 j14 j15 j16 j17 j18) (by rw [em]; exact okCons (by rw [hb]; rfl) (okCons i2 (okCons i1 (okL1 i3))))).mono fun e y he => ?_
      obtain ⟨rfl, h2, h3⟩ := he
      have e0 : lenI x = ((k + 1 : Nat) : Int) := len_is hx hv hb
      refine ⟨rfl, ⟨y.1.drop 5, by rw [h2]; rfl, ?_⟩, h3⟩
      rw [h2, e0]
      rfl
set_option maxRecDepth 100000 in
theorem rlen_calls (x : W4) (hx : x.ok) (w : World) : Calls Try.prog 18 #[vW x] w fun e w' => e = .returned (lenV4 x) ∧ Tidy w w' := by
  refine calls_of_runs (T := (tabOf Try.prog extY conB true)) Try.func18 len_body (vals := [vW x]) (by rfl) (by rfl) (goes_list (tabY_ok conB_ok) (len_pre x) (okL1 (decide_eq_true hx)) ?_) w
  refine Runs.seq (P1 := fun e y => e = none ∧ (∃ J', J'.length = 14 ∧ y.1 = lSt (lenI x) (vW x) (.pointer (some ⟨0, 0, none⟩)) (.int .i64 0) J') ∧ y.2.1 = lHp (bitsN x) (xCells x))
    (Runs.block (len_loop hx (xCells x) (vW x) (.pointer (some ⟨0, 0, none⟩)) (.int .i64 0) ([vW x, bitsV4 x] ++ List.replicate 12 undef) rfl) (fun y he => by cases he.1) (fun y he => by cases he.1) (fun y he => ⟨rfl, he.2⟩) (fun id y hid he => by cases he.1; exact absurd rfl hid)) ?_ (fun e y he => by cases he.1)
  rintro ⟨t, h', s⟩ ⟨_, ⟨J', hJ', ht⟩, hh⟩
  simp only at ht hh
  subst ht hh
  obtain ⟨q5, q6, q7, q8, q9, q10, q11, q12, q13, q14, q15, q16, q17, q18, rfl⟩ := list14 hJ'
  refine (goes_runs (tabY_ok conB_ok) (len_end (lenI x) (bitsN x) (xCells x) (vW x) (.pointer (some ⟨0, 0, none⟩)) (.int .i64 0) q5 q6 q7 q8 q9 q10 q11 q12 q13 q14 q15 q16 q17 q18) okNil).mono fun e y he => ?_
  obtain ⟨rfl, h2, h3⟩ := he
  refine ⟨.inr rfl, ?_⟩
  rw [h2, h3]
  rfl
end Go.Proofs.Ytaaibjgcbghejaa
