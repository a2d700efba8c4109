/-
  Numbers: a row, and a word times a row added to it.
-/
import Derived.Test.YtbjgkhbhabdjgaaDoorG24
import Derived.Test.YtbjgkhbhabdjgaaDoorG12
import Derived.Test.YtbjgkhbhabdjgaaDoorG13
import Derived.Test.YtbjgkhbhabdjgaaDoorG11
import Derived.Test.YtbjgkhbhabdjgaaDoorG15
namespace Go.Nt

theorem dg_rest : ∀ (m : Nat) (V : Int), vN (dg m V) + 4294967296 ^ m * (V / 4294967296 ^ m) = V
  | 0, V => by simp [dg, vN]
  | m + 1, V => by
    have h := dg_rest m (V / 4294967296)
    simp only [dg, vN]
    rw [pw, ← Int.ediv_ediv_of_nonneg (show (0 : Int) ≤ 4294967296 by omega), Int.mul_assoc]
    omega
/-- a round -/
theorem tm_step {P a b x y z k d e A B : Int} (he : k + (x * y + z) = d + 4294967296 * e) (h : a + P * ((z + 4294967296 * A) + x * (y + 4294967296 * B) + k) = b) : a + P * d + 4294967296 * P * (A + x * B + e) = b := by
  rw [← h]
  have e1 : (z + 4294967296 * A) + x * (y + 4294967296 * B) + k = d + 4294967296 * (A + x * B + e) := by
    rw [Int.mul_add x y, ← Int.mul_assoc x 4294967296 B, Int.mul_comm x 4294967296, Int.mul_assoc 4294967296 x B]
    omega
  rw [e1]
  generalize A + x * B + e = Z
  rw [Int.mul_add P d, ← Int.mul_assoc P 4294967296 Z, Int.mul_comm P 4294967296]
  omega
theorem xy_bd {x y : Int} (hx : 0 ≤ x ∧ x < 4294967296) (hy : 0 ≤ y ∧ y < 4294967296) : 0 ≤ x * y ∧ x * y ≤ 18446744065119617025 := by
  constructor
  · exact Int.mul_nonneg hx.1 hy.1
  · have h1 : x * y ≤ 4294967295 * y := Int.mul_le_mul_of_nonneg_right (by omega) hy.1
    omega
theorem tm_bd {M B x Q : Int} (hM : 0 ≤ M ∧ M < Q) (hB : 0 ≤ B ∧ B < Q) (hx : 0 ≤ x ∧ x < 4294967296) : 0 ≤ M + x * B ∧ M + x * B < Q * 4294967296 := by
  have h0 := Int.mul_nonneg hx.1 hB.1
  have h1 : x * B ≤ 4294967295 * B := Int.mul_le_mul_of_nonneg_right (by omega) hB.1
  omega
theorem carry_bd {T Q : Int} (hQ : 0 < Q) (h : 0 ≤ T ∧ T < Q * 4294967296) : 0 ≤ T / Q ∧ T / Q < 4294967296 :=
  ⟨Int.ediv_nonneg h.1 (by omega), Int.ediv_lt_of_lt_mul hQ (by rw [Int.mul_comm]; exact h.2)⟩
/-- the words of a row, and of what is added to it: one more -/
theorem tm_split {M : List Int} {T : Int} (hT : 0 ≤ T ∧ T < 4294967296 ^ M.length * 4294967296) : ∃ y m, dg M.length T ++ [T / 4294967296 ^ M.length] = y :: m ∧ m.length = M.length ∧ wds [y] ∧ wds m ∧ y + 4294967296 * vN m = T := by
  have hc := carry_bd (pw_pos M.length) hT
  have hw : wds (dg M.length T ++ [T / 4294967296 ^ M.length]) := wds_app (dg_wds _ _) (fun x hx => by rw [List.mem_singleton.1 hx]; exact hc)
  have hl : (dg M.length T ++ [T / 4294967296 ^ M.length]).length = M.length + 1 := by rw [List.length_append, dg_len]; rfl
  have hv : vN (dg M.length T ++ [T / 4294967296 ^ M.length]) = T := by rw [vN_snoc, dg_len]; exact dg_rest _ _
  cases h : dg M.length T ++ [T / 4294967296 ^ M.length] with
  | nil => rw [h] at hl; simp at hl
  | cons y m =>
    rw [h] at hw hl hv
    obtain ⟨w1, w2⟩ := wds_tail hw
    refine ⟨y, m, rfl, by simpa using hl, fun x hx => by rw [List.mem_singleton.1 hx]; exact w1, w2, hv⟩
theorem pd_step {P d m A B x y m' : Int} (hT : y + 4294967296 * m' = m + x * B) (h : d + P * m = A * B) : d + P * y + 4294967296 * P * m' = (A + P * x) * B := by
  have e1 : P * y + 4294967296 * P * m' = P * (m + x * B) := by
    rw [← hT, Int.mul_add, ← Int.mul_assoc P 4294967296 m', Int.mul_comm P 4294967296]
  rw [Int.add_mul, ← h, Int.mul_assoc P x B]
  rw [Int.mul_add] at e1
  omega
theorem vN_rep : ∀ n : Nat, vN (List.replicate n 0) = 0
  | 0 => rfl
  | n + 1 => by
    rw [List.replicate_succ]
    simp only [vN]
    rw [vN_rep n]
    rfl
end Go.Nt

/-
  nat.addTimes, as a call: a word times a row, added to a part of a row.
-/
namespace Go.Proofs.YtbjgkhbhabdjgaaDoor
open Go.KRun Go.Nt
set_option maxRecDepth 100000
set_option linter.unusedVariables false

def tK (k x y z : Int) : Int := IntKind.u64.wrap (k + IntKind.u64.wrap (IntKind.u64.wrap (IntKind.u64.wrap x * IntKind.u64.wrap y) + IntKind.u64.wrap z))
def tC (k x y z : Int) : Int := (tK k x y z).fdiv (2 ^ min (Int.toNat 32) 64)
def tD (k x y z : Int) : Int := IntKind.u32.wrap (tK k x y z)
theorem tm_word {k x y z : Int} (hk : 0 ≤ k ∧ k < 4294967296) (hx : 0 ≤ x ∧ x < 4294967296) (hy : 0 ≤ y ∧ y < 4294967296) (hz : 0 ≤ z ∧ z < 4294967296) :
    (0 ≤ tD k x y z ∧ tD k x y z < 4294967296) ∧ (0 ≤ tC k x y z ∧ tC k x y z < 4294967296) ∧ k + (x * y + z) = tD k x y z + 4294967296 * tC k x y z := by
  have hxy := xy_bd hx hy
  have e : tK k x y z = k + (x * y + z) := by
    unfold tK
    simp only [u64w]
    rw [Int.emod_eq_of_lt hx.1 (by omega), Int.emod_eq_of_lt hy.1 (by omega), Int.emod_eq_of_lt hz.1 (by omega), Int.emod_eq_of_lt hxy.1 (by omega), Int.emod_eq_of_lt (by omega) (by omega), Int.emod_eq_of_lt (by omega) (by omega)]
  unfold tD tC
  rw [e, u32w, show ((2 : Int) ^ min (Int.toNat 32) 64) = 4294967296 from by decide, Int.fdiv_eq_ediv_of_nonneg _ (by omega)]
  generalize x * y = W at *
  omega
def tmP (F : Func) : List Code := [cFst (cBody F), cFst (cSnd (cBody F)), cFst (cSnd (cSnd (cBody F)))]
def tmB (F : Func) : Code := cFst (cSnd (cSnd (cSnd (cBody F))))
def tmL (F : Func) : Code := cIn (cIn (cSnd (tmB F)))
def tmE (F : Func) : Code := cSnd (cSnd (cSnd (cSnd (cBody F))))
def tmF (o n c o' c' : Nat) (x k : Int) (v8 v9 u1 u2 u3 u4 : Value) (j : Int) : List Value := [sl 2 o n c, sl 1 o' n c', uu x, undef, undef, undef, uu 0, .int .u64 k, v8, v9, u1, u2, u3, u4, sl 1 o' n c', i6' n, i6' j]
theorem tm_body : Tryd.f65.body = some (seqs (tmP Tryd.f65) (.seq (.seq (cFst (tmB Tryd.f65)) (.block 0 (.loop (tmL Tryd.f65)))) (tmE Tryd.f65))) := by kernel_rfl
def tmA (o n c o' c' : Nat) (x : Int) : List Value := [sl 2 o n c, sl 1 o' n c', uu x, undef, undef, undef, uu 0, .int .u64 0, undef, undef, sl 2 o n c, sl 1 o' n c', i6' n, sl 2 o n c]
theorem tm_pre (o n c o' c' : Nat) (x : Int) (S la lb : List Value) : GoesT (evL (tabOf Tryd.prog extY conN true) 100 (tmP Tryd.f65) ([sl 2 o n c, sl 1 o' n c', uu x] ++ List.replicate 41 undef, h3 la lb S, [num 0]) ⟨[], [], []⟩) 14 30 none (tmA o n c o' c' x) (h3 la lb S) [(smallC c, true), (okPart 0 n c c, true), (decide ((c : Int) = 0 ∧ (0 : Int) ≠ 0), false)] := ⟨by kernel_rfl, by kernel_rfl, by kernel_rfl⟩
theorem tm_r3 (o n c o' c' : Nat) (x : Int) (S la lb : List Value) (g : Nat → Value) : GoesT (evC (tabOf Tryd.prog extY conN true) 100 false (cFst (tmB Tryd.f65)) (tmA o n c o' c' x ++ tl 30 g, h3 la lb S, []) ⟨[], [], []⟩) 17 27 none (tmF o n c o' c' x 0 undef undef (sl 2 o n c) (sl 1 o' n c') (i6' n) (sl 2 o n c) 0) (h3 la lb S) [] := ⟨by kernel_rfl, by kernel_rfl, by kernel_rfl⟩
theorem tm_out (o n c o' c' : Nat) (x k j : Int) (v8 v9 u1 u2 u3 u4 : Value) (S la lb : List Value) (g : Nat → Value) : GoesT (evC (tabOf Tryd.prog extY conN true) 100 false (tmL Tryd.f65) (tmF o n c o' c' x k v8 v9 u1 u2 u3 u4 j ++ tl 27 g, h3 la lb S, [cmp false]) ⟨[], [], []⟩) 17 27 (some (some 0)) (tmF o n c o' c' x k v8 v9 u1 u2 u3 u4 j) (h3 la lb S) [(decide (j < n), false)] := ⟨by kernel_rfl, by kernel_rfl, by kernel_rfl⟩
theorem tm_go (o n c o' c' : Nat) (x k j y z : Int) (v8 v9 u1 u2 u3 u4 : Value) (S la lb : List Value) (g : Nat → Value) : GoesT (evC (tabOf Tryd.prog extY conN true) 100 false (tmL Tryd.f65) (tmF o n c o' c' x k v8 v9 u1 u2 u3 u4 j ++ tl 27 g, h3 la lb S, [cmp true, at_, val (uu y), at_, val (uu z), at_, at_]) ⟨[], [], []⟩) 17 27 none (tmF o n c o' c' x (tC k x y z) (i6' j) (uu y) u1 u2 u3 u4 (IntKind.i64.wrap (j + 1))) (h3 la lb (S.set (o + j.toNat * 1) (uu (tD k x y z)))) [(decide ((32 : Int) < 0), false), (decide (o + j.toNat * 1 < S.length), true), inR j n, celR S o j z, inR j n, celR lb o' j y, inR j n, (decide (j < n), true)] := ⟨by kernel_rfl, by kernel_rfl, by kernel_rfl⟩
theorem tm_end (o n c o' c' : Nat) (x k j : Int) (v8 v9 u1 u2 u3 u4 : Value) (h : Hp) (g : Nat → Value) : GoesT (evC (tabOf Tryd.prog extY conN true) 100 false (tmE Tryd.f65) (tmF o n c o' c' x k v8 v9 u1 u2 u3 u4 j ++ tl 27 g, h, []) ⟨[], [], []⟩) 7 37 (some none) [sl 2 o n c, sl 1 o' n c', uu x, undef, undef, undef, uu (IntKind.u32.wrap k)] h [] := ⟨by kernel_rfl, by kernel_rfl, by kernel_rfl⟩
end Go.Proofs.YtbjgkhbhabdjgaaDoor

/-
  nat.addTimes: its loop, and the contract.
-/
namespace Go.Proofs.YtbjgkhbhabdjgaaDoor
open Go.KRun Go.Nt
set_option maxRecDepth 100000
set_option linter.unusedVariables false

theorem fR_get {F : List Value} {o : Nat} (hF : F.length = o) (dx : List Int) (x : Int) (px : List Int) (R : List Value) : (F ++ (wU (dx ++ x :: px) ++ R))[o + dx.length]? = some (uu x) := by
  rw [← List.append_assoc, List.getElem?_append_left (by unfold wU; simp; omega)]
  exact fU_get hF dx x px
theorem fR_set {F : List Value} {o : Nat} (hF : F.length = o) (dx : List Int) (x d : Int) (px : List Int) (R : List Value) : (F ++ (wU (dx ++ x :: px) ++ R)).set (o + dx.length) (uu d) = F ++ (wU ((dx ++ [d]) ++ px) ++ R) := by
  rw [← List.append_assoc, List.set_append_left _ _ (by unfold wU; simp; omega), fU_set hF, List.append_assoc]
/-- the words that come, and the word that is carried -/
def tmR (M B : List Int) (x : Int) : List Int := dg M.length (vN M + x * vN B)
def tmC (M B : List Int) (x : Int) : Int := (vN M + x * vN B) / 4294967296 ^ M.length
theorem tm_runs {F R la lb : List Value} {o c o' c' : Nat} {M LB : List Int} {x : Int} (hF : F.length = o) (hM : wds M) (RB : Row lb o' LB) (hl : M.length = LB.length) (hN : M.length < 1099511627776) (hx : 0 ≤ x ∧ x < 4294967296) (hc : M.length ≤ c) (hs : smallC c = true) :
    Runs (tabOf Tryd.prog extY conN true) (seqs (tmP Tryd.f65) (.seq (.seq (cFst (tmB Tryd.f65)) (.block 0 (.loop (tmL Tryd.f65)))) (tmE Tryd.f65))) ([sl 2 o M.length c, sl 1 o' M.length c', uu x] ++ List.replicate 41 undef, h3 la lb (F ++ (wU M ++ R)), []) fun e y => (e = none ∨ e = some none) ∧ resS Tryd.prog Tryd.f65 y.1 y.2.1 = some (uu (tmC M LB x)) ∧ y.2.1.cut 3 = h3 la lb (F ++ (wU (tmR M LB x) ++ R)) := by
  have hwB := RB.rng
  have hcs : c < 4611686018427387904 := blt_iff.1 hs
  refine goesT_list (tabY_ok conN_ok) (tm_pre o M.length c o' c' x _ la lb) (okTwo hs (okTwo (by unfold okPart; exact decide_eq_true (by omega)) (okOne (decide_eq_false (by omega))))) fun g => ?_
  refine Runs.seq (P1 := fun e' y => e' = none ∧ ∃ (k j : Int) (v8 v9 u1 u2 u3 u4 : Value) (g : Nat → Value), y.1 = tmF o M.length c o' c' x k v8 v9 u1 u2 u3 u4 j ++ tl 27 g ∧ (0 ≤ k ∧ k < 4294967296) ∧ k = tmC M LB x ∧ y.2.1 = h3 la lb (F ++ (wU (tmR M LB x) ++ R))) ?_ ?_ (fun e y he => by cases he.1)
  · refine Runs.seq (P1 := fun e' y => e' = none ∧ (∃ g, y.1 = tmF o M.length c o' c' x 0 undef undef (sl 2 o M.length c) (sl 1 o' M.length c') (i6' M.length) (sl 2 o M.length c) 0 ++ tl 27 g) ∧ y.2.1 = h3 la lb (F ++ (wU M ++ R))) (goesT_runs (tabY_ok conN_ok) (tm_r3 o M.length c o' c' x _ la lb g) (fun x hx => by cases hx)) ?_ (fun e y he => by cases he.1)
    rintro ⟨t, h', s'⟩ ⟨_, ⟨g1, ht⟩, hh⟩
    simp only at ht hh
    subst ht hh
    refine (Runs.forLoop (R := fun _ => False) (P := fun y => ∃ (k j : Int) (v8 v9 u1 u2 u3 u4 : Value) (g : Nat → Value), y.1 = tmF o M.length c o' c' x k v8 v9 u1 u2 u3 u4 j ++ tl 27 g ∧ (0 ≤ k ∧ k < 4294967296) ∧ k = tmC M LB x ∧ y.2.1 = h3 la lb (F ++ (wU (tmR M LB x) ++ R)))
      (fun r y => ∃ (dx px bx : List Int) (k : Int) (v8 v9 u1 u2 u3 u4 : Value) (g : Nat → Value), px.length = r ∧ dx.length + px.length = M.length ∧ wds dx ∧ wds px ∧ bx = LB.drop dx.length ∧ (0 ≤ k ∧ k < 4294967296) ∧ y.1 = tmF o M.length c o' c' x k v8 v9 u1 u2 u3 u4 dx.length ++ tl 27 g ∧ y.2.1 = h3 la lb (F ++ (wU (dx ++ px) ++ R)) ∧ vN dx + 4294967296 ^ dx.length * (vN px + x * vN bx + k) = vN M + x * vN LB)
      ?_ (n := M.length) ⟨[], M, LB, 0, undef, undef, _, _, _, _, g1, rfl, by simp, (fun x hx => by cases hx), hM, rfl, by omega, rfl, rfl, by simp [vN]⟩).mono fun e' y he => ?_
    · rintro r ⟨t, h', s'⟩ ⟨dx, px, bx, k, v8, v9, u1, u2, u3, u4, g, hr, hlen, wd1, wd2, hb, hk, ht, hh, hv⟩
      simp only at ht hh
      subst ht hh
      match px, hr, hlen, wd2, hv with
      | [], hr, hlen, wd2, hv =>
        have hl' : dx.length = M.length := by simpa using hlen
        refine (goesT_runs (tabY_ok conN_ok) (tm_out o M.length c o' c' x k dx.length v8 v9 u1 u2 u3 u4 _ la lb g) (okOne (decide_eq_false (by omega)))).mono fun e' y he => ?_
        obtain ⟨rfl, ⟨g1, e2⟩, e3⟩ := he
        have hbx : bx = [] := by rw [hb, List.drop_eq_nil_of_le (by omega)]
        subst hbx
        simp only [vN] at hv
        rw [Int.mul_zero, Int.zero_add, Int.zero_add] at hv
        have hbd := vN_bd dx wd1
        refine ⟨rfl, k, dx.length, v8, v9, u1, u2, u3, u4, g1, e2, hk, ?_, ?_⟩
        · unfold tmC
          rw [← hv, ← hl', Int.add_mul_ediv_left _ _ (by have := pw_pos dx.length; omega), Int.ediv_eq_zero_of_lt hbd.1 hbd.2, Int.zero_add]
        · unfold tmR
          rw [e3, ← hv, ← hl', dg_mod, dg_vN dx wd1, List.append_nil]
      | z :: px, hr, hlen, wd2, hv =>
        obtain ⟨wz, wd2⟩ := wds_tail wd2
        have hl' : dx.length < M.length := by simp at hlen; omega
        have hy := RB.cell (k := dx.length) (by omega)
        have hyr := hwB (LB.getD dx.length 0) (by
          have hk' : dx.length < LB.length := by omega
          simp [List.getD, List.getElem?_eq_getElem hk'])
        have hbx : bx = LB.getD dx.length 0 :: LB.drop (dx.length + 1) := by
          have hk' : dx.length < LB.length := by omega
          rw [hb, List.drop_eq_getElem_cons hk']
          simp [List.getD, List.getElem?_eq_getElem hk']
        generalize LB.getD dx.length 0 = yv at *
        obtain ⟨k1, k2, k3⟩ := tm_word hk hx hyr wz
        have cS := fR_get hF dx z px R
        have lS : o + dx.length < (F ++ (wU (dx ++ z :: px) ++ R)).length := (List.getElem?_eq_some_iff.1 cS).1
        have l1 : decide (o + ((dx.length : Int)).toNat * 1 < (F ++ (wU (dx ++ z :: px) ++ R)).length) = true := by
          rw [Int.toNat_natCast, Nat.mul_one]
          exact decide_eq_true lS
        have l2 : (inR dx.length M.length).1 = (inR dx.length M.length).2 := decide_eq_true (by omega)
        refine (goesT_runs (tabY_ok conN_ok) (tm_go o M.length c o' c' x k dx.length yv z v8 v9 u1 u2 u3 u4 _ la lb g) (okTwo (by decide) (okTwo l1 (okTwo l2 (okTwo (cel_ok cS) (okTwo l2 (okTwo (cel_ok hy) (okTwo l2 (okOne (decide_eq_true (by omega)))))))))) ).mono fun e' y he => ?_
        obtain ⟨rfl, ⟨g1, e2⟩, e3⟩ := he
        refine ⟨px.length, by simp at hr; omega, dx ++ [tD k x yv z], px, LB.drop (dx.length + 1), tC k x yv z, i6' dx.length, uu yv, u1, u2, u3, u4, g1, rfl, by simp at hlen ⊢; omega, wds_app wd1 (fun u hu => by rw [List.mem_singleton.1 hu]; exact k1), wd2, by simp, k2, ?_, ?_, ?_⟩
        · rw [e2, wrapI (by omega) (by omega)]
          simp
        · rw [e3, Int.toNat_natCast, Nat.mul_one, fR_set hF]
        · rw [hbx] at hv
          simp only [vN] at hv
          rw [vN_snoc, List.length_append, List.length_singleton, pw]
          exact tm_step k3 hv
    · match e', he with
      | none, he => exact ⟨rfl, he⟩
      | some none, he => exact he.elim
      | some (some _), he => exact he.elim
  · rintro ⟨t, h', s'⟩ ⟨_, k, j, v8, v9, u1, u2, u3, u4, g, ht, hk, hkv, hh⟩
    simp only at ht hh
    subst ht hh
    refine (goesT_runs (tabY_ok conN_ok) (tm_end o M.length c o' c' x k j v8 v9 u1 u2 u3 u4 _ g) (fun x hx => by cases hx)).mono fun e' y he => ?_
    obtain ⟨rfl, ⟨g1, e2⟩, e3⟩ := he
    have ek : IntKind.u32.wrap k = tmC M LB x := by rw [u32w, Int.emod_eq_of_lt hk.1 hk.2, hkv]
    rw [ek] at e2
    refine ⟨.inr rfl, ?_, ?_⟩
    · rw [e2, e3]
      rfl
    · rw [e3]
      rfl
def tmS (S : List Value) (o n : Nat) (L : List Int) : List Value := S.take o ++ (wU L ++ S.drop (o + n))
def okTm (S lb la : List Value) (t t' t'' : TypeId) (o n c o' n' c' : Nat) (x : Int) : Bool := Nat.beq t tU && Nat.beq t' tR && Nat.beq t'' tR && rowOk t S o n c && rowOk t' lb o' n' c' && Nat.beq n n' && Nat.blt n 1099511627776 && la.all still && decide (0 ≤ x ∧ x < 4294967296)
def gTms : AnsH := fun vals h s =>
  match vals, h with
  | [.slice (some ⟨2, o, none⟩) n c, .slice (some ⟨1, o', none⟩) n' c', .int .u32 x], ⟨3, [(S, t), (lb, t'), (la, t'')]⟩ => some (uu (tmC (cutI S o n) (cutI lb o' n') x), ⟨3, [(tmS S o n (tmR (cutI S o n) (cutI lb o' n') x), tU), (lb, tR), (la, tR)]⟩, s, [(okTm S lb la t t' t'' o n c o' n' c' x, true)])
  | _, _ => none
theorem gTms_ok : AnsHOk 65 gTms := by
  intro vals h s v h' s' lg hg hl m B w E hv
  unfold gTms at hg
  split at hg
  · rename_i o n c o' n' c' x S t lb t' la t''
    cases hg
    have q := hl _ (List.mem_singleton.2 rfl)
    unfold okTm at q
    simp only [Bool.and_eq_true, decide_eq_true_eq] at q
    obtain ⟨⟨⟨⟨⟨⟨⟨⟨q1, q2⟩, q3⟩, ra⟩, rb⟩, qn⟩, qN⟩, q5⟩, q6⟩ := q
    have q1 := Nat.eq_of_beq_eq_true q1
    have q2 := Nat.eq_of_beq_eq_true q2
    have q3 := Nat.eq_of_beq_eq_true q3
    have qn := Nat.eq_of_beq_eq_true qn
    have qN : n < 1099511627776 := blt_iff.1 qN
    subst q1 q2 q3 qn
    obtain ⟨a1, a2, a3, a4, a5, a6, a7⟩ := row_of ra
    obtain ⟨b1, b2, b3, b4, b5, b6, b7⟩ := row_of rb
    have eS : S = S.take o ++ (wU (cutI S o n) ++ S.drop (o + n)) := by
      have h1 := a1.cut
      rw [a2] at h1
      rw [← h1]
      unfold cutV
      rw [← List.drop_drop, List.take_append_drop, List.take_append_drop]
    have hF : (S.take o).length = o := by
      have := a1.len
      simp
      omega
    have r := tm_runs (R := S.drop (o + n)) (la := la) (c := c) (c' := c') hF a1.rng b1 (by rw [a2, b2]) (by rw [a2]; exact qN) q6 (by rw [a2]; exact a3) a4
    rw [a2, ← eS] at r
    have ht : (Hp.tight ⟨3, [(tmS S o n (tmR (cutI S o n) (cutI lb o' n) x), tU), (lb, tR), (la, tR)]⟩) = true := by
      unfold Hp.tight tmS
      simp only [List.all_cons, List.all_nil, List.all_append, Bool.and_true, Bool.and_eq_true]
      refine ⟨⟨?_, wU_tight _ _, ?_⟩, all_mono (by omega) (List.all_eq_true.2 b7), all_mono (by omega) q5⟩
      · rw [List.all_eq_true]
        exact fun v hv => still_lt (by omega) (a7 v (List.mem_of_mem_take hv))
      · rw [List.all_eq_true]
        exact fun v hv => still_lt (by omega) (a7 v (List.mem_of_mem_drop hv))
    exact hcalls_of_runs (T := tabOf Tryd.prog extY conN true) Tryd.func65 tm_body (vals := [sl 2 o n c, sl 1 o' n c', uu x]) (v := uu (tmC (cutI S o n) (cutI lb o' n) x)) (h := h3 la lb S) (by rfl) ht r m B w E hv
  · cases hg
end Go.Proofs.YtbjgkhbhabdjgaaDoor
