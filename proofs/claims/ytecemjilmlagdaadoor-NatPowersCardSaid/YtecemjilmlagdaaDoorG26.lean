/-
  The document's product (tillerref02.Mul), also of nothing; its number told ahead.
-/
import Derived.Test.YtecemjilmlagdaaDoorG25
import Derived.Test.YtecemjilmlagdaaDoorG24
import Derived.Test.YtecemjilmlagdaaDoorG12
import Derived.Test.YtecemjilmlagdaaDoorG11
namespace Go.Proofs.YtecemjilmlagdaaDoor
open Go.KRun Go.Nt
set_option maxRecDepth 100000
set_option linter.unusedVariables false

def hN2 (lo la : List Value) : Hp := ⟨2, [(lo, tU), (la, tR)]⟩
def mNr (o n c z : Nat) (i v7 v8 : Value) : List Value := [sl 0 o n c, nilS, undef, undef, nilS, sl 1 0 z z, i, v7, v8]
def zU (n : Nat) : List Value := List.replicate n (.int .u32 0)
theorem zU_eq (n : Nat) : zU n = wU (List.replicate n 0) := by unfold zU wU; simp
theorem trim_rep : ∀ n : Nat, trimN (List.replicate n 0) = 0
  | 0 => rfl
  | n + 1 => by
    rw [List.replicate_succ]
    simp only [trimN]
    rw [trim_rep n]
    rfl
theorem zU_cut (n : Nat) : trimN (cutI (zU n) 0 n) = 0 := by
  have h := cut_wU (List.replicate n 0)
  rw [List.length_replicate] at h
  rw [zU_eq, h, trim_rep]
theorem zU_row {n : Nat} (h : n < 1000000) : rowC tU (zU n) 0 n n = true := by
  have := rowC_wU (L := List.replicate n 0) (fun x hx => by rw [List.eq_of_mem_replicate hx]; omega) (by simp; omega) (c := n) (by simp only [List.length_replicate]; exact capS (by omega))
  rw [List.length_replicate] at this
  rw [zU_eq]
  exact this
def zL (n : Nat) : Int := IntKind.i64.wrap ((n : Int) + ((0 : Nat) : Int))
def zR (n : Nat) : Int := IntKind.i64.wrap (((0 : Nat) : Int) + (n : Int))
theorem zL_eq {n : Nat} (h : n < 1000000) : zL n = (n : Int) := by unfold zL; rw [wrapI (by omega) (by omega)]; omega
theorem zR_eq {n : Nat} (h : n < 1000000) : zR n = (n : Int) := by unfold zR; rw [wrapI (by omega) (by omega)]; omega
theorem mn_pre (o n c : Nat) (la : List Value) : GoesT (evL (tabH Tryd.prog extY conN hcV) 200 (muPr Tryd.f23) ([sl 0 o n c, nilS] ++ List.replicate 66 undef, ⟨1, [(la, tR)]⟩, [at_]) ⟨[], [], []⟩) 6 62 none [sl 0 o n c, nilS, undef, undef, nilS, sl 1 0 (zL n).toNat (zL n).toNat] (hN2 (zU (zL n).toNat) la) [(okMakeB 4 (zL n) (zL n), true)] := ⟨by kernel_rfl, by kernel_rfl, by kernel_rfl⟩
theorem mn_go (o n c z : Nat) (i : Int) (v7 v8 : Value) (lo la : List Value) (g : Nat → Value) : GoesT (evC (tabH Tryd.prog extY conN hcV) 200 false (muO Tryd.f23) (mNr o n c z (.int .i64 i) v7 v8 ++ tl 59 g, hN2 lo la, [cmp true, cmp false, at_, at_]) ⟨[], [], []⟩) 9 59 none (mNr o n c z (.int .i64 (IntKind.i64.wrap (i + 1))) (.int .u64 0) (.int .i64 0)) (hN2 (lo.set (0 + (ijM i (0 : Nat)).toNat * 1) (.int .u32 0)) la) [stM lo (ijM i (0 : Nat)), inM (ijM i (0 : Nat)) z, (decide ((0 : Int) < ((0 : Nat) : Int)), false), (decide (i < (n : Int)), true)] := ⟨by kernel_rfl, by kernel_rfl, by kernel_rfl⟩
theorem mn_out (o n c z : Nat) (i : Int) (v7 v8 : Value) (lo la : List Value) (g : Nat → Value) : GoesT (evC (tabH Tryd.prog extY conN hcV) 200 false (muO Tryd.f23) (mNr o n c z (.int .i64 i) v7 v8 ++ tl 59 g, hN2 lo la, [cmp false]) ⟨[], [], []⟩) 9 59 (some (some 0)) (mNr o n c z (.int .i64 i) v7 v8) (hN2 lo la) [(decide (i < (n : Int)), false)] := ⟨by kernel_rfl, by kernel_rfl, by kernel_rfl⟩
theorem mn_end (o n c z : Nat) (i v7 v8 : Value) (lo la : List Value) (g : Nat → Value) : GoesT (evC (tabH Tryd.prog extY conN hcV) 200 false (muE Tryd.f23) (mNr o n c z i v7 v8 ++ tl 59 g, hN2 lo la, []) ⟨[], [], []⟩) 5 63 (some none) [sl 0 o n c, nilS, undef, undef, sl 1 0 (trimN (cutI lo 0 z)) (trimN (cutI lo 0 z))] (hN2 lo la) [(rowC tU lo 0 z z, true)] := ⟨by kernel_rfl, by kernel_rfl, by kernel_rfl⟩
theorem mn_n (o n c : Nat) (la : List Value) : GoesT (evC (tabH Tryd.prog extY conN hcV) 200 false (cBody Tryd.f23) ([nilS, sl 0 o n c] ++ List.replicate 66 undef, ⟨1, [(la, tR)]⟩, [at_, cmp false]) ⟨[], [], []⟩) 5 63 (some none) [nilS, sl 0 o n c, undef, undef, sl 1 0 (trimN (cutI (zU (zR n).toNat) 0 (zR n).toNat)) (trimN (cutI (zU (zR n).toNat) 0 (zR n).toNat))] (hN2 (zU (zR n).toNat) la) [(rowC tU (zU (zR n).toNat) 0 (zR n).toNat (zR n).toNat, true), (decide ((0 : Int) < ((0 : Nat) : Int)), false), (okMakeB 4 (zR n) (zR n), true)] := ⟨by kernel_rfl, by kernel_rfl, by kernel_rfl⟩
theorem mn_nn : GoesT (evC (tabH Tryd.prog extY conN hcV) 200 false (cBody Tryd.f23) ([nilS, nilS] ++ List.replicate 66 undef, ⟨0, []⟩, [at_, cmp false]) ⟨[], [], []⟩) 5 63 (some none) [nilS, nilS, undef, undef, sl 0 0 0 0] ⟨1, [([], tU)]⟩ [(rowC tU [] 0 0 0, true), (decide ((0 : Int) < ((0 : Nat) : Int)), false), (true, true)] := ⟨by kernel_rfl, by kernel_rfl, by kernel_rfl⟩
theorem umul_cbody : Tryd.f23.body = some (cBody Tryd.f23) := by kernel_rfl
theorem mn_runs {la : List Value} {o n c : Nat} (hn : n < 1000000) :
    Runs (tabH Tryd.prog extY conN hcV) (seqs (muPr Tryd.f23) (.seq (.seq (cFst (muB Tryd.f23)) (.block 0 (.loop (muO Tryd.f23)))) (muE Tryd.f23))) ([sl 0 o n c, nilS] ++ List.replicate 66 undef, ⟨1, [(la, tR)]⟩, []) fun e y => (e = none ∨ e = some none) ∧ resS Tryd.prog Tryd.f23 y.1 y.2.1 = some (sl 1 0 0 0) ∧ y.2.1.blk? 1 = some (zU n, tU) := by
  have hT := tabH_ok conN_ok hcV_ok
  have g0 := mn_pre o n c la
  rw [zL_eq hn, Int.toNat_natCast] at g0
  refine goesT_list hT g0 (okOne (by unfold okMakeB; exact decide_eq_true (by omega))) fun g => ?_
  refine Runs.seq (P1 := fun e' y => e' = none ∧ ∃ (i v7 v8 : Value) (g : Nat → Value), y.1 = mNr o n c n i v7 v8 ++ tl 59 g ∧ y.2.1 = hN2 (zU n) la) ?_ ?_ (fun e y he => by cases he.1)
  · refine Runs.next (goesT_runs hT (mu_r2 (sl 0 o n c) nilS (sl 1 0 n n) _ g) (fun _ h => by cases h)) fun g s => ?_
    refine (Runs.forLoop (R := fun _ => False) (P := fun y => ∃ (i v7 v8 : Value) (g : Nat → Value), y.1 = mNr o n c n i v7 v8 ++ tl 59 g ∧ y.2.1 = hN2 (zU n) la)
      (fun r y => ∃ (k : Nat) (v7 v8 : Value) (g : Nat → Value), k + r = n ∧ y.1 = mNr o n c n (.int .i64 (k : Int)) v7 v8 ++ tl 59 g ∧ y.2.1 = hN2 (zU n) la)
      ?_ (n := n) ⟨0, _, _, g, by omega, rfl, rfl⟩).mono fun e' y he => ?_
    · rintro r ⟨t, h', s'⟩ ⟨k, v7, v8, g, hk, ht, hh⟩
      simp only at ht hh
      subst ht hh
      cases r with
      | zero =>
        refine (goesT_runs hT (mn_out o n c n k v7 v8 _ la g) (okOne (decide_eq_false (by omega)))).mono fun e' y he => ?_
        obtain ⟨rfl, ⟨g1, e2⟩, e3⟩ := he
        exact ⟨rfl, _, _, _, g1, e2, e3⟩
      | succ r =>
        have ei : ijM (k : Int) (0 : Nat) = (k : Int) := by unfold ijM; rw [wrapI (by omega) (by omega)]; omega
        have g1 := mn_go o n c n k v7 v8 (zU n) la g
        rw [ei] at g1
        have es : (zU n).set (0 + ((k : Int)).toNat * 1) (.int .u32 0) = zU n := by
          unfold zU
          rw [Int.toNat_natCast, Nat.zero_add, Nat.mul_one, List.set_replicate_self]
        rw [es] at g1
        refine (goesT_runs hT g1 (okTwo (by unfold stM zU; exact decide_eq_true (by simp; omega)) (okTwo (by unfold inM; exact decide_eq_true (by omega)) (okTwo (by decide) (okOne (decide_eq_true (by omega))))))).mono fun e' y he => ?_
        obtain ⟨rfl, ⟨g2, e2⟩, e3⟩ := he
        refine ⟨r, by omega, k + 1, .int .u64 0, .int .i64 0, g2, by omega, ?_, e3⟩
        rw [e2, wrapI (by omega) (by omega)]
        rfl
    · match e', he with
      | none, he => exact ⟨rfl, he⟩
      | some none, he => exact he.elim
      | some (some _), he => exact he.elim
  · rintro ⟨t, h', s'⟩ ⟨_, i, v7, v8, g, ht, hh⟩
    simp only at ht hh
    subst ht hh
    have g1 := mn_end o n c n i v7 v8 (zU n) la g
    rw [zU_cut] at g1
    refine (goesT_runs hT g1 (okOne (zU_row hn))).mono fun e' y he => ?_
    obtain ⟨rfl, ⟨g2, e2⟩, e3⟩ := he
    refine ⟨.inr rfl, ?_, ?_⟩
    · rw [e2, e3]; rfl
    · rw [e3]; rfl
def gUmulN : AnsH := fun vals h s =>
  match vals, s with
  | [.slice p n c, .slice q n' c'], .inr (.inl V) :: s' => mk16 V.toNat h s' [(decide (vO h p n * vO h q n' = V.toNat), true), (okMu h p q n c n' c', true)]
  | _, _ => none
theorem d16_0 : d16 0 = [] := db_zero 65536
theorem gUmulN_ok : AnsHOk 23 gUmulN := by
  intro vals h s v h' s' lg hg hl m B w E hv
  unfold gUmulN at hg
  split at hg
  · rename_i p n c q n' c' V s2
    unfold mk16 at hg
    cases hg
    have l1 := of_decide_eq_true (hl _ List.mem_cons_self)
    have l3 := hl _ (List.mem_cons_of_mem _ (List.mem_singleton.2 rfl))
    have l3' := l3
    simp only [okMu, Bool.and_eq_true] at l3
    obtain ⟨⟨⟨q1, q2⟩, ⟨p1, p2⟩⟩, q4⟩ := l3
    have q4 := blt_iff.1 q4
    rcases rowP_cases q1 with ⟨rfl, rfl, rfl, e0⟩ | ⟨b, o, x, rfl, hx, r1, rs, e0⟩
    · have hV : V.toNat = 0 := by
        rw [← l1]
        unfold vO
        rw [e0]
        simp [vb]
      rw [hV, d16_0]
      rcases rowP_cases p1 with ⟨rfl, rfl, rfl, f0⟩ | ⟨b', o', y, rfl, hy, t1, ts, f0⟩
      · have r : Runs (tabH Tryd.prog extY conN hcV) (cBody Tryd.f23) ([nilS, nilS] ++ List.replicate 66 undef, ⟨0, []⟩, []) fun e z => (e = none ∨ e = some none) ∧ resS Tryd.prog Tryd.f23 z.1 z.2.1 = some (sl 0 0 0 0) ∧ ∃ r, z.2.1.blk? 0 = some (wU [] ++ r, tU) := by
          refine (goesT_runs (tabH_ok conN_ok hcV_ok) mn_nn (okTwo (by kernel_rfl) (okTwo (by decide) (okOne rfl)))).mono fun e z he => ?_
          obtain ⟨rfl, ⟨g, e1⟩, e2⟩ := he
          exact ⟨.inr rfl, by rw [e1, e2]; rfl, [], by rw [e2]; rfl⟩
        have := row_calls1 (T := tabH Tryd.prog extY conN hcV) Tryd.func23 umul_cbody (h0 := ⟨0, []⟩) ⟨rfl, fun b x hx => by have : b < 0 := Hp.blk_lt hx; omega⟩ (vals := [nilS, nilS]) (fun v hv => by
          simp only [List.mem_cons, List.not_mem_nil, or_false] at hv
          rcases hv with rfl | rfl <;> rfl) (k := 0) (cs := wU []) (ty := tU) (wU_lt _) (by kernel_rfl) r.w (by rfl) E (s := fun i => i) (fun i x hx _ => by have : i < 0 := Hp.blk_lt hx; omega)
        exact this
      · obtain ⟨b1, b2, b3, b4, b5, b6, b7⟩ := rowC_of t1
        have g0 := mn_n o' n' c' y.1
        rw [zR_eq (by omega), Int.toNat_natCast, zU_cut] at g0
        have r : Runs (tabH Tryd.prog extY conN hcV) (cBody Tryd.f23) ([nilS, sl 0 o' n' c'] ++ List.replicate 66 undef, ⟨1, [(y.1, tR)]⟩, []) fun e z => (e = none ∨ e = some none) ∧ resS Tryd.prog Tryd.f23 z.1 z.2.1 = some (sl 1 0 0 0) ∧ ∃ r, z.2.1.blk? 1 = some (wU [] ++ r, tU) := by
          refine (goesT_runs (tabH_ok conN_ok hcV_ok) g0 (okTwo (zU_row (by omega)) (okTwo (by decide) (okOne (by unfold okMakeB; exact decide_eq_true (by omega)))))).mono fun e z he => ?_
          obtain ⟨rfl, ⟨g, e1⟩, e2⟩ := he
          exact ⟨.inr rfl, by rw [e1, e2]; rfl, zU n', by rw [e2]; rfl⟩
        have evals : List.map (rn fun _ => b') [nilS, sl 0 o' n' c'] = [.slice none 0 0, .slice (some ⟨b', o', none⟩) n' c'] := by simp [rn, rn2, rn1, sl, nilS]
        have := row_calls1 (T := tabH Tryd.prog extY conN hcV) Tryd.func23 umul_cbody (rows1 b7) (vals := [nilS, sl 0 o' n' c']) (fun v hv => by
          simp only [List.mem_cons, List.not_mem_nil, or_false] at hv
          rcases hv with rfl | rfl <;> rfl) (k := 1) (cs := wU []) (ty := tU) (wU_lt _) (by kernel_rfl) r.w (by rfl) E (s := fun _ => b') (fitsR1 hy b5 b6 rfl)
        rw [evals] at this
        exact this
    · rcases rowP_cases p1 with ⟨rfl, rfl, rfl, f0⟩ | ⟨b', o', y, rfl, hy, t1, ts, f0⟩
      · have hV : V.toNat = 0 := by
          rw [← l1]
          unfold vO
          rw [f0]
          simp [vb]
        rw [hV, d16_0]
        obtain ⟨b1, b2, b3, b4, b5, b6, b7⟩ := rowC_of r1
        have r : Runs (tabH Tryd.prog extY conN hcV) (seqs (muPr Tryd.f23) (.seq (.seq (cFst (muB Tryd.f23)) (.block 0 (.loop (muO Tryd.f23)))) (muE Tryd.f23))) ([sl 0 o n c, nilS] ++ List.replicate 66 undef, ⟨1, [(x.1, tR)]⟩, []) fun e z => (e = none ∨ e = some none) ∧ resS Tryd.prog Tryd.f23 z.1 z.2.1 = some (sl 1 0 0 0) ∧ ∃ r, z.2.1.blk? 1 = some (wU [] ++ r, tU) :=
          (mn_runs (by omega)).mono fun e z he => ⟨he.1, he.2.1, zU n, he.2.2⟩
        have evals : List.map (rn fun _ => b) [sl 0 o n c, nilS] = [.slice (some ⟨b, o, none⟩) n c, .slice none 0 0] := by simp [rn, rn2, rn1, sl, nilS]
        have := row_calls1 (T := tabH Tryd.prog extY conN hcV) Tryd.func23 umul_body (rows1 b7) (vals := [sl 0 o n c, nilS]) (fun v hv => by
          simp only [List.mem_cons, List.not_mem_nil, or_false] at hv
          rcases hv with rfl | rfl <;> rfl) (k := 1) (cs := wU []) (ty := tU) (wU_lt _) (by kernel_rfl) r.w (by rfl) E (s := fun _ => b) (fitsR1 hx b5 b6 rfl)
        rw [evals] at this
        exact this
      · rw [← l1]
        exact gUmul_ok _ h [] _ _ [] [(okMu h (some ⟨b, o, none⟩) (some ⟨b', o', none⟩) n c n' c', true)] rfl (okL1 l3') m B w E hv
  · cases hg
end Go.Proofs.YtecemjilmlagdaaDoor

/-
  PLAIN ARITHMETIC: words moved up.
-/
namespace Go.Nt

theorem dg_mod : ∀ (m : Nat) (V c : Int), dg m (V + 4294967296 ^ m * c) = dg m V
  | 0, _, _ => rfl
  | m + 1, V, c => by
    simp only [dg]
    rw [pw, Int.mul_assoc]
    generalize hZ : (4294967296 : Int) ^ m * c = Z
    have e1 : (V + 4294967296 * Z) % 4294967296 = V % 4294967296 := by omega
    have e2 : (V + 4294967296 * Z) / 4294967296 = V / 4294967296 + Z := by omega
    rw [e1, e2, ← hZ, dg_mod m]
/-- the two powers of a move by less than a word -/
theorem two_parts {k : Nat} (h : k ≤ 32) : (2 : Int) ^ k * 2 ^ (32 - k) = 4294967296 := by
  rw [← Int.pow_add, show k + (32 - k) = 32 from by omega]
  rfl
theorem or_add {k : Nat} {z y : Int} (z0 : 0 ≤ z) (y0 : 0 ≤ y) (y1 : y < 2 ^ k) (hs : 2 ^ k * z + y < 4294967296) : (((BitVec.ofInt 32 (2 ^ k * z) ||| BitVec.ofInt 32 y).toNat : Nat) : Int) = 2 ^ k * z + y := by
  obtain ⟨Z, rfl⟩ := Int.eq_ofNat_of_zero_le z0
  obtain ⟨Y, rfl⟩ := Int.eq_ofNat_of_zero_le y0
  have ex : (2 : Int) ^ k * (Z : Nat) = ((2 ^ k * Z : Nat) : Int) := by simp
  have hY : Y < 2 ^ k := by
    have : ((Y : Nat) : Int) < ((2 ^ k : Nat) : Int) := by simpa using y1
    exact Int.ofNat_lt.1 this
  rw [ex] at hs ⊢
  have hX : 2 ^ k * Z + Y < 4294967296 := by omega
  have e1 : ∀ m : Nat, m < 4294967296 → (BitVec.ofInt 32 (m : Int)).toNat = m := fun m hm => by
    simp
    omega
  rw [BitVec.toNat_or, e1 _ (by omega), e1 _ (by omega), ← Nat.two_pow_add_eq_or_of_lt hY]
  omega
/-- one word moved up -/
theorem up_word {x l q r : Int} (hq : 1 ≤ q) (hr : 1 ≤ r) (hqr : q * r = 4294967296) (hx : 0 ≤ x ∧ x < 4294967296) (hl : 0 ≤ l ∧ l < q) :
    x * q = 4294967296 * (x / r) + q * (x % r) ∧ 0 ≤ q * (x % r) ∧ q * (x % r) + l < 4294967296 ∧ 0 ≤ x / r ∧ x / r < q := by
  have h1 := Int.mul_ediv_add_emod x r
  have h2 := Int.emod_nonneg x (show r ≠ 0 by omega)
  have h3 := Int.emod_lt_of_pos x (show 0 < r by omega)
  have h4 : 0 ≤ x / r := Int.ediv_nonneg hx.1 (by omega)
  generalize x / r = hi at *
  generalize x % r = lo at *
  have e1 : x * q = 4294967296 * hi + q * lo := by
    rw [← h1, ← hqr, Int.add_mul, Int.mul_assoc q r hi, Int.mul_comm (r * hi) q, Int.mul_comm lo q]
  have e2 : q * lo + q ≤ 4294967296 := by
    have := Int.mul_le_mul_of_nonneg_left (show lo + 1 ≤ r by omega) (show 0 ≤ q by omega)
    rw [Int.mul_add, Int.mul_one, hqr] at this
    exact this
  refine ⟨e1, Int.mul_nonneg (by omega) h2, by omega, h4, ?_⟩
  rcases Int.lt_or_le hi q with h | h
  · exact h
  · exfalso
    have := Int.mul_le_mul_of_nonneg_left h (show 0 ≤ r by omega)
    rw [Int.mul_comm r q, hqr] at this
    omega
/-- one word more of a number moved up -/
theorem up_step {P a b q x l d e A : Int} (he : x * q + l = d + 4294967296 * e) (h : a + P * ((x + 4294967296 * A) * q + l) = b) : a + P * d + 4294967296 * P * (A * q + e) = b := by
  rw [← h]
  have e1 : (x + 4294967296 * A) * q + l = d + 4294967296 * (A * q + e) := by
    rw [Int.add_mul, Int.mul_assoc]
    omega
  rw [e1]
  generalize A * q + e = Z
  rw [Int.mul_add P d, ← Int.mul_assoc P 4294967296 Z, Int.mul_comm P 4294967296]
  omega
end Go.Nt

/-
  nat.moveUp, as a call.
-/
namespace Go.Proofs.YtecemjilmlagdaaDoor
open Go.KRun Go.Nt
set_option maxRecDepth 100000

def upU (x k : Int) : Int := IntKind.u32.wrap (x * 2 ^ min k.toNat 32)
def newU (x k l : Int) : Int := brr (upU x k) l
def lowU (x k : Int) : Int := x.fdiv (2 ^ min (IntKind.i64.wrap (32 - k)).toNat 32)
theorem up32 {x l : Int} {k : Nat} (hx : 0 ≤ x ∧ x < 4294967296) (hl : 0 ≤ l ∧ l < 2 ^ k) (hk : k < 32) :
    (0 ≤ newU x k l ∧ newU x k l < 4294967296) ∧ (0 ≤ lowU x k ∧ lowU x k < 2 ^ k) ∧ x * 2 ^ k + l = newU x k l + 4294967296 * lowU x k := by
  have q1 : (1 : Int) ≤ 2 ^ k := by have : (0 : Int) < 2 ^ k := Int.pow_pos (by omega); omega
  have r1 : (1 : Int) ≤ 2 ^ (32 - k) := by have : (0 : Int) < 2 ^ (32 - k) := Int.pow_pos (by omega); omega
  obtain ⟨u1, u2, u3, u4, u5⟩ := up_word q1 r1 (two_parts (by omega)) hx hl
  have eL : lowU x k = x / 2 ^ (32 - k) := by
    unfold lowU
    rw [wrapI (by omega) (by omega), show min ((32 : Int) - (k : Nat)).toNat 32 = 32 - k from by omega, Int.fdiv_eq_ediv_of_nonneg _ (by omega)]
  have eU : upU x k = 2 ^ k * (x % 2 ^ (32 - k)) := by
    unfold upU
    rw [Int.toNat_natCast, show min k 32 = k from by omega, u32w, u1]
    omega
  have lo0 := Int.emod_nonneg x (show (2 : Int) ^ (32 - k) ≠ 0 by omega)
  have eN : newU x k l = 2 ^ k * (x % 2 ^ (32 - k)) + l := by
    unfold newU brr
    rw [eU, or_add lo0 hl.1 hl.2 u3, u32w]
    omega
  rw [eL, eN]
  omega
def mR0 (F : Func) : List Code := [cFst (cBody F), cFst (cSnd (cBody F))]
def mL (F : Func) : Code := cIn (cIn (cSnd (cSnd (cBody F))))
theorem mup_body : Tryd.f47.body = some (seqs (mR0 Tryd.f47) (.block 0 (.loop (mL Tryd.f47)))) := by kernel_rfl
def mF (w k l i x s n j : Value) : List Value := [w, k, undef, undef, l, i, x, s, n, j]
def hU (S la : List Value) : Hp := ⟨2, [(S, tU), (la, tR)]⟩
theorem mup_pre (b o n c : Nat) (k : Value) (h : Hp) : GoesT (evL (tabOf Tryd.prog extY conN true) 100 (mR0 Tryd.f47) ([sl b o n c, k] ++ List.replicate 25 undef, h, []) ⟨[], [], []⟩) 10 17 none (mF (sl b o n c) k (uu 0) undef undef (sl b o n c) (i6' n) (i6' 0)) h [] := ⟨by kernel_rfl, by kernel_rfl, by kernel_rfl⟩
theorem mup_out (w k l i x s : Value) (n : Nat) (j : Int) (h : Hp) (g : Nat → Value) : GoesT (evC (tabOf Tryd.prog extY conN true) 100 false (mL Tryd.f47) (mF w k l i x s (i6' n) (i6' j) ++ tl 17 g, h, [cmp false]) ⟨[], [], []⟩) 10 17 (some (some 0)) (mF w k l i x s (i6' n) (i6' j)) h [(decide (j < n), false)] := ⟨by kernel_rfl, by kernel_rfl, by kernel_rfl⟩
theorem mup_go (o n c : Nat) (k l j x : Int) (i0 x0 : Value) (la S : List Value) (g : Nat → Value) : GoesT (evC (tabOf Tryd.prog extY conN true) 100 false (mL Tryd.f47) (mF (sl 1 o n c) (i6' k) (uu l) i0 x0 (sl 1 o n c) (i6' n) (i6' j) ++ tl 17 g, hU S la, [cmp true, at_, val (uu x), at_, at_]) ⟨[], [], []⟩) 10 17 none
    (mF (sl 1 o n c) (i6' k) (uu (lowU x k)) (i6' j) (uu x) (sl 1 o n c) (i6' n) (i6' (IntKind.i64.wrap (j + 1)))) (hU (S.set (o + j.toNat * 1) (uu (newU x k l))) la) [(decide (IntKind.i64.wrap (32 - k) < 0), false), (decide (o + j.toNat * 1 < S.length), true), inR j n, (decide (k < 0), false), celR S o j x, inR j n, (decide (j < n), true)] := ⟨by kernel_rfl, by kernel_rfl, by kernel_rfl⟩
theorem mup_res (w k l i x s n j : Value) (h : Hp) (g : Nat → Value) : resS Tryd.prog Tryd.f47 (mF w k l i x s n j ++ tl 17 g) h = some (.tuple #[]) := by kernel_rfl
end Go.Proofs.YtecemjilmlagdaaDoor
