/-
  PROVED HERE: for every input the law tillerlaw04.RndWholes returns true, and each argument reads afterwards as it read before: any number, rounded to a whole number, and whether that is another one. No condition.
-/
import Derived.Test.YtppbpbiibibiiaaG23
import Derived.Test.YtppbpbiibibiiaaG24
import Derived.Test.YtppbpbiibibiiaaRows
namespace Go.Proofs.Ytppbpbiibibiiaa.rndWholes
open Go.KRun Go.Pt Go.ChangeShapes Go.WideShapes Go.ChangeAt Go.RowKit Go.Wd Go.Rn Go.Nt
set_option linter.unusedVariables false

theorem a1 (n b : Bool) (x : W4) (ex m : Int) : Fits (reckon (tabOf Try.prog extY conRW true) 300 4 [vN n ex x b, .int .i64 m] [cmp true, cmp true, sam true]) (.bool true) [(n == n && (ex == ex && ((x.a == x.a && (x.b == x.b && (x.c == x.c && (x.d == x.d && true)))) && (b == b && true))), true), (decide (ex > 0), true), (early ex b, true)] := ⟨by kernel_rfl, by kernel_rfl, by kernel_rfl, by kernel_rfl⟩
theorem a2 (n : Bool) (x : W4) (ex m : Int) : Fits (reckon (tabOf Try.prog extY conRW true) 300 4 [vN n ex x false, .int .i64 m] [cmp true, cmp false, cmp true, sam true]) (.bool true) [(n == n && (ex == ex && ((x.a == x.a && (x.b == x.b && (x.c == x.c && (x.d == x.d && true)))) && (false == false && true))), true), (ex == 0, true), (decide (ex > 0), false), (early ex false, true)] := ⟨by kernel_rfl, by kernel_rfl, by kernel_rfl, by kernel_rfl⟩
theorem refT_rT (x : W4) (b : Bool) : refT x b = rT x b := by cases b <;> rfl
theorem refE_j (e : Int) (b : Bool) : refE e b = cl5 e - jB b := by cases b <;> simp [refE, jB]
theorem jB_bd (b : Bool) : 0 ≤ jB b ∧ jB b ≤ 1 := by cases b <;> simp [jB]
theorem len17 {V : Nat} (h : V < 2 * 2 ^ 256) : (d16 V).length ≤ 17 := by
  have e : (65536 : Nat) ^ 16 = 2 ^ 256 := pow16 16
  rw [← e] at h
  refine db_len (by omega) 17 V ?_
  rw [Nat.pow_succ]
  generalize (65536 : Nat) ^ 16 = P at h ⊢
  omega
theorem canon_d16 {h : Hp} {b V : Nat} {ty : TypeId} (hb : h.blk? b = some (wU (d16 V), ty)) : canB (rowOf h (some ⟨b, 0, none⟩) (d16 V).length) = true := by
  rw [rowOf_d16 hb]
  exact canB_mk (can_db (by omega) V)
/-- the two ways to the same whole number -/
theorem same_q {m : Int} {n b : Bool} {x : W4} {ex : Int} (hx : x.ok) (he : early ex b = false) : whQ m n x b ex = toQ (mN m) n (refT x b) (refE ex b) 0 ∧ whL x b ex = toL (refT x b) (refE ex b) 0 := by
  obtain ⟨h1, h2⟩ := not_early he
  have hj := jB_bd b
  unfold whQ whL
  rw [tw_toQ, tw_toL, refT_rT, refE_j, toQ_mN]
  by_cases hf : -2000 ≤ ex
  · have e1 : clp ex = ex := by unfold clp; split <;> split <;> omega
    have e2 : cl5 ex = ex := by unfold cl5; split <;> split <;> omega
    rw [e1, e2]
    exact ⟨rfl, rfl⟩
  · have e1 : clp ex ≤ -300 := by unfold clp; split <;> split <;> omega
    have e2 : cl5 ex ≤ -300 := by unfold cl5; split <;> split <;> omega
    exact ⟨far_toQ (rT_lt hx b) (by omega) (by omega), far_toL (rT_lt hx b) (by omega) (by omega)⟩
theorem neg_E {ex : Int} {b : Bool} (he : early ex b = false) : ¬ (0 : Int) ≤ refE ex b := by
  obtain ⟨h1, h2⟩ := not_early he
  rw [refE_j]
  by_cases h0 : ex = 0
  · rw [h2 h0, h0]; decide
  · have hj := jB_bd b
    have : cl5 ex < 0 := by unfold cl5; split <;> split <;> omega
    omega
/-- nothing is only where the number is 0 -/
theorem nil_zero {m : Int} {n : Bool} {V : Nat} {E : Int} (hE : ¬ (0 : Int) ≤ E) (h : rowTo m n V (d16 V).length E 0 = false) : toQ m n V E 0 = 0 := by
  unfold rowTo at h
  rw [if_neg hE] at h
  simp only [Bool.or_eq_false_iff, decide_eq_false_iff_not] at h
  unfold toQ
  rw [if_neg hE]
  have hlt : V < 2 ^ (0 - E).toNat := by
    have h1 := vb_lt (b := 65536) (by omega) (d16 V) (d16_dg V)
    have h2 : vb 65536 (d16 V) = V := vb_db (by omega) V
    rw [h2, pow16] at h1
    exact Nat.lt_of_lt_of_le h1 (Nat.pow_le_pow_right (by omega) (by omega))
  have hd : V / 2 ^ (0 - E).toNat = 0 := Nat.div_eq_of_lt hlt
  unfold rq
  by_cases hz : V % 2 ^ (0 - E).toNat = 0
  · rw [hd, hz, restC_zero, upR_zero]; rfl
  · have h3 := h.2
    rw [decide_eq_true hz, Bool.true_and] at h3
    rw [h3, hd]; rfl
theorem walk (n b : Bool) (x : W4) (ex m : Int) (hx : x.ok) (w : World) : Calls Try.prog 4 #[vN n ex x b, .int .i64 m] w fun e w' => e = .returned (.bool true) ∧ Tidy w w' := by
  have hv : ([vN n ex x b, .int .i64 m].all (lt 0)) = true := rfl
  cases he : early ex b with
  | true =>
    have h1 := he
    unfold early at h1
    simp only [Bool.or_eq_true, decide_eq_true_eq, Bool.and_eq_true, Bool.not_eq_true'] at h1
    by_cases h0 : 0 < ex
    · exact fits_calls (tabY_ok conRW_ok) (a1 n b x ex m) (okCons (by simp) (okCons (decide_eq_true h0) (okL1 he))) hv (by rfl) w
    · obtain ⟨h2, h3⟩ := h1.resolve_left h0
      subst h3
      exact fits_calls (tabY_ok conRW_ok) (a2 n x ex m) (okCons (by simp) (okCons (by rw [h2]; rfl) (okCons (decide_eq_false h0) (okL1 he)))) hv (by rfl) w
  | false =>
    obtain ⟨n1, n2⟩ := not_early he
    obtain ⟨sq, sl'⟩ := same_q (m := m) (n := n) hx he
    have hE := neg_E he
    have hTl : refT x b < 2 * 2 ^ 256 := by rw [refT_rT]; exact rT_lt hx b
    have hbE : -400000 ≤ refE ex b ∧ refE ex b ≤ 400000 := by
      have h1 := cl5_bd ex
      have h2 := jB_bd b
      rw [refE_j]
      omega
    have l17 := len17 hTl
    have hgt : decide (ex > 0) = false := decide_eq_false n1
    have hqle : whQ m n x b ex ≤ 2 ^ 256 := by
      have hc0 : clp ex ≤ 0 := by unfold clp; split <;> split <;> omega
      exact whole_le hx hc0
    have hp256 : 0 < 2 ^ 256 := Nat.pow_pos (by omega)
    have lq := len17 (show whQ m n x b ex < 2 * 2 ^ 256 by omega)
    have ecode : cBody Try.f4 = seqs (lP1 Try.f4) (.seq (lP2 Try.f4) (.seq (lR7 Try.f4) (.seq (lR8 Try.f4) (lR9 Try.f4)))) := Option.some.inj (wl_body.symm.trans wl_body3)
    -- behind the first piece
    have rest : ∀ (ey : Int) (y : W4), y.ok → (0 ≤ ey ∧ ey ≤ 1) → y.nat * 2 ^ ey.toNat = whQ m n x b ex → ∀ g, RunsW (tabH Try.prog extY conRW hcRW) (.seq (lP2 Try.f4) (.seq (lR7 Try.f4) (.seq (lR8 Try.f4) (lR9 Try.f4)))) ([vN n ex x b, .int .i64 m, .pointer (some ⟨0, 0, none⟩), undef, .bool false, .pointer (some ⟨1, 0, none⟩), .bool (whL x b ex), .int .i64 m] ++ tl 116 g, hL n ex x b (bNm n ey y false), []) fun ex' z => (ex' = none ∨ ex' = some none) ∧ resS Try.prog Try.f4 z.1 z.2.1 = some (.bool true) := by
      intro ey y hy hey hyq g
      have ez : refE ey false = ey := by simp only [refE]; unfold cl5; split <;> split <;> omega
      have eT : refT y false = y.nat := rfl
      refine RunsW.seq (P1 := fun e Y => e = none ∧ (∃ g, Y.1 = [vN n ex x b, .int .i64 m, .pointer (some ⟨0, 0, none⟩), undef, .bool false, .pointer (some ⟨1, 0, none⟩), .bool (whL x b ex), .int .i64 (mN m)] ++ tl 116 g) ∧ Y.2.1 = hL n ex x b (bNm n ey y false)) ?_ ?_ (fun e y he => by cases he.1)
      · unfold mN
        by_cases hm0 : m < 0
        · rw [if_pos hm0]
          exact goesT_runsW (tabH_ok conRW_ok hcRW_ok) (wl_m1 n b _ x ex m _ g) (okL1 (decide_eq_true hm0))
        · rw [if_neg hm0]
          by_cases hm4 : m > 4
          · rw [if_pos hm4]
            exact goesT_runsW (tabH_ok conRW_ok hcRW_ok) (wl_m2 n b _ x ex m _ g) (okCons (decide_eq_true hm4) (okL1 (decide_eq_false hm0)))
          · rw [if_neg hm4]
            exact goesT_runsW (tabH_ok conRW_ok hcRW_ok) (wl_m3 n b _ x ex m _ g) (okCons (decide_eq_false hm4) (okL1 (decide_eq_false hm0)))
      rintro ⟨t, h', sc⟩ ⟨_, ⟨g, ht⟩, hh⟩
      simp only at ht hh
      subst ht hh
      have hb2 : (nxt (hL n ex x b (bNm n ey y false)) (refT x b)).blk? 2 = some (wU (d16 (refT x b)), tU) := rfl
      have hV := vO_d16 hb2
      have okT : okTo (nxt (hL n ex x b (bNm n ey y false)) (refT x b)) (some ⟨2, 0, none⟩) (d16 (refT x b)).length (d16 (refT x b)).length (refE ex b) 0 = true := by
        unfold okTo
        rw [rowP_d16 hb2 (by omega), canon_d16 hb2, blt_iff.2 (by omega), decide_eq_true ⟨hbE, by omega, by omega⟩]
        rfl
      have kx : decide x.ok = true := decide_eq_true hx
      have ky : decide y.ok = true := decide_eq_true hy
      have k1 : decide (ey ≤ 1) = true := decide_eq_true hey.2
      have k0 : decide (ey ≥ 0) = true := decide_eq_true hey.1
      have kL : toL (vO (nxt (hL n ex x b (bNm n ey y false)) (refT x b)) (some ⟨2, 0, none⟩) (d16 (refT x b)).length) (refE ex b) 0 = whL x b ex := by rw [hV, sl']
      have hQ : toQ (mN m) n (vO (nxt (hL n ex x b (bNm n ey y false)) (refT x b)) (some ⟨2, 0, none⟩) (d16 (refT x b)).length) (refE ex b) 0 = whQ m n x b ex := by rw [hV, sq]
      have ly : (d16 y.nat).length ≤ 17 := len17 (Nat.lt_trans (W4.nat_lt hy) (by omega))
      cases hr : rowTo (mN m) n (refT x b) (d16 (refT x b)).length (refE ex b) 0 with
      | true =>
        refine RunsW.seq (goesT_runsW (tabH_ok conRW_ok hcRW_ok) (wl_r7T n b (whL x b ex) x ex m (mN m) (bNm n ey y false) g) (okCons kL (okCons (by rw [hV]; exact hr) (okCons okT (okL1 kx))))) ?_ (fun e y he => by cases he.1)
        rw [hQ]
        rintro ⟨t, h', sc⟩ ⟨_, ⟨g, ht⟩, hh⟩
        simp only at ht hh
        subst ht hh
        refine RunsW.seq (goesT_runsW (tabH_ok conRW_ok hcRW_ok) (wl_r8T n (whL x b ex) x y b ex ey m (mN m) (whQ m n x b ex) (refT x b) (bNb n ex x b) g) (okL1 ky)) ?_ (fun e y he => by cases he.1)
        rw [ez, eT]
        rintro ⟨t, h', sc⟩ ⟨_, ⟨g, ht⟩, hh⟩
        simp only at ht hh
        subst ht hh
        by_cases hu : 0 < (d16 y.nat).length
        · have hb4 : (hR11 n x y b ex ey ey (whQ m n x b ex) (refT x b) y.nat).blk? 4 = some (wU (d16 y.nat), tU) := rfl
          have eA : vO (hR11 n x y b ex ey ey (whQ m n x b ex) (refT x b) y.nat) (some ⟨4, 0, none⟩) (d16 y.nat).length * 2 ^ ey.toNat = whQ m n x b ex := by rw [vO_d16 hb4, hyq]
          have ob : okShl (hR11 n x y b ex ey ey (whQ m n x b ex) (refT x b) y.nat) (some ⟨4, 0, none⟩) (d16 y.nat).length (d16 y.nat).length ey = true := okShl_d16 hb4 hey.1 (by omega)
          have ku : decide (0 < (d16 y.nat).length) = true := decide_eq_true hu
          have hc3 : (nxt (hR11 n x y b ex ey ey (whQ m n x b ex) (refT x b) y.nat) (whQ m n x b ex)).blk? 3 = some (wU (d16 (whQ m n x b ex)), tU) := rfl
          have hc6 : (nxt (hR11 n x y b ex ey ey (whQ m n x b ex) (refT x b) y.nat) (whQ m n x b ex)).blk? 6 = some (wU (d16 (whQ m n x b ex)), tU) := rfl
          refine (goesT_runsW (tabH_ok conRW_ok hcRW_ok) (wl_r911 n (whL x b ex) x y b ex ey ey m (mN m) (whQ m n x b ex) (refT x b) y.nat g) ?_).mono fun ex' z hz => ?_
          · rw [eA]
            refine okCons ?_ (okCons (two_d16 hc6 hc3 (by omega) (by omega)) (okCons ob (okCons ku (okCons k1 (okL1 k0)))))
            rw [vO_d16 hc6, vO_d16 hc3, cmpZ_eq]
            simp
          · obtain ⟨rfl, ⟨g', z1⟩, z2⟩ := hz
            refine ⟨.inr rfl, ?_⟩
            rw [z1]
            rfl
        · have hu0 := d16_zero hu
          have hq0 : whQ m n x b ex = 0 := by rw [← hyq, hu0, Nat.zero_mul]
          have ku : decide (0 < (d16 y.nat).length) = false := decide_eq_false hu
          have hb3 : (hR10 n x y b ex ey ey (whQ m n x b ex) (refT x b) y.nat).blk? 3 = some (wU (d16 (whQ m n x b ex)), tU) := rfl
          have hb4 : (hR10 n x y b ex ey ey (whQ m n x b ex) (refT x b) y.nat).blk? 4 = some (wU (d16 y.nat), tU) := rfl
          refine (goesT_runsW (tabH_ok conRW_ok hcRW_ok) (wl_r910 n (whL x b ex) x y b ex ey ey m (mN m) (whQ m n x b ex) (refT x b) y.nat g) ?_).mono fun ex' z hz => ?_
          · refine okCons ?_ (okCons (two_nil hb3 (by omega)) (okCons (rowP_d16 hb4 (by omega)) (okCons ku (okCons k1 (okL1 k0)))))
            rw [vO_nil, vO_d16 hb3, cmpZ_eq, hq0]
            rfl
          · obtain ⟨rfl, ⟨g', z1⟩, z2⟩ := hz
            refine ⟨.inr rfl, ?_⟩
            rw [z1]
            rfl
      | false =>
        have hq0 : whQ m n x b ex = 0 := by rw [sq]; exact nil_zero hE hr
        have hu0 : y.nat = 0 := by
          rcases Nat.eq_zero_or_pos y.nat with h0 | h0
          · exact h0
          · have : 0 < y.nat * 2 ^ ey.toNat := Nat.mul_pos h0 (Nat.pow_pos (by omega))
            omega
        have hu : ¬ 0 < (d16 y.nat).length := by
          rw [hu0]
          unfold d16
          rw [db_zero]
          simp
        refine RunsW.seq (goesT_runsW (tabH_ok conRW_ok hcRW_ok) (wl_r7F n b (whL x b ex) x ex m (mN m) (bNm n ey y false) g) (okCons kL (okCons (by rw [hV]; exact hr) (okCons okT (okL1 kx))))) ?_ (fun e y he => by cases he.1)
        rintro ⟨t, h', sc⟩ ⟨_, ⟨g, ht⟩, hh⟩
        simp only at ht hh
        subst ht hh
        refine RunsW.seq (goesT_runsW (tabH_ok conRW_ok hcRW_ok) (wl_r8F n (whL x b ex) x y b ex ey m (mN m) 0 (refT x b) (bNb n ex x b) g) (okL1 ky)) ?_ (fun e y he => by cases he.1)
        rw [ez, eT]
        rintro ⟨t, h', sc⟩ ⟨_, ⟨g, ht⟩, hh⟩
        simp only at ht hh
        subst ht hh
        have ku : decide (0 < (d16 y.nat).length) = false := decide_eq_false hu
        have hb3 : (hR00 n x y b ex ey ey 0 (refT x b) y.nat).blk? 3 = some (wU (d16 y.nat), tU) := rfl
        refine (goesT_runsW (tabH_ok conRW_ok hcRW_ok) (wl_r900 n (whL x b ex) x y b ex ey ey m (mN m) 0 (refT x b) y.nat g) ?_).mono fun ex' z hz => ?_
        · exact okCons rfl (okCons rfl (okCons (rowP_d16 hb3 (by omega)) (okCons ku (okCons k1 (okL1 k0)))))
        · obtain ⟨rfl, ⟨g', z1⟩, z2⟩ := hz
          refine ⟨.inr rfl, ?_⟩
          rw [z1]
          rfl
    refine calls_of_runsW (T := (tabH Try.prog extY conRW hcRW)) Try.func4 wl_body (vals := [vN n ex x b, .int .i64 m]) hv (by rfl) ?_ w
    rw [ecode]
    by_cases hfit : whQ m n x b ex < 2 ^ 256
    · have kq : decide (whQ m n x b ex < 2 ^ 256) = true := decide_eq_true hfit
      have r0 := rest 0 (ofN (whQ m n x b ex)) (ofN_ok _) ⟨by omega, by omega⟩ (by rw [ofN_nat hfit]; simp)
      by_cases h0 : ex = 0
      · have hb := n2 h0
        subst hb
        exact goesT_listW (tabH_ok conRW_ok hcRW_ok) (wl_p1Tz n (whL x true ex) x ex m) (okCons (by rw [h0]; rfl) (okCons hgt (okCons rfl (okCons kq (okCons he (okL1 (decide_eq_true hx))))))) fun g => RunsW.script (r0 g)
      · exact goesT_listW (tabH_ok conRW_ok hcRW_ok) (wl_p1T n b (whL x b ex) x ex m) (okCons (by simp [h0]) (okCons hgt (okCons rfl (okCons kq (okCons he (okL1 (decide_eq_true hx))))))) fun g => RunsW.script (r0 g)
    · have kq : decide (whQ m n x b ex < 2 ^ 256) = false := decide_eq_false hfit
      have w63n : w63.nat * 2 ^ (1 : Int).toNat = 2 ^ 256 := by decide
      have r1 := rest 1 w63 (by decide) ⟨by omega, by omega⟩ (by rw [w63n]; omega)
      by_cases h0 : ex = 0
      · have hb := n2 h0
        subst hb
        exact goesT_listW (tabH_ok conRW_ok hcRW_ok) (wl_p1Fz n (whL x true ex) x ex m) (okCons (by rw [h0]; rfl) (okCons hgt (okCons rfl (okCons kq (okCons he (okL1 (decide_eq_true hx))))))) fun g => RunsW.script (r1 g)
      · exact goesT_listW (tabH_ok conRW_ok hcRW_ok) (wl_p1F n b (whL x b ex) x ex m) (okCons (by simp [h0]) (okCons hgt (okCons rfl (okCons kq (okCons he (okL1 (decide_eq_true hx))))))) fun g => RunsW.script (r1 g)
theorem cells0 {l : List Value} (h : okC [none, some .i64, some .u64, some .u64, some .u64, some .u64, none] l) : ∃ n ex xa xb xc xd b, l = [.bool n, .int .i64 ex, .int .u64 xa, .int .u64 xb, .int .u64 xc, .int .u64 xd, .bool b] ∧ (Lit.int .i64 ex).wf = true ∧ (Lit.int .u64 xa).wf = true ∧ (Lit.int .u64 xb).wf = true ∧ (Lit.int .u64 xc).wf = true ∧ (Lit.int .u64 xd).wf = true := by
  have hl := okC_length h
  obtain ⟨v0, v1, v2, v3, v4, v5, v6, rfl⟩ : ∃ v0 v1 v2 v3 v4 v5 v6, l = [v0, v1, v2, v3, v4, v5, v6] := by
    match l, hl with
    | [v0, v1, v2, v3, v4, v5, v6], _ => exact ⟨v0, v1, v2, v3, v4, v5, v6, rfl⟩
  obtain ⟨⟨n, rfl⟩, ⟨ex, rfl, kex⟩, ⟨xa, rfl, kxa⟩, ⟨xb, rfl, kxb⟩, ⟨xc, rfl, kxc⟩, ⟨xd, rfl, kxd⟩, ⟨b, rfl⟩, _⟩ := h
  exact ⟨n, ex, xa, xb, xc, xd, b, rfl, kex, kxa, kxb, kxc, kxd⟩
theorem own : ownKnob Try.prog.godebug = none := by kernel_rfl
set_option maxRecDepth 100000 in
theorem lifted (os : Os) (started : os.Started) (H : Type) (enc : TypeId × Value → H) :
    ReturnsInHanded {} Try.checked os 4 .any (Rows.rndWholesSpec.pre6 enc Try.prog Try.f4 Rows.rndWholesRow.domain false) (Rows.rndWholesSpec.post enc Try.prog Try.f4 false true false false) := by
  refine returnsInHanded_of_change (C := Try.checked) own started (by kernel_rfl) Try.func4
    (ChangeSpec.witness6 (enc := enc) (C := Try.checked) false ⟨#[], #[.agg #[.bool false, .int .i64 0, .int .u64 0, .int .u64 0, .int .u64 0, .int .u64 0, .bool false], .int .i64 0], []⟩ 8 (by kernel_rfl) (by kernel_rfl) (by kernel_rfl) (by kernel_rfl)) ?_
  intro W base args ds gs before hval0 hW hcnd _
  have hval : ∀ (j : Nat) t v, Try.f4.params[j]? = some t → args[j]? = some v → Value.okWide Try.prog W .any base t v := hval0
  have hW' := hW
  obtain ⟨p, q, hA0, hV, rfl, hfz, hnd⟩ := hW
  have hA : DataW.TrodAll enc Try.prog W 0 (fun _ => true) true Try.f4.params.toList args.toList ds p := hA0
  rw [Try.params4] at hA hval
  obtain ⟨v0, v1, d0, d1, p0, p1, rfl, rfl, rfl, h0, h1⟩ := trodAll_two hA
  obtain ⟨rfl, rfl⟩ := trodVars_none hV
  obtain ⟨c0, rfl, r0⟩ := flat_open (L := [none, some .i64, some .u64, some .u64, some .u64, some .u64, none]) (by kernel_rfl) h0
  obtain ⟨cs0, rfl⟩ := agg_struct Try.underlying25 (hval 0 25 v0 rfl rfl)
  obtain ⟨n, ex, xa, xb, xc, xd, b, hcs0, kex, kxa, kxb, kxc, kxd⟩ := cells0 c0
  have hcs0' : cs0 = #[.bool n, .int .i64 ex, .int .u64 xa, .int .u64 xb, .int .u64 xc, .int .u64 xd, .bool b] := by
    have := congrArg List.toArray hcs0
    simpa [Value.cells] using this
  subst hcs0'
  obtain ⟨x1, rfl, rfl, rfl, w1⟩ := open_int Try.underlying3 (hval 1 3 v1 rfl rfl) h1
  clear hA0 hval0
  simp only [List.append_nil] at hW'
  refine (walk n b ⟨xa, xb, xc, xd⟩ ex x1 (w4_ok kxa kxb kxc kxd u64_bounds) W).mono fun e W' ⟨he, hg⟩ => ?_
  subst he
  exact ⟨_, rfl, post_of_same (pa := []) (pv := []) hW' (fun _ _ _ => trodAll_mk1 (shut_bool Try.underlying4 _))
    (fun sp _ => trodAll_mk2 (r0 _ _ _ _) (shut_int Try.underlying3 w1)) (fun _ _ => rfl) rfl
    (hg.1.frame _) (tidy_frozen hg) (ok_one (by kernel_rfl) rfl (okWide_bool_mk Try.underlying4 _))⟩

theorem proved : Rows.RndWholesSaid :=
  OpenClaim.holds_of_wide 4 Try.f4 rfl rfl rfl rfl rfl rfl rfl ⟨rfl, rfl, rfl, rfl, rfl⟩ rfl rfl rfl rfl rfl (by kernel_rfl) Try.func4 (by kernel_rfl)
    (of_decide_eq_true (by kernel_rfl)) (by unfold Func.isWrapper; first | (rw [if_pos (by decide +kernel)]; kernel_rfl) | (rw [if_neg (by decide +kernel)]; exact ⟨rfl, rfl⟩))
    (fun os started H enc _ => lifted os started H enc)
end Go.Proofs.Ytppbpbiibibiiaa.rndWholes
