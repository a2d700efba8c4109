/-
  PROVED HERE: for every input the law tillerlaw04.RndOrder returns true, and each argument reads afterwards as it read before: of two sizes the greater one is never rounded to a less one, by any mode. No condition.
-/
import Derived.Test.YtikeffficelfcaaG22
import Derived.Test.YtikeffficelfcaaRows
namespace Go.Proofs.Ytikeffficelfcaa.rndOrder
open Go.KRun Go.Pt Go.ChangeShapes Go.WideShapes Go.ChangeAt Go.RowKit Go.Wd Go.Rn Go.Nt
set_option linter.unusedVariables false

set_option maxRecDepth 100000
theorem refT_rT (x : W4) (b : Bool) : refT x b = rT x b := by cases b <;> rfl
theorem refE_j (e : Int) (b : Bool) : refE e b = cl5 e - jB b := by cases b <;> simp [refE, jB]
theorem jB_bd (b : Bool) : 0 ≤ jB b ∧ jB b ≤ 1 := by cases b <;> simp [jB]
theorem refE_bd (e : Int) (b : Bool) : -200001 ≤ refE e b ∧ refE e b ≤ 200000 := by
  have h1 := cl5_bd e
  have h2 := jB_bd b
  rw [refE_j]
  omega
theorem lt272 {x : W4} (hx : x.ok) (b : Bool) {k : Nat} (hk : k = 17) : refT x b < 2 ^ (16 * k) := by
  rw [refT_rT]
  have h := rT_lt hx b
  obtain ⟨j, hj⟩ : ∃ j : Nat, j = 256 := ⟨_, rfl⟩
  have hp := Nat.pow_le_pow_right (show 0 < 2 by omega) (show 1 + j ≤ 16 * k by omega)
  rw [Nat.pow_add, hj] at hp
  omega
theorem aO_eq (m Ex : Int) {X : W4} (hX : X.ok) (b : Bool) : aO m Ex X b = rnP m false (refT X b) (refE Ex b) := by
  have h := same_round (m := m) (neg := false) hX b (C := clp Ex) (D := cl5 Ex) (by unfold clp cl5; split <;> split <;> split <;> split <;> omega)
  unfold aO sS
  rw [if_neg (by simp), h.1, refT_rT, refE_j]
theorem ord {m : Int} {U V : Nat} {Eu Ev G : Int} (h1 : G ≤ Eu) (h2 : G ≤ Ev) (h : U * 2 ^ (Eu - G).toNat ≤ V * 2 ^ (Ev - G).toNat) : rnP m false U Eu ≤ rnP m false V Ev := by
  have p1 := rnP_scale m false U (Eu - G).toNat Eu
  have p2 := rnP_scale m false V (Ev - G).toNat Ev
  rw [show Eu - ((Eu - G).toNat : Int) = G by omega] at p1
  rw [show Ev - ((Ev - G).toNat : Int) = G by omega] at p2
  rw [← p1, ← p2]
  exact rnP_mono h
theorem less_len {U V : Nat} {Eu Ev : Int} (hV : V ≠ 0) (h : Eu + (bitLen U : Nat) < Ev + (bitLen V : Nat)) (m : Int) : rnP m false U Eu ≤ rnP m false V Ev := by
  obtain ⟨G, hG⟩ : ∃ G, G = min Eu Ev := ⟨_, rfl⟩
  have g1 : G ≤ Eu := by omega
  have g2 : G ≤ Ev := by omega
  refine ord g1 g2 ?_
  have a1 := (bitLen_spec U).1
  have b2 := (bitLen_spec V).2 hV
  have b3 := len_pos hV
  have hp : 0 < 2 ^ (Eu - G).toNat := Nat.pow_pos (by omega)
  have c1 := Nat.mul_lt_mul_of_pos_right a1 hp
  have c2 := Nat.mul_le_mul_right (2 ^ (Ev - G).toNat) b2
  rw [← Nat.pow_add] at c1 c2
  have c3 := Nat.pow_le_pow_right (show 0 < 2 by omega) (show bitLen U + (Eu - G).toNat ≤ bitLen V - 1 + (Ev - G).toNat by omega)
  omega
theorem cO_ok (X : W4) (b : Bool) : (cO X b).1 = (cO X b).2 := List.all_eq_true.2 fun v hv => by
  unfold wU at hv
  obtain ⟨x, _, rfl⟩ := List.mem_map.1 hv
  rfl
theorem bO_ok {X Y : W4} (hX : X.ok) (hY : Y.ok) (bx bz : Bool) : okLog (bO X bx Y bz) := by
  have kx : decide X.ok = true := decide_eq_true hX
  have ky : decide Y.ok = true := decide_eq_true hY
  have t : ∀ l, okLog l → okLog (tO X bx Y bz l) := fun l h => okCons (cO_ok _ _) (okCons (cO_ok _ _) h)
  have j : okLog (jO X Y) := by simp only [jO, okCs, okNl, kx, ky, and_self]
  unfold bO
  exact t _ (t _ (t _ (t _ (t _ (t _ (t _ (t _ (t _ (t _ (t _ (t _ (t _ (t _ (t _ (t _ (t _ (t _ (t _ (t _ (t _ (t _ (j))))))))))))))))))))))
theorem d16_up {V n j : Nat} (h : V < 2 ^ (16 * n)) : (d16 (V * 2 ^ j)).length ≤ n + j / 16 + 1 := by
  refine d16_len ?_
  have hp : 0 < 2 ^ j := Nat.pow_pos (by omega)
  have h2 := Nat.mul_lt_mul_of_pos_right h hp
  rw [← Nat.pow_add] at h2
  exact Nat.lt_of_lt_of_le h2 (Nat.pow_le_pow_right (by omega) (by omega))
theorem walk (nx ny bx bz : Bool) (X Y : W4) (Ex Ey m : Int) (hX : X.ok) (hY : Y.ok) (w : World) : Calls Try.prog 4 #[vN nx Ex X bx, vN ny Ey Y bz, .int .i64 m] w fun e w' => e = .returned (.bool true) ∧ Tidy w w' := by
  have hv : ([vN nx Ex X bx, vN ny Ey Y bz, .int .i64 m].all (lt 0)) = true := rfl
  have T := tabH_ok conO_ok hcO_ok
  have ax := aO_eq m Ex hX bx
  have ay := aO_eq m Ey hY bz
  have bdx := rnP_bd m false (refT X bx) (refE Ex bx)
  have bdy := rnP_bd m false (refT Y bz) (refE Ey bz)
  have li : okLog (iO m Ex X bx Ey Y bz) := okCons (by rw [ay]; exact decide_eq_false (by omega)) (okCons (by rw [ax]; exact decide_eq_false (by omega)) (bO_ok hX hY bx bz))
  have gt : ∀ (Z : W4) (b : Bool), lnO Z b ≠ 0 → (gtO Z b true).1 = (gtO Z b true).2 := fun Z b h => decide_eq_true (by omega)
  have ng : ∀ (Z : W4) (b : Bool), lnO Z b = 0 → (gtO Z b false).1 = (gtO Z b false).2 := fun Z b h => decide_eq_false (by omega)
  have eq : ∀ (Z : W4) (b : Bool), lnO Z b = 0 → (eqO Z b true).1 = (eqO Z b true).2 := fun Z b h => by
    show (((lnO Z b : Nat) : Int) == 0) = true
    rw [h]; rfl
  have nq : ∀ (Z : W4) (b : Bool), lnO Z b ≠ 0 → (eqO Z b false).1 = (eqO Z b false).2 := fun Z b h => by
    show (((lnO Z b : Nat) : Int) == 0) = false
    simpa using h
  by_cases zX : lnO X bx = 0
  · have uX : refT X bx = 0 := d16_zero (by unfold lnO at zX; omega)
    by_cases zY : lnO Y bz = 0
    · exact fits_calls T (or2 nx ny bx bz X Y Ex Ey m) (okCons (ng X bx zX) (okCons (ng Y bz zY) (okCons (eq X bx zX) li))) hv (by rfl) w
    · have hle : decide (aO m Ex X bx ≤ aO m Ey Y bz) = true := decide_eq_true (by
        rw [ax, ay, uX]
        have e0 : rnP m false 0 (refE Ex bx) = 0 := by simp [rnP]
        omega)
      exact fits_calls T (or1 nx ny bx bz X Y Ex Ey m) (okCons hle (okCons (ng X bx zX) (okCons (gt Y bz zY) (okCons (eq X bx zX) li)))) hv (by rfl) w
  · by_cases zY : lnO Y bz = 0
    · exact fits_calls T (or3 nx ny bx bz X Y Ex Ey m) (okCons (ng Y bz zY) (okCons (gt X bx zX) (okCons (nq X bx zX) li))) hv (by rfl) w
    · have uX : refT X bx ≠ 0 := d16_pos (by unfold lnO at zX; omega)
      have uY : refT Y bz ≠ 0 := d16_pos (by unfold lnO at zY; omega)
      obtain ⟨k, hk⟩ : ∃ k : Nat, k = 17 := ⟨_, rfl⟩
      have tX := lt272 hX bx hk
      have tY := lt272 hY bz hk
      have lX : lnO X bx ≤ k := d16_len tX
      have lY : lnO Y bz ≤ k := d16_len tY
      have b2 : (hO nx Ex X bx ny Ey Y bz).blk? 2 = some (wU (d16 (refT X bx)), tU) := rfl
      have b3 : (hO nx Ex X bx ny Ey Y bz).blk? 3 = some (wU (d16 (refT Y bz)), tU) := rfl
      have v2 : vO (hO nx Ex X bx ny Ey Y bz) (adO 2) (lnO X bx) = refT X bx := vO_d16 b2
      have v3 : vO (hO nx Ex X bx ny Ey Y bz) (adO 3) (lnO Y bz) = refT Y bz := vO_d16 b3
      have eX := refE_bd Ex bx
      have eY := refE_bd Ey bz
      have n1 : bitLen (refT X bx) ≤ 16 * k := len_le tX
      have n2 : bitLen (refT Y bz) ≤ 16 * k := len_le tY
      have hmX : mX nx Ex X bx ny Ey Y bz = refE Ex bx + (bitLen (refT X bx) : Nat) := by unfold mX; rw [v2, bl_bitLen, wrapI' ⟨by omega, by omega⟩]
      have hmY : mY nx Ex X bx ny Ey Y bz = refE Ey bz + (bitLen (refT Y bz) : Nat) := by unfold mY; rw [v3, bl_bitLen, wrapI' ⟨by omega, by omega⟩]
      have k2 : (lenO (hO nx Ex X bx ny Ey Y bz) 2 (lnO X bx)).1 = true := by
        unfold lenO adO lnO
        show (rowP (hO nx Ex X bx ny Ey Y bz) (some ⟨2, 0, none⟩) (d16 (refT X bx)).length (d16 (refT X bx)).length && canB (rowOf (hO nx Ex X bx ny Ey Y bz) (some ⟨2, 0, none⟩) (d16 (refT X bx)).length) && Nat.blt (d16 (refT X bx)).length 1073741824) = true
        unfold lnO at lX
        rw [rowP_d16 b2 (by omega), rowOf_d16 b2, show canB (d16 (refT X bx)) = true from canB_mk (can_db (by omega) _), blt_iff.2 (by omega)]
        rfl
      have k3 : (lenO (hO nx Ex X bx ny Ey Y bz) 3 (lnO Y bz)).1 = true := by
        unfold lenO adO lnO
        show (rowP (hO nx Ex X bx ny Ey Y bz) (some ⟨3, 0, none⟩) (d16 (refT Y bz)).length (d16 (refT Y bz)).length && canB (rowOf (hO nx Ex X bx ny Ey Y bz) (some ⟨3, 0, none⟩) (d16 (refT Y bz)).length) && Nat.blt (d16 (refT Y bz)).length 1073741824) = true
        unfold lnO at lY
        rw [rowP_d16 b3 (by omega), rowOf_d16 b3, show canB (d16 (refT Y bz)) = true from canB_mk (can_db (by omega) _), blt_iff.2 (by omega)]
        rfl
      have l4 : okLog (l4O m nx Ex X bx ny Ey Y bz (iO m Ex X bx Ey Y bz)) := okCons k3 (okCons k2 (okCons (gt Y bz zY) (okCons (gt X bx zX) (okCons (nq X bx zX) li))))
      by_cases hlt : mX nx Ex X bx ny Ey Y bz < mY nx Ex X bx ny Ey Y bz
      · have hle : decide (aO m Ex X bx ≤ aO m Ey Y bz) = true := decide_eq_true (by
          rw [ax, ay]
          exact less_len uY (by rw [← hmX, ← hmY]; exact hlt) m)
        exact fits_calls T (or4 nx ny bx bz X Y Ex Ey m) (okCons hle (okCons (decide_eq_true hlt) l4)) hv (by rfl) w
      · by_cases heq : mX nx Ex X bx ny Ey Y bz = mY nx Ex X bx ny Ey Y bz
        · have hw : lwO Ex bx Ey bz ≤ refE Ex bx ∧ lwO Ex bx Ey bz ≤ refE Ey bz ∧ -200001 ≤ lwO Ex bx Ey bz := by unfold lwO; split <;> omega
          have ekX : kX Ex bx Ey bz = refE Ex bx - lwO Ex bx Ey bz := by unfold kX; rw [wrapI' ⟨by omega, by omega⟩]
          have ekY : kY Ex bx Ey bz = refE Ey bz - lwO Ex bx Ey bz := by unfold kY; rw [wrapI' ⟨by omega, by omega⟩]
          have eA : vA nx Ex X bx ny Ey Y bz = refT X bx * 2 ^ (refE Ex bx - lwO Ex bx Ey bz).toNat := by unfold vA; rw [v2, ekX]
          have b3' : (h7O nx Ex X bx ny Ey Y bz).blk? 3 = some (wU (d16 (refT Y bz)), tU) := rfl
          have v3' : vO (h7O nx Ex X bx ny Ey Y bz) (adO 3) (lnO Y bz) = refT Y bz := vO_d16 b3'
          have eB : vB nx Ex X bx ny Ey Y bz = refT Y bz * 2 ^ (refE Ey bz - lwO Ex bx Ey bz).toNat := by unfold vB; rw [v3', ekY]
          have b6 : (h8O nx Ex X bx ny Ey Y bz).blk? 6 = some (wU (d16 (vA nx Ex X bx ny Ey Y bz)), tU) := rfl
          have b7 : (h8O nx Ex X bx ny Ey Y bz).blk? 7 = some (wU (d16 (vB nx Ex X bx ny Ey Y bz)), tU) := rfl
          have v6 : vO (h8O nx Ex X bx ny Ey Y bz) (adO 6) (d16 (vA nx Ex X bx ny Ey Y bz)).length = vA nx Ex X bx ny Ey Y bz := vO_d16 b6
          have v7 : vO (h8O nx Ex X bx ny Ey Y bz) (adO 7) (d16 (vB nx Ex X bx ny Ey Y bz)).length = vB nx Ex X bx ny Ey Y bz := vO_d16 b7
          have hcz : czO nx Ex X bx ny Ey Y bz = cmpZ (vA nx Ex X bx ny Ey Y bz) (vB nx Ex X bx ny Ey Y bz) := by unfold czO; rw [v6, v7]
          have dA : (d16 (vA nx Ex X bx ny Ey Y bz)).length ≤ 100000 := by
            rw [eA]
            have := d16_up (j := (refE Ex bx - lwO Ex bx Ey bz).toNat) tX
            omega
          have dB : (d16 (vB nx Ex X bx ny Ey Y bz)).length ≤ 100000 := by
            rw [eB]
            have := d16_up (j := (refE Ey bz - lwO Ex bx Ey bz).toNat) tY
            omega
          have k6 : (twO nx Ex X bx ny Ey Y bz).1 = (twO nx Ex X bx ny Ey Y bz).2 := two_d16 b6 b7 (by omega) (by omega)
          have s2 : (shO (hO nx Ex X bx ny Ey Y bz) 2 (lnO X bx) (kX Ex bx Ey bz)).1 = true := by
            unfold shO adO lnO
            show (rowP (hO nx Ex X bx ny Ey Y bz) (some ⟨2, 0, none⟩) (d16 (refT X bx)).length (d16 (refT X bx)).length && dgB (rowOf (hO nx Ex X bx ny Ey Y bz) (some ⟨2, 0, none⟩) (d16 (refT X bx)).length) && Nat.blt ((kX Ex bx Ey bz).toNat / 16 + (d16 (refT X bx)).length + 3) 1073741824 && decide (0 ≤ kX Ex bx Ey bz)) = true
            unfold lnO at lX
            rw [rowP_d16 b2 (by omega), dgB_d16 b2, ekX, blt_iff.2 (by omega), decide_eq_true (by omega)]
            rfl
          have s3 : (shO (h7O nx Ex X bx ny Ey Y bz) 3 (lnO Y bz) (kY Ex bx Ey bz)).1 = true := by
            unfold shO adO lnO
            show (rowP (h7O nx Ex X bx ny Ey Y bz) (some ⟨3, 0, none⟩) (d16 (refT Y bz)).length (d16 (refT Y bz)).length && dgB (rowOf (h7O nx Ex X bx ny Ey Y bz) (some ⟨3, 0, none⟩) (d16 (refT Y bz)).length) && Nat.blt ((kY Ex bx Ey bz).toNat / 16 + (d16 (refT Y bz)).length + 3) 1073741824 && decide (0 ≤ kY Ex bx Ey bz)) = true
            unfold lnO at lY
            rw [rowP_d16 b3' (by omega), dgB_d16 b3', ekY, blt_iff.2 (by omega), decide_eq_true (by omega)]
            rfl
          have l6 : okLog (l6O m nx Ex X bx ny Ey Y bz (iO m Ex X bx Ey Y bz)) := okCons k6 (okCons s3 (okCons (decide_eq_true (by omega)) (okCons s2 (okCons (decide_eq_true (by omega)) (okCons (by rw [heq]; exact beq_self_eq_true _) (okCons (decide_eq_false hlt) l4))))))
          by_cases hAB : vA nx Ex X bx ny Ey Y bz < vB nx Ex X bx ny Ey Y bz
          · have hc : czO nx Ex X bx ny Ey Y bz < 0 := by rw [hcz]; unfold cmpZ; rw [if_pos hAB]; omega
            have hle : decide (aO m Ex X bx ≤ aO m Ey Y bz) = true := decide_eq_true (by
              rw [ax, ay]
              exact ord hw.1 hw.2.1 (by rw [← eA, ← eB]; omega))
            exact fits_calls T (or6 nx ny bx bz X Y Ex Ey m) (okCons hle (okCons (decide_eq_true hc) l6)) hv (by rfl) w
          · have hc : ¬ czO nx Ex X bx ny Ey Y bz < 0 := by
              rw [hcz]; unfold cmpZ; rw [if_neg hAB]; split <;> omega
            exact fits_calls T (or7 nx ny bx bz X Y Ex Ey m) (okCons (decide_eq_false hc) l6) hv (by rfl) w
        · exact fits_calls T (or5 nx ny bx bz X Y Ex Ey m) (okCons (by simpa using heq) (okCons (decide_eq_false hlt) l4)) hv (by rfl) w
theorem cells0 {l : List Value} (h : okC [none, some .i64, some .u64, some .u64, some .u64, some .u64, none] l) : ∃ n0 e0 p0a p0b p0c p0d b0, l = [.bool n0, .int .i64 e0, .int .u64 p0a, .int .u64 p0b, .int .u64 p0c, .int .u64 p0d, .bool b0] ∧ (Lit.int .i64 e0).wf = true ∧ (Lit.int .u64 p0a).wf = true ∧ (Lit.int .u64 p0b).wf = true ∧ (Lit.int .u64 p0c).wf = true ∧ (Lit.int .u64 p0d).wf = true := by
  have hl := okC_length h
  obtain ⟨v0, v1, v2, v3, v4, v5, v6, rfl⟩ : ∃ v0 v1 v2 v3 v4 v5 v6, l = [v0, v1, v2, v3, v4, v5, v6] := by
    match l, hl with
    | [v0, v1, v2, v3, v4, v5, v6], _ => exact ⟨v0, v1, v2, v3, v4, v5, v6, rfl⟩
  obtain ⟨⟨n0, rfl⟩, ⟨e0, rfl, ke0⟩, ⟨p0a, rfl, kp0a⟩, ⟨p0b, rfl, kp0b⟩, ⟨p0c, rfl, kp0c⟩, ⟨p0d, rfl, kp0d⟩, ⟨b0, rfl⟩, _⟩ := h
  exact ⟨n0, e0, p0a, p0b, p0c, p0d, b0, rfl, ke0, kp0a, kp0b, kp0c, kp0d⟩
theorem cells1 {l : List Value} (h : okC [none, some .i64, some .u64, some .u64, some .u64, some .u64, none] l) : ∃ n1 e1 p1a p1b p1c p1d b1, l = [.bool n1, .int .i64 e1, .int .u64 p1a, .int .u64 p1b, .int .u64 p1c, .int .u64 p1d, .bool b1] ∧ (Lit.int .i64 e1).wf = true ∧ (Lit.int .u64 p1a).wf = true ∧ (Lit.int .u64 p1b).wf = true ∧ (Lit.int .u64 p1c).wf = true ∧ (Lit.int .u64 p1d).wf = true := by
  have hl := okC_length h
  obtain ⟨v0, v1, v2, v3, v4, v5, v6, rfl⟩ : ∃ v0 v1 v2 v3 v4 v5 v6, l = [v0, v1, v2, v3, v4, v5, v6] := by
    match l, hl with
    | [v0, v1, v2, v3, v4, v5, v6], _ => exact ⟨v0, v1, v2, v3, v4, v5, v6, rfl⟩
  obtain ⟨⟨n1, rfl⟩, ⟨e1, rfl, ke1⟩, ⟨p1a, rfl, kp1a⟩, ⟨p1b, rfl, kp1b⟩, ⟨p1c, rfl, kp1c⟩, ⟨p1d, rfl, kp1d⟩, ⟨b1, rfl⟩, _⟩ := h
  exact ⟨n1, e1, p1a, p1b, p1c, p1d, b1, rfl, ke1, kp1a, kp1b, kp1c, kp1d⟩
theorem own : ownKnob Try.prog.godebug = none := by kernel_rfl
set_option maxRecDepth 100000 in
theorem lifted (os : Os) (started : os.Started) (H : Type) (enc : TypeId × Value → H) :
    ReturnsInHanded {} Try.checked os 4 .any (Rows.rndOrderSpec.pre6 enc Try.prog Try.f4 Rows.rndOrderRow.domain false) (Rows.rndOrderSpec.post enc Try.prog Try.f4 false true false false) := by
  refine returnsInHanded_of_change (C := Try.checked) own started (by kernel_rfl) Try.func4
    (ChangeSpec.witness6 (enc := enc) (C := Try.checked) false ⟨#[], #[.agg #[.bool false, .int .i64 0, .int .u64 0, .int .u64 0, .int .u64 0, .int .u64 0, .bool false], .agg #[.bool false, .int .i64 0, .int .u64 0, .int .u64 0, .int .u64 0, .int .u64 0, .bool false], .int .i64 0], []⟩ 8 (by kernel_rfl) (by kernel_rfl) (by kernel_rfl) (by kernel_rfl)) ?_
  intro W base args ds gs before hval0 hW hcnd _
  have hval : ∀ (j : Nat) t v, Try.f4.params[j]? = some t → args[j]? = some v → Value.okWide Try.prog W .any base t v := hval0
  have hW' := hW
  obtain ⟨p, q, hA0, hV, rfl, hfz, hnd⟩ := hW
  have hA : DataW.TrodAll enc Try.prog W 0 (fun _ => true) true Try.f4.params.toList args.toList ds p := hA0
  rw [Try.params4] at hA hval
  obtain ⟨v0, v1, v2, d0, d1, d2, p0, p1, p2, rfl, rfl, rfl, h0, h1, h2⟩ := trodAll_three hA
  obtain ⟨rfl, rfl⟩ := trodVars_none hV
  obtain ⟨c0, rfl, r0⟩ := flat_open (L := [none, some .i64, some .u64, some .u64, some .u64, some .u64, none]) (by kernel_rfl) h0
  obtain ⟨cs0, rfl⟩ := agg_struct Try.underlying25 (hval 0 25 v0 rfl rfl)
  obtain ⟨n0, e0, p0a, p0b, p0c, p0d, b0, hcs0, ke0, kp0a, kp0b, kp0c, kp0d⟩ := cells0 c0
  have hcs0' : cs0 = #[.bool n0, .int .i64 e0, .int .u64 p0a, .int .u64 p0b, .int .u64 p0c, .int .u64 p0d, .bool b0] := by
    have := congrArg List.toArray hcs0
    simpa [Value.cells] using this
  subst hcs0'
  obtain ⟨c1, rfl, r1⟩ := flat_open (L := [none, some .i64, some .u64, some .u64, some .u64, some .u64, none]) (by kernel_rfl) h1
  obtain ⟨cs1, rfl⟩ := agg_struct Try.underlying25 (hval 1 25 v1 rfl rfl)
  obtain ⟨n1, e1, p1a, p1b, p1c, p1d, b1, hcs1, ke1, kp1a, kp1b, kp1c, kp1d⟩ := cells1 c1
  have hcs1' : cs1 = #[.bool n1, .int .i64 e1, .int .u64 p1a, .int .u64 p1b, .int .u64 p1c, .int .u64 p1d, .bool b1] := by
    have := congrArg List.toArray hcs1
    simpa [Value.cells] using this
  subst hcs1'
  obtain ⟨x2, rfl, rfl, rfl, w2⟩ := open_int Try.underlying3 (hval 2 3 v2 rfl rfl) h2
  clear hA0 hval0
  simp only [List.append_nil] at hW'
  refine (walk n0 n1 b0 b1 ⟨p0a, p0b, p0c, p0d⟩ ⟨p1a, p1b, p1c, p1d⟩ e0 e1 x2 (w4_ok kp0a kp0b kp0c kp0d u64_bounds) (w4_ok kp1a kp1b kp1c kp1d u64_bounds) W).mono fun e W' ⟨he, hg⟩ => ?_
  subst he
  exact ⟨_, rfl, post_of_same (pa := []) (pv := []) hW' (fun _ _ _ => trodAll_mk1 (shut_bool Try.underlying4 _))
    (fun sp _ => trodAll_mk3 (r0 _ _ _ _) (r1 _ _ _ _) (shut_int Try.underlying3 w2)) (fun _ _ => rfl) rfl
    (hg.1.frame _) (tidy_frozen hg) (ok_one (by kernel_rfl) rfl (okWide_bool_mk Try.underlying4 _))⟩

theorem proved : Rows.RndOrderSaid :=
  OpenClaim.holds_of_wide 4 Try.f4 rfl rfl rfl rfl rfl rfl rfl ⟨rfl, rfl, rfl, rfl, rfl⟩ rfl rfl rfl rfl rfl (by kernel_rfl) Try.func4 (by kernel_rfl)
    (of_decide_eq_true (by kernel_rfl)) (by unfold Func.isWrapper; first | (rw [if_pos (by decide +kernel)]; kernel_rfl) | (rw [if_neg (by decide +kernel)]; exact ⟨rfl, rfl⟩))
    (fun os started H enc _ => lifted os started H enc)
end Go.Proofs.Ytikeffficelfcaa.rndOrder
