/-
  SuE, SuG, PtA, SuH, SuN, SuI, NumI, ConVG
-/
import Derived.Test.YtjkgnbdeklploaaGreatDoorG23
namespace Go.Proofs.YtjkgnbdeklploaaGreatDoor
open Go.KRun Go.Nt Go.Wd Go.Rn
set_option maxRecDepth 100000
set_option linter.unusedVariables false
/-- a row at a block, in whatever memory -/
def RowB (b : Nat) (l : List Value) (o c : Nat) (A : List Int) : Prop := ∀ h : Hp, h.blk? b = some (l, tR) → rowP h (some ⟨b, o, none⟩) A.length c = true ∧ rowOf h (some ⟨b, o, none⟩) A.length = A
theorem rowB_of (b : Nat) {ty : TypeId} {l : List Value} {o n c : Nat} (r : rowC ty l o n c = true) (hs : ∀ v ∈ l, still v = true) : RowB b l o c (cutI l o n) := by
  intro h hb
  have e2 := (rowC_of r).2.1
  constructor
  · rw [e2]
    unfold rowP
    simp only [hb]
    unfold rowC at r ⊢
    simp only [Bool.and_eq_true, Bool.not_eq_true'] at r ⊢
    obtain ⟨⟨⟨⟨⟨⟨h1, h2⟩, h3⟩, h4⟩, h5⟩, h6⟩, h7⟩ := r
    exact ⟨⟨⟨⟨⟨⟨⟨by kernel_rfl, by kernel_rfl⟩, h3⟩, h4⟩, h5⟩, h6⟩, h7⟩, List.all_eq_true.2 hs⟩
  · rw [e2]
    unfold rowOf
    simp only [hb]
theorem vO_rowB {b : Nat} {l : List Value} {o c : Nat} {A : List Int} (hF : RowB b l o c A) {h : Hp} (hh : h.blk? b = some (l, tR)) : vO h (adSu b o) A.length = vb 65536 A := by
  unfold vO adSu
  rw [(hF h hh).2]
def lowS (Ex Ey : Int) (n n' : Nat) : Int := if n' = 0 then Ex else if n = 0 then Ey else lowM Ex Ey
def smS (nx ny : Bool) (Ex Ey : Int) (n n' X Y : Nat) : Int := smI (lowS Ex Ey n n') nx Ex X ny Ey Y
/-- what Sum answers: a row, or nothing -/
def smOut (F : Func) (V : Int) (sg : Bool) (low : Int) (z : Lf) : Prop := (V ≠ 0 → ∃ k, resS Tryz.prog F z.1 z.2.1 = some (vRN sg low (sOf k V.natAbs)) ∧ ∃ r, z.2.1.blk? k = some (wU (d16 V.natAbs) ++ r, tU)) ∧ (V = 0 → resS Tryz.prog F z.1 z.2.1 = some (vRN sg low nilS))
theorem szF_self (E : Int) (X : Nat) : szF E E X = X := by unfold szF; rw [Int.sub_self]; simp
theorem szF_nil (F E : Int) : szF F E 0 = 0 := by unfold szF; simp
theorem sgI_nil (n : Bool) : sgI n 0 = 0 := by cases n <;> rfl
theorem sgS_one {M : Int} {nx ny n : Bool} {A : Nat} (hA : A ≠ 0) : sgS M nx ny (sgI n A) = n := by
  obtain ⟨h1, h2⟩ := sgI_neg (n := n) hA
  unfold sgS
  rw [if_neg h2, h1]
theorem can_zero {A : List Int} (hC : Canon 65536 A) : vb 65536 A = 0 ↔ A.length = 0 := by
  constructor
  · intro h
    by_cases h0 : A = []
    · rw [h0]; rfl
    · exact absurd h (can_ne hC h0)
  · intro h
    rw [List.length_eq_zero_iff.1 h]
    rfl
theorem vb_bd {A : List Int} (hC : Canon 65536 A) {k : Nat} (h : A.length ≤ k) : vb 65536 A < 2 ^ (16 * k) := by
  have h1 := vb_lt (b := 65536) (by omega) A hC.1
  rw [pow16] at h1
  exact Nat.lt_of_lt_of_le h1 (Nat.pow_le_pow_right (by omega) (by omega))
theorem d16_shl {V n j : Nat} (h : V < 2 ^ (16 * n)) : (d16 (V * 2 ^ j)).length ≤ n + j / 16 + 1 := by
  refine d16_len ?_
  have hp : 0 < 2 ^ j := Nat.pow_pos (by omega)
  have h2 := Nat.mul_lt_mul_of_pos_right h hp
  rw [← Nat.pow_add] at h2
  exact Nat.lt_of_lt_of_le h2 (Nat.pow_le_pow_right (by omega) (by omega))
theorem dif_eq {x y : Int} (h : -400000 ≤ x ∧ x ≤ 400000) (h' : -400000 ≤ y ∧ y ≤ 400000) : dif x y = x - y := by unfold dif; rw [wrapI (by omega) (by omega)]
section
variable {la lb : List Value} {o c o' c' : Nat} {A B : List Int}
theorem two_nil' {h : Hp} {b A : Nat} (hb : h.blk? b = some (wU (d16 A), tU)) (hl : (d16 A).length < 1073741800) : two16 h (some ⟨b, 0, none⟩) none (d16 A).length (d16 A).length 0 0 = true := by
  unfold two16
  rw [rowP_d16 hb (by omega), dgB_d16 hb, blt_iff.2 (by omega)]
  rfl
theorem okShl_of {b n : Nat} {l : List Value} {o c : Nat} {A : List Int} (hF : RowB b l o c A) (hC : Canon 65536 A) (hn : A.length < 1000000) {h : Hp} (hh : h.blk? b = some (l, tR)) {k : Int} (h0 : 0 ≤ k) (h1 : k ≤ 1000000) : okShl h (adSu b o) A.length c k = true := by
  unfold okShl adSu
  rw [(hF h hh).1, (hF h hh).2, dgB_mk hC.1, blt_iff.2 (by omega), decide_eq_true h0]
  rfl
theorem nat0t {n : Nat} (h : n = 0) : (((n : Nat) : Int) == 0) = true := by rw [h]; rfl
theorem nat0f {n : Nat} (h : n ≠ 0) : (((n : Nat) : Int) == 0) = false := by simpa using h
theorem gt0t {n : Nat} (h : n ≠ 0) : decide (((n : Nat) : Int) > 0) = true := decide_eq_true (by omega)
theorem gt0f {n : Nat} (h : n = 0) : decide (((n : Nat) : Int) > 0) = false := decide_eq_false (by omega)
theorem vO_ad {h : Hp} {b A : Nat} (hb : h.blk? b = some (wU (d16 A), tU)) : vO h (adSu b 0) (d16 A).length = A := vO_d16 hb
theorem out_row {F : Func} {S : Int} {V k : Nat} {sg : Bool} {low : Int} {z : Lf} (hS : S ≠ 0) (hV : S.natAbs = V) (hr : resS Tryz.prog F z.1 z.2.1 = some (vRN sg low (sOf k V))) (hb : z.2.1.blk? k = some (wU (d16 V), tU)) : smOut F S sg low z :=
  ⟨fun _ => ⟨k, by rw [hV]; exact hr, [], by rw [hV, List.append_nil]; exact hb⟩, fun h => absurd h hS⟩
theorem sum_runs (hF : RowB 0 la o c A) (hG : RowB 1 lb o' c' B) (cA : Canon 65536 A) (cB : Canon 65536 B) (lA : A.length < 20000) (lB : B.length < 20000) {nx ny : Bool} {Ex Ey : Int} (hE : -400000 ≤ Ex ∧ Ex ≤ 400000) (hE' : -400000 ≤ Ey ∧ Ey ≤ 400000) (M : Int) :
    RunsW (tabH Tryz.prog extY conN hcW) (cBody Tryz.f53) ([vRN nx Ex (sl 0 o A.length c), vRN ny Ey (sl 1 o' B.length c'), .int .i64 M] ++ List.replicate 123 undef, h2 la lb, []) fun ex z => (ex = none ∨ ex = some none) ∧
      smOut Tryz.f53 (smS nx ny Ex Ey A.length B.length (vb 65536 A) (vb 65536 B)) (sgS M nx ny (smS nx ny Ex Ey A.length B.length (vb 65536 A) (vb 65536 B))) (lowS Ex Ey A.length B.length) z := by
  have zA := can_zero cA
  have zB := can_zero cB
  have hb0 : (hM nx Ex o A.length c ny Ey o' B.length c' la lb).blk? 0 = some (la, tR) := rfl
  have hb1 : (hM nx Ex o A.length c ny Ey o' B.length c' la lb).blk? 1 = some (lb, tR) := rfl
  have vA := vO_rowB hF hb0
  have vB := vO_rowB hG hb1
  have dX := dif_eq hE hE
  have dY := dif_eq hE' hE'
  rw [Int.sub_self] at dX dY
  have bA := vb_bd cA (Nat.le_refl A.length)
  have bB := vb_bd cB (Nat.le_refl B.length)
  by_cases nB : B.length = 0
  · by_cases nA : A.length = 0
    · -- both nothing
      have hlow : lowS Ex Ey A.length B.length = Ex := by unfold lowS; rw [if_pos nB]
      have hS : smS nx ny Ex Ey A.length B.length (vb 65536 A) (vb 65536 B) = 0 := by
        unfold smS smI
        rw [zA.2 nA, zB.2 nB, szF_nil, szF_nil, sgI_nil, sgI_nil]
        rfl
      rw [hS, hlow]
      have okz : okLog [(((B.length : Nat) : Int) == 0, true), (((A.length : Nat) : Int) == 0, true), (((B.length : Nat) : Int) == 0, true), (((A.length : Nat) : Int) == 0, true)] := okCons (nat0t nB) (okCons (nat0t nA) (okCons (nat0t nB) (okL1 (nat0t nA))))
      have fin : ∀ {sg : Bool} {ex : Go.KRun.Ex} {z : Lf}, sgS M nx ny 0 = sg → (ex = some none ∧ (∃ g, z.1 = [vRN nx Ex (sl 0 o A.length c), vRN ny Ey (sl 1 o' B.length c'), .int .i64 M, .pointer (some ⟨2, 0, none⟩), .pointer (some ⟨3, 0, none⟩), undef, .pointer (some ⟨4, 0, none⟩)] ++ tl 119 g) ∧ z.2.1 = ⟨5, [bOf sg Ex nilS, bOf ny Ey (sl 1 o' B.length c'), bOf nx Ex (sl 0 o A.length c), (lb, tR), (la, tR)]⟩) → (ex = none ∨ ex = some none) ∧ smOut Tryz.f53 0 (sgS M nx ny 0) Ex z := fun hs hz => by
        obtain ⟨rfl, ⟨g, z1⟩, z2⟩ := hz
        refine ⟨.inr rfl, (fun h => absurd rfl h), fun _ => ?_⟩
        rw [hs, z1, z2]
        rfl
      have e0 : sgS M nx ny 0 = if nx = ny then nx else decide (M = 4) := by unfold sgS; rw [if_pos rfl]
      cases nx <;> cases ny
      · exact (goesT_runsW (tabH_ok conN_ok hcW_ok) (szff Ex Ey M o A.length c o' B.length c' la lb) okz).mono fun ex z hz => fin (by rw [e0]; rfl) hz
      · exact (goesT_runsW (tabH_ok conN_ok hcW_ok) (szft Ex Ey M o A.length c o' B.length c' la lb) okz).mono fun ex z hz => fin (by rw [e0]; rfl) hz
      · exact (goesT_runsW (tabH_ok conN_ok hcW_ok) (sztf Ex Ey M o A.length c o' B.length c' la lb) okz).mono fun ex z hz => fin (by rw [e0]; rfl) hz
      · exact (goesT_runsW (tabH_ok conN_ok hcW_ok) (sztt Ex Ey M o A.length c o' B.length c' la lb) okz).mono fun ex z hz => fin (by rw [e0]; rfl) hz
    · -- the second is nothing
      have hlow : lowS Ex Ey A.length B.length = Ex := by unfold lowS; rw [if_pos nB]
      have hX : vb 65536 A ≠ 0 := fun h => nA (zA.1 h)
      have hS : smS nx ny Ex Ey A.length B.length (vb 65536 A) (vb 65536 B) = sgI nx (vb 65536 A) := by
        unfold smS smI
        rw [hlow, zB.2 nB, szF_self, szF_nil, sgI_nil, Int.add_zero]
      obtain ⟨_, hS0⟩ := sgI_neg (n := nx) hX
      have hab := sgI_abs nx (vb 65536 A)
      rw [hS, hlow, sgS_one hX]
      have eA : vO (hM nx Ex o A.length c ny Ey o' B.length c' la lb) (adSu 0 o) A.length * 2 ^ (dif Ex Ex).toNat = vb 65536 A := by rw [vA, dX]; simp
      have hb5 : (nxt (hM nx Ex o A.length c ny Ey o' B.length c' la lb) (vb 65536 A)).blk? 5 = some (wU (d16 (vb 65536 A)), tU) := rfl
      have eV : vO (nxt (hM nx Ex o A.length c ny Ey o' B.length c' la lb) (vb 65536 A)) (adSu 5 0) (d16 (vb 65536 A)).length + vO (nxt (hM nx Ex o A.length c ny Ey o' B.length c' la lb) (vb 65536 A)) none 0 = vb 65536 A := by rw [vO_ad hb5, vO_nil]; rfl
      have hd0 : (d16 (vb 65536 A)).length ≠ 0 := fun h => hX (d16_zero (by omega))
      have hdl : (d16 (vb 65536 A)).length ≤ A.length := d16_len bA
      have k1 := two_nil' hb5 (by omega)
      have k2 : decide (0 < (d16 (vb 65536 A)).length ∨ 0 < 0) = true := decide_eq_true (.inl (by omega))
      have k3 : (((((d16 (vb 65536 A)).length) : Nat) : Int) == 0) = false := nat0f hd0
      have k4 : okShl (hM nx Ex o A.length c ny Ey o' B.length c' la lb) (adSu 0 o) A.length c (dif Ex Ex) = true := okShl_of (n := 0) hF cA (by omega) hb0 (by omega) (by omega)
      have k5 : decide (0 < A.length) = true := decide_eq_true (by omega)
      have lg : okLog [(decide (((B.length : Nat) : Int) > 0), false), (okShl (hM nx Ex o A.length c ny Ey o' B.length c' la lb) (adSu 0 o) A.length c (dif Ex Ex), true), (decide (0 < A.length), true), (decide (((A.length : Nat) : Int) > 0), true), (((A.length : Nat) : Int) == 0, false), (((B.length : Nat) : Int) == 0, true), (((A.length : Nat) : Int) == 0, false)] :=
        okCons (gt0f nB) (okCons k4 (okCons k5 (okCons (gt0t nA) (okCons (nat0f nA) (okCons (nat0t nB) (okL1 (nat0f nA)))))))
      cases nx <;> cases ny
      · have hw := syff Ex Ey M o A.length c o' B.length c' la lb
        rw [eA, eV] at hw
        refine (goesT_runsW (tabH_ok conN_ok hcW_ok) hw (okCons k1 (okCons k2 (okCons k3 lg)))).mono fun ex z hz => ?_
        obtain ⟨rfl, ⟨g, z1⟩, z2⟩ := hz
        exact ⟨.inr rfl, out_row (k := 6) hS0 hab (by rw [z1, z2]; rfl) (by rw [z2]; rfl)⟩
      · have hw := syft Ex Ey M o A.length c o' B.length c' la lb
        rw [eA, eV] at hw
        refine (goesT_runsW (tabH_ok conN_ok hcW_ok) hw (okCons k1 (okCons k2 (okCons k3 (okCons rfl (okCons k3 lg)))))).mono fun ex z hz => ?_
        obtain ⟨rfl, ⟨g, z1⟩, z2⟩ := hz
        exact ⟨.inr rfl, out_row (k := 6) hS0 hab (by rw [z1, z2]; rfl) (by rw [z2]; rfl)⟩
      · have hw := sytf Ex Ey M o A.length c o' B.length c' la lb
        rw [eA, eV] at hw
        refine (goesT_runsW (tabH_ok conN_ok hcW_ok) hw (okCons k1 (okCons k2 (okCons k3 (okCons rfl (okCons k3 lg)))))).mono fun ex z hz => ?_
        obtain ⟨rfl, ⟨g, z1⟩, z2⟩ := hz
        exact ⟨.inr rfl, out_row (k := 6) hS0 hab (by rw [z1, z2]; rfl) (by rw [z2]; rfl)⟩
      · have hw := sytt Ex Ey M o A.length c o' B.length c' la lb
        rw [eA, eV] at hw
        refine (goesT_runsW (tabH_ok conN_ok hcW_ok) hw (okCons k1 (okCons k2 (okCons k3 lg)))).mono fun ex z hz => ?_
        obtain ⟨rfl, ⟨g, z1⟩, z2⟩ := hz
        exact ⟨.inr rfl, out_row (k := 6) hS0 hab (by rw [z1, z2]; rfl) (by rw [z2]; rfl)⟩
  · by_cases nA : A.length = 0
    · -- the first is nothing
      have hlow : lowS Ex Ey A.length B.length = Ey := by unfold lowS; rw [if_neg nB, if_pos nA]
      have hX : vb 65536 B ≠ 0 := fun h => nB (zB.1 h)
      have hS : smS nx ny Ex Ey A.length B.length (vb 65536 A) (vb 65536 B) = sgI ny (vb 65536 B) := by
        unfold smS smI
        rw [hlow, zA.2 nA, szF_self, szF_nil, sgI_nil, Int.zero_add]
      obtain ⟨_, hS0⟩ := sgI_neg (n := ny) hX
      have hab := sgI_abs ny (vb 65536 B)
      rw [hS, hlow, sgS_one hX]
      have eA : vO (hM nx Ex o A.length c ny Ey o' B.length c' la lb) (adSu 1 o') B.length * 2 ^ (dif Ey Ey).toNat = vb 65536 B := by rw [vB, dY]; simp
      have hb5 : (nxt (hM nx Ex o A.length c ny Ey o' B.length c' la lb) (vb 65536 B)).blk? 5 = some (wU (d16 (vb 65536 B)), tU) := rfl
      have eV : vO (nxt (hM nx Ex o A.length c ny Ey o' B.length c' la lb) (vb 65536 B)) none 0 + vO (nxt (hM nx Ex o A.length c ny Ey o' B.length c' la lb) (vb 65536 B)) (adSu 5 0) (d16 (vb 65536 B)).length = vb 65536 B := by rw [vO_ad hb5, vO_nil, Nat.zero_add]
      have hd0 : (d16 (vb 65536 B)).length ≠ 0 := fun h => hX (d16_zero (by omega))
      have hdl : (d16 (vb 65536 B)).length ≤ B.length := d16_len bB
      have k1 := two_nil hb5 (by omega)
      have k2 : decide (0 < 0 ∨ 0 < (d16 (vb 65536 B)).length) = true := decide_eq_true (.inr (by omega))
      have k4 : okShl (hM nx Ex o A.length c ny Ey o' B.length c' la lb) (adSu 1 o') B.length c' (dif Ey Ey) = true := okShl_of (n := 0) hG cB (by omega) hb1 (by omega) (by omega)
      have k5 : decide (0 < B.length) = true := decide_eq_true (by omega)
      have lg : okLog [(okShl (hM nx Ex o A.length c ny Ey o' B.length c' la lb) (adSu 1 o') B.length c' (dif Ey Ey), true), (decide (0 < B.length), true), (decide (((B.length : Nat) : Int) > 0), true), (decide (((A.length : Nat) : Int) > 0), false), (((B.length : Nat) : Int) == 0, false), (((A.length : Nat) : Int) == 0, true), (((B.length : Nat) : Int) == 0, false), (((A.length : Nat) : Int) == 0, true)] :=
        okCons k4 (okCons k5 (okCons (gt0t nB) (okCons (gt0f nA) (okCons (nat0f nB) (okCons (nat0t nA) (okCons (nat0f nB) (okL1 (nat0t nA))))))))
      cases nx <;> cases ny
      · have hw := sxff Ex Ey M o A.length c o' B.length c' la lb
        rw [eA, eV] at hw
        refine (goesT_runsW (tabH_ok conN_ok hcW_ok) hw (okCons k1 (okCons k2 (okCons rfl lg)))).mono fun ex z hz => ?_
        obtain ⟨rfl, ⟨g, z1⟩, z2⟩ := hz
        exact ⟨.inr rfl, out_row (k := 6) hS0 hab (by rw [z1, z2]; rfl) (by rw [z2]; rfl)⟩
      · have hw := sxft Ex Ey M o A.length c o' B.length c' la lb
        rw [eA, eV] at hw
        refine (goesT_runsW (tabH_ok conN_ok hcW_ok) hw (okCons k1 (okCons k2 (okCons rfl (okCons rfl lg))))).mono fun ex z hz => ?_
        obtain ⟨rfl, ⟨g, z1⟩, z2⟩ := hz
        exact ⟨.inr rfl, out_row (k := 6) hS0 hab (by rw [z1, z2]; rfl) (by rw [z2]; rfl)⟩
      · have hw := sxtf Ex Ey M o A.length c o' B.length c' la lb
        rw [eA, eV] at hw
        refine (goesT_runsW (tabH_ok conN_ok hcW_ok) hw (okCons k1 (okCons k2 (okCons rfl (okCons rfl lg))))).mono fun ex z hz => ?_
        obtain ⟨rfl, ⟨g, z1⟩, z2⟩ := hz
        exact ⟨.inr rfl, out_row (k := 6) hS0 hab (by rw [z1, z2]; rfl) (by rw [z2]; rfl)⟩
      · have hw := sxtt Ex Ey M o A.length c o' B.length c' la lb
        rw [eA, eV] at hw
        refine (goesT_runsW (tabH_ok conN_ok hcW_ok) hw (okCons k1 (okCons k2 (okCons rfl lg)))).mono fun ex z hz => ?_
        obtain ⟨rfl, ⟨g, z1⟩, z2⟩ := hz
        exact ⟨.inr rfl, out_row (k := 6) hS0 hab (by rw [z1, z2]; rfl) (by rw [z2]; rfl)⟩
    · -- both are something
      have hlow : lowS Ex Ey A.length B.length = lowM Ex Ey := by unfold lowS; rw [if_neg nB, if_neg nA]
      have hm : lowM Ex Ey ≤ Ex ∧ lowM Ex Ey ≤ Ey ∧ -400000 ≤ lowM Ex Ey := by unfold lowM; split <;> omega
      have d1 := dif_eq hE (show -400000 ≤ lowM Ex Ey ∧ lowM Ex Ey ≤ 400000 from ⟨hm.2.2, by omega⟩)
      have d2 := dif_eq hE' (show -400000 ≤ lowM Ex Ey ∧ lowM Ex Ey ≤ 400000 from ⟨hm.2.2, by omega⟩)
      obtain ⟨PA, hPA⟩ : ∃ PA, PA = szF (lowM Ex Ey) Ex (vb 65536 A) := ⟨_, rfl⟩
      obtain ⟨PB, hPB⟩ : ∃ PB, PB = szF (lowM Ex Ey) Ey (vb 65536 B) := ⟨_, rfl⟩
      have hA0 : PA ≠ 0 := by
        rw [hPA]; unfold szF
        exact Nat.mul_ne_zero (fun h => nA (zA.1 h)) (Nat.pos_iff_ne_zero.1 (Nat.pow_pos (by omega)))
      have hB0 : PB ≠ 0 := by
        rw [hPB]; unfold szF
        exact Nat.mul_ne_zero (fun h => nB (zB.1 h)) (Nat.pos_iff_ne_zero.1 (Nat.pow_pos (by omega)))
      have hS : smS nx ny Ex Ey A.length B.length (vb 65536 A) (vb 65536 B) = sgI nx PA + sgI ny PB := by
        unfold smS smI
        rw [hlow, ← hPA, ← hPB]
      rw [hS, hlow]
      have eA : vO (hM nx Ex o A.length c ny Ey o' B.length c' la lb) (adSu 0 o) A.length * 2 ^ (dif Ex (lowM Ex Ey)).toNat = PA := by rw [vA, d1, hPA]; rfl
      have hb1' : (nxt (hM nx Ex o A.length c ny Ey o' B.length c' la lb) PA).blk? 1 = some (lb, tR) := rfl
      have eB : vO (nxt (hM nx Ex o A.length c ny Ey o' B.length c' la lb) PA) (adSu 1 o') B.length * 2 ^ (dif Ey (lowM Ex Ey)).toNat = PB := by rw [vO_rowB hG hb1', d2, hPB]; rfl
      have hb5 : (nxt (nxt (hM nx Ex o A.length c ny Ey o' B.length c' la lb) PA) PB).blk? 5 = some (wU (d16 PA), tU) := rfl
      have hb6 : (nxt (nxt (hM nx Ex o A.length c ny Ey o' B.length c' la lb) PA) PB).blk? 6 = some (wU (d16 PB), tU) := rfl
      have eVA := vO_ad hb5
      have eVB := vO_ad hb6
      have la0 : (d16 PA).length ≠ 0 := fun h => hA0 (d16_zero (by omega))
      have lb0 : (d16 PB).length ≠ 0 := fun h => hB0 (d16_zero (by omega))
      have hda : (d16 PA).length ≤ 100000 := by
        rw [hPA]; unfold szF
        have := d16_shl (j := (Ex - lowM Ex Ey).toNat) bA
        omega
      have hdb : (d16 PB).length ≤ 100000 := by
        rw [hPB]; unfold szF
        have := d16_shl (j := (Ey - lowM Ex Ey).toNat) bB
        omega
      have k1 := two_d16 hb5 hb6 (by omega) (by omega)
      have k1' := two_d16 hb6 hb5 (by omega) (by omega)
      have k2 : decide (0 < (d16 PA).length ∨ 0 < (d16 PB).length) = true := decide_eq_true (.inl (by omega))
      have k3 : (((((d16 PA).length) : Nat) : Int) == 0) = false := nat0f la0
      have k3' : (((((d16 PB).length) : Nat) : Int) == 0) = false := nat0f lb0
      have k4 : okShl (hM nx Ex o A.length c ny Ey o' B.length c' la lb) (adSu 0 o) A.length c (dif Ex (lowM Ex Ey)) = true := okShl_of (n := 0) hF cA (by omega) hb0 (by omega) (by omega)
      have k5 : okShl (nxt (hM nx Ex o A.length c ny Ey o' B.length c' la lb) PA) (adSu 1 o') B.length c' (dif Ey (lowM Ex Ey)) = true := okShl_of (n := 0) hG cB (by omega) hb1' (by omega) (by omega)
      have lg : okLog [(okShl (nxt (hM nx Ex o A.length c ny Ey o' B.length c' la lb) PA) (adSu 1 o') B.length c' (dif Ey (lowM Ex Ey)), true), (decide (0 < B.length), true), (decide (((B.length : Nat) : Int) > 0), true), (okShl (hM nx Ex o A.length c ny Ey o' B.length c' la lb) (adSu 0 o) A.length c (dif Ex (lowM Ex Ey)), true), (decide (0 < A.length), true), (decide (((A.length : Nat) : Int) > 0), true), (((A.length : Nat) : Int) == 0, false), (((B.length : Nat) : Int) == 0, false), (((A.length : Nat) : Int) == 0, false)] :=
        okCons k5 (okCons (decide_eq_true (by omega)) (okCons (gt0t nB) (okCons k4 (okCons (decide_eq_true (by omega)) (okCons (gt0t nA) (okCons (nat0f nA) (okCons (nat0f nB) (okL1 (nat0f nA)))))))))
      by_cases hn : nx = ny
      · have hab : (sgI nx PA + sgI ny PB).natAbs = PA + PB := by subst hn; cases nx <;> simp only [sgI] <;> omega
        have hS0 : sgI nx PA + sgI ny PB ≠ 0 := by subst hn; cases nx <;> simp only [sgI] <;> omega
        have hsg : sgS M nx ny (sgI nx PA + sgI ny PB) = nx := by
          unfold sgS
          rw [if_neg hS0]
          subst hn
          cases nx <;> simp only [sgI]
          · exact decide_eq_false (by omega)
          · exact decide_eq_true (by omega)
        rw [hsg]
        subst hn
        cases nx
        · have hw := saff Ex Ey M o A.length c o' B.length c' la lb
          rw [eA, eB, eVA, eVB] at hw
          refine (goesT_runsW (tabH_ok conN_ok hcW_ok) hw (okCons k1 (okCons k2 (okCons k3 lg)))).mono fun ex z hz => ?_
          obtain ⟨rfl, ⟨g, z1⟩, z2⟩ := hz
          exact ⟨.inr rfl, out_row (k := 7) hS0 hab (by rw [z1, z2]; rfl) (by rw [z2]; rfl)⟩
        · have hw := satt Ex Ey M o A.length c o' B.length c' la lb
          rw [eA, eB, eVA, eVB] at hw
          refine (goesT_runsW (tabH_ok conN_ok hcW_ok) hw (okCons k1 (okCons k2 (okCons k3 lg)))).mono fun ex z hz => ?_
          obtain ⟨rfl, ⟨g, z1⟩, z2⟩ := hz
          exact ⟨.inr rfl, out_row (k := 7) hS0 hab (by rw [z1, z2]; rfl) (by rw [z2]; rfl)⟩
      · have hz' : (sgI nx PA + sgI ny PB = 0) ↔ PA = PB := by
          cases nx <;> cases ny <;> simp only [sgI, not_true_eq_false, reduceCtorEq, not_false_eq_true] at * <;> omega
        have hneg : PA ≠ PB → sgS M nx ny (sgI nx PA + sgI ny PB) = if PB < PA then nx else ny := fun h => by
          unfold sgS
          rw [if_neg (fun e => h (hz'.1 e))]
          cases nx <;> cases ny <;> simp only [sgI, not_true_eq_false, reduceCtorEq, not_false_eq_true] at * <;> split <;> first | exact decide_eq_true (by omega) | exact decide_eq_false (by omega)
        have hab : (sgI nx PA + sgI ny PB).natAbs = if PB < PA then PA - PB else PB - PA := by
          cases nx <;> cases ny <;> simp only [sgI, not_true_eq_false, reduceCtorEq, not_false_eq_true] at * <;> split <;> omega
        rcases Nat.lt_trichotomy PA PB with h | h | h
        · have cz : cmpZ PA PB = -1 := by unfold cmpZ; rw [if_pos h]
          have q0 : (cmpZ PA PB == 0) = false := by rw [cz]; rfl
          have q1 : (cmpZ PA PB == 1) = false := by rw [cz]; rfl
          have hS0 : sgI nx PA + sgI ny PB ≠ 0 := fun e => by have := hz'.1 e; omega
          have kk : (two16 (nxt (nxt (hM nx Ex o A.length c ny Ey o' B.length c' la lb) PA) PB) (adSu 6 0) (adSu 5 0) (d16 PB).length (d16 PB).length (d16 PA).length (d16 PA).length && Nat.ble PA PB) = true := by
            rw [show two16 (nxt (nxt (hM nx Ex o A.length c ny Ey o' B.length c' la lb) PA) PB) (adSu 6 0) (adSu 5 0) (d16 PB).length (d16 PB).length (d16 PA).length (d16 PA).length = true from k1', Nat.ble_eq_true_of_le (by omega)]; rfl
          rw [hneg (by omega), if_neg (by omega)]
          rw [if_neg (by omega)] at hab
          cases nx <;> cases ny
          · exact absurd rfl hn
          · have hw := s2ft Ex Ey M o A.length c o' B.length c' la lb
            rw [eA, eB, eVA, eVB] at hw
            refine (goesT_runsW (tabH_ok conN_ok hcW_ok) hw (okCons kk (okCons (decide_eq_true (by omega)) (okCons q1 (okCons q0 (okCons k1 (okCons k3' (okCons k3 lg)))))))).mono fun ex z hz => ?_
            obtain ⟨rfl, ⟨g, z1⟩, z2⟩ := hz
            exact ⟨.inr rfl, out_row (k := 7) hS0 hab (by rw [z1, z2]; rfl) (by rw [z2]; rfl)⟩
          · have hw := s2tf Ex Ey M o A.length c o' B.length c' la lb
            rw [eA, eB, eVA, eVB] at hw
            refine (goesT_runsW (tabH_ok conN_ok hcW_ok) hw (okCons kk (okCons (decide_eq_true (by omega)) (okCons q1 (okCons q0 (okCons k1 (okCons k3' (okCons k3 lg)))))))).mono fun ex z hz => ?_
            obtain ⟨rfl, ⟨g, z1⟩, z2⟩ := hz
            exact ⟨.inr rfl, out_row (k := 7) hS0 hab (by rw [z1, z2]; rfl) (by rw [z2]; rfl)⟩
          · exact absurd rfl hn
        · have cz : cmpZ PA PB = 0 := by unfold cmpZ; rw [if_neg (by omega), if_pos h]
          have q0 : (cmpZ PA PB == 0) = true := by rw [cz]; rfl
          have hS0 := hz'.2 h
          have hsg : sgS M nx ny (sgI nx PA + sgI ny PB) = (M == 4) := by
            unfold sgS
            rw [if_pos hS0, if_neg hn]
            rfl
          rw [hsg, hS0]
          cases nx <;> cases ny
          · exact absurd rfl hn
          · have hw := s0ft Ex Ey M o A.length c o' B.length c' la lb
            rw [eA, eB, eVA, eVB] at hw
            refine (goesT_runsW (tabH_ok conN_ok hcW_ok) hw (okCons q0 (okCons k1 (okCons k3' (okCons k3 lg))))).mono fun ex z hz => ?_
            obtain ⟨rfl, ⟨g, z1⟩, z2⟩ := hz
            exact ⟨.inr rfl, (fun hh => absurd rfl hh), fun _ => by rw [z1, z2]; rfl⟩
          · have hw := s0tf Ex Ey M o A.length c o' B.length c' la lb
            rw [eA, eB, eVA, eVB] at hw
            refine (goesT_runsW (tabH_ok conN_ok hcW_ok) hw (okCons q0 (okCons k1 (okCons k3' (okCons k3 lg))))).mono fun ex z hz => ?_
            obtain ⟨rfl, ⟨g, z1⟩, z2⟩ := hz
            exact ⟨.inr rfl, (fun hh => absurd rfl hh), fun _ => by rw [z1, z2]; rfl⟩
          · exact absurd rfl hn
        · have cz : cmpZ PA PB = 1 := by unfold cmpZ; rw [if_neg (by omega), if_neg (by omega)]
          have q0 : (cmpZ PA PB == 0) = false := by rw [cz]; rfl
          have q1 : (cmpZ PA PB == 1) = true := by rw [cz]; rfl
          have hS0 : sgI nx PA + sgI ny PB ≠ 0 := fun e => by have := hz'.1 e; omega
          have kk : (two16 (nxt (nxt (hM nx Ex o A.length c ny Ey o' B.length c' la lb) PA) PB) (adSu 5 0) (adSu 6 0) (d16 PA).length (d16 PA).length (d16 PB).length (d16 PB).length && Nat.ble PB PA) = true := by
            rw [show two16 (nxt (nxt (hM nx Ex o A.length c ny Ey o' B.length c' la lb) PA) PB) (adSu 5 0) (adSu 6 0) (d16 PA).length (d16 PA).length (d16 PB).length (d16 PB).length = true from k1, Nat.ble_eq_true_of_le (by omega)]; rfl
          rw [hneg (by omega), if_pos h]
          rw [if_pos h] at hab
          cases nx <;> cases ny
          · exact absurd rfl hn
          · have hw := s1ft Ex Ey M o A.length c o' B.length c' la lb
            rw [eA, eB, eVA, eVB] at hw
            refine (goesT_runsW (tabH_ok conN_ok hcW_ok) hw (okCons kk (okCons (decide_eq_true (by omega)) (okCons q1 (okCons q0 (okCons k1 (okCons k3' (okCons k3 lg)))))))).mono fun ex z hz => ?_
            obtain ⟨rfl, ⟨g, z1⟩, z2⟩ := hz
            exact ⟨.inr rfl, out_row (k := 7) hS0 hab (by rw [z1, z2]; rfl) (by rw [z2]; rfl)⟩
          · have hw := s1tf Ex Ey M o A.length c o' B.length c' la lb
            rw [eA, eB, eVA, eVB] at hw
            refine (goesT_runsW (tabH_ok conN_ok hcW_ok) hw (okCons kk (okCons (decide_eq_true (by omega)) (okCons q1 (okCons q0 (okCons k1 (okCons k3' (okCons k3 lg)))))))).mono fun ex z hz => ?_
            obtain ⟨rfl, ⟨g, z1⟩, z2⟩ := hz
            exact ⟨.inr rfl, out_row (k := 7) hS0 hab (by rw [z1, z2]; rfl) (by rw [z2]; rfl)⟩
          · exact absurd rfl hn
end
def okSm (h : Hp) (p q : Option Addr) (n c n' c' : Nat) (Ex Ey : Int) : Bool := rowP h p n c && canB (rowOf h p n) && Nat.blt n 20000 && (rowP h q n' c' && canB (rowOf h q n') && Nat.blt n' 20000) && decide ((-400000 ≤ Ex ∧ Ex ≤ 400000) ∧ (-400000 ≤ Ey ∧ Ey ≤ 400000))
def smH (h : Hp) (nx ny : Bool) (Ex Ey : Int) (b o n b' o' n' : Nat) : Int := smS nx ny Ex Ey n n' (vO h (adSu b o) n) (vO h (adSu b' o') n')
def gSm : AnsH := fun vals h s =>
  match vals, s with
  | [.agg cs, .agg ds, .int .i64 M], .inr (.inr (.inr (.inl d))) :: s' =>
    match cs.toList, ds.toList with
    | [.bool nx, .int .i64 Ex, .slice (some ⟨b, o, none⟩) n c], [.bool ny, .int .i64 Ey, .slice (some ⟨b', o', none⟩) n' c'] =>
      match d with
      | true => some (vRN (sgS M nx ny (smH h nx ny Ex Ey b o n b' o' n')) (lowS Ex Ey n n') (sOf h.n (smH h nx ny Ex Ey b o n b' o' n').natAbs), h.push (wU (d16 (smH h nx ny Ex Ey b o n b' o' n').natAbs)) tU, s', [(decide (smH h nx ny Ex Ey b o n b' o' n' ≠ 0), true), (okSm h (adSu b o) (adSu b' o') n c n' c' Ex Ey, true)])
      | false => some (vRN (sgS M nx ny (smH h nx ny Ex Ey b o n b' o' n')) (lowS Ex Ey n n') nilS, h, s', [(decide (smH h nx ny Ex Ey b o n b' o' n' ≠ 0), false), (okSm h (adSu b o) (adSu b' o') n c n' c' Ex Ey, true)])
    | _, _ => none
  | _, _ => none
theorem gSm_ok : AnsHOk 53 gSm := by
  intro vals h s v h' s' lg hg hl m B w E0 hv
  unfold gSm at hg
  split at hg
  · rename_i cs ds M d s2
    split at hg
    · rename_i nx Ex b o n c ny Ey b' o' n' c' hcs hds
      have ecs : cs = #[.bool nx, .int .i64 Ex, sl b o n c] := by
        have := congrArg List.toArray hcs
        simpa [sl] using this
      have eds : ds = #[.bool ny, .int .i64 Ey, sl b' o' n' c'] := by
        have := congrArg List.toArray hds
        simpa [sl] using this
      have key : okSm h (adSu b o) (adSu b' o') n c n' c' Ex Ey = true →
          ∃ la lb, (∀ v ∈ la, still v = true) ∧ (∀ v ∈ lb, still v = true) ∧ (h2 la lb).fits (pair b b') h ∧ RunsW (tabH Tryz.prog extY conN hcW) (cBody Tryz.f53) ([vRN nx Ex (sl 0 o n c), vRN ny Ey (sl 1 o' n' c'), .int .i64 M] ++ List.replicate 123 undef, h2 la lb, []) fun ex z => (ex = none ∨ ex = some none) ∧ smOut Tryz.f53 (smH h nx ny Ex Ey b o n b' o' n') (sgS M nx ny (smH h nx ny Ex Ey b o n b' o' n')) (lowS Ex Ey n n') z := by
        intro l3
        simp only [okSm, Bool.and_eq_true, decide_eq_true_eq] at l3
        obtain ⟨⟨⟨⟨q1, q2⟩, q3⟩, ⟨⟨p1, p2⟩, p3⟩⟩, q4⟩ := l3
        have q2 := canB_of q2
        have q3 := blt_iff.1 q3
        have p2 := canB_of p2
        have p3 := blt_iff.1 p3
        rcases rowP_cases q1 with ⟨h0, _⟩ | ⟨b1, o1, x, hp, hx, r1, rs, e0⟩
        · cases h0
        · cases hp
          rcases rowP_cases p1 with ⟨h0, _⟩ | ⟨b2, o2, y, hp', hy, t1, ts, f0⟩
          · cases h0
          · cases hp'
            rw [e0] at q2
            rw [f0] at p2
            obtain ⟨h1, h2', h3, h4, h5, h6, h7⟩ := rowC_of r1
            obtain ⟨k1, k2, k3, k4, k5, k6, k7⟩ := rowC_of t1
            have ev : vO h (adSu b o) n = vb 65536 (cutI x.1 o n) := by unfold vO; rw [e0]
            have ev' : vO h (adSu b' o') n' = vb 65536 (cutI y.1 o' n') := by unfold vO; rw [f0]
            have r := sum_runs (rowB_of 0 r1 rs) (rowB_of 1 t1 ts) q2 p2 (by rw [h2']; exact q3) (by rw [k2]; exact p3) (nx := nx) (ny := ny) q4.1 q4.2 M
            rw [h2', k2, ← ev, ← ev'] at r
            exact ⟨x.1, y.1, h7, k7, fitsR2 hx h5 h6 hy k5 k6, r⟩
      have evals : List.map (rn (pair b b')) [vRN nx Ex (sl 0 o n c), vRN ny Ey (sl 1 o' n' c'), .int .i64 M] = [.agg cs, .agg ds, .int .i64 M] := by
        rw [ecs, eds]
        simp [rn, rn2, rn1, vRN, sl, pair]
      split at hg
      · cases hg
        have l1 := hl _ (List.mem_cons_self)
        have l2 := hl _ (List.mem_cons_of_mem _ (List.mem_singleton.2 rfl))
        simp only [decide_eq_true_eq] at l1
        obtain ⟨la, lb, p0, p1, p2, p3⟩ := key l2
        have fin := row_calls2 (T := tabH Tryz.prog extY conN hcW) Tryz.func53 sum_body (rows2 p0 p1) (vals := [vRN nx Ex (sl 0 o n c), vRN ny Ey (sl 1 o' n' c'), .int .i64 M]) (fun v hv => by
          simp only [List.mem_cons, List.not_mem_nil, or_false] at hv
          rcases hv with h1 | h1 | h1 <;> rw [h1] <;> rfl) (v := fun k => vRN (sgS M nx ny (smH h nx ny Ex Ey b o n b' o' n')) (lowS Ex Ey n n') (sOf k (smH h nx ny Ex Ey b o n b' o' n').natAbs)) (wU_lt _) (by kernel_rfl) (p3.mono fun ex z hz => ⟨hz.1, hz.2.1 l1⟩) (fun k => by simp [oc, oc2, oc1, sOf, sl, vRN]) E0 p2 (fun k => by simp [rn, rn2, rn1, sOf, sl, vRN])
        rw [evals] at fin
        exact fin
      · cases hg
        have l1 := hl _ (List.mem_cons_self)
        have l2 := hl _ (List.mem_cons_of_mem _ (List.mem_singleton.2 rfl))
        simp only [decide_eq_false_iff_not, ne_eq, Decidable.not_not] at l1
        obtain ⟨la, lb, p0, p1, p2, p3⟩ := key l2
        have fin := row_calls0 (T := tabH Tryz.prog extY conN hcW) Tryz.func53 sum_body (rows2 p0 p1) (vals := [vRN nx Ex (sl 0 o n c), vRN ny Ey (sl 1 o' n' c'), .int .i64 M]) (fun v hv => by
          simp only [List.mem_cons, List.not_mem_nil, or_false] at hv
          rcases hv with h1 | h1 | h1 <;> rw [h1] <;> rfl) (v := vRN (sgS M nx ny (smH h nx ny Ex Ey b o n b' o' n')) (lowS Ex Ey n n') nilS) (by rfl) (p3.mono fun ex z hz => ⟨hz.1, hz.2.2 l1⟩) E0 p2
        rw [evals] at fin
        exact fin
    · cases hg
  · cases hg
end Go.Proofs.YtjkgnbdeklploaaGreatDoor
namespace Go.Proofs.YtjkgnbdeklploaaGreatDoor
open Go.KRun Go.Nt Go.Wd Go.Rn Go.Pt
set_option maxRecDepth 100000
set_option linter.unusedVariables false
def hcPt : Hc := altH 61 gUof hcN
theorem hcPt_ok : HcOk hcPt := altH_ok Tryz.func61 rfl gUof_ok hcN_ok
def conPt : Con := alt 76 (gU vT) conN
theorem conPt_ok : ConOk conPt := alt_ok Tryz.func76 rfl ref_ok conN_ok
theorem pt_body : Tryz.f54.body = some (cBody Tryz.f54) := by kernel_rfl
theorem pt_go (p : Int) : GoesT (evC (tabH Tryz.prog extY conPt hcPt) 200 false (cBody Tryz.f54) ([.int .u64 p] ++ List.replicate 13 undef, ⟨0, []⟩, []) ⟨[], [], []⟩) 3 11 (some none) [.int .u64 p, undef, .pointer (some ⟨0, 0, none⟩)] ⟨3, [(wU (d16 (sg p).toNat), tU), ([.bool (sgn p), .int .i64 (cl p), .int .i64 (xp p), .int .u64 (sg p)], 132), bOf (sgn p) (xp p) (sOf 2 (sg p).toNat)]⟩ [(decide (0 ≤ sg p ∧ sg p < 18446744073709551616), true), (decide (U p), true)] := ⟨by kernel_rfl, by kernel_rfl, by kernel_rfl⟩
def gPt : AnsH := fun vals h s =>
  match vals with
  | [.int .u64 p] => some (vRN (sgn p) (xp p) (sOf h.n (sg p).toNat), h.push (wU (d16 (sg p).toNat)) tU, s, [(decide (U p), true)])
  | _ => none
theorem gPt_ok : AnsHOk 54 gPt := by
  intro vals h s v h' s' lg hg hl m B w E hv
  unfold gPt at hg
  split at hg
  · rename_i p
    cases hg
    have q := hl _ (List.mem_singleton.2 rfl)
    have hs := sg_lt p
    have hr : RunsW (tabH Tryz.prog extY conPt hcPt) (cBody Tryz.f54) ([.int .u64 p] ++ List.replicate 13 undef, ⟨0, []⟩, []) fun e z => (e = none ∨ e = some none) ∧ ∃ k, resS Tryz.prog Tryz.f54 z.1 z.2.1 = some (vRN (sgn p) (xp p) (sOf k (sg p).toNat)) ∧ ∃ r, z.2.1.blk? k = some (wU (d16 (sg p).toNat) ++ r, tU) := by
      refine (goesT_runsW (tabH_ok conPt_ok hcPt_ok) (pt_go p) (okCons (decide_eq_true ⟨hs.1, by omega⟩) (okL1 q))).mono fun e z he => ?_
      obtain ⟨rfl, ⟨g, e1⟩, e2⟩ := he
      exact ⟨.inr rfl, 2, by rw [e1, e2]; rfl, [], by rw [e2, List.append_nil]; rfl⟩
    have := row_calls2 (T := tabH Tryz.prog extY conPt hcPt) Tryz.func54 pt_body (h0 := ⟨0, []⟩) ⟨rfl, fun b x hx => by have : b < 0 := Hp.blk_lt hx; omega⟩ (vals := [.int .u64 p]) (fun v hv => by rw [List.mem_singleton.1 hv]; rfl) (v := fun k => vRN (sgn p) (xp p) (sOf k (sg p).toNat)) (wU_lt _) (by kernel_rfl) hr (fun k => by simp [oc, oc2, oc1, sOf, sl, vRN]) E (s := fun i => i) (fun i x hx _ => by have : i < 0 := Hp.blk_lt hx; omega) (fun k => by simp [rn, rn2, rn1, sOf, sl, vRN])
    exact this
  · cases hg
def hcS : Hc := altH 53 gSm (altH 54 gPt (altH 52 gRr hcN))
theorem hcS_ok : HcOk hcS := altH_ok Tryz.func53 rfl gSm_ok (altH_ok Tryz.func54 rfl gPt_ok (altH_ok Tryz.func52 rfl gRr_ok hcN_ok))
/-! ### Round of nothing -/
def r0V (neg : Bool) : Value := .tuple #[.int .u64 (sS neg 0), .int .i64 0]
theorem r0a (neg : Bool) (E M : Int) : Fits (reckon (tabOf Tryz.prog extY conN true) 200 52 [vRN neg E nilS, .int .i64 M] [cmp true, cmp true]) (r0V neg) [(((0 : Nat) : Int) == 0, true), (decide (M < 0), true)] := by
  cases neg <;> exact ⟨by kernel_rfl, by kernel_rfl, by kernel_rfl, by kernel_rfl⟩
theorem r0b (neg : Bool) (E M : Int) : Fits (reckon (tabOf Tryz.prog extY conN true) 200 52 [vRN neg E nilS, .int .i64 M] [cmp false, cmp true, cmp true]) (r0V neg) [(((0 : Nat) : Int) == 0, true), (decide (M > 4), true), (decide (M < 0), false)] := by
  cases neg <;> exact ⟨by kernel_rfl, by kernel_rfl, by kernel_rfl, by kernel_rfl⟩
theorem r0c (neg : Bool) (E M : Int) : Fits (reckon (tabOf Tryz.prog extY conN true) 200 52 [vRN neg E nilS, .int .i64 M] [cmp false, cmp false, cmp true]) (r0V neg) [(((0 : Nat) : Int) == 0, true), (decide (M > 4), false), (decide (M < 0), false)] := by
  cases neg <;> exact ⟨by kernel_rfl, by kernel_rfl, by kernel_rfl, by kernel_rfl⟩
def gR0 : Ans := fun vals s =>
  match vals with
  | [.agg cs, .int .i64 M] =>
    match cs.toList with
    | [.bool neg, .int .i64 E, .slice none 0 0] => some (r0V neg, s, [])
    | _ => none
  | _ => none
theorem gR0_ok : AnsOk 52 gR0 := by
  intro vals s v s' lg h hl w
  unfold gR0 at h
  split at h
  · rename_i cs M
    split at h
    · rename_i neg E hcs
      have ecs : cs = #[.bool neg, .int .i64 E, nilS] := by
        have := congrArg List.toArray hcs
        simpa [nilS] using this
      cases h
      rw [ecs]
      by_cases h0 : M < 0
      · exact fits_calls (tabY_ok conN_ok) (r0a neg E M) (okCons rfl (okL1 (decide_eq_true h0))) (by rfl) (by rfl) w
      · by_cases h4 : M > 4
        · exact fits_calls (tabY_ok conN_ok) (r0b neg E M) (okCons rfl (okCons (decide_eq_true h4) (okL1 (decide_eq_false h0)))) (by rfl) (by rfl) w
        · exact fits_calls (tabY_ok conN_ok) (r0c neg E M) (okCons rfl (okCons (decide_eq_false h4) (okL1 (decide_eq_false h0)))) (by rfl) (by rfl) w
    · cases h
  · cases h
def raT (p f : Int) : Value := .tuple #[.int .u64 p, .int .i64 f]
/-! ### Abs -/
theorem rabs_fits (p : Int) : Fits (reckon (tabOf Tryz.prog extY conN true) 200 51 [.int .u64 p] [cmp true]) (.int .u64 (p.tmod 9223372036854775808)) [(decide ((9223372036854775808 : Int) = 0), false)] := ⟨by kernel_rfl, by kernel_rfl, by kernel_rfl, by kernel_rfl⟩
theorem rabs_ok : AnsOk 51 (gU fun p => .int .u64 (mag p)) := gU_ok fun p hp w => by
  have e : p.tmod 9223372036854775808 = mag p := by
    unfold mag
    exact Int.tmod_eq_emod_of_nonneg hp.1
  have := rabs_fits p
  rw [e] at this
  exact fits_calls (tabY_ok conN_ok) this (okL1 rfl) (by rfl) (by rfl) w
def conRA : Con := alt 52 gR0 (alt 51 (gU fun p => .int .u64 (mag p)) conPt)
theorem conRA_ok : ConOk conRA := alt_ok Tryz.func52 rfl gR0_ok (alt_ok Tryz.func51 rfl rabs_ok conPt_ok)
end Go.Proofs.YtjkgnbdeklploaaGreatDoor
namespace Go.Nt
theorem vb_set {b : Nat} : ∀ {L : List Int} {j : Nat}, j < L.length → ∀ v : Int, vb b (L.set j v) + b ^ j * (L.getD j 0).toNat = vb b L + b ^ j * v.toNat
  | [], _, h, _ => by simp at h
  | x :: L, 0, _, v => by simp [vb]; omega
  | x :: L, j + 1, h, v => by
    have ih := vb_set (b := b) (L := L) (j := j) (by simpa using h) v
    have e : (x :: L).getD (j + 1) 0 = L.getD j 0 := by simp [List.getD]
    simp only [List.set, vb, e]
    have h2 := congrArg (fun t => b * t) ih
    simp only [Nat.mul_add] at h2
    rw [Nat.pow_succ, Nat.mul_comm (b ^ j) b, Nat.mul_assoc, Nat.mul_assoc]
    omega
theorem set_dg {L : List Int} (h : ∀ x ∈ L, Dg 65536 x) {v : Int} (hv : Dg 65536 v) (j : Nat) : ∀ x ∈ L.set j v, Dg 65536 x := fun x hx => by
  rcases List.mem_or_eq_of_mem_set hx with hx | rfl
  · exact h x hx
  · exact hv
/-- one step: what is carried, a digit and a product -/
theorem mul_step {L : List Int} {j : Nat} (hj : j < L.length) (hL : ∀ x ∈ L, Dg 65536 x) {c p q : Nat} (hc : c < 65536) (hp : p < 65536) (hq : q < 65536) :
    let t := c + (L.getD j 0).toNat + p * q
    vb 65536 (L.set j ((t % 65536 : Nat) : Int)) + t / 65536 * 65536 ^ (j + 1) = vb 65536 L + c * 65536 ^ j + p * q * 65536 ^ j ∧ t / 65536 < 65536 ∧ (∀ x ∈ L.set j ((t % 65536 : Nat) : Int), Dg 65536 x) := by
  intro t
  have hd : (L.getD j 0).toNat < 65536 := dg_lt hL j
  have hpq : p * q ≤ 65535 * 65535 := Nat.mul_le_mul (by omega) (by omega)
  have ht : t = c + (L.getD j 0).toNat + p * q := rfl
  refine ⟨?_, by omega, set_dg hL ⟨by omega, by omega⟩ j⟩
  have h1 := vb_set (b := 65536) hj ((t % 65536 : Nat) : Int)
  rw [Int.toNat_natCast] at h1
  have h2 := Nat.div_add_mod t 65536
  have h3 : 65536 ^ j * t = 65536 ^ j * (65536 * (t / 65536)) + 65536 ^ j * (t % 65536) := by rw [← Nat.mul_add, h2]
  have h4 : 65536 ^ j * t = 65536 ^ j * c + 65536 ^ j * (L.getD j 0).toNat + 65536 ^ j * (p * q) := by rw [ht, Nat.mul_add, Nat.mul_add]
  have h5 : t / 65536 * 65536 ^ (j + 1) = 65536 ^ j * (65536 * (t / 65536)) := by rw [Nat.pow_succ, Nat.mul_comm, Nat.mul_assoc]
  rw [h5, Nat.mul_comm c, Nat.mul_comm (p * q)]
  omega
end Go.Nt
namespace Go.Proofs.YtjkgnbdeklploaaGreatDoor
open Go.KRun Go.Nt
set_option maxRecDepth 100000
set_option linter.unusedVariables false
def muB (F : Func) : Code := cFst (cSnd (cSnd (cBody F)))
def muO (F : Func) : Code := cIn (cIn (cSnd (muB F)))
def muI (F : Func) : Code := cIn (cFst (cSnd (muO F)))
def muL (F : Func) : Code := cIn (cIn (cSnd (cFst (cSnd (muI F)))))
def muPr (F : Func) : List Code := [cFst (cBody F), cFst (cSnd (cBody F))]
def muE (F : Func) : Code := cSnd (cSnd (cSnd (cBody F)))
theorem umul_body : Tryz.f59.body = some (seqs (muPr Tryz.f59) (.seq (.seq (cFst (muB Tryz.f59)) (.block 0 (.loop (muO Tryz.f59)))) (muE Tryz.f59))) := by kernel_rfl
theorem umul_out : muO Tryz.f59 = .seq (cFst (muO Tryz.f59)) (.seq (.block 1 (muI Tryz.f59)) (cSnd (cSnd (muO Tryz.f59)))) := by kernel_rfl
theorem umul_row : muI Tryz.f59 = .seq (cFst (muI Tryz.f59)) (.seq (.seq (cFst (cFst (cSnd (muI Tryz.f59)))) (.block 2 (.loop (muL Tryz.f59)))) (cSnd (cSnd (muI Tryz.f59)))) := by kernel_rfl
def mFr (o n c o' n' c' z : Nat) (i v7 v8 : Value) : List Value := [sl 0 o n c, sl 1 o' n' c', undef, undef, nilS, sl 2 0 z z, i, v7, v8]
def hM3 (lo lb la : List Value) : Hp := ⟨3, [(lo, tU), (lb, tR), (la, tR)]⟩
def zM (n n' : Nat) : Int := IntKind.i64.wrap ((n : Int) + n')
def inM (j : Int) (n : Nat) : Bool × Bool := (decide (0 ≤ j ∧ j < (n : Int)), true)
def ceM (l : List Value) (o : Nat) (j x : Int) : Bool × Bool := (cellIs (l[o + j.toNat * 1]?) (.int .u32 x), true)
def stM (l : List Value) (j : Int) : Bool × Bool := (decide (0 + j.toNat * 1 < l.length), true)
def d65 : Bool × Bool := (decide ((65536 : Int) = 0), false)
def tM (c7 d p q : Int) : Int := IntKind.u64.wrap (IntKind.u64.wrap (c7 + IntKind.u64.wrap d) + IntKind.u64.wrap (IntKind.u64.wrap p * IntKind.u64.wrap q))
def ijM (i k : Int) : Int := IntKind.i64.wrap (i + k)
theorem mu_pre (o n c o' n' c' : Nat) (la lb : List Value) : GoesT (evL (tabH Tryz.prog extY conN hcV) 200 (muPr Tryz.f59) ([sl 0 o n c, sl 1 o' n' c'] ++ List.replicate 66 undef, h2 la lb, [at_]) ⟨[], [], []⟩) 6 62 none [sl 0 o n c, sl 1 o' n' c', undef, undef, nilS, sl 2 0 (zM n n').toNat (zM n n').toNat] (hM3 (List.replicate (zM n n').toNat (.int .u32 0)) lb la) [(okMakeB 4 (zM n n') (zM n n'), true)] := ⟨by kernel_rfl, by kernel_rfl, by kernel_rfl⟩
theorem mu_r2 (v0 v1 v5 : Value) (h : Hp) (g : Nat → Value) : GoesT (evC (tabH Tryz.prog extY conN hcV) 200 false (cFst (muB Tryz.f59)) ([v0, v1, undef, undef, nilS, v5] ++ tl 62 g, h, []) ⟨[], [], []⟩) 9 59 none [v0, v1, undef, undef, nilS, v5, .int .i64 0, g 1, g 2] h [] := ⟨by kernel_rfl, by kernel_rfl, by kernel_rfl⟩
theorem mu_h1 (o n c o' n' c' z : Nat) (i c7 k d p q : Int) (v7 v8 : Value) (lo lb la : List Value) (g : Nat → Value) : GoesT (evC (tabH Tryz.prog extY conN hcV) 200 false (cFst (muO Tryz.f59)) (mFr o n c o' n' c' z (.int .i64 i) v7 v8 ++ tl 59 g, hM3 lo lb la, [cmp true]) ⟨[], [], []⟩) 9 59 none (mFr o n c o' n' c' z (.int .i64 i) v7 v8) (hM3 lo lb la) [(decide (i < (n : Int)), true)] := ⟨by kernel_rfl, by kernel_rfl, by kernel_rfl⟩
theorem mu_h0 (o n c o' n' c' z : Nat) (i c7 k d p q : Int) (v7 v8 : Value) (lo lb la : List Value) (g : Nat → Value) : GoesT (evC (tabH Tryz.prog extY conN hcV) 200 false (cFst (muO Tryz.f59)) (mFr o n c o' n' c' z (.int .i64 i) v7 v8 ++ tl 59 g, hM3 lo lb la, [cmp false]) ⟨[], [], []⟩) 9 59 (some (some 0)) (mFr o n c o' n' c' z (.int .i64 i) v7 v8) (hM3 lo lb la) [(decide (i < (n : Int)), false)] := ⟨by kernel_rfl, by kernel_rfl, by kernel_rfl⟩
theorem mu_r5 (o n c o' n' c' z : Nat) (i c7 k d p q : Int) (v7 v8 : Value) (lo lb la : List Value) (g : Nat → Value) : GoesT (evC (tabH Tryz.prog extY conN hcV) 200 false (cFst (muI Tryz.f59)) (mFr o n c o' n' c' z (.int .i64 i) v7 v8 ++ tl 59 g, hM3 lo lb la, []) ⟨[], [], []⟩) 9 59 none (mFr o n c o' n' c' z (.int .i64 i) (.int .u64 0) v8) (hM3 lo lb la) [] := ⟨by kernel_rfl, by kernel_rfl, by kernel_rfl⟩
theorem mu_r6 (o n c o' n' c' z : Nat) (i c7 k d p q : Int) (v7 v8 : Value) (lo lb la : List Value) (g : Nat → Value) : GoesT (evC (tabH Tryz.prog extY conN hcV) 200 false (cFst (cFst (cSnd (muI Tryz.f59)))) (mFr o n c o' n' c' z (.int .i64 i) v7 v8 ++ tl 59 g, hM3 lo lb la, []) ⟨[], [], []⟩) 9 59 none (mFr o n c o' n' c' z (.int .i64 i) v7 (.int .i64 0)) (hM3 lo lb la) [] := ⟨by kernel_rfl, by kernel_rfl, by kernel_rfl⟩
theorem mu_in (o n c o' n' c' z : Nat) (i c7 k d p q : Int) (v7 v8 : Value) (lo lb la : List Value) (g : Nat → Value) : GoesT (evC (tabH Tryz.prog extY conN hcV) 200 false (muL Tryz.f59) (mFr o n c o' n' c' z (.int .i64 i) (.int .u64 c7) (.int .i64 k) ++ tl 59 g, hM3 lo lb la, [cmp true, at_, val (.int .u32 d), at_, val (.int .u32 p), at_, val (.int .u32 q), cmp true, at_, at_]) ⟨[], [], []⟩) 9 59 none (mFr o n c o' n' c' z (.int .i64 i) (.int .u64 (IntKind.u64.wrap ((tM c7 d p q).tdiv 65536))) (.int .i64 (IntKind.i64.wrap (k + 1)))) (hM3 (lo.set (0 + (ijM i k).toNat * 1) (.int .u32 (IntKind.u32.wrap ((tM c7 d p q).tmod 65536)))) lb la) [stM lo (ijM i k), inM (ijM i k) z, d65, ceM lb o' k q, inM k n', ceM la o i p, inM i n, ceM lo 0 (ijM i k) d, inM (ijM i k) z, (decide (k < (n' : Int)), true)] := ⟨by kernel_rfl, by kernel_rfl, by kernel_rfl⟩
theorem mu_out (o n c o' n' c' z : Nat) (i c7 k d p q : Int) (v7 v8 : Value) (lo lb la : List Value) (g : Nat → Value) : GoesT (evC (tabH Tryz.prog extY conN hcV) 200 false (muL Tryz.f59) (mFr o n c o' n' c' z (.int .i64 i) (.int .u64 c7) (.int .i64 k) ++ tl 59 g, hM3 lo lb la, [cmp false]) ⟨[], [], []⟩) 9 59 (some (some 2)) (mFr o n c o' n' c' z (.int .i64 i) (.int .u64 c7) (.int .i64 k)) (hM3 lo lb la) [(decide (k < (n' : Int)), false)] := ⟨by kernel_rfl, by kernel_rfl, by kernel_rfl⟩
theorem mu_r12 (o n c o' n' c' z : Nat) (i c7 k d p q : Int) (v7 v8 : Value) (lo lb la : List Value) (g : Nat → Value) : GoesT (evC (tabH Tryz.prog extY conN hcV) 200 false (cSnd (cSnd (muI Tryz.f59))) (mFr o n c o' n' c' z (.int .i64 i) (.int .u64 c7) v8 ++ tl 59 g, hM3 lo lb la, [at_, at_]) ⟨[], [], []⟩) 9 59 none (mFr o n c o' n' c' z (.int .i64 i) (.int .u64 c7) v8) (hM3 (lo.set (0 + (ijM i n').toNat * 1) (.int .u32 (IntKind.u32.wrap c7))) lb la) [stM lo (ijM i n'), inM (ijM i n') z] := ⟨by kernel_rfl, by kernel_rfl, by kernel_rfl⟩
theorem mu_r4 (o n c o' n' c' z : Nat) (i c7 k d p q : Int) (v7 v8 : Value) (lo lb la : List Value) (g : Nat → Value) : GoesT (evC (tabH Tryz.prog extY conN hcV) 200 false (cSnd (cSnd (muO Tryz.f59))) (mFr o n c o' n' c' z (.int .i64 i) v7 v8 ++ tl 59 g, hM3 lo lb la, []) ⟨[], [], []⟩) 9 59 none (mFr o n c o' n' c' z (.int .i64 (IntKind.i64.wrap (i + 1))) v7 v8) (hM3 lo lb la) [] := ⟨by kernel_rfl, by kernel_rfl, by kernel_rfl⟩
theorem mu_end (o n c o' n' c' z : Nat) (i c7 k d p q : Int) (v7 v8 : Value) (lo lb la : List Value) (g : Nat → Value) : GoesT (evC (tabH Tryz.prog extY conN hcV) 200 false (muE Tryz.f59) (mFr o n c o' n' c' z (.int .i64 i) v7 v8 ++ tl 59 g, hM3 lo lb la, []) ⟨[], [], []⟩) 5 63 (some none) [sl 0 o n c, sl 1 o' n' c', undef, undef, sl 2 0 (trimN (cutI lo 0 z)) (trimN (cutI lo 0 z))] (hM3 lo lb la) [(rowC tU lo 0 z z, true)] := ⟨by kernel_rfl, by kernel_rfl, by kernel_rfl⟩
end Go.Proofs.YtjkgnbdeklploaaGreatDoor
