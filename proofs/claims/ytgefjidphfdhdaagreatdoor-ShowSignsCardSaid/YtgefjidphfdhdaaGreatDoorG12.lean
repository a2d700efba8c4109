/-
  ConO8, NumQt, ConO9, ConOA, ConOB, SlK, PwD, PwE
-/
import Derived.Test.YtgefjidphfdhdaaGreatDoorG11
namespace Go.Proofs.YtgefjidphfdhdaaGreatDoor.Na
open Go.KRun Go.Nt
set_option maxRecDepth 100000
set_option linter.unusedVariables false
def hcD : Hc := altH 189 gTd5 (altH 130 gMup4 (altH 190 gMd5 (altH 132 gBoth (altH 187 gCmp (altH 131 gTrim hcN)))))
theorem hcD_ok : HcOk hcD := altH_ok Tryz.func189 rfl gTd5_ok (altH_ok Tryz.func130 rfl gMup4_ok (altH_ok Tryz.func190 rfl gMd5_ok (altH_ok Tryz.func132 rfl gBoth_ok (altH_ok Tryz.func187 rfl gCmp_ok (altH_ok Tryz.func131 rfl gTrim_ok hcN_ok)))))
def dmP (F : Func) : List Code := [cFst (sn 0 F), cFst (sn 1 F), cFst (sn 2 F), cFst (sn 3 F), cFst (sn 4 F), cFst (sn 5 F), cFst (sn 6 F), cFst (sn 7 F), cFst (sn 8 F), cFst (sn 9 F), cFst (sn 10 F), cFst (sn 11 F)]
def dmL (F : Func) : Code := cIn (cIn (cSnd (cFst (sn 12 F))))
theorem dm_body : Tryz.f152.body = some (seqs (dmP Tryz.f152) (.seq (.seq (cFst (cFst (sn 12 Tryz.f152))) (.block 0 (.loop (dmL Tryz.f152)))) (sn 13 Tryz.f152))) := by kernel_rfl
theorem dm_cbody : Tryz.f152.body = some (cBody Tryz.f152) := by kernel_rfl
def dmU (x : Int) : Int := IntKind.i64.wrap (32 - ((Go.bitLen x.toNat : Nat) : Int))
def dmQ (n n' : Nat) : Int := IntKind.i64.wrap (IntKind.i64.wrap ((n : Int) - (n' : Int)) + 1)
def dmF (o n c o' n' c' zr zb zq : Nat) (u : Int) : List Value := [sl 0 o n c, sl 1 o' n' c', undef, undef, nilS, nilS, .nilIface, .nilIface, sl 2 0 zr zr, i6' u, sl 3 0 zb zb, sl 4 0 zq zq]
def dmY (lb : List Value) (o' n' : Nat) (x : Int) : List Value := upT (cpS lb o' n') 0 ((n' : Int)).toNat (dmU x)
def dmR (la : List Value) (o n : Nat) (x : Int) : List Value := upT (cpy la o n) 0 (nP n).toNat (dmU x)
theorem dm_pre (o n c o' n' c' : Nat) (x : Int) (la lb : List Value) : GoesT (evL (tabH Tryz.prog extY conL hcD) 300 (dmP Tryz.f152) ([sl 0 o n c, sl 1 o' n' c'] ++ List.replicate 87 undef, h2 la lb, [cmp false, cmp false, at_, at_, cmp false, at_, val (uu x), at_, at_, at_]) ⟨[], [], []⟩) 12 77 none (dmF o n c o' n' c' (nP n).toNat ((n' : Int)).toNat (dmQ n n').toNat (dmU x)) (h5 la lb (dmR la o n x) (dmY lb o' n' x) (List.replicate (dmQ n n').toNat (uu 0)))
    [(okMakeB 4 (dmQ n n') (dmQ n n'), true), (okMv (dmY lb o' n' x) la lb (cpy la o n) tR tR tU tU 0 (nP n).toNat (nP n).toNat (dmU x), true), (okMv (cpy la o n) la lb (cpS lb o' n') tR tR tU tU 0 ((n' : Int)).toNat ((n' : Int)).toNat (dmU x), true), (csOk lb o' n', true), (okMakeB 4 n' n', true), (decide (0 ≤ x ∧ x < 4294967296), true), celR lb o' (n1 n') x, inR (n1 n') n',
      (decide (cmpL (cutI la o n) (cutI lb o' n') < 0), false), (rowOk tR la o n c, true), (rowOk tR lb o' n' c', true), (cpOk la o n, true), (okMakeB 4 (nP n) (nP n), true), ((n' : Int) == 0, false), (rowOk tR la o n c, true), (rowOk tR lb o' n' c', true), (badL (cutI la o n) || badL (cutI lb o' n'), false)] := ⟨by kernel_rfl, by kernel_rfl, by kernel_rfl⟩
def dmG (o n c o' n' c' zr zb zq : Nat) (u i : Int) : List Value := [sl 0 o n c, sl 1 o' n' c', undef, undef, nilS, nilS, .nilIface, .nilIface, sl 2 0 zr zr, i6' u, sl 3 0 zb zb, sl 4 0 zq zq, i6' i]
theorem dm_r (o n c o' n' c' zr zb zq : Nat) (u : Int) (h : Hp) (g : Nat → Value) : GoesT (evC (tabH Tryz.prog extY conL hcD) 300 false (cFst (cFst (sn 12 Tryz.f152))) (dmF o n c o' n' c' zr zb zq u ++ tl 77 g, h, []) ⟨[], [], []⟩) 13 76 none (dmG o n c o' n' c' zr zb zq u (n1 zq)) h [] := ⟨by kernel_rfl, by kernel_rfl, by kernel_rfl⟩
theorem dm_out (o n c o' n' c' zr zb zq : Nat) (u i : Int) (h : Hp) (g : Nat → Value) : GoesT (evC (tabH Tryz.prog extY conL hcD) 300 false (dmL Tryz.f152) (dmG o n c o' n' c' zr zb zq u i ++ tl 76 g, h, [cmp false]) ⟨[], [], []⟩) 13 76 (some (some 0)) (dmG o n c o' n' c' zr zb zq u i) h [(decide (i ≥ 0), false)] := ⟨by kernel_rfl, by kernel_rfl, by kernel_rfl⟩
def dmH (i : Int) (zb : Nat) : Int := IntKind.i64.wrap (IntKind.i64.wrap (i + (zb : Int)) + 1)
def dmN (i : Int) (zb : Nat) : Nat := (dmH i zb).toNat - i.toNat
theorem dm_go (o n c o' n' c' zr zb zq : Nat) (u i : Int) (la lb R Y Q : List Value) (g : Nat → Value) : GoesT (evC (tabH Tryz.prog extY conL hcD) 300 false (dmL Tryz.f152) (dmG o n c o' n' c' zr zb zq u i ++ tl 76 g, h5 la lb R Y Q, [cmp true, num 0, at_, at_]) ⟨[], [], []⟩) 13 76 none (dmG o n c o' n' c' zr zb zq u (IntKind.i64.wrap (i - 1)))
    (h5 la lb (tmS R (pJ i) (dmN i zb) (dg (dmN i zb) (vN (cutI R (pJ i) (dmN i zb)) % vN (cutI Y 0 zb)))) Y (Q.set (pJ i) (uu (vN (cutI R (pJ i) (dmN i zb)) / vN (cutI Y 0 zb)))))
    [(decide (pJ i < Q.length), true), inR i zq, (okTo la lb R Y Q tR tR tU tU tU (pJ i) (dmN i zb) (zr - i.toNat) zb zb && decide (0 < zb ∧ 0 < (cutI Y 0 zb).getD (zb - 1) 0 ∧ vN (cutI R (pJ i) (dmN i zb)) < 4294967296 * vN (cutI Y 0 zb)), true), (smallC zr, true), (okPart i (dmH i zb) zr zr, true), (decide ((zr : Int) = i ∧ i ≠ 0), false), (decide (i ≥ 0), true)] := ⟨by kernel_rfl, by kernel_rfl, by kernel_rfl⟩
def dmD (R : List Value) (zr : Nat) (u : Int) : List Value := tmS R 0 zr (dg zr (vN (cutI R 0 zr) / 2 ^ u.toNat))
theorem dm_end (o n c o' n' c' zr zb zq : Nat) (u i : Int) (la lb R Y Q : List Value) (g : Nat → Value) : GoesT (evC (tabH Tryz.prog extY conL hcD) 300 false (sn 13 Tryz.f152) (dmG o n c o' n' c' zr zb zq u i ++ tl 76 g, h5 la lb R Y Q, []) ⟨[], [], []⟩) 7 82 (some none) [sl 0 o n c, sl 1 o' n' c', undef, undef, sl 4 0 (trimN (cutI Q 0 zq)) zq, sl 2 0 (trimN (cutI (dmD R zr u) 0 zr)) zr, .nilIface] (h5 la lb (dmD R zr u) Y Q)
    [(rowOk tU (dmD R zr u) 0 zr zr, true), (rowOk tU Q 0 zq zq, true), (okMd la lb R Y Q tR tR tU tU tU 0 zr zr u, true)] := ⟨by kernel_rfl, by kernel_rfl, by kernel_rfl⟩
end Go.Proofs.YtgefjidphfdhdaaGreatDoor.Na
namespace Go.Nt
theorem dg_add : ∀ (a b : Nat) (V : Int), dg (a + b) V = dg a V ++ dg b (V / 4294967296 ^ a)
  | 0, b, V => by simp [dg]
  | a + 1, b, V => by
    rw [show a + 1 + b = (a + b) + 1 by omega]
    simp only [dg]
    rw [dg_add a b, pw, Int.ediv_ediv_of_nonneg (show (0 : Int) ≤ 4294967296 by omega)]
    rfl
theorem dg_parts (i m j : Nat) (W : Int) : dg (i + (m + j)) W = dg i W ++ (dg m (W / 4294967296 ^ i) ++ dg j (W / 4294967296 ^ i / 4294967296 ^ m)) := by
  rw [dg_add, dg_add]
/-- what a round leaves -/
def qtW (W X : Int) (i : Nat) : Int := W % 4294967296 ^ i + 4294967296 ^ i * X
theorem qtW_div (W X : Int) (i : Nat) : qtW W X i / 4294967296 ^ i = X := by
  have hp := pw_pos i
  unfold qtW
  rw [Int.add_mul_ediv_left _ _ (by omega), Int.ediv_eq_zero_of_lt (Int.emod_nonneg _ (by omega)) (Int.emod_lt_of_pos _ hp), Int.zero_add]
theorem qtW_low (W X : Int) (i : Nat) : dg i (qtW W X i) = dg i W := by
  have h := Int.emod_add_mul_ediv W (4294967296 ^ i)
  have e : qtW W X i = W + 4294967296 ^ i * (X - W / 4294967296 ^ i) := by
    unfold qtW
    rw [Int.mul_sub]
    omega
  rw [e, dg_mod]
theorem qt_words {i m j : Nat} {W X : Int} (hX : 0 ≤ X ∧ X < 4294967296 ^ m) : dg i W ++ (dg m X ++ dg j 0) = dg (i + (m + j)) (qtW W X i) := by
  rw [dg_parts, qtW_low, qtW_div, Int.ediv_eq_zero_of_lt hX.1 hX.2]
/-- a round: T the part, q the digit -/
theorem qt_round {W B W0 v : Int} {i n : Nat} (hB : 0 < B ∧ B < 4294967296 ^ n) (hW : 0 ≤ W ∧ W < B * 4294967296 ^ (i + 1)) (h : W0 = W + B * (4294967296 ^ (i + 1) * v)) :
    (0 ≤ W / 4294967296 ^ i ∧ W / 4294967296 ^ i < 4294967296 * B ∧ W / 4294967296 ^ i < 4294967296 ^ (n + 1)) ∧ (0 ≤ W / 4294967296 ^ i % B ∧ W / 4294967296 ^ i % B < 4294967296 ^ (n + 1)) ∧ (0 ≤ qtW W (W / 4294967296 ^ i % B) i ∧ qtW W (W / 4294967296 ^ i % B) i < B * 4294967296 ^ i) ∧ W0 = qtW W (W / 4294967296 ^ i % B) i + B * (4294967296 ^ i * (W / 4294967296 ^ i / B + 4294967296 * v)) := by
  have hp := pw_pos i
  have hn := pw_pos n
  have hd := Int.emod_add_mul_ediv W (4294967296 ^ i)
  have h1 := Int.emod_nonneg W (show (4294967296 : Int) ^ i ≠ 0 by omega)
  have h2 := Int.emod_lt_of_pos W hp
  have t0 : 0 ≤ W / 4294967296 ^ i := Int.ediv_nonneg hW.1 (by omega)
  have t1 : W / 4294967296 ^ i < 4294967296 * B := Int.ediv_lt_of_lt_mul hp (by
    have := hW.2
    rw [pw, ← Int.mul_assoc, Int.mul_comm B 4294967296] at this
    exact this)
  have t2 : W / 4294967296 ^ i < 4294967296 ^ (n + 1) := by rw [pw]; omega
  generalize hT : W / 4294967296 ^ i = T at *
  have x0 := Int.emod_nonneg T (show B ≠ 0 by omega)
  have x1 := Int.emod_lt_of_pos T hB.1
  have hx := Int.emod_add_mul_ediv T B
  generalize T % B = X at *
  generalize T / B = q at *
  have x2 : X < 4294967296 ^ (n + 1) := by rw [pw]; omega
  have y1 : 4294967296 ^ i * X ≤ 4294967296 ^ i * (B - 1) := Int.mul_le_mul_of_nonneg_left (by omega) (by omega)
  have y2 : 0 ≤ 4294967296 ^ i * X := Int.mul_nonneg (by omega) x0
  rw [Int.mul_sub, Int.mul_one, Int.mul_comm _ B] at y1
  refine ⟨⟨t0, t1, t2⟩, ⟨x0, x2⟩, ?_, ?_⟩
  · unfold qtW
    omega
  · unfold qtW
    have hT2 : 4294967296 ^ i * T = 4294967296 ^ i * X + 4294967296 ^ i * (B * q) := by rw [← Int.mul_add, hx]
    rw [h, pw, Int.mul_add (4294967296 ^ i) q, Int.mul_add B]
    have e1 : B * (4294967296 ^ i * q) = 4294967296 ^ i * (B * q) := by rw [← Int.mul_assoc, Int.mul_comm B, Int.mul_assoc]
    have e2 : 4294967296 ^ i * (4294967296 * v) = 4294967296 * 4294967296 ^ i * v := by rw [← Int.mul_assoc, Int.mul_comm _ (4294967296 : Int)]
    rw [e1, e2]
    omega
theorem qt_end {W B W0 v : Int} (hW : 0 ≤ W ∧ W < B) (h : W0 = W + B * v) : v = W0 / B ∧ W = W0 % B := by
  subst h
  rw [Int.add_mul_ediv_left _ _ (by omega), Int.ediv_eq_zero_of_lt hW.1 hW.2, Int.add_mul_emod_self_left, Int.emod_eq_of_lt hW.1 hW.2]
  omega
/-- the highest word is not 0 -/
theorem top_pos {V : Int} {n : Nat} (hn : 0 < n) (h0 : 4294967296 ^ (n - 1) ≤ V) (h1 : V < 4294967296 ^ n) : 0 < (dg n V).getD (n - 1) 0 := by
  have e : dg n V = dg (n - 1) V ++ dg 1 (V / 4294967296 ^ (n - 1)) := by
    rw [← dg_add]
    congr 1
    omega
  have hp := pw_pos (n - 1)
  have h2 : (1 : Int) ≤ V / 4294967296 ^ (n - 1) := (Int.le_ediv_iff_mul_le hp).2 (by omega)
  have h3 : V / 4294967296 ^ (n - 1) < 4294967296 := Int.ediv_lt_of_lt_mul hp (by
    rw [← pw, show n - 1 + 1 = n by omega]
    exact h1)
  have e2 : (dg (n - 1) V ++ dg 1 (V / 4294967296 ^ (n - 1)))[n - 1]? = some (V / 4294967296 ^ (n - 1) % 4294967296) := by
    rw [List.getElem?_append_right (by rw [dg_len]; omega), dg_len, Nat.sub_self]
    rfl
  rw [e, List.getD, e2]
  simp only [Option.getD_some]
  omega
/-- moved up till its highest bit is the word's highest -/
theorem up_fits {L : List Int} {n k : Nat} {x b : Int} (hL : wds L) (hl : L.length = n) (hn : 0 < n) (hx : L.getD (n - 1) 0 = x) (hb : x < b) (hbk : b * 2 ^ k ≤ 4294967296) : vN L * 2 ^ k < 4294967296 ^ n := by
  have eL : L = L.take (n - 1) ++ [x] := by
    have h2 := take_succ (L := L) (k := n - 1) (by omega)
    rw [← hx, ← h2, show n - 1 + 1 = L.length by omega, List.take_length]
  have vL : vN L = vN (L.take (n - 1)) + 4294967296 ^ (n - 1) * x := by
    have : vN L = vN (L.take (n - 1) ++ [x]) := by rw [← eL]
    rw [this, vN_snoc, List.length_take, Nat.min_eq_left (by omega)]
  have bL := vN_bd (L.take (n - 1)) (wds_take hL _)
  rw [List.length_take, Nat.min_eq_left (by omega)] at bL
  have hp := pw_pos (n - 1)
  have hk : (0 : Int) < 2 ^ k := Int.pow_pos (by omega)
  have h1 : 4294967296 ^ (n - 1) * (x + 1) ≤ 4294967296 ^ (n - 1) * b := Int.mul_le_mul_of_nonneg_left (by omega) (by omega)
  have h2 : vN L < 4294967296 ^ (n - 1) * b := by rw [Int.mul_add] at h1; omega
  have h3 := Int.mul_lt_mul_of_pos_right h2 hk
  have h4 : 4294967296 ^ (n - 1) * (b * 2 ^ k) ≤ 4294967296 ^ (n - 1) * 4294967296 := Int.mul_le_mul_of_nonneg_left hbk (by omega)
  have h5 : (4294967296 : Int) ^ n = 4294967296 ^ (n - 1) * 4294967296 := by
    have := pw (n - 1)
    rw [show n - 1 + 1 = n by omega] at this
    rw [this, Int.mul_comm]
  rw [h5]
  rw [Int.mul_assoc] at h3
  omega
end Go.Nt
namespace Go.Proofs.YtgefjidphfdhdaaGreatDoor.Na
open Go.KRun Go.Nt
set_option maxRecDepth 100000
set_option linter.unusedVariables false
theorem cut_row {l : List Value} {o : Nat} {L : List Int} (h : Row l o L) : cutI l o L.length = L := by
  unfold cutI
  rw [h.cut]
  unfold wU
  rw [List.map_map]
  exact (List.map_congr_left fun x _ => rfl).trans (List.map_id' _)
theorem cut_all (L : List Int) {z : Nat} (hl : L.length = z) : cutI (wU L) 0 z = L := by
  have := cut_mid [] L []
  rw [List.append_nil, List.nil_append, List.length_nil, hl] at this
  exact this
theorem tmS_all (L M : List Int) {z : Nat} (hl : L.length = z) : tmS (wU L) 0 z M = wU M := by
  have := tmS_mid [] L [] M
  rw [List.append_nil, List.nil_append, List.length_nil, hl, List.append_nil, List.nil_append] at this
  exact this
theorem upT_all (L : List Int) {z K : Nat} (hl : L.length = z) : upT (wU L) 0 z (K : Int) = wU (dg z (vN L * 2 ^ K)) := by
  unfold upT
  rw [cut_all L hl, tmS_all L _ hl, Int.toNat_natCast]
theorem smallC_le {q : Nat} (h : q ≤ 1000000) : smallC q = true := blt_iff.2 (by unfold dead; omega)
theorem len_up32 {x : Int} (h : 0 < x ∧ x < 4294967296) : ∃ K : Nat, dmU x = (K : Int) ∧ K < 32 ∧ x < 2 ^ (32 - K) ∧ (2 : Int) ^ (32 - K) * 2 ^ K ≤ 4294967296 := by
  have h1 := bitLen_32 (by omega) h.2
  have h2 := bitLen_spec x.toNat
  have h3 : bitLen x.toNat ≠ 0 := fun h0 => by rw [h0] at h2; have := h2.1; omega
  refine ⟨32 - bitLen x.toNat, ?_, by omega, ?_, ?_⟩
  · unfold dmU
    rw [wrapI (by omega) (by omega)]
    omega
  · rw [show 32 - (32 - bitLen x.toNat) = bitLen x.toNat by omega]
    have : ((x.toNat : Nat) : Int) < ((2 ^ bitLen x.toNat : Nat) : Int) := Int.ofNat_lt.2 h2.1
    rw [Int.natCast_pow] at this
    have e : ((x.toNat : Nat) : Int) = x := Int.toNat_of_nonneg (by omega)
    rw [e] at this
    exact this
  · rw [← Int.pow_add, show 32 - (32 - bitLen x.toNat) + (32 - bitLen x.toNat) = 32 by omega]
    decide
theorem dm_runs {la lb : List Value} {o c o' c' : Nat} {LA LB : List Int} (RA : Row la o LA) (RB : Row lb o' LB) (ra : rowOk tR la o LA.length c = true) (rb : rowOk tR lb o' LB.length c' = true) (ba : badL LA = false) (bb : badL LB = false) (hb0 : 0 < LB.length) (hc : ¬ cmpL LA LB < 0) :
    Runs (tabH Tryz.prog extY conL hcD) (seqs (dmP Tryz.f152) (.seq (.seq (cFst (cFst (sn 12 Tryz.f152))) (.block 0 (.loop (dmL Tryz.f152)))) (sn 13 Tryz.f152))) ([sl 0 o LA.length c, sl 1 o' LB.length c'] ++ List.replicate 87 undef, h2 la lb, []) fun e y => (e = none ∨ e = some none) ∧ resS Tryz.prog Tryz.f152 y.1 y.2.1 = some (.tuple #[sl 4 0 (trimN (dg (LA.length - LB.length + 1) (vN LA / vN LB))) (LA.length - LB.length + 1), sl 2 0 (trimN (dg (LA.length + 1) (vN LA % vN LB))) (LA.length + 1), .nilIface]) ∧ y.2.1.blk? 4 = some (wU (dg (LA.length - LB.length + 1) (vN LA / vN LB)), tU) ∧ y.2.1.blk? 2 = some (wU (dg (LA.length + 1) (vN LA % vN LB)), tU) := by
  have hT := tabH_ok conL_ok hcD_ok
  have n8 := badL_len ba
  have n8' := badL_len bb
  have qa := badL_canon RA.rng ba
  have qb := badL_canon RB.rng bb
  have hcv := cmpL_val qa qb
  have hge : vN LB ≤ vN LA := by
    have := mt hcv.1.2 hc
    omega
  have hle := canon_len qa qb hge
  obtain ⟨_, _, _, _, _, _, sa⟩ := row_of ra
  obtain ⟨_, _, _, _, _, _, sb⟩ := row_of rb
  have cA := cut_row RA
  have cB := cut_row RB
  have cx := RB.cell (k := LB.length - 1) (by omega)
  have hx0 : LB.getD (LB.length - 1) 0 ≠ 0 := qb.2.resolve_left (by omega)
  have hxr := RB.rng (LB.getD (LB.length - 1) 0) (by
    have hk : LB.length - 1 < LB.length := by omega
    simp [List.getD, List.getElem?_eq_getElem hk])
  obtain ⟨K, eU, hK, hxK, hKK⟩ := len_up32 (x := LB.getD (LB.length - 1) 0) (by omega)
  have hB1 := up_fits RB.rng rfl hb0 rfl hxK hKK
  have hlow := vN_low RB.rng hb0 hx0
  have k1 : (1 : Int) ≤ 2 ^ K := by have : (0 : Int) < 2 ^ K := Int.pow_pos (by omega); omega
  have k2 : (2 : Int) ^ K ≤ 4294967296 := by
    have h1 : (1 : Int) ≤ 2 ^ (32 - K) := by have : (0 : Int) < 2 ^ (32 - K) := Int.pow_pos (by omega); omega
    have h2 : 1 * (2 : Int) ^ K ≤ 2 ^ (32 - K) * 2 ^ K := Int.mul_le_mul_of_nonneg_right h1 (by omega)
    omega
  have bA := vN_bd LA RA.rng
  have pN1 := pw_pos (LB.length - 1)
  have hvB : 0 < vN LB := by omega
  have hBlow : 4294967296 ^ (LB.length - 1) ≤ vN LB * 2 ^ K := by
    have : vN LB * 1 ≤ vN LB * 2 ^ K := Int.mul_le_mul_of_nonneg_left k1 (by omega)
    omega
  have hW0 : 0 ≤ vN LA * 2 ^ K := Int.mul_nonneg bA.1 (by omega)
  have hW1 : vN LA * 2 ^ K < vN LB * 2 ^ K * 4294967296 ^ (LA.length - LB.length + 1) := by
    have e1 : (4294967296 : Int) ^ LA.length = 4294967296 ^ (LB.length - 1) * 4294967296 ^ (LA.length - LB.length + 1) := by
      rw [← Int.pow_add, show LB.length - 1 + (LA.length - LB.length + 1) = LA.length by omega]
    have h1 : 4294967296 ^ (LB.length - 1) * 4294967296 ^ (LA.length - LB.length + 1) ≤ vN LB * 4294967296 ^ (LA.length - LB.length + 1) := Int.mul_le_mul_of_nonneg_right hlow (by have := pw_pos (LA.length - LB.length + 1); omega)
    have h2 : vN LA < vN LB * 4294967296 ^ (LA.length - LB.length + 1) := by omega
    have h3 := Int.mul_lt_mul_of_pos_right h2 (show (0 : Int) < 2 ^ K by omega)
    rw [Int.mul_assoc, Int.mul_comm (4294967296 ^ (LA.length - LB.length + 1)) (2 ^ K), ← Int.mul_assoc] at h3
    exact h3
  have eNP : (nP LA.length).toNat = LA.length + 1 := nP_nat n8
  have eQ : dmQ LA.length LB.length = ((LA.length - LB.length + 1 : Nat) : Int) := by
    unfold dmQ
    rw [wrapI (n := (LA.length : Int) - (LB.length : Int)) (by omega) (by omega), wrapI (by omega) (by omega)]
    omega
  have eR : dmR la o LA.length (LB.getD (LB.length - 1) 0) = wU (dg (LA.length + 1) (vN LA * 2 ^ K)) := by
    unfold dmR
    rw [eU, eNP, cpy_eq RA n8, upT_all _ (by simp), vN_snoc, Int.mul_zero, Int.add_zero]
  have eY : dmY lb o' LB.length (LB.getD (LB.length - 1) 0) = wU (dg LB.length (vN LB * 2 ^ K)) := by
    unfold dmY
    rw [eU, Int.toNat_natCast, cpS_eq RB, upT_all _ rfl]
  have g0 := dm_pre o LA.length c o' LB.length c' (LB.getD (LB.length - 1) 0) la lb
  have en1 : n1 LB.length = ((LB.length - 1 : Nat) : Int) := by unfold n1; rw [wrapI (by omega) (by omega)]; omega
  rw [eR, eY, eU, eNP, eQ, Int.toNat_natCast, Int.toNat_natCast, cA, cB, cpy_eq RA n8, cpS_eq RB, en1] at g0
  have erep : List.replicate (LA.length - LB.length + 1) (uu 0) = wU (List.replicate (LA.length - LB.length + 1) 0 ++ []) := by
    unfold wU uu
    simp
  rw [erep] at g0
  have lm1 : okMv (wU (dg LB.length (vN LB * 2 ^ K))) la lb (wU (LA ++ [0])) tR tR tU tU 0 (LA.length + 1) (LA.length + 1) (K : Int) = true := by
    unfold okMv
    rw [wU_rowAt (wds_zero RA.rng) (by simp) (Nat.le_refl _) (smallC_le (by omega)), wU_allS, List.all_eq_true.2 sa, List.all_eq_true.2 sb, decide_eq_true (show (0 : Int) ≤ K ∧ (K : Int) < 32 by omega)]
    simp
  have lm2 : okMv (wU (LA ++ [0])) la lb (wU LB) tR tR tU tU 0 LB.length LB.length (K : Int) = true := by
    unfold okMv
    rw [wU_rowAt RB.rng (by simp) (Nat.le_refl _) (smallC_le (by omega)), wU_allS, List.all_eq_true.2 sa, List.all_eq_true.2 sb, decide_eq_true (show (0 : Int) ≤ K ∧ (K : Int) < 32 by omega)]
    simp
  refine goesT_list hT g0 (okTwo (by unfold okMakeB; exact decide_eq_true (by omega)) (okTwo lm1 (okTwo lm2 (okTwo (csOk_eq RB) (okTwo (by unfold okMakeB; exact decide_eq_true (by omega)) (okTwo (decide_eq_true hxr) (okTwo (cel_ok cx) (okTwo (decide_eq_true (by omega)) (okTwo (decide_eq_false hc) (okTwo ra (okTwo rb (okTwo (cpOk_eq RA n8) (okTwo (mk_ok n8) (okTwo (by simpa using (show LB.length ≠ 0 by omega)) (okTwo ra (okTwo rb (okOne (by rw [ba, bb]; rfl)))))))))))))))))) fun g => ?_
  generalize hBe : vN LB * 2 ^ K = B' at *
  generalize hWe : vN LA * 2 ^ K = W0 at *
  have cY := cut_all (dg LB.length B') (dg_len LB.length B')
  have vY : vN (dg LB.length B') = B' := vN_dg _ _ (by omega) hB1
  have tY := top_pos hb0 hBlow hB1
  have hBp : 0 < B' := by omega
  refine Runs.seq (P1 := fun e' y => e' = none ∧ ∃ (W : Int) (qs : List Int) (i : Int) (g : Nat → Value), (0 ≤ W ∧ W < B') ∧ W0 = W + B' * vN qs ∧ qs.length = LA.length - LB.length + 1 ∧ wds qs ∧ y.1 = dmG o LA.length c o' LB.length c' (LA.length + 1) LB.length (LA.length - LB.length + 1) K i ++ tl 76 g ∧ y.2.1 = h5 la lb (wU (dg (LA.length + 1) W)) (wU (dg LB.length B')) (wU qs)) ?_ ?_ (fun e y he => by cases he.1)
  · refine Runs.seq (P1 := fun e' y => e' = none ∧ (∃ g, y.1 = dmG o LA.length c o' LB.length c' (LA.length + 1) LB.length (LA.length - LB.length + 1) K (n1 (LA.length - LB.length + 1)) ++ tl 76 g) ∧ y.2.1 = h5 la lb (wU (dg (LA.length + 1) W0)) (wU (dg LB.length B')) (wU (List.replicate (LA.length - LB.length + 1) 0 ++ []))) (goesT_runs hT (dm_r o LA.length c o' LB.length c' (LA.length + 1) LB.length (LA.length - LB.length + 1) K _ g) (fun x hx => by cases hx)) ?_ (fun e y he => by cases he.1)
    rintro ⟨t, h', s'⟩ ⟨_, ⟨g1, ht⟩, hh⟩
    simp only at ht hh
    subst ht hh
    refine (Runs.forLoop (R := fun _ => False) (P := fun y => ∃ (W : Int) (qs : List Int) (i : Int) (g : Nat → Value), (0 ≤ W ∧ W < B') ∧ W0 = W + B' * vN qs ∧ qs.length = LA.length - LB.length + 1 ∧ wds qs ∧ y.1 = dmG o LA.length c o' LB.length c' (LA.length + 1) LB.length (LA.length - LB.length + 1) K i ++ tl 76 g ∧ y.2.1 = h5 la lb (wU (dg (LA.length + 1) W)) (wU (dg LB.length B')) (wU qs))
      (fun r y => ∃ (W : Int) (qs : List Int) (g : Nat → Value), (0 ≤ W ∧ W < B' * 4294967296 ^ r) ∧ W0 = W + B' * (4294967296 ^ r * vN qs) ∧ qs.length + r = LA.length - LB.length + 1 ∧ wds qs ∧ y.1 = dmG o LA.length c o' LB.length c' (LA.length + 1) LB.length (LA.length - LB.length + 1) K ((r : Int) - 1) ++ tl 76 g ∧ y.2.1 = h5 la lb (wU (dg (LA.length + 1) W)) (wU (dg LB.length B')) (wU (List.replicate r 0 ++ qs)))
      ?_ (n := LA.length - LB.length + 1) ⟨W0, [], g1, ⟨hW0, hW1⟩, by simp [vN], by simp, (fun x hx => by cases hx), ?_, rfl⟩).mono fun e' y he => ?_
    · rintro r ⟨t, h', s'⟩ ⟨W, qs, g, hW, hsum, hq, wq, ht, hh⟩
      simp only at ht hh
      subst ht hh
      cases r with
      | zero =>
        refine (goesT_runs hT (dm_out o LA.length c o' LB.length c' (LA.length + 1) LB.length (LA.length - LB.length + 1) K _ _ g) (okOne (decide_eq_false (by omega)))).mono fun e' y he => ?_
        obtain ⟨rfl, ⟨g1, e2⟩, e3⟩ := he
        rw [Int.pow_zero] at hW hsum
        rw [Int.mul_one] at hW
        rw [Int.one_mul] at hsum
        exact ⟨rfl, W, qs, _, g1, hW, hsum, by omega, wq, e2, e3⟩
      | succ r =>
        have ei : ((r + 1 : Nat) : Int) - 1 = (r : Int) := by omega
        rw [ei]
        obtain ⟨⟨t0, t1, t2⟩, ⟨x0, x1⟩, hW', hs'⟩ := qt_round ⟨hBp, hB1⟩ hW hsum
        have hdg := digit_lt hBp t0 t1
        generalize hTe : W / 4294967296 ^ r = T at *
        have eJ : pJ (r : Int) = r := by unfold pJ; omega
        have eH : dmH (r : Int) LB.length = ((r + LB.length + 1 : Nat) : Int) := by
          unfold dmH
          rw [wrapI (n := (r : Int) + (LB.length : Int)) (by omega) (by omega), wrapI (by omega) (by omega)]
          omega
        have eN : dmN (r : Int) LB.length = LB.length + 1 := by unfold dmN; rw [eH]; omega
        have eRr : dg (LA.length + 1) W = dg r W ++ (dg (LB.length + 1) T ++ dg (LA.length - LB.length - r) 0) := by
          rw [show LA.length + 1 = r + ((LB.length + 1) + (LA.length - LB.length - r)) by omega, dg_parts, hTe, Int.ediv_eq_zero_of_lt t0 t2]
        have cT : cutI (wU (dg (LA.length + 1) W)) r (LB.length + 1) = dg (LB.length + 1) T := by
          have := cut_mid (dg r W) (dg (LB.length + 1) T) (dg (LA.length - LB.length - r) 0)
          rw [dg_len, dg_len, ← eRr] at this
          exact this
        have vT : vN (dg (LB.length + 1) T) = T := vN_dg _ _ t0 t2
        have sT : tmS (wU (dg (LA.length + 1) W)) r (LB.length + 1) (dg (LB.length + 1) (T % B')) = wU (dg (LA.length + 1) (qtW W (T % B') r)) := by
          have := tmS_mid (dg r W) (dg (LB.length + 1) T) (dg (LA.length - LB.length - r) 0) (dg (LB.length + 1) (T % B'))
          rw [dg_len, dg_len, ← eRr] at this
          rw [this, qt_words ⟨x0, x1⟩, show r + ((LB.length + 1) + (LA.length - LB.length - r)) = LA.length + 1 by omega]
        have sQ : (wU (List.replicate (r + 1) 0 ++ qs)).set r (uu (T / B')) = wU (List.replicate r 0 ++ (T / B') :: qs) := by
          have := wU_set (List.replicate r 0) 0 (T / B') qs
          rw [List.length_replicate] at this
          rw [List.replicate_succ', List.append_assoc, List.singleton_append, this, List.append_assoc, List.singleton_append]
        have g2 := dm_go o LA.length c o' LB.length c' (LA.length + 1) LB.length (LA.length - LB.length + 1) K r la lb (wU (dg (LA.length + 1) W)) (wU (dg LB.length B')) (wU (List.replicate (r + 1) 0 ++ qs)) g
        rw [eJ, eN, eH, cT, cY, vT, vY, sT, sQ, Int.toNat_natCast] at g2
        have l1 : decide (r < (wU (List.replicate (r + 1) 0 ++ qs)).length) = true := decide_eq_true (by rw [wU_len]; simp; omega)
        have l2 : (inR r (LA.length - LB.length + 1)).1 = (inR r (LA.length - LB.length + 1)).2 := decide_eq_true (by omega)
        have l3 : (okTo la lb (wU (dg (LA.length + 1) W)) (wU (dg LB.length B')) (wU (List.replicate (r + 1) 0 ++ qs)) tR tR tU tU tU r (LB.length + 1) (LA.length + 1 - r) LB.length LB.length && decide (0 < LB.length ∧ 0 < (dg LB.length B').getD (LB.length - 1) 0 ∧ T < 4294967296 * B')) = true := by
          unfold okTo
          rw [wU_rowAt (dg_wds _ _) (by rw [dg_len]; omega) (by omega) (smallC_le (by omega)), wU_rowAt (dg_wds _ _) (by rw [dg_len]; omega) (Nat.le_refl _) (smallC_le (by omega)), wU_allS, List.all_eq_true.2 sa, List.all_eq_true.2 sb, blt_iff.2 (show LB.length + 1 < 1099511627776 by omega), decide_eq_true (show 0 < LB.length ∧ 0 < (dg LB.length B').getD (LB.length - 1) 0 ∧ T < 4294967296 * B' from ⟨hb0, tY, t1⟩)]
          simp
        have l5 : okPart (r : Int) ((r + LB.length + 1 : Nat) : Int) ((LA.length + 1 : Nat) : Int) ((LA.length + 1 : Nat) : Int) = true := by unfold okPart; exact decide_eq_true (by omega)
        have l6 : decide (((LA.length + 1 : Nat) : Int) = (r : Int) ∧ (r : Int) ≠ 0) = false := decide_eq_false (by omega)
        have l7 : decide ((r : Int) ≥ 0) = true := decide_eq_true (by omega)
        refine (goesT_runs hT g2 (okTwo l1 (okTwo l2 (okTwo l3 (okTwo (smallC_le (by omega)) (okTwo l5 (okTwo l6 (okOne l7)))))))).mono fun e' y he => ?_
        obtain ⟨rfl, ⟨g3, e2⟩, e3⟩ := he
        refine ⟨r, by omega, qtW W (T % B') r, T / B' :: qs, g3, hW', ?_, by simp; omega, ?_, ?_, e3⟩
        · simp only [vN]
          exact hs'
        · intro z hz
          rcases List.mem_cons.1 hz with rfl | hz
          · omega
          · exact wq z hz
        · rw [e2, wrapI (by omega) (by omega)]
    · show dmG _ _ _ _ _ _ _ _ _ _ _ ++ _ = _
      rw [show n1 (LA.length - LB.length + 1) = ((LA.length - LB.length + 1 : Nat) : Int) - 1 from by unfold n1; rw [wrapI (by omega) (by omega)]]
    · match e', he with
      | none, he => exact ⟨rfl, he⟩
      | some none, he => exact he.elim
      | some (some _), he => exact he.elim
  · rintro ⟨t, h', s'⟩ ⟨_, W, qs, i, g, hW, hsum, hq, wq, ht, hh⟩
    simp only at ht hh
    subst ht hh
    obtain ⟨f1, f2⟩ := qt_end hW hsum
    have hkp : (0 : Int) < 2 ^ K := by omega
    have d1 : W0 / B' = vN LA / vN LB := by rw [← hWe, ← hBe]; exact Int.mul_ediv_mul_of_pos_left _ _ hkp
    have d2 : W0 % B' = vN LA % vN LB * 2 ^ K := by rw [← hWe, ← hBe, Int.mul_comm (vN LA) (2 ^ K), Int.mul_comm (vN LB) (2 ^ K), Int.mul_emod_mul_of_pos _ _ hkp, Int.mul_comm]
    have eqs : qs = dg (LA.length - LB.length + 1) (vN LA / vN LB) := by
      have := dg_vN qs wq
      rw [hq, f1, d1] at this
      exact this.symm
    have hWlt : W < 4294967296 ^ (LA.length + 1) := by
      have h1 : (4294967296 : Int) ^ LB.length ≤ 4294967296 ^ (LA.length + 1) := pw_le (by omega)
      omega
    have vW : vN (dg (LA.length + 1) W) = W := vN_dg _ _ hW.1 hWlt
    have eD : dmD (wU (dg (LA.length + 1) W)) (LA.length + 1) K = wU (dg (LA.length + 1) (vN LA % vN LB)) := by
      unfold dmD
      rw [cut_all _ (dg_len _ _), tmS_all _ _ (dg_len _ _), vW, f2, d2, Int.toNat_natCast, Int.mul_ediv_cancel _ (by omega)]
    have g2 := dm_end o LA.length c o' LB.length c' (LA.length + 1) LB.length (LA.length - LB.length + 1) K i la lb (wU (dg (LA.length + 1) W)) (wU (dg LB.length B')) (wU qs) g
    rw [eD, cut_all qs hq, cut_all _ (dg_len _ _), eqs] at g2
    have l1 : okMd la lb (wU (dg (LA.length + 1) W)) (wU (dg LB.length B')) (wU (dg (LA.length - LB.length + 1) (vN LA / vN LB))) tR tR tU tU tU 0 (LA.length + 1) (LA.length + 1) (K : Int) = true := by
      unfold okMd
      rw [wU_rowAt (dg_wds _ _) (by rw [dg_len]; omega) (Nat.le_refl _) (smallC_le (by omega)), wU_allS, wU_allS, List.all_eq_true.2 sa, List.all_eq_true.2 sb, blt_iff.2 (show LA.length + 1 < 1099511627776 by omega), decide_eq_true (show (0 : Int) ≤ K ∧ (K : Int) < 32 by omega)]
      simp
    rw [eqs]
    refine (goesT_runs hT g2 (okTwo (wU_rowAt (dg_wds _ _) (by rw [dg_len]; omega) (Nat.le_refl _) (smallC_le (by omega))) (okTwo (wU_rowAt (dg_wds _ _) (by rw [dg_len]; omega) (Nat.le_refl _) (smallC_le (by omega))) (okOne l1)))).mono fun e' y he => ?_
    obtain ⟨rfl, ⟨g1, e2⟩, e3⟩ := he
    refine ⟨.inr rfl, ?_, ?_, ?_⟩
    · rw [e2, e3]; rfl
    · rw [e3]; rfl
    · rw [e3]; rfl
def hcE : Hc := altH 132 gBothU (altH 187 gCmpU (altH 131 gTrim hcN))
theorem hcE_ok : HcOk hcE := altH_ok Tryz.func132 rfl gBothU_ok (altH_ok Tryz.func187 rfl gCmpU_ok (altH_ok Tryz.func131 rfl gTrim_ok hcN_ok))
theorem dm_bad (p q : Option Addr) (n c n' c' : Nat) (h : Hp) : GoesT (evC (tabH Tryz.prog extY conN hcE) 300 false (cBody Tryz.f152) ([.slice p n c, .slice q n' c'] ++ List.replicate 87 undef, h, [cmp true]) ⟨[], [], []⟩) 7 82 (some none) [.slice p n c, .slice q n' c', undef, undef, nilS, nilS, errV 1] h [(rowX h p n c, true), (rowX h q n' c', true), (badL (rowOf h p n) || badL (rowOf h q n'), true)] := ⟨by kernel_rfl, by kernel_rfl, by kernel_rfl⟩
theorem dm_zero (p q : Option Addr) (n c n' c' : Nat) (h : Hp) : GoesT (evC (tabH Tryz.prog extY conN hcE) 300 false (cBody Tryz.f152) ([.slice p n c, .slice q n' c'] ++ List.replicate 87 undef, h, [cmp false, cmp true]) ⟨[], [], []⟩) 7 82 (some none) [.slice p n c, .slice q n' c', undef, undef, nilS, nilS, errV 5] h [((n' : Int) == 0, true), (rowX h p n c, true), (rowX h q n' c', true), (badL (rowOf h p n) || badL (rowOf h q n'), false)] := ⟨by kernel_rfl, by kernel_rfl, by kernel_rfl⟩
theorem dm_less (o n c o' n' c' : Nat) (la lb : List Value) : GoesT (evC (tabH Tryz.prog extY conN hcE) 300 false (cBody Tryz.f152) ([sl 0 o n c, sl 1 o' n' c'] ++ List.replicate 87 undef, h2 la lb, [cmp false, cmp false, at_, at_, cmp true]) ⟨[], [], []⟩) 7 82 (some none) [sl 0 o n c, sl 1 o' n' c', undef, undef, nilS, sl 2 0 (trimN (cutI (cpy la o n) 0 (nP n).toNat)) (nP n).toNat, .nilIface] (h3 la lb (cpy la o n))
    [(rowOk tU (cpy la o n) 0 (nP n).toNat (nP n).toNat, true), (decide (cmpL (cutI la o n) (cutI lb o' n') < 0), true), (rowOk tR la o n c, true), (rowOk tR lb o' n' c', true), (cpOk la o n, true), (okMakeB 4 (nP n) (nP n), true), ((n' : Int) == 0, false), (rowOk tR la o n c, true), (rowOk tR lb o' n' c', true), (badL (cutI la o n) || badL (cutI lb o' n'), false)] := ⟨by kernel_rfl, by kernel_rfl, by kernel_rfl⟩
theorem dm_nless (o n c : Nat) (lb : List Value) : GoesT (evC (tabH Tryz.prog extY conN hcE) 300 false (cBody Tryz.f152) ([nilS, sl 0 o n c] ++ List.replicate 87 undef, ⟨1, [(lb, tR)]⟩, [cmp false, cmp false, cmp true]) ⟨[], [], []⟩) 7 82 (some none) [nilS, sl 0 o n c, undef, undef, nilS, sl 1 0 0 1, .nilIface] ⟨2, [(wU [0], tU), (lb, tR)]⟩
    [(rowOk tU (wU [0]) 0 1 1, true), (decide (cmpL [] (cutI lb o n) < 0), true), (true, true), (rowOk tR lb o n c, true), ((n : Int) == 0, false), (true, true), (rowOk tR lb o n c, true), (badL (cutI lb o n), false)] := ⟨by kernel_rfl, by kernel_rfl, by kernel_rfl⟩
def gDm : AnsH := fun vals h s =>
  match vals, s with
  | [.slice p n c, .slice q n' c'], .inr (.inr (.inr (.inl true))) :: s' => some (.tuple #[nilS, nilS, errV 1], h, s', [(rowX h p n c, true), (rowX h q n' c', true), (badL (rowOf h p n) || badL (rowOf h q n'), true)])
  | [.slice p n c, .slice q n' c'], .inr (.inr (.inr (.inl false))) :: .inr (.inr (.inr (.inl true))) :: s' => some (.tuple #[nilS, nilS, errV 5], h, s', [(rowX h p n c, true), (rowX h q n' c', true), (!(badL (rowOf h p n) || badL (rowOf h q n')) && decide (n' = 0), true)])
  | [.slice p n c, .slice q n' c'], .inr (.inr (.inr (.inl false))) :: .inr (.inr (.inr (.inl false))) :: .inr (.inr (.inr (.inl true))) :: s' => some (.tuple #[nilS, sl h.n 0 (trimN (rowOf h p n ++ [0])) (n + 1), .nilIface], h.push (wU (rowOf h p n ++ [0])) tU, s', [(rowX h p n c, true), (rowX h q n' c', true), (!(badL (rowOf h p n) || badL (rowOf h q n')) && decide (0 < n' ∧ cmpL (rowOf h p n) (rowOf h q n') < 0), true)])
  | [.slice p n c, .slice q n' c'], .inr (.inr (.inr (.inl false))) :: .inr (.inr (.inr (.inl false))) :: .inr (.inr (.inr (.inl false))) :: .inr (.inl V) :: .inr (.inl U) :: s' => some (.tuple #[sl h.n 0 (trimN (dg (n - n' + 1) V)) (n - n' + 1), sl (h.n + 1) 0 (trimN (dg (n + 1) U)) (n + 1), .nilIface], (h.push (wU (dg (n - n' + 1) V)) tU).push (wU (dg (n + 1) U)) tU, s', [(decide (vN (rowOf h p n) / vN (rowOf h q n') = V ∧ vN (rowOf h p n) % vN (rowOf h q n') = U), true), (rowX h p n c, true), (rowX h q n' c', true), (!(badL (rowOf h p n) || badL (rowOf h q n')) && decide (0 < n' ∧ ¬ cmpL (rowOf h p n) (rowOf h q n') < 0), true)])
  | _, _ => none
theorem log4 {a b c d : Bool × Bool} (h : okLog [a, b, c, d]) : a.1 = a.2 ∧ b.1 = b.2 ∧ c.1 = c.2 ∧ d.1 = d.2 := ⟨h _ (by simp), h _ (by simp), h _ (by simp), h _ (by simp)⟩
theorem gDm_ok : AnsHOk 152 gDm := by
  intro vals h s v h' s' lg hg hl m B w E hv
  unfold gDm at hg
  split at hg
  · rename_i p n c q n' c' s2
    cases hg
    have r := goesT_runs (s0 := []) (tabH_ok conN_ok hcE_ok) (dm_bad p q n c n' c' h) hl
    exact hcalls_keep (T := tabH Tryz.prog extY conN hcE) Tryz.func152 dm_cbody (vals := [.slice p n c, .slice q n' c']) (v := .tuple #[nilS, nilS, errV 1]) (h := h) (by rfl) (r.mono fun e y he => by
      obtain ⟨rfl, ⟨g, e1⟩, e2⟩ := he
      exact ⟨.inr rfl, by rw [e1, e2]; rfl, e2⟩) m B w E hv
  · rename_i p n c q n' c' s2
    cases hg
    obtain ⟨l1, l2, l3⟩ := log3 hl
    simp only [Bool.and_eq_true, Bool.not_eq_true', decide_eq_true_eq] at l1 l2 l3
    have r := goesT_runs (s0 := []) (tabH_ok conN_ok hcE_ok) (dm_zero p q n c n' c' h) (okTwo (by simp [l3.2]) (okTwo l1 (okTwo l2 (okOne l3.1))))
    exact hcalls_keep (T := tabH Tryz.prog extY conN hcE) Tryz.func152 dm_cbody (vals := [.slice p n c, .slice q n' c']) (v := .tuple #[nilS, nilS, errV 5]) (h := h) (by rfl) (r.mono fun e y he => by
      obtain ⟨rfl, ⟨g, e1⟩, e2⟩ := he
      exact ⟨.inr rfl, by rw [e1, e2]; rfl, e2⟩) m B w E hv
  · rename_i p n c q n' c' s2
    cases hg
    obtain ⟨l1, l2, l3⟩ := log3 hl
    simp only [Bool.and_eq_true, Bool.not_eq_true', Bool.or_eq_false_iff, decide_eq_true_eq] at l1 l2 l3
    obtain ⟨⟨l3, l4⟩, l5, l6⟩ := l3
    rcases rowX_cases l2 with ⟨_, h0, _⟩ | ⟨b', o', y, rfl, hy, t1, f0⟩
    · omega
    rw [f0] at l4 l6
    have tR1 := rowOk_R t1
    obtain ⟨b1, b2, b3, b4, b5, b6, b7⟩ := row_of t1
    rcases rowX_cases l1 with ⟨rfl, rfl, rfl, e0⟩ | ⟨b, o, x, rfl, hx, r1, e0⟩
    · rw [e0] at l6 ⊢
      have r : Runs (tabH Tryz.prog extY conN hcE) (cBody Tryz.f152) ([nilS, sl 0 o' n' c'] ++ List.replicate 87 undef, ⟨1, [(y.1, tR)]⟩, []) fun e z => (e = none ∨ e = some none) ∧ resS Tryz.prog Tryz.f152 z.1 z.2.1 = some (.tuple #[nilS, sl 1 0 0 1, .nilIface]) ∧ ∃ r, z.2.1.blk? 1 = some (wU [0] ++ r, tU) := by
        refine (goesT_runs (tabH_ok conN_ok hcE_ok) (dm_nless o' n' c' y.1) (okTwo (by kernel_rfl) (okTwo (decide_eq_true l6) (okTwo rfl (okTwo tR1 (okTwo (by simpa using (show n' ≠ 0 by omega)) (okTwo rfl (okTwo tR1 (okOne l4))))))))).mono fun e z he => ?_
        obtain ⟨rfl, ⟨g, e1⟩, e2⟩ := he
        exact ⟨.inr rfl, by rw [e1, e2]; rfl, [], by rw [e2]; rfl⟩
      have evals : List.map (rn fun _ => b') [nilS, sl 0 o' n' c'] = [.slice none 0 0, .slice (some ⟨b', o', none⟩) n' c'] := by simp [rn, rn2, rn1, sl, nilS]
      have e1 : ∀ k M : Nat, rn (fun _ => h.n) (.tuple #[nilS, sl 1 0 k M, .nilIface]) = .tuple #[nilS, sl h.n 0 k M, .nilIface] := fun k M => by simp [rn, rn2, rn1, sl, nilS]
      have := row_calls1 (T := tabH Tryz.prog extY conN hcE) Tryz.func152 dm_cbody (rows1 b7) (vals := [nilS, sl 0 o' n' c']) (fun v hv => by
        simp only [List.mem_cons, List.not_mem_nil, or_false] at hv
        rcases hv with rfl | rfl <;> rfl) (k := 1) (wU_calm _) tU_own r.w (by rfl) E (s := fun _ => b') (fitsR1 hy b5 b6 rfl)
      rw [evals, e1] at this
      exact this
    · rw [e0] at l3 l6 ⊢
      have tR0 := rowOk_R r1
      obtain ⟨a1, a2, a3, a4, a5, a6, a7⟩ := row_of r1
      have n8 := badL_len l3
      have g0 := dm_less o n c o' n' c' x.1 y.1
      have eP := cpy_eq a1 n8
      have eO := cpOk_eq a1 n8
      rw [a2] at eP eO
      rw [a2] at n8
      rw [nP_nat n8, eP] at g0
      have hw := wds_zero a1.rng
      have hl1 : (cutI x.1 o n ++ [0]).length = n + 1 := by simp [a2]
      rw [cut_all _ hl1] at g0
      have r : Runs (tabH Tryz.prog extY conN hcE) (cBody Tryz.f152) ([sl 0 o n c, sl 1 o' n' c'] ++ List.replicate 87 undef, h2 x.1 y.1, []) fun e z => (e = none ∨ e = some none) ∧ resS Tryz.prog Tryz.f152 z.1 z.2.1 = some (.tuple #[nilS, sl 2 0 (trimN (cutI x.1 o n ++ [0])) (n + 1), .nilIface]) ∧ ∃ r, z.2.1.blk? 2 = some (wU (cutI x.1 o n ++ [0]) ++ r, tU) := by
        refine (goesT_runs (tabH_ok conN_ok hcE_ok) g0 (okTwo (wU_rowAt hw (by rw [hl1]; omega) (Nat.le_refl _) (smallC_le (by omega))) (okTwo (decide_eq_true l6) (okTwo tR0 (okTwo tR1 (okTwo eO (okTwo (mk_ok n8) (okTwo (by simpa using (show n' ≠ 0 by omega)) (okTwo tR0 (okTwo tR1 (okOne (by rw [l3, l4]; rfl)))))))))))).mono fun e z he => ?_
        obtain ⟨rfl, ⟨g, e1⟩, e2⟩ := he
        exact ⟨.inr rfl, by rw [e1, e2]; rfl, [], by rw [e2, List.append_nil]; rfl⟩
      have e1 : ∀ k M : Nat, rn (fun _ => h.n) (.tuple #[nilS, sl 2 0 k M, .nilIface]) = .tuple #[nilS, sl h.n 0 k M, .nilIface] := fun k M => by simp [rn, rn2, rn1, sl, nilS]
      have := row_calls1 (T := tabH Tryz.prog extY conN hcE) Tryz.func152 dm_cbody (rows2 a7 b7) (vals := [sl 0 o n c, sl 1 o' n' c']) (fun v hv => by
        simp only [List.mem_cons, List.not_mem_nil, or_false] at hv
        rcases hv with rfl | rfl <;> rfl) (k := 2) (wU_calm _) tU_own r.w (by rfl) E (s := pair b b') (fitsR2 hx a5 a6 hy b5 b6)
      rw [e1] at this
      exact this
  · rename_i p n c q n' c' V U s2
    cases hg
    obtain ⟨l0, l1, l2, l3⟩ := log4 hl
    simp only [Bool.and_eq_true, Bool.not_eq_true', Bool.or_eq_false_iff, decide_eq_true_eq] at l0 l1 l2 l3
    obtain ⟨⟨l3, l4⟩, l5, l6⟩ := l3
    obtain ⟨rfl, rfl⟩ := l0
    rcases rowX_cases l2 with ⟨_, h0, _⟩ | ⟨b', o', y, rfl, hy, t1, f0⟩
    · omega
    rw [f0] at l4 l6 ⊢
    have tR1 := rowOk_R t1
    obtain ⟨b1, b2, b3, b4, b5, b6, b7⟩ := row_of t1
    rcases rowX_cases l1 with ⟨rfl, rfl, rfl, e0⟩ | ⟨b, o, x, rfl, hx, r1, e0⟩
    · rw [e0] at l6
      exact absurd ((cmp_nl b2).2 l5) l6
    · rw [e0] at l3 l6 ⊢
      have tR0 := rowOk_R r1
      obtain ⟨a1, a2, a3, a4, a5, a6, a7⟩ := row_of r1
      have r := dm_runs (c := c) (c' := c') a1 b1 (by rw [a2]; exact tR0) (by rw [b2]; exact tR1) l3 l4 (by omega) l6
      rw [a2, b2] at r
      have fin := row_callsT (T := tabH Tryz.prog extY conL hcD) Tryz.func152 dm_body (rows2 a7 b7) (vals := [sl 0 o n c, sl 1 o' n' c']) (fun v hv => by
        simp only [List.mem_cons, List.not_mem_nil, or_false] at hv
        rcases hv with h1 | h1 <;> rw [h1] <;> rfl) (v := fun k j => .tuple #[sl k 0 (trimN (dg (n - n' + 1) (vN (cutI x.1 o n) / vN (cutI y.1 o' n')))) (n - n' + 1), sl j 0 (trimN (dg (n + 1) (vN (cutI x.1 o n) % vN (cutI y.1 o' n')))) (n + 1), .nilIface]) (wU_calm _) (wU_calm _) tU_own (r.w.mono fun e z hz => ⟨hz.1, 4, 2, by omega, hz.2.1, ⟨[], by rw [List.append_nil]; exact hz.2.2.1⟩, [], by rw [List.append_nil]; exact hz.2.2.2⟩) (fun k j => by simp [oc, oc2, oc1, sl]) E (s := pair b b') (fitsR2 hx a5 a6 hy b5 b6) (fun k j g => by simp [rn, rn2, rn1, sl])
      exact fin
  · cases hg
def gDmN : AnsH := fun vals h s =>
  match vals, s with
  | [.slice p n c, .slice q n' c'], .inr (.inr (.inr (.inl true))) :: s' => some (.tuple #[nilS, nilS, errV 1], h, s', [(rowX h p n c, true), (rowX h q n' c', true), (badL (rowOf h p n) || badL (rowOf h q n'), true)])
  | [.slice p n c, .slice q n' c'], .inr (.inr (.inr (.inl false))) :: .inr (.inr (.inr (.inl true))) :: s' => some (.tuple #[nilS, nilS, errV 5], h, s', [(rowX h p n c, true), (rowX h q n' c', true), (!(badL (rowOf h p n) || badL (rowOf h q n')) && decide (n' = 0), true)])
  | [.slice p n c, .slice q n' c'], .inr (.inr (.inr (.inl false))) :: .inr (.inr (.inr (.inl false))) :: .inr (.inr (.inr (.inl true))) :: .inr (.inl U) :: s' => some (.tuple #[nilS, sl h.n 0 (trimN (dg (n + 1) U)) (n + 1), .nilIface], h.push (wU (dg (n + 1) U)) tU, s', [(decide (rowOf h p n ++ [0] = dg (n + 1) U), true), (rowX h p n c, true), (rowX h q n' c', true), (!(badL (rowOf h p n) || badL (rowOf h q n')) && decide (0 < n' ∧ cmpL (rowOf h p n) (rowOf h q n') < 0), true)])
  | [.slice p n c, .slice q n' c'], .inr (.inr (.inr (.inl false))) :: .inr (.inr (.inr (.inl false))) :: .inr (.inr (.inr (.inl false))) :: .inr (.inl V) :: .inr (.inl U) :: s' => some (.tuple #[sl h.n 0 (trimN (dg (n - n' + 1) V)) (n - n' + 1), sl (h.n + 1) 0 (trimN (dg (n + 1) U)) (n + 1), .nilIface], (h.push (wU (dg (n - n' + 1) V)) tU).push (wU (dg (n + 1) U)) tU, s', [(decide (vN (rowOf h p n) / vN (rowOf h q n') = V ∧ vN (rowOf h p n) % vN (rowOf h q n') = U), true), (rowX h p n c, true), (rowX h q n' c', true), (!(badL (rowOf h p n) || badL (rowOf h q n')) && decide (0 < n' ∧ ¬ cmpL (rowOf h p n) (rowOf h q n') < 0), true)])
  | _, _ => none
theorem gDmN_ok : AnsHOk 152 gDmN := by
  intro vals h s v h' s' lg hg hl
  unfold gDmN at hg
  split at hg
  · cases hg
    exact gDm_ok _ h [cmp true] _ _ [] _ rfl hl
  · cases hg
    exact gDm_ok _ h [cmp false, cmp true] _ _ [] _ rfl hl
  · rename_i p n c q n' c' U s3
    cases hg
    obtain ⟨l1, l2⟩ := log_tl hl
    have l1 := of_decide_eq_true l1
    refine gDm_ok _ h [cmp false, cmp false, cmp true] _ _ [] _ ?_ l2
    simp only [gDm, l1]
  · cases hg
    exact gDm_ok _ h [cmp false, cmp false, cmp false, num _, num _] _ _ [] _ rfl hl
  · cases hg
def IsR (H : Hp) (p : Option Addr) (n c V : Nat) : Prop := rowX H p n c = true ∧ rowP H p n c = true ∧ rowOf H p n = d32 V ∧ n = (d32 V).length ∧ n ≤ 1000
theorem isRd {H : Hp} {b V m : Nat} (hb : H.blk? b = some (wU (dg m (V : Int)), tU)) (hV : V < 4294967296 ^ m) (hm : m ≤ 1000) : IsR H (some ⟨b, 0, none⟩) (trimN (dg m (V : Int))) m V := by
  have h32 := is32d hb hV hm
  have ht := trimN_le (dg m (V : Int))
  have hl := dg_len m (V : Int)
  refine ⟨?_, h32.1, h32.2, ?_, by omega⟩
  · unfold rowX
    simp only [hb]
    exact wU_rowAt (dg_wds _ _) (by omega) (by omega) (smallC_le (by omega))
  · rw [← h32.2]
    have := rowOf_len h32.1
    omega
section
variable {H : Hp} {p q : Option Addr} {n c n' c' V W : Nat}
theorem vN_d32 (V : Nat) : vN (d32 V) = (V : Int) := by
  rw [vN_vb (d32_wds V)]
  exact congrArg _ (vb_db (by omega) V)
theorem d32_canon (V : Nat) : canon (d32 V) := by
  have h := can_db (b := 4294967296) (by omega) V
  refine ⟨d32_wds V, ?_⟩
  have ht := trimN_top (d32 V)
  rw [show trimN (d32 V) = (d32 V).length from h.2] at ht
  exact ht
theorem IsR.good (h : IsR H p n c V) : badL (rowOf H p n) = false := by
  have hl : (rowOf H p n).length = n := by rw [h.2.2.1]; exact h.2.2.2.1.symm
  have h8 := h.2.2.2.2
  have hc := d32_canon V
  rw [← h.2.2.1] at hc
  unfold badL
  rw [decide_eq_false (by omega), Bool.false_or]
  rcases hc.2 with h0 | h0
  · rw [decide_eq_false (by omega)]
    rfl
  · rw [beq_eq_false_iff_ne.2 h0, Bool.and_false]
theorem rX (h : IsR H p n c V) : rowX H p n c = true := h.1
theorem rOr (h : IsR H p n c V) (g : IsR H q n' c' W) : (badL (rowOf H p n) || badL (rowOf H q n')) = false := by rw [h.good, g.good]; rfl
theorem rMul (h : IsR H p n c V) (g : IsR H q n' c' W) : decide (mulR (rowOf H p n) (rowOf H q n') = dg (n + n') ((V * W : Nat) : Int)) = true := by
  refine decide_eq_true ?_
  unfold mulR
  rw [h.2.2.1, g.2.2.1, vN_d32, vN_d32, ← h.2.2.2.1, ← g.2.2.2.1, Int.natCast_mul]
theorem rCmpV (h : IsR H p n c V) (g : IsR H q n' c' W) : cmpL (rowOf H p n) (rowOf H q n') = cmpZ V W := by
  rw [h.2.2.1, g.2.2.1, cmpL_vb (d32_canon V) (d32_canon W), show vb 4294967296 (d32 V) = V from vb_db (by omega) V, show vb 4294967296 (d32 W) = W from vb_db (by omega) W]
  rfl
theorem rG (h : IsR H p n c V) (g : IsR H q n' c' W) (hp : 0 < n') (hle : W ≤ V) : (!(badL (rowOf H p n) || badL (rowOf H q n')) && decide (0 < n' ∧ ¬ cmpL (rowOf H p n) (rowOf H q n') < 0)) = true := by
  rw [rOr h g, rCmpV h g, decide_eq_true ⟨hp, by unfold cmpZ; rw [if_neg (by omega)]; split <;> omega⟩]
  rfl
theorem rDiv (h : IsR H p n c V) (g : IsR H q n' c' W) : decide (vN (rowOf H p n) / vN (rowOf H q n') = ((V / W : Nat) : Int) ∧ vN (rowOf H p n) % vN (rowOf H q n') = ((V % W : Nat) : Int)) = true := by
  rw [h.2.2.1, g.2.2.1, vN_d32, vN_d32]
  exact decide_eq_true ⟨(Int.natCast_ediv V W).symm, (Int.natCast_emod V W).symm⟩
end
theorem lns_0 (u : Int) : Fits (reckon (tabOf Tryz.prog extY conN true) 3000 126 [.int .u64 u] [tst false, tst false, tst false, tst false]) (lenE 0 u) [lt8 u, geq u 256 false, geq u 65536 false, geq u 4294967296 false, nz] := ⟨by kernel_rfl, by kernel_rfl, by kernel_rfl, by kernel_rfl⟩
theorem lns_1 (u : Int) : Fits (reckon (tabOf Tryz.prog extY conN true) 3000 126 [.int .u64 u] [tst false, tst false, tst false, tst true]) (lenE 8 (shd u 8)) [lt8 (shd u 8), nz, geq u 256 true, geq u 65536 false, geq u 4294967296 false, nz] := ⟨by kernel_rfl, by kernel_rfl, by kernel_rfl, by kernel_rfl⟩
theorem lns_calls (u : Int) (h0 : 0 ≤ u) (h1 : u < 65536) (w : World) : Calls Tryz.prog 126 #[.int .u64 u] w fun e w' => e = .returned (.int .i64 (bitLen u.toNat : Nat)) ∧ Tidy w w' := by
  obtain ⟨U, rfl⟩ := Int.eq_ofNat_of_zero_le h0
  rw [Int.toNat_natCast]
  have p8 : (2 : Nat) ^ 8 = 256 := rfl
  have step : ∀ {v : Value} {s : List Dec} {cs : Log}, Fits (reckon (tabOf Tryz.prog extY conN true) 3000 126 [.int .u64 (U : Int)] s) v cs → okLog cs → v = .int .i64 (bitLen U : Nat) → Calls Tryz.prog 126 #[.int .u64 (U : Int)] w fun e w' => e = .returned (.int .i64 (bitLen U : Nat)) ∧ Tidy w w' :=
    fun {v s cs} hf hc hv => by subst hv; exact fits_calls (tabY_ok conN_ok) hf hc (by rfl) (by rfl) w
  by_cases c : U < 256
  · obtain ⟨e1, e2⟩ := lenE_eq (m := 0) (by omega) (by omega) c
    exact step (lns_0 U) (okTwo e2 (okTwo (geq_f (by omega)) (okTwo (geq_f (by omega)) (okTwo (geq_f (by omega)) (okOne nz_ok))))) (by rw [e1]; congr 1; omega)
  · have l := len_up U 8 (by omega)
    obtain ⟨e1, e2⟩ := lenE_eq (m := 8) (Z := U / 2 ^ 8) (by omega) (by omega) (by omega)
    rw [← shd_eq] at e1 e2
    exact step (lns_1 U) (okTwo e2 (okTwo nz_ok (okTwo (geq_t (by omega)) (okTwo (geq_f (by omega)) (okTwo (geq_f (by omega)) (okOne nz_ok)))))) (by rw [e1]; congr 1; omega)
def gLenS : Ans := fun vals s =>
  match vals with
  | [.int .u64 x] => some (.int .i64 (bitLen x.toNat : Nat), s, [(decide (0 ≤ x ∧ x < 65536), true)])
  | _ => none
theorem gLenS_ok : AnsOk 126 gLenS := by
  intro vals s v s' lg h hl w
  unfold gLenS at h
  split at h
  · cases h
    have hr := hl _ (List.mem_singleton.2 rfl)
    simp only [decide_eq_true_eq] at hr
    exact lns_calls _ hr.1 hr.2 w
  · cases h
def conPw : Con := alt 126 gLenS conN
theorem conPw_ok : ConOk conPw := alt_ok Tryz.func126 rfl gLenS_ok conN_ok
/-! ### nat.Of -/
def hcOf : Hc := altH 131 gTrim hcN
theorem hcOf_ok : HcOk hcOf := altH_ok Tryz.func131 rfl gTrim_ok hcN_ok
theorem of_body : Tryz.f79.body = some (cBody Tryz.f79) := by kernel_rfl
def o2 (x : Int) : List Int := [IntKind.u32.wrap x, IntKind.u32.wrap (x.fdiv (2 ^ min (32 : Int).toNat 64))]
theorem of_go (x : Int) : GoesT (evC (tabH Tryz.prog extY conN hcOf) 100 false (cBody Tryz.f79) ([.int .u64 x] ++ List.replicate 9 undef, ⟨0, []⟩, []) ⟨[], [], []⟩) 3 7 (some none) [.int .u64 x, .tuple #[], sl 0 0 (trimN (cutI (wU (o2 x)) 0 2)) 2] ⟨1, [(wU (o2 x), tU)]⟩ [(rowOk tU (wU (o2 x)) 0 2 2, true), (decide ((32 : Int) < 0), false)] := ⟨by kernel_rfl, by kernel_rfl, by kernel_rfl⟩
theorem o2_eq {x : Int} (h0 : 0 ≤ x) (h1 : x < 18446744073709551616) : o2 x = dg 2 x := by
  have e : (2 : Int) ^ min (32 : Int).toNat 64 = 4294967296 := rfl
  unfold o2
  rw [e, Int.fdiv_eq_ediv_of_nonneg _ (by omega)]
  simp only [dg]
  have w : ∀ z : Int, IntKind.u32.wrap z = z % 4294967296 := fun z => by simp [IntKind.wrap, IntKind.bits, IntKind.signed]
  rw [w, w]
def gOfX : AnsH := fun vals h s =>
  match vals with
  | [.int .u64 x] => some (sl h.n 0 (trimN (dg 2 x)) 2, h.push (wU (dg 2 x)) tU, s, [(decide (0 ≤ x ∧ x < 18446744073709551616), true)])
  | _ => none
theorem gOfX_ok : AnsHOk 79 gOfX := by
  intro vals h s v h' s' lg hg hl m B w E hv
  have hr0 : (⟨0, []⟩ : Hp).rows := ⟨rfl, fun b x hx => by have : b < 0 := Hp.blk_lt hx; omega⟩
  unfold gOfX at hg
  split at hg
  · rename_i x
    cases hg
    have q := of_decide_eq_true (hl _ (List.mem_singleton.2 rfl))
    have hg := of_go x
    have hl2 := dg_len 2 x
    have ec : cutI (wU (dg 2 x)) 0 2 = dg 2 x := by
      have := cut_wU (dg 2 x)
      rw [hl2] at this
      exact this
    rw [o2_eq q.1 q.2, ec] at hg
    have hok : rowOk tU (wU (dg 2 x)) 0 2 2 = true := wU_rowAt (dg_wds _ _) (by omega) (by omega) (smallC_le (by omega))
    have r : RunsW (tabH Tryz.prog extY conN hcOf) (cBody Tryz.f79) ([.int .u64 x] ++ List.replicate 9 undef, ⟨0, []⟩, []) fun e z => (e = none ∨ e = some none) ∧ resS Tryz.prog Tryz.f79 z.1 z.2.1 = some (sl 0 0 (trimN (dg 2 x)) 2) ∧ ∃ r, z.2.1.blk? 0 = some (wU (dg 2 x) ++ r, tU) := by
      refine (goesT_runsW (tabH_ok conN_ok hcOf_ok) hg (okCons hok (okL1 (by decide)))).mono fun e z he => ?_
      obtain ⟨rfl, ⟨g, e1⟩, e2⟩ := he
      exact ⟨.inr rfl, by rw [e1, e2]; rfl, [], by rw [e2, List.append_nil]; rfl⟩
    exact row_calls1 (T := tabH Tryz.prog extY conN hcOf) Tryz.func79 of_body hr0 (vals := [.int .u64 x]) (fun v hv => by rw [List.mem_singleton.1 hv]; rfl) (k := 0) (cs := wU (dg 2 x)) (ty := tU) (wU_lt _) (by kernel_rfl) r (by simp [oc, oc2, oc1, sl]) E (s := fun i => i) (fun i x hx _ => by have : i < 0 := Hp.blk_lt hx; omega)
  · cases hg
def hcQ : Hc := altH 79 gOfX (altH 127 gPdN hcN)
theorem hcQ_ok : HcOk hcQ := altH_ok Tryz.func79 rfl gOfX_ok (altH_ok Tryz.func127 rfl gPdN_ok hcN_ok)
end Go.Proofs.YtgefjidphfdhdaaGreatDoor.Na
