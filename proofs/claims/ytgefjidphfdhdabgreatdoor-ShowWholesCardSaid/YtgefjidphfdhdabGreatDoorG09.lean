/-
  SlH, NumQ, ConNC, ConNB, UuX, ConND, NumTm, ConNM, ConNN, ConNO, ConNE, NumR
-/
import Derived.Test.YtgefjidphfdhdabGreatDoorG08
import Derived.Laws.MathBits
namespace Go.Proofs.YtgefjidphfdhdabGreatDoor.Na
open Go.KRun Go.Nt
set_option maxRecDepth 100000
set_option linter.unusedVariables false
/-! ### rows of the document's digits, rows of words -/
def Is32 (H : Hp) (p : Option Addr) (n c V : Nat) : Prop := rowP H p n c = true ∧ rowOf H p n = d32 V
theorem d32_wds (V : Nat) : wds (d32 V) := db_dg (by omega) V
theorem cut_take {L : List Int} (n : Nat) : cutI (wU L) 0 n = L.take n := by
  unfold cutI cutV wU
  rw [List.drop_zero, ← List.map_take, List.map_map]
  exact (List.map_congr_left fun z _ => rfl).trans (List.map_id' _)
theorem is32d {H : Hp} {b V m : Nat} (hb : H.blk? b = some (wU (dg m (V : Int)), tU)) (hV : V < 4294967296 ^ m) (hm : m ≤ 1000) : Is32 H (some ⟨b, 0, none⟩) (trimN (dg m (V : Int))) m V := by
  have hw := dg_wds m (V : Int)
  have hl := dg_len m (V : Int)
  have ht := trimN_le (dg m (V : Int))
  refine ⟨?_, ?_⟩
  · unfold rowP
    simp only [hb]
    unfold rowC
    have e1 : tomb tU = false := by kernel_rfl
    have e2 : Nat.beq (rt tU) tU = true := by kernel_rfl
    have e3 : Nat.ble (0 + trimN (dg m (V : Int))) (wU (dg m (V : Int))).length = true := Nat.ble_eq_true_of_le (by rw [wU_len]; omega)
    have e4 : Nat.blt (trimN (dg m (V : Int))) 4611686018427387904 = true := blt_iff.2 (by omega)
    have e5 : ((cutV (wU (dg m (V : Int))) 0 (trimN (dg m (V : Int)))).all isU) = true := by
      unfold cutV
      rw [List.drop_zero]
      refine List.all_eq_true.2 fun v hv => ?_
      have hv := List.mem_of_mem_take hv
      unfold wU at hv
      obtain ⟨x, hx, rfl⟩ := List.mem_map.1 hv
      exact decide_eq_true (hw x hx)
    have e6 : capOk 0 (trimN (dg m (V : Int))) m = true := by
      unfold capOk
      rw [show smallC m = true from blt_iff.2 (by have : dead = 4611686018427387904 := rfl; omega), Nat.ble_eq_true_of_le (by omega)]
      rfl
    rw [e1, e2, e3, e4, e5, e6, List.all_eq_true.2 (wU_still _)]
    rfl
  · unfold rowOf
    simp only [hb]
    rw [cut_take]
    refine take_dg ?_
    have : ((4294967296 ^ m : Nat) : Int) = 4294967296 ^ m := by rw [Int.natCast_pow]; rfl
    rw [← this]
    omega
end Go.Proofs.YtgefjidphfdhdabGreatDoor.Na
namespace Go.Nt
theorem dg_mod : ∀ (m : Nat) (V c : Int), dg m (V + 4294967296 ^ m * c) = dg m V
  | 0, _, _ => rfl
  | m + 1, V, c => by
    simp only [dg]
    rw [pw, Int.mul_assoc]
    generalize hZ : (4294967296 : Int) ^ m * c = Z
    have e1 : (V + 4294967296 * Z) % 4294967296 = V % 4294967296 := by omega
    have e2 : (V + 4294967296 * Z) / 4294967296 = V / 4294967296 + Z := by omega
    rw [e1, e2, ← hZ, dg_mod m]
/-- the two powers of a move by less than a word -/
theorem two_parts {k : Nat} (h : k ≤ 32) : (2 : Int) ^ k * 2 ^ (32 - k) = 4294967296 := by
  rw [← Int.pow_add, show k + (32 - k) = 32 from by omega]
  rfl
theorem or_add {k : Nat} {z y : Int} (z0 : 0 ≤ z) (y0 : 0 ≤ y) (y1 : y < 2 ^ k) (hs : 2 ^ k * z + y < 4294967296) : (((BitVec.ofInt 32 (2 ^ k * z) ||| BitVec.ofInt 32 y).toNat : Nat) : Int) = 2 ^ k * z + y := by
  obtain ⟨Z, rfl⟩ := Int.eq_ofNat_of_zero_le z0
  obtain ⟨Y, rfl⟩ := Int.eq_ofNat_of_zero_le y0
  have ex : (2 : Int) ^ k * (Z : Nat) = ((2 ^ k * Z : Nat) : Int) := by simp
  have hY : Y < 2 ^ k := by
    have : ((Y : Nat) : Int) < ((2 ^ k : Nat) : Int) := by simpa using y1
    exact Int.ofNat_lt.1 this
  rw [ex] at hs ⊢
  have hX : 2 ^ k * Z + Y < 4294967296 := by omega
  have e1 : ∀ m : Nat, m < 4294967296 → (BitVec.ofInt 32 (m : Int)).toNat = m := fun m hm => by
    simp
    omega
  rw [BitVec.toNat_or, e1 _ (by omega), e1 _ (by omega), ← Nat.two_pow_add_eq_or_of_lt hY]
  omega
/-- one word moved up -/
theorem up_word {x l q r : Int} (hq : 1 ≤ q) (hr : 1 ≤ r) (hqr : q * r = 4294967296) (hx : 0 ≤ x ∧ x < 4294967296) (hl : 0 ≤ l ∧ l < q) :
    x * q = 4294967296 * (x / r) + q * (x % r) ∧ 0 ≤ q * (x % r) ∧ q * (x % r) + l < 4294967296 ∧ 0 ≤ x / r ∧ x / r < q := by
  have h1 := Int.mul_ediv_add_emod x r
  have h2 := Int.emod_nonneg x (show r ≠ 0 by omega)
  have h3 := Int.emod_lt_of_pos x (show 0 < r by omega)
  have h4 : 0 ≤ x / r := Int.ediv_nonneg hx.1 (by omega)
  generalize x / r = hi at *
  generalize x % r = lo at *
  have e1 : x * q = 4294967296 * hi + q * lo := by
    rw [← h1, ← hqr, Int.add_mul, Int.mul_assoc q r hi, Int.mul_comm (r * hi) q, Int.mul_comm lo q]
  have e2 : q * lo + q ≤ 4294967296 := by
    have := Int.mul_le_mul_of_nonneg_left (show lo + 1 ≤ r by omega) (show 0 ≤ q by omega)
    rw [Int.mul_add, Int.mul_one, hqr] at this
    exact this
  refine ⟨e1, Int.mul_nonneg (by omega) h2, by omega, h4, ?_⟩
  rcases Int.lt_or_le hi q with h | h
  · exact h
  · exfalso
    have := Int.mul_le_mul_of_nonneg_left h (show 0 ≤ r by omega)
    rw [Int.mul_comm r q, hqr] at this
    omega
/-- one word more of a number moved up -/
theorem up_step {P a b q x l d e A : Int} (he : x * q + l = d + 4294967296 * e) (h : a + P * ((x + 4294967296 * A) * q + l) = b) : a + P * d + 4294967296 * P * (A * q + e) = b := by
  rw [← h]
  have e1 : (x + 4294967296 * A) * q + l = d + 4294967296 * (A * q + e) := by
    rw [Int.add_mul, Int.mul_assoc]
    omega
  rw [e1]
  generalize A * q + e = Z
  rw [Int.mul_add P d, ← Int.mul_assoc P 4294967296 Z, Int.mul_comm P 4294967296]
  omega
end Go.Nt
namespace Go.Proofs.YtgefjidphfdhdabGreatDoor.Na
open Go.KRun Go.Nt
set_option maxRecDepth 100000
def upU (x k : Int) : Int := IntKind.u32.wrap (x * 2 ^ min k.toNat 32)
def newU (x k l : Int) : Int := brr (upU x k) l
def lowU (x k : Int) : Int := x.fdiv (2 ^ min (IntKind.i64.wrap (32 - k)).toNat 32)
theorem up32 {x l : Int} {k : Nat} (hx : 0 ≤ x ∧ x < 4294967296) (hl : 0 ≤ l ∧ l < 2 ^ k) (hk : k < 32) :
    (0 ≤ newU x k l ∧ newU x k l < 4294967296) ∧ (0 ≤ lowU x k ∧ lowU x k < 2 ^ k) ∧ x * 2 ^ k + l = newU x k l + 4294967296 * lowU x k := by
  have q1 : (1 : Int) ≤ 2 ^ k := by have : (0 : Int) < 2 ^ k := Int.pow_pos (by omega); omega
  have r1 : (1 : Int) ≤ 2 ^ (32 - k) := by have : (0 : Int) < 2 ^ (32 - k) := Int.pow_pos (by omega); omega
  obtain ⟨u1, u2, u3, u4, u5⟩ := up_word q1 r1 (two_parts (by omega)) hx hl
  have eL : lowU x k = x / 2 ^ (32 - k) := by
    unfold lowU
    rw [wrapI (by omega) (by omega), show min ((32 : Int) - (k : Nat)).toNat 32 = 32 - k from by omega, Int.fdiv_eq_ediv_of_nonneg _ (by omega)]
  have eU : upU x k = 2 ^ k * (x % 2 ^ (32 - k)) := by
    unfold upU
    rw [Int.toNat_natCast, show min k 32 = k from by omega, u32w, u1]
    omega
  have lo0 := Int.emod_nonneg x (show (2 : Int) ^ (32 - k) ≠ 0 by omega)
  have eN : newU x k l = 2 ^ k * (x % 2 ^ (32 - k)) + l := by
    unfold newU brr
    rw [eU, or_add lo0 hl.1 hl.2 u3, u32w]
    omega
  rw [eL, eN]
  omega
def mR0 (F : Func) : List Code := [cFst (cBody F), cFst (cSnd (cBody F))]
def mL (F : Func) : Code := cIn (cIn (cSnd (cSnd (cBody F))))
theorem mup_body : Tryz.f59.body = some (seqs (mR0 Tryz.f59) (.block 0 (.loop (mL Tryz.f59)))) := by kernel_rfl
def mF (w k l i x s n j : Value) : List Value := [w, k, undef, undef, l, i, x, s, n, j]
def hU (S la : List Value) : Hp := ⟨2, [(S, tU), (la, tR)]⟩
theorem mup_pre (b o n c : Nat) (k : Value) (h : Hp) : GoesT (evL (tabOf Tryz.prog extY conN true) 100 (mR0 Tryz.f59) ([sl b o n c, k] ++ List.replicate 25 undef, h, []) ⟨[], [], []⟩) 10 17 none (mF (sl b o n c) k (uu 0) undef undef (sl b o n c) (i6' n) (i6' 0)) h [] := ⟨by kernel_rfl, by kernel_rfl, by kernel_rfl⟩
theorem mup_out (w k l i x s : Value) (n : Nat) (j : Int) (h : Hp) (g : Nat → Value) : GoesT (evC (tabOf Tryz.prog extY conN true) 100 false (mL Tryz.f59) (mF w k l i x s (i6' n) (i6' j) ++ tl 17 g, h, [cmp false]) ⟨[], [], []⟩) 10 17 (some (some 0)) (mF w k l i x s (i6' n) (i6' j)) h [(decide (j < n), false)] := ⟨by kernel_rfl, by kernel_rfl, by kernel_rfl⟩
theorem mup_go (o n c : Nat) (k l j x : Int) (i0 x0 : Value) (la S : List Value) (g : Nat → Value) : GoesT (evC (tabOf Tryz.prog extY conN true) 100 false (mL Tryz.f59) (mF (sl 1 o n c) (i6' k) (uu l) i0 x0 (sl 1 o n c) (i6' n) (i6' j) ++ tl 17 g, hU S la, [cmp true, at_, val (uu x), at_, at_]) ⟨[], [], []⟩) 10 17 none
    (mF (sl 1 o n c) (i6' k) (uu (lowU x k)) (i6' j) (uu x) (sl 1 o n c) (i6' n) (i6' (IntKind.i64.wrap (j + 1)))) (hU (S.set (o + j.toNat * 1) (uu (newU x k l))) la) [(decide (IntKind.i64.wrap (32 - k) < 0), false), (decide (o + j.toNat * 1 < S.length), true), inR j n, (decide (k < 0), false), celR S o j x, inR j n, (decide (j < n), true)] := ⟨by kernel_rfl, by kernel_rfl, by kernel_rfl⟩
theorem mup_res (w k l i x s n j : Value) (h : Hp) (g : Nat → Value) : resS Tryz.prog Tryz.f59 (mF w k l i x s n j ++ tl 17 g) h = some (.tuple #[]) := by kernel_rfl
/-- the table of the library: how many bits a byte has -/
def lenTab : List UInt8 := (List.range 256).map fun i => UInt8.ofNat (bitLen i)
def byteLen (z : Int) : Int := ((lenTab.getD (IntKind.u8.wrap z).toNat 0).toNat : Int)
def lt8 (z : Int) : Bool × Bool := (decide (0 ≤ IntKind.u8.wrap z ∧ (IntKind.u8.wrap z).toNat < lenTab.length), true)
def shd (z : Int) (k : Nat) : Int := z.fdiv (2 ^ k)
def geq (z k : Int) (d : Bool) : Bool × Bool := (decide (z ≥ k), d)
def lenE (m z : Int) : Value := .int .i64 (IntKind.i64.wrap (m + IntKind.i64.wrap (byteLen z)))
def nz : Bool × Bool := (false, false)
theorem len_00 (u : Int) : Fits (reckon (tabOf Tryz.prog extY conN true) 3000 88 [uu u] [tst false, tst false]) (lenE 0 u) [lt8 u, geq u 256 false, geq u 65536 false] := ⟨by kernel_rfl, by kernel_rfl, by kernel_rfl, by kernel_rfl⟩
theorem len_01 (u : Int) : Fits (reckon (tabOf Tryz.prog extY conN true) 3000 88 [uu u] [tst false, tst true]) (lenE 8 (shd u 8)) [lt8 (shd u 8), nz, geq u 256 true, geq u 65536 false] := ⟨by kernel_rfl, by kernel_rfl, by kernel_rfl, by kernel_rfl⟩
theorem len_10 (u : Int) : Fits (reckon (tabOf Tryz.prog extY conN true) 3000 88 [uu u] [tst true, tst false]) (lenE 16 (shd u 16)) [lt8 (shd u 16), geq (shd u 16) 256 false, nz, geq u 65536 true] := ⟨by kernel_rfl, by kernel_rfl, by kernel_rfl, by kernel_rfl⟩
theorem len_11 (u : Int) : Fits (reckon (tabOf Tryz.prog extY conN true) 3000 88 [uu u] [tst true, tst true]) (lenE 24 (shd (shd u 16) 8)) [lt8 (shd (shd u 16) 8), nz, geq (shd u 16) 256 true, nz, geq u 65536 true] := ⟨by kernel_rfl, by kernel_rfl, by kernel_rfl, by kernel_rfl⟩
theorem lenTab_len : lenTab.length = 256 := by unfold lenTab; rw [List.length_map, List.length_range]
theorem lenTab_get (b : Nat) (h : b < 256) : (lenTab.getD b 0).toNat = bitLen b := by
  have h1 : lenTab.getD b 0 = UInt8.ofNat (bitLen b) := by
    unfold lenTab
    rw [List.getD, List.getElem?_map, List.getElem?_range h]
    rfl
  have h2 := bitLen_le8 b h
  rw [h1, UInt8.toNat_ofNat']
  omega
theorem u8_wrap {z : Int} (h0 : 0 ≤ z) (h1 : z < 256) : IntKind.u8.wrap z = z := by
  simp [IntKind.wrap, IntKind.bits, IntKind.signed]; omega
theorem lenE_eq {m : Int} {Z : Nat} (hm : 0 ≤ m) (hm' : m ≤ 56) (h1 : Z < 256) : lenE m (Z : Int) = .int .i64 (m + bitLen Z) ∧ (lt8 (Z : Int)).1 = (lt8 (Z : Int)).2 := by
  have hb := bitLen_le8 Z h1
  have e := u8_wrap (z := (Z : Int)) (by omega) (by omega)
  refine ⟨?_, ?_⟩
  · unfold lenE byteLen
    rw [e, Int.toNat_natCast, lenTab_get Z h1, wrapI (n := ((bitLen Z : Nat) : Int)) (by omega) (by omega), wrapI (by omega) (by omega)]
  · unfold lt8
    rw [e, Int.toNat_natCast]
    rw [lenTab_len]
    exact decide_eq_true (And.intro (by omega) h1)
theorem shd_eq (Z k : Nat) : shd (Z : Int) k = ((Z / 2 ^ k : Nat) : Int) := by
  unfold shd
  rw [Int.fdiv_eq_ediv_of_nonneg _ (Int.le_of_lt (Int.pow_pos (by omega)))]
  simp
theorem geq_t {z k : Int} (h : k ≤ z) : (geq z k true).1 = (geq z k true).2 := decide_eq_true h
theorem geq_f {z k : Int} (h : z < k) : (geq z k false).1 = (geq z k false).2 := decide_eq_false (by omega)
theorem nz_ok : nz.1 = nz.2 := rfl
theorem len_up (x b : Nat) (h : 2 ^ b ≤ x) : bitLen x = b + bitLen (x / 2 ^ b) := bitLen_shift x b (by
  have : 0 < x / 2 ^ b := Nat.div_pos h (Nat.two_pow_pos b)
  omega)
def len32V (u : Int) : Value := .int .i64 (bitLen u.toNat : Nat)
theorem len32_calls (u : Int) (h0 : 0 ≤ u) (h1 : u < 4294967296) (w : World) : Calls Tryz.prog 88 #[uu u] w fun e w' => e = .returned (len32V u) ∧ Tidy w w' := by
  obtain ⟨U, rfl⟩ := Int.eq_ofNat_of_zero_le h0
  unfold len32V
  rw [Int.toNat_natCast]
  have p8 : (2 : Nat) ^ 8 = 256 := rfl
  have p16 : (2 : Nat) ^ 16 = 65536 := rfl
  have step : ∀ {v : Value} {s : List Dec} {cs : Log}, Fits (reckon (tabOf Tryz.prog extY conN true) 3000 88 [uu (U : Int)] s) v cs → okLog cs → v = .int .i64 (bitLen U : Nat) → Calls Tryz.prog 88 #[uu (U : Int)] w fun e w' => e = .returned (.int .i64 (bitLen U : Nat)) ∧ Tidy w w' :=
    fun {v s cs} hf hc hv => by subst hv; exact fits_calls (tabY_ok conN_ok) hf hc (by rfl) (by rfl) w
  by_cases b : U < 65536
  · by_cases c : U < 256
    · obtain ⟨e1, e2⟩ := lenE_eq (m := 0) (by omega) (by omega) c
      exact step (len_00 U) (okTwo e2 (okTwo (geq_f (by omega)) (okOne (geq_f (by omega))))) (by rw [e1]; congr 1; omega)
    · have l := len_up U 8 (by omega)
      obtain ⟨e1, e2⟩ := lenE_eq (m := 8) (Z := U / 2 ^ 8) (by omega) (by omega) (by omega)
      rw [← shd_eq] at e1 e2
      exact step (len_01 U) (okTwo e2 (okTwo nz_ok (okTwo (geq_t (by omega)) (okOne (geq_f (by omega)))))) (by rw [e1]; congr 1; omega)
  · have l := len_up U 16 (by omega)
    by_cases c : U / 2 ^ 16 < 256
    · obtain ⟨e1, e2⟩ := lenE_eq (m := 16) (Z := U / 2 ^ 16) (by omega) (by omega) c
      rw [← shd_eq] at e1 e2
      exact step (len_10 U) (okTwo e2 (okTwo (geq_f (by rw [shd_eq]; omega)) (okTwo nz_ok (okOne (geq_t (by omega)))))) (by rw [e1]; congr 1; omega)
    · have l2 := len_up (U / 2 ^ 16) 8 (by omega)
      obtain ⟨e1, e2⟩ := lenE_eq (m := 24) (Z := U / 2 ^ 16 / 2 ^ 8) (by omega) (by omega) (by omega)
      rw [← shd_eq, ← shd_eq] at e1 e2
      exact step (len_11 U) (okTwo e2 (okTwo nz_ok (okTwo (geq_t (by rw [shd_eq]; omega)) (okTwo nz_ok (okOne (geq_t (by omega))))))) (by rw [e1]; congr 1; omega)
def gLen32 : Ans := fun vals s =>
  match vals with
  | [.int .u32 x] => some (len32V x, s, [(decide (0 ≤ x ∧ x < 4294967296), true)])
  | _ => none
theorem gLen32_ok : AnsOk 88 gLen32 := by
  intro vals s v s' lg h hl w
  unfold gLen32 at h
  split at h
  · rename_i x
    cases h
    have hr := hl _ (List.mem_singleton.2 rfl)
    simp only [decide_eq_true_eq] at hr
    exact len32_calls x hr.1 hr.2 w
  · cases h
/-! ### Len -/
def conL : Con := alt 88 gLen32 conN
theorem conL_ok : ConOk conL := alt_ok Tryz.func88 rfl gLen32_ok conN_ok
theorem nlen_body : Tryz.f58.body = some (cBody Tryz.f58) := by kernel_rfl
theorem nlen_0 (p : Option Addr) (n c : Nat) (h : Hp) : GoesT (evC (tabH Tryz.prog extY conL hcK) 100 false (cBody Tryz.f58) ([.slice p n c] ++ List.replicate 22 undef, h, [cmp true]) ⟨[], [], []⟩) 3 20 (some none) [.slice p n c, undef, i6' 0] h [((n : Int) == 0, true)] := ⟨by kernel_rfl, by kernel_rfl, by kernel_rfl⟩
theorem nlen_bad (o n c : Nat) (l : List Value) : GoesT (evC (tabH Tryz.prog extY conL hcK) 100 false (cBody Tryz.f58) ([sl 0 o n c] ++ List.replicate 22 undef, ⟨1, [(l, tR)]⟩, [cmp false, cmp true]) ⟨[], [], []⟩) 3 20 (some none) [sl 0 o n c, undef, i6' 0] ⟨1, [(l, tR)]⟩ [chkL l o n c, (badL (cutI l o n), true), ((n : Int) == 0, false)] := ⟨by kernel_rfl, by kernel_rfl, by kernel_rfl⟩
theorem nlen_good (o n c : Nat) (x : Int) (l : List Value) : GoesT (evC (tabH Tryz.prog extY conL hcK) 100 false (cBody Tryz.f58) ([sl 0 o n c] ++ List.replicate 22 undef, ⟨1, [(l, tR)]⟩, [cmp false, cmp false, at_, val (uu x)]) ⟨[], [], []⟩) 3 20 (some none) [sl 0 o n c, undef, i6' (IntKind.i64.wrap (IntKind.i64.wrap (n1 n * 32) + (bitLen x.toNat : Nat)))] ⟨1, [(l, tR)]⟩ [(decide (0 ≤ x ∧ x < 4294967296), true), (cellIs (l[o + (n1 n).toNat * 1]?) (.int .u32 x), true), (decide (0 ≤ n1 n ∧ n1 n < n), true), chkL l o n c, (badL (cutI l o n), false), ((n : Int) == 0, false)] := ⟨by kernel_rfl, by kernel_rfl, by kernel_rfl⟩
def lenN (L : List Int) : Int := match (L.length == 0 || badL L) with | true => 0 | false => 32 * ((L.length - 1 : Nat) : Int) + (bitLen (L.getD (L.length - 1) 0).toNat : Nat)
theorem bitLen_32 {x : Int} (h0 : 0 ≤ x) (h1 : x < 4294967296) : bitLen x.toNat ≤ 32 := by
  by_cases h : 65536 ≤ x.toNat
  · have p8 : (2 : Nat) ^ 8 = 256 := rfl
    have p16 : (2 : Nat) ^ 16 = 65536 := rfl
    have l := len_up x.toNat 16 (by omega)
    by_cases h2 : 256 ≤ x.toNat / 2 ^ 16
    · have l2 := len_up (x.toNat / 2 ^ 16) 8 (by omega)
      have := bitLen_le8 (x.toNat / 2 ^ 16 / 2 ^ 8) (by omega)
      omega
    · have := bitLen_le8 (x.toNat / 2 ^ 16) (by omega)
      omega
  · have p8 : (2 : Nat) ^ 8 = 256 := rfl
    by_cases h2 : 256 ≤ x.toNat
    · have l2 := len_up x.toNat 8 (by omega)
      have := bitLen_le8 (x.toNat / 2 ^ 8) (by omega)
      omega
    · have := bitLen_le8 x.toNat (by omega)
      omega
theorem nlen_runs {l : List Value} {o n c : Nat} (ha : rowOk tR l o n c = true) :
    Runs (tabH Tryz.prog extY conL hcK) (cBody Tryz.f58) ([sl 0 o n c] ++ List.replicate 22 undef, ⟨1, [(l, tR)]⟩, []) fun e y => (e = none ∨ e = some none) ∧ resS Tryz.prog Tryz.f58 y.1 y.2.1 = some (i6' (lenN (cutI l o n))) := by
  obtain ⟨a1, a2, a3, a4, a5, a6, a7⟩ := row_of ha
  unfold lenN
  by_cases h0 : n = 0
  · have e0 : ((cutI l o n).length == 0) = true := by rw [a2, h0]; rfl
    rw [e0, Bool.true_or]
    refine (goesT_runs (tabH_ok conL_ok hcK_ok) (nlen_0 (some ⟨0, o, none⟩) n c _) (okOne (by rw [h0]; rfl))).mono fun e y he => ?_
    obtain ⟨rfl, ⟨g, e2⟩, e3⟩ := he
    refine ⟨.inr rfl, ?_⟩
    rw [e2, e3]
    rfl
  · have e0 : ((cutI l o n).length == 0) = false := by rw [a2]; simpa using h0
    have e1 : ((n : Int) == 0) = false := by simpa using h0
    rw [e0, Bool.false_or]
    cases hb : badL (cutI l o n) with
    | true =>
      refine (goesT_runs (tabH_ok conL_ok hcK_ok) (nlen_bad o n c l) (okTwo ha (okTwo hb (okOne e1)))).mono fun e y he => ?_
      obtain ⟨rfl, ⟨g, e2⟩, e3⟩ := he
      refine ⟨.inr rfl, ?_⟩
      rw [e2, e3]
      rfl
    | false =>
      have h8 : n ≤ 8192 := by
        unfold badL at hb
        simp only [Bool.or_eq_false_iff, decide_eq_false_iff_not, a2] at hb
        omega
      have ek : n1 n = ((n - 1 : Nat) : Int) := by
        unfold n1
        rw [wrapI (by omega) (by omega)]
        omega
      rw [a2]
      have hx := a1.rng ((cutI l o n).getD (n - 1) 0) (by
        have hk' : n - 1 < (cutI l o n).length := by omega
        simp [List.getD, List.getElem?_eq_getElem hk'])
      have hc := a1.cell (k := n - 1) (by omega)
      have b32 := bitLen_32 hx.1 hx.2
      refine (goesT_runs (tabH_ok conL_ok hcK_ok) (nlen_good o n c ((cutI l o n).getD (n - 1) 0) l) (okTwo (decide_eq_true hx) (okTwo (by
        rw [ek, Int.toNat_natCast, Nat.mul_one, hc]; simp [cellIs]) (okTwo (by rw [ek]; exact decide_eq_true (by omega)) (okTwo ha (okTwo hb (okOne e1))))))).mono fun e y he => ?_
      obtain ⟨rfl, ⟨g, e2⟩, e3⟩ := he
      refine ⟨.inr rfl, ?_⟩
      have e4 : IntKind.i64.wrap (IntKind.i64.wrap (n1 n * 32) + (bitLen ((cutI l o n).getD (n - 1) 0).toNat : Nat)) = 32 * ((n - 1 : Nat) : Int) + (bitLen ((cutI l o n).getD (n - 1) 0).toNat : Nat) := by
        rw [ek, wrapI (n := ((n - 1 : Nat) : Int) * 32) (by omega) (by omega), wrapI (by omega) (by omega)]
        omega
      rw [e2, e3, e4]
      rfl
theorem nlen_nil : Fits (reckon (tabOf Tryz.prog extY conN true) 100 58 [nilS] []) (i6' 0) [] := ⟨by kernel_rfl, by kernel_rfl, by kernel_rfl, by kernel_rfl⟩
def gLen : AnsH := fun vals h s =>
  match vals with
  | [.slice none 0 0] => some (i6' 0, h, s, [])
  | [.slice (some ⟨b, o, none⟩) n c] =>
    match h.blk? b with
    | some x => some (i6' (lenN (cutI x.1 o n)), h, s, [(rowOk x.2 x.1 o n c, true)])
    | _ => none
  | _ => none
theorem gLen_ok : AnsHOk 58 gLen := by
  intro vals h s v h' s' lg hg hl m B w E hv
  unfold gLen at hg
  split at hg
  · cases hg
    refine (fits_calls (tabY_ok conN_ok) nlen_nil (fun x hx => by cases hx) (by rfl) (by rfl) w).mono fun e w' he => ?_
    obtain ⟨E', hb⟩ := clean_emb E he.2
    exact ⟨m, he.1, ⟨Agree.refl _ _, E', hb, Nat.le_refl _, rfl⟩⟩
  · rename_i b o n c
    split at hg
    · rename_i x hx
      cases hg
      have ra := hl _ (List.mem_singleton.2 rfl)
      obtain ⟨h1, h2, h3, h4, h5, h6, h7⟩ := row_of ra
      have hlt := Hp.blk_lt hx
      have r := nlen_runs (rowOk_R ra)
      have := row_calls (T := tabH Tryz.prog extY conL hcK) Tryz.func58 nlen_body (rows1 h7) (vals := [sl 0 o n c]) (fun v hv => by rw [List.mem_singleton.1 hv]; rfl) (by rfl) r E (s := fun _ => b) (fun i _ => hlt) (fitsR1 hx h5 h6 rfl)
      exact this.mono fun e w' he => ⟨m, he.1, he.2⟩
    · cases hg
  · cases hg
end Go.Proofs.YtgefjidphfdhdabGreatDoor.Na
namespace Go.Proofs.YtgefjidphfdhdabGreatDoor
open Go.KRun Go.Nt
set_option maxRecDepth 100000
theorem wU_allS (L : List Int) : (wU L).all still = true := by
  unfold wU
  rw [List.all_eq_true]
  intro v hv
  obtain ⟨x, _, rfl⟩ := List.mem_map.1 hv
  rfl
end Go.Proofs.YtgefjidphfdhdabGreatDoor
namespace Go.Proofs.YtgefjidphfdhdabGreatDoor.Na
open Go.KRun Go.Nt
set_option maxRecDepth 100000
theorem fU_get {F : List Value} {o : Nat} (hF : F.length = o) (dx : List Int) (x : Int) (px : List Int) : (F ++ wU (dx ++ x :: px))[o + dx.length]? = some (uu x) := by
  rw [List.getElem?_append_right (by omega), hF, Nat.add_sub_cancel_left]
  exact wU_get dx x px
theorem fU_set {F : List Value} {o : Nat} (hF : F.length = o) (dx : List Int) (x d : Int) (px : List Int) : (F ++ wU (dx ++ x :: px)).set (o + dx.length) (uu d) = F ++ wU ((dx ++ [d]) ++ px) := by
  rw [List.set_append_right _ _ (by omega), hF, Nat.add_sub_cancel_left, wU_set]
theorem mup_runs {F la : List Value} {o c k : Nat} {L : List Int} (hF : F.length = o) (hL : wds L) (hk : k < 32) (hN : L.length < 4611686018427387904) :
    Runs (tabOf Tryz.prog extY conN true) (seqs (mR0 Tryz.f59) (.block 0 (.loop (mL Tryz.f59)))) ([sl 1 o L.length c, i6' k] ++ List.replicate 25 undef, hU (F ++ wU L) la, []) fun e y => (e = none ∨ e = some none) ∧ resS Tryz.prog Tryz.f59 y.1 y.2.1 = some (.tuple #[]) ∧ y.2.1.cut 2 = hU (F ++ wU (dg L.length (vN L * 2 ^ k))) la := by
  refine goesT_list (tabY_ok conN_ok) (mup_pre 1 o L.length c (i6' k) _) (fun x hx => by cases hx) fun g => ?_
  refine (Runs.forLoop (R := fun _ => False) (P := fun y => ∃ (l i x j : Value) (g : Nat → Value), y.1 = mF (sl 1 o L.length c) (i6' k) l i x (sl 1 o L.length c) (i6' L.length) j ++ tl 17 g ∧ y.2.1 = hU (F ++ wU (dg L.length (vN L * 2 ^ k))) la)
    (fun r y => ∃ (dx px : List Int) (l : Int) (i0 x0 : Value) (g : Nat → Value), px.length = r ∧ dx.length + px.length = L.length ∧ wds dx ∧ wds px ∧ (0 ≤ l ∧ l < 2 ^ k) ∧ y.1 = mF (sl 1 o L.length c) (i6' k) (uu l) i0 x0 (sl 1 o L.length c) (i6' L.length) (i6' dx.length) ++ tl 17 g ∧ y.2.1 = hU (F ++ wU (dx ++ px)) la ∧ vN dx + 4294967296 ^ dx.length * (vN px * 2 ^ k + l) = vN L * 2 ^ k)
    ?_ (n := L.length) ⟨[], L, 0, undef, undef, g, rfl, by simp, (fun x hx => by cases hx), hL, ⟨by omega, Int.pow_pos (by omega)⟩, rfl, rfl, by simp [vN]⟩).mono fun e' y he => ?_
  · rintro r ⟨t, h', s'⟩ ⟨dx, px, l, i0, x0, g, hr, hl, wd1, wd2, hlo, ht, hh, hv⟩
    simp only at ht hh
    subst ht hh
    match px, hr, hl, wd2, hv with
    | [], hr, hl, wd2, hv =>
      have hl' : dx.length = L.length := by simpa using hl
      refine (goesT_runs (tabY_ok conN_ok) (mup_out _ _ _ _ _ _ L.length dx.length _ g) (okOne (decide_eq_false (by omega)))).mono fun e' y he => ?_
      obtain ⟨rfl, ⟨g1, e2⟩, e3⟩ := he
      refine ⟨rfl, _, _, _, _, g1, e2, ?_⟩
      simp only [vN] at hv
      rw [Int.zero_mul, Int.zero_add] at hv
      have e5 := dg_mod dx.length (vN dx) l
      rw [hv, dg_vN dx wd1, hl'] at e5
      rw [e3, e5, List.append_nil]
    | x :: px, hr, hl, wd2, hv =>
      obtain ⟨wx, wd2⟩ := wds_tail wd2
      obtain ⟨k1, k2, k3⟩ := up32 wx hlo hk
      have cS := fU_get hF dx x px
      have lS : (F ++ wU (dx ++ x :: px)).length = o + L.length := by
        unfold wU
        simp at hl ⊢
        omega
      have hl' : dx.length < L.length := by simp at hl; omega
      have l1 : decide (o + ((dx.length : Int)).toNat * 1 < (F ++ wU (dx ++ x :: px)).length) = true := by
        rw [lS, Int.toNat_natCast]
        exact decide_eq_true (by omega)
      have l2 : (inR dx.length L.length).1 = (inR dx.length L.length).2 := decide_eq_true (by omega)
      have l4 : (celR (F ++ wU (dx ++ x :: px)) o dx.length x).1 = (celR (F ++ wU (dx ++ x :: px)) o dx.length x).2 := cel_ok cS
      have e32 : IntKind.i64.wrap (32 - (k : Int)) = 32 - (k : Int) := wrapI (by omega) (by omega)
      have l5 : decide (IntKind.i64.wrap (32 - (k : Int)) < 0) = false := by
        rw [e32]
        exact decide_eq_false (by omega)
      have l6 : decide ((k : Int) < 0) = false := decide_eq_false (by omega)
      have l7 : decide ((dx.length : Int) < (L.length : Nat)) = true := decide_eq_true (by omega)
      refine (goesT_runs (tabY_ok conN_ok) (mup_go o L.length c k l dx.length x i0 x0 la (F ++ wU (dx ++ x :: px)) g) (okTwo l5 (okTwo l1 (okTwo l2 (okTwo l6 (okTwo l4 (okTwo l2 (okOne l7)))))))).mono fun e' y he => ?_
      obtain ⟨rfl, ⟨g1, e2⟩, e3⟩ := he
      refine ⟨px.length, by simp at hr; omega, dx ++ [newU x k l], px, lowU x k, i6' dx.length, uu x, g1, rfl, by simp at hl ⊢; omega, wds_app wd1 (fun z hz => by rw [List.mem_singleton.1 hz]; exact k1), wd2, k2, ?_, ?_, ?_⟩
      · rw [e2, wrapI (by omega) (by omega)]
        simp
      · rw [e3, Int.toNat_natCast, Nat.mul_one, fU_set hF]
      · simp only [vN] at hv
        rw [vN_snoc, List.length_append, List.length_singleton, pw]
        exact up_step k3 hv
  · match e', he with
    | none, he =>
      obtain ⟨l, i, x, j, g, e1, e2⟩ := he
      refine ⟨.inl rfl, ?_, ?_⟩
      · rw [e1]; exact mup_res _ _ _ _ _ _ _ _ _ _
      · rw [e2]; rfl
    | some none, he => exact he.elim
    | some (some _), he => exact he.elim
def upS (S : List Value) (o n : Nat) (k : Int) : List Value := S.take o ++ wU (dg n (vN (cutI S o n) * 2 ^ k.toNat))
def gMup : AnsH := fun vals h s =>
  match vals, h with
  | [.slice (some ⟨1, o, none⟩) n c, .int .i64 k], ⟨2, [(S, t), (la, t')]⟩ => some (.tuple #[], ⟨2, [(upS S o n k, tU), (la, tR)]⟩, s, [(Nat.beq t tU, true), (Nat.beq t' tR, true), (rowOk t S o n c, true), (Nat.beq (o + n) S.length, true), (la.all still, true), (decide (0 ≤ k ∧ k < 32), true)])
  | _, _ => none
theorem wU_tight (L : List Int) (n : Nat) : (wU L).all (lt1 n) = true := by
  unfold wU
  rw [List.all_eq_true]
  intro v hv
  obtain ⟨x, _, rfl⟩ := List.mem_map.1 hv
  rfl
theorem all_mono {l : List Value} {n : Nat} (hn : 0 < n) (h : l.all still = true) : l.all (lt1 n) = true := by
  rw [List.all_eq_true] at *
  exact fun v hv => still_lt hn (h v hv)
theorem gMup_ok : AnsHOk 59 gMup := by
  intro vals h s v h' s' lg hg hl m B w E hv
  unfold gMup at hg
  split at hg
  · rename_i o n c k S t la t'
    cases hg
    have q1 := Nat.eq_of_beq_eq_true (hl _ (List.mem_cons_self))
    have q2 := Nat.eq_of_beq_eq_true (hl _ (List.mem_cons_of_mem _ List.mem_cons_self))
    have ra := hl _ (List.mem_cons_of_mem _ (List.mem_cons_of_mem _ List.mem_cons_self))
    have q4 := Nat.eq_of_beq_eq_true (hl _ (List.mem_cons_of_mem _ (List.mem_cons_of_mem _ (List.mem_cons_of_mem _ List.mem_cons_self))))
    have q5 := hl _ (List.mem_cons_of_mem _ (List.mem_cons_of_mem _ (List.mem_cons_of_mem _ (List.mem_cons_of_mem _ List.mem_cons_self))))
    have q6 := of_decide_eq_true (hl _ (List.mem_cons_of_mem _ (List.mem_cons_of_mem _ (List.mem_cons_of_mem _ (List.mem_cons_of_mem _ (List.mem_cons_of_mem _ (List.mem_singleton.2 rfl)))))))
    simp only at q1 q2 q4 q5
    subst q1 q2
    obtain ⟨a1, a2, a3, a4, a5, a6, a7⟩ := row_of ra
    obtain ⟨K, rfl⟩ := Int.eq_ofNat_of_zero_le q6.1
    have hc : c < 4611686018427387904 := blt_iff.1 a4
    have eS : S = S.take o ++ wU (cutI S o n) := by
      have h1 := a1.cut
      rw [a2] at h1
      rw [← h1]
      unfold cutV
      rw [show n = (S.drop o).length from by simp; omega, List.take_length, List.take_append_drop]
    have hF : (S.take o).length = o := by simp; omega
    have r := mup_runs (la := la) (c := c) (k := K) hF a1.rng (by omega) (by omega)
    rw [a2, ← eS] at r
    have ht : (Hp.tight ⟨2, [(upS S o n K, tU), (la, tR)]⟩) = true := by
      unfold Hp.tight upS
      simp only [List.all_cons, List.all_nil, List.all_append, Bool.and_true, Bool.and_eq_true]
      refine ⟨⟨?_, wU_tight _ _⟩, all_mono (by omega) q5⟩
      rw [List.all_eq_true]
      exact fun v hv => still_lt (by omega) (a7 v (List.mem_of_mem_take hv))
    exact hcalls_of_runs (T := tabOf Tryz.prog extY conN true) Tryz.func59 mup_body (vals := [sl 1 o n c, i6' K]) (v := .tuple #[]) (h := hU S la) (by rfl) ht r m B w E hv
  · cases hg
end Go.Proofs.YtgefjidphfdhdabGreatDoor.Na
namespace Go.Nt
theorem dg_rest : ∀ (m : Nat) (V : Int), vN (dg m V) + 4294967296 ^ m * (V / 4294967296 ^ m) = V
  | 0, V => by simp [dg, vN]
  | m + 1, V => by
    have h := dg_rest m (V / 4294967296)
    simp only [dg, vN]
    rw [pw, ← Int.ediv_ediv_of_nonneg (show (0 : Int) ≤ 4294967296 by omega), Int.mul_assoc]
    omega
/-- a round -/
theorem tm_step {P a b x y z k d e A B : Int} (he : k + (x * y + z) = d + 4294967296 * e) (h : a + P * ((z + 4294967296 * A) + x * (y + 4294967296 * B) + k) = b) : a + P * d + 4294967296 * P * (A + x * B + e) = b := by
  rw [← h]
  have e1 : (z + 4294967296 * A) + x * (y + 4294967296 * B) + k = d + 4294967296 * (A + x * B + e) := by
    rw [Int.mul_add x y, ← Int.mul_assoc x 4294967296 B, Int.mul_comm x 4294967296, Int.mul_assoc 4294967296 x B]
    omega
  rw [e1]
  generalize A + x * B + e = Z
  rw [Int.mul_add P d, ← Int.mul_assoc P 4294967296 Z, Int.mul_comm P 4294967296]
  omega
theorem xy_bd {x y : Int} (hx : 0 ≤ x ∧ x < 4294967296) (hy : 0 ≤ y ∧ y < 4294967296) : 0 ≤ x * y ∧ x * y ≤ 18446744065119617025 := by
  constructor
  · exact Int.mul_nonneg hx.1 hy.1
  · have h1 : x * y ≤ 4294967295 * y := Int.mul_le_mul_of_nonneg_right (by omega) hy.1
    omega
theorem tm_bd {M B x Q : Int} (hM : 0 ≤ M ∧ M < Q) (hB : 0 ≤ B ∧ B < Q) (hx : 0 ≤ x ∧ x < 4294967296) : 0 ≤ M + x * B ∧ M + x * B < Q * 4294967296 := by
  have h0 := Int.mul_nonneg hx.1 hB.1
  have h1 : x * B ≤ 4294967295 * B := Int.mul_le_mul_of_nonneg_right (by omega) hB.1
  omega
theorem carry_bd {T Q : Int} (hQ : 0 < Q) (h : 0 ≤ T ∧ T < Q * 4294967296) : 0 ≤ T / Q ∧ T / Q < 4294967296 :=
  ⟨Int.ediv_nonneg h.1 (by omega), Int.ediv_lt_of_lt_mul hQ (by rw [Int.mul_comm]; exact h.2)⟩
/-- the words of a row, and of what is added to it: one more -/
theorem tm_split {M : List Int} {T : Int} (hT : 0 ≤ T ∧ T < 4294967296 ^ M.length * 4294967296) : ∃ y m, dg M.length T ++ [T / 4294967296 ^ M.length] = y :: m ∧ m.length = M.length ∧ wds [y] ∧ wds m ∧ y + 4294967296 * vN m = T := by
  have hc := carry_bd (pw_pos M.length) hT
  have hw : wds (dg M.length T ++ [T / 4294967296 ^ M.length]) := wds_app (dg_wds _ _) (fun x hx => by rw [List.mem_singleton.1 hx]; exact hc)
  have hl : (dg M.length T ++ [T / 4294967296 ^ M.length]).length = M.length + 1 := by rw [List.length_append, dg_len]; rfl
  have hv : vN (dg M.length T ++ [T / 4294967296 ^ M.length]) = T := by rw [vN_snoc, dg_len]; exact dg_rest _ _
  cases h : dg M.length T ++ [T / 4294967296 ^ M.length] with
  | nil => rw [h] at hl; simp at hl
  | cons y m =>
    rw [h] at hw hl hv
    obtain ⟨w1, w2⟩ := wds_tail hw
    refine ⟨y, m, rfl, by simpa using hl, fun x hx => by rw [List.mem_singleton.1 hx]; exact w1, w2, hv⟩
theorem pd_step {P d m A B x y m' : Int} (hT : y + 4294967296 * m' = m + x * B) (h : d + P * m = A * B) : d + P * y + 4294967296 * P * m' = (A + P * x) * B := by
  have e1 : P * y + 4294967296 * P * m' = P * (m + x * B) := by
    rw [← hT, Int.mul_add, ← Int.mul_assoc P 4294967296 m', Int.mul_comm P 4294967296]
  rw [Int.add_mul, ← h, Int.mul_assoc P x B]
  rw [Int.mul_add] at e1
  omega
theorem vN_rep : ∀ n : Nat, vN (List.replicate n 0) = 0
  | 0 => rfl
  | n + 1 => by
    rw [List.replicate_succ]
    simp only [vN]
    rw [vN_rep n]
    rfl
end Go.Nt
namespace Go.Proofs.YtgefjidphfdhdabGreatDoor.Na
open Go.KRun Go.Nt
set_option maxRecDepth 100000
set_option linter.unusedVariables false
def tK (k x y z : Int) : Int := IntKind.u64.wrap (k + IntKind.u64.wrap (IntKind.u64.wrap (IntKind.u64.wrap x * IntKind.u64.wrap y) + IntKind.u64.wrap z))
def tC (k x y z : Int) : Int := (tK k x y z).fdiv (2 ^ min (Int.toNat 32) 64)
def tD (k x y z : Int) : Int := IntKind.u32.wrap (tK k x y z)
theorem tm_word {k x y z : Int} (hk : 0 ≤ k ∧ k < 4294967296) (hx : 0 ≤ x ∧ x < 4294967296) (hy : 0 ≤ y ∧ y < 4294967296) (hz : 0 ≤ z ∧ z < 4294967296) :
    (0 ≤ tD k x y z ∧ tD k x y z < 4294967296) ∧ (0 ≤ tC k x y z ∧ tC k x y z < 4294967296) ∧ k + (x * y + z) = tD k x y z + 4294967296 * tC k x y z := by
  have hxy := xy_bd hx hy
  have e : tK k x y z = k + (x * y + z) := by
    unfold tK
    simp only [u64w]
    rw [Int.emod_eq_of_lt hx.1 (by omega), Int.emod_eq_of_lt hy.1 (by omega), Int.emod_eq_of_lt hz.1 (by omega), Int.emod_eq_of_lt hxy.1 (by omega), Int.emod_eq_of_lt (by omega) (by omega), Int.emod_eq_of_lt (by omega) (by omega)]
  unfold tD tC
  rw [e, u32w, show ((2 : Int) ^ min (Int.toNat 32) 64) = 4294967296 from by decide, Int.fdiv_eq_ediv_of_nonneg _ (by omega)]
  generalize x * y = W at *
  omega
def tmP (F : Func) : List Code := [cFst (cBody F), cFst (cSnd (cBody F)), cFst (cSnd (cSnd (cBody F)))]
def tmB (F : Func) : Code := cFst (cSnd (cSnd (cSnd (cBody F))))
def tmL (F : Func) : Code := cIn (cIn (cSnd (tmB F)))
def tmE (F : Func) : Code := cSnd (cSnd (cSnd (cSnd (cBody F))))
def tmF (o n c o' c' : Nat) (x k : Int) (v8 v9 u1 u2 u3 u4 : Value) (j : Int) : List Value := [sl 2 o n c, sl 1 o' n c', uu x, undef, undef, undef, uu 0, .int .u64 k, v8, v9, u1, u2, u3, u4, sl 1 o' n c', i6' n, i6' j]
theorem tm_body : Tryz.f90.body = some (seqs (tmP Tryz.f90) (.seq (.seq (cFst (tmB Tryz.f90)) (.block 0 (.loop (tmL Tryz.f90)))) (tmE Tryz.f90))) := by kernel_rfl
def tmA (o n c o' c' : Nat) (x : Int) : List Value := [sl 2 o n c, sl 1 o' n c', uu x, undef, undef, undef, uu 0, .int .u64 0, undef, undef, sl 2 o n c, sl 1 o' n c', i6' n, sl 2 o n c]
theorem tm_pre (o n c o' c' : Nat) (x : Int) (S la lb : List Value) : GoesT (evL (tabOf Tryz.prog extY conN true) 100 (tmP Tryz.f90) ([sl 2 o n c, sl 1 o' n c', uu x] ++ List.replicate 41 undef, h3 la lb S, [num 0]) ⟨[], [], []⟩) 14 30 none (tmA o n c o' c' x) (h3 la lb S) [(smallC c, true), (okPart 0 n c c, true), (decide ((c : Int) = 0 ∧ (0 : Int) ≠ 0), false)] := ⟨by kernel_rfl, by kernel_rfl, by kernel_rfl⟩
theorem tm_r3 (o n c o' c' : Nat) (x : Int) (S la lb : List Value) (g : Nat → Value) : GoesT (evC (tabOf Tryz.prog extY conN true) 100 false (cFst (tmB Tryz.f90)) (tmA o n c o' c' x ++ tl 30 g, h3 la lb S, []) ⟨[], [], []⟩) 17 27 none (tmF o n c o' c' x 0 undef undef (sl 2 o n c) (sl 1 o' n c') (i6' n) (sl 2 o n c) 0) (h3 la lb S) [] := ⟨by kernel_rfl, by kernel_rfl, by kernel_rfl⟩
theorem tm_out (o n c o' c' : Nat) (x k j : Int) (v8 v9 u1 u2 u3 u4 : Value) (S la lb : List Value) (g : Nat → Value) : GoesT (evC (tabOf Tryz.prog extY conN true) 100 false (tmL Tryz.f90) (tmF o n c o' c' x k v8 v9 u1 u2 u3 u4 j ++ tl 27 g, h3 la lb S, [cmp false]) ⟨[], [], []⟩) 17 27 (some (some 0)) (tmF o n c o' c' x k v8 v9 u1 u2 u3 u4 j) (h3 la lb S) [(decide (j < n), false)] := ⟨by kernel_rfl, by kernel_rfl, by kernel_rfl⟩
theorem tm_go (o n c o' c' : Nat) (x k j y z : Int) (v8 v9 u1 u2 u3 u4 : Value) (S la lb : List Value) (g : Nat → Value) : GoesT (evC (tabOf Tryz.prog extY conN true) 100 false (tmL Tryz.f90) (tmF o n c o' c' x k v8 v9 u1 u2 u3 u4 j ++ tl 27 g, h3 la lb S, [cmp true, at_, val (uu y), at_, val (uu z), at_, at_]) ⟨[], [], []⟩) 17 27 none (tmF o n c o' c' x (tC k x y z) (i6' j) (uu y) u1 u2 u3 u4 (IntKind.i64.wrap (j + 1))) (h3 la lb (S.set (o + j.toNat * 1) (uu (tD k x y z)))) [(decide ((32 : Int) < 0), false), (decide (o + j.toNat * 1 < S.length), true), inR j n, celR S o j z, inR j n, celR lb o' j y, inR j n, (decide (j < n), true)] := ⟨by kernel_rfl, by kernel_rfl, by kernel_rfl⟩
theorem tm_end (o n c o' c' : Nat) (x k j : Int) (v8 v9 u1 u2 u3 u4 : Value) (h : Hp) (g : Nat → Value) : GoesT (evC (tabOf Tryz.prog extY conN true) 100 false (tmE Tryz.f90) (tmF o n c o' c' x k v8 v9 u1 u2 u3 u4 j ++ tl 27 g, h, []) ⟨[], [], []⟩) 7 37 (some none) [sl 2 o n c, sl 1 o' n c', uu x, undef, undef, undef, uu (IntKind.u32.wrap k)] h [] := ⟨by kernel_rfl, by kernel_rfl, by kernel_rfl⟩
theorem fR_get {F : List Value} {o : Nat} (hF : F.length = o) (dx : List Int) (x : Int) (px : List Int) (R : List Value) : (F ++ (wU (dx ++ x :: px) ++ R))[o + dx.length]? = some (uu x) := by
  rw [← List.append_assoc, List.getElem?_append_left (by unfold wU; simp; omega)]
  exact fU_get hF dx x px
theorem fR_set {F : List Value} {o : Nat} (hF : F.length = o) (dx : List Int) (x d : Int) (px : List Int) (R : List Value) : (F ++ (wU (dx ++ x :: px) ++ R)).set (o + dx.length) (uu d) = F ++ (wU ((dx ++ [d]) ++ px) ++ R) := by
  rw [← List.append_assoc, List.set_append_left _ _ (by unfold wU; simp; omega), fU_set hF, List.append_assoc]
/-- the words that come, and the word that is carried -/
def tmR (M B : List Int) (x : Int) : List Int := dg M.length (vN M + x * vN B)
def tmC (M B : List Int) (x : Int) : Int := (vN M + x * vN B) / 4294967296 ^ M.length
theorem tm_runs {F R la lb : List Value} {o c o' c' : Nat} {M LB : List Int} {x : Int} (hF : F.length = o) (hM : wds M) (RB : Row lb o' LB) (hl : M.length = LB.length) (hN : M.length < 1099511627776) (hx : 0 ≤ x ∧ x < 4294967296) (hc : M.length ≤ c) (hs : smallC c = true) :
    Runs (tabOf Tryz.prog extY conN true) (seqs (tmP Tryz.f90) (.seq (.seq (cFst (tmB Tryz.f90)) (.block 0 (.loop (tmL Tryz.f90)))) (tmE Tryz.f90))) ([sl 2 o M.length c, sl 1 o' M.length c', uu x] ++ List.replicate 41 undef, h3 la lb (F ++ (wU M ++ R)), []) fun e y => (e = none ∨ e = some none) ∧ resS Tryz.prog Tryz.f90 y.1 y.2.1 = some (uu (tmC M LB x)) ∧ y.2.1.cut 3 = h3 la lb (F ++ (wU (tmR M LB x) ++ R)) := by
  have hwB := RB.rng
  have hcs : c < 4611686018427387904 := blt_iff.1 hs
  refine goesT_list (tabY_ok conN_ok) (tm_pre o M.length c o' c' x _ la lb) (okTwo hs (okTwo (by unfold okPart; exact decide_eq_true (by omega)) (okOne (decide_eq_false (by omega))))) fun g => ?_
  refine Runs.seq (P1 := fun e' y => e' = none ∧ ∃ (k j : Int) (v8 v9 u1 u2 u3 u4 : Value) (g : Nat → Value), y.1 = tmF o M.length c o' c' x k v8 v9 u1 u2 u3 u4 j ++ tl 27 g ∧ (0 ≤ k ∧ k < 4294967296) ∧ k = tmC M LB x ∧ y.2.1 = h3 la lb (F ++ (wU (tmR M LB x) ++ R))) ?_ ?_ (fun e y he => by cases he.1)
  · refine Runs.seq (P1 := fun e' y => e' = none ∧ (∃ g, y.1 = tmF o M.length c o' c' x 0 undef undef (sl 2 o M.length c) (sl 1 o' M.length c') (i6' M.length) (sl 2 o M.length c) 0 ++ tl 27 g) ∧ y.2.1 = h3 la lb (F ++ (wU M ++ R))) (goesT_runs (tabY_ok conN_ok) (tm_r3 o M.length c o' c' x _ la lb g) (fun x hx => by cases hx)) ?_ (fun e y he => by cases he.1)
    rintro ⟨t, h', s'⟩ ⟨_, ⟨g1, ht⟩, hh⟩
    simp only at ht hh
    subst ht hh
    refine (Runs.forLoop (R := fun _ => False) (P := fun y => ∃ (k j : Int) (v8 v9 u1 u2 u3 u4 : Value) (g : Nat → Value), y.1 = tmF o M.length c o' c' x k v8 v9 u1 u2 u3 u4 j ++ tl 27 g ∧ (0 ≤ k ∧ k < 4294967296) ∧ k = tmC M LB x ∧ y.2.1 = h3 la lb (F ++ (wU (tmR M LB x) ++ R)))
      (fun r y => ∃ (dx px bx : List Int) (k : Int) (v8 v9 u1 u2 u3 u4 : Value) (g : Nat → Value), px.length = r ∧ dx.length + px.length = M.length ∧ wds dx ∧ wds px ∧ bx = LB.drop dx.length ∧ (0 ≤ k ∧ k < 4294967296) ∧ y.1 = tmF o M.length c o' c' x k v8 v9 u1 u2 u3 u4 dx.length ++ tl 27 g ∧ y.2.1 = h3 la lb (F ++ (wU (dx ++ px) ++ R)) ∧ vN dx + 4294967296 ^ dx.length * (vN px + x * vN bx + k) = vN M + x * vN LB)
      ?_ (n := M.length) ⟨[], M, LB, 0, undef, undef, _, _, _, _, g1, rfl, by simp, (fun x hx => by cases hx), hM, rfl, by omega, rfl, rfl, by simp [vN]⟩).mono fun e' y he => ?_
    · rintro r ⟨t, h', s'⟩ ⟨dx, px, bx, k, v8, v9, u1, u2, u3, u4, g, hr, hlen, wd1, wd2, hb, hk, ht, hh, hv⟩
      simp only at ht hh
      subst ht hh
      match px, hr, hlen, wd2, hv with
      | [], hr, hlen, wd2, hv =>
        have hl' : dx.length = M.length := by simpa using hlen
        refine (goesT_runs (tabY_ok conN_ok) (tm_out o M.length c o' c' x k dx.length v8 v9 u1 u2 u3 u4 _ la lb g) (okOne (decide_eq_false (by omega)))).mono fun e' y he => ?_
        obtain ⟨rfl, ⟨g1, e2⟩, e3⟩ := he
        have hbx : bx = [] := by rw [hb, List.drop_eq_nil_of_le (by omega)]
        subst hbx
        simp only [vN] at hv
        rw [Int.mul_zero, Int.zero_add, Int.zero_add] at hv
        have hbd := vN_bd dx wd1
        refine ⟨rfl, k, dx.length, v8, v9, u1, u2, u3, u4, g1, e2, hk, ?_, ?_⟩
        · unfold tmC
          rw [← hv, ← hl', Int.add_mul_ediv_left _ _ (by have := pw_pos dx.length; omega), Int.ediv_eq_zero_of_lt hbd.1 hbd.2, Int.zero_add]
        · unfold tmR
          rw [e3, ← hv, ← hl', dg_mod, dg_vN dx wd1, List.append_nil]
      | z :: px, hr, hlen, wd2, hv =>
        obtain ⟨wz, wd2⟩ := wds_tail wd2
        have hl' : dx.length < M.length := by simp at hlen; omega
        have hy := RB.cell (k := dx.length) (by omega)
        have hyr := hwB (LB.getD dx.length 0) (by
          have hk' : dx.length < LB.length := by omega
          simp [List.getD, List.getElem?_eq_getElem hk'])
        have hbx : bx = LB.getD dx.length 0 :: LB.drop (dx.length + 1) := by
          have hk' : dx.length < LB.length := by omega
          rw [hb, List.drop_eq_getElem_cons hk']
          simp [List.getD, List.getElem?_eq_getElem hk']
        generalize LB.getD dx.length 0 = yv at *
        obtain ⟨k1, k2, k3⟩ := tm_word hk hx hyr wz
        have cS := fR_get hF dx z px R
        have lS : o + dx.length < (F ++ (wU (dx ++ z :: px) ++ R)).length := (List.getElem?_eq_some_iff.1 cS).1
        have l1 : decide (o + ((dx.length : Int)).toNat * 1 < (F ++ (wU (dx ++ z :: px) ++ R)).length) = true := by
          rw [Int.toNat_natCast, Nat.mul_one]
          exact decide_eq_true lS
        have l2 : (inR dx.length M.length).1 = (inR dx.length M.length).2 := decide_eq_true (by omega)
        refine (goesT_runs (tabY_ok conN_ok) (tm_go o M.length c o' c' x k dx.length yv z v8 v9 u1 u2 u3 u4 _ la lb g) (okTwo (by decide) (okTwo l1 (okTwo l2 (okTwo (cel_ok cS) (okTwo l2 (okTwo (cel_ok hy) (okTwo l2 (okOne (decide_eq_true (by omega)))))))))) ).mono fun e' y he => ?_
        obtain ⟨rfl, ⟨g1, e2⟩, e3⟩ := he
        refine ⟨px.length, by simp at hr; omega, dx ++ [tD k x yv z], px, LB.drop (dx.length + 1), tC k x yv z, i6' dx.length, uu yv, u1, u2, u3, u4, g1, rfl, by simp at hlen ⊢; omega, wds_app wd1 (fun u hu => by rw [List.mem_singleton.1 hu]; exact k1), wd2, by simp, k2, ?_, ?_, ?_⟩
        · rw [e2, wrapI (by omega) (by omega)]
          simp
        · rw [e3, Int.toNat_natCast, Nat.mul_one, fR_set hF]
        · rw [hbx] at hv
          simp only [vN] at hv
          rw [vN_snoc, List.length_append, List.length_singleton, pw]
          exact tm_step k3 hv
    · match e', he with
      | none, he => exact ⟨rfl, he⟩
      | some none, he => exact he.elim
      | some (some _), he => exact he.elim
  · rintro ⟨t, h', s'⟩ ⟨_, k, j, v8, v9, u1, u2, u3, u4, g, ht, hk, hkv, hh⟩
    simp only at ht hh
    subst ht hh
    refine (goesT_runs (tabY_ok conN_ok) (tm_end o M.length c o' c' x k j v8 v9 u1 u2 u3 u4 _ g) (fun x hx => by cases hx)).mono fun e' y he => ?_
    obtain ⟨rfl, ⟨g1, e2⟩, e3⟩ := he
    have ek : IntKind.u32.wrap k = tmC M LB x := by rw [u32w, Int.emod_eq_of_lt hk.1 hk.2, hkv]
    rw [ek] at e2
    refine ⟨.inr rfl, ?_, ?_⟩
    · rw [e2, e3]
      rfl
    · rw [e3]
      rfl
def tmS (S : List Value) (o n : Nat) (L : List Int) : List Value := S.take o ++ (wU L ++ S.drop (o + n))
def okTm (S lb la : List Value) (t t' t'' : TypeId) (o n c o' n' c' : Nat) (x : Int) : Bool := Nat.beq t tU && Nat.beq t' tR && Nat.beq t'' tR && rowOk t S o n c && rowOk t' lb o' n' c' && Nat.beq n n' && Nat.blt n 1099511627776 && la.all still && decide (0 ≤ x ∧ x < 4294967296)
def gTms : AnsH := fun vals h s =>
  match vals, h with
  | [.slice (some ⟨2, o, none⟩) n c, .slice (some ⟨1, o', none⟩) n' c', .int .u32 x], ⟨3, [(S, t), (lb, t'), (la, t'')]⟩ => some (uu (tmC (cutI S o n) (cutI lb o' n') x), ⟨3, [(tmS S o n (tmR (cutI S o n) (cutI lb o' n') x), tU), (lb, tR), (la, tR)]⟩, s, [(okTm S lb la t t' t'' o n c o' n' c' x, true)])
  | _, _ => none
theorem gTms_ok : AnsHOk 90 gTms := by
  intro vals h s v h' s' lg hg hl m B w E hv
  unfold gTms at hg
  split at hg
  · rename_i o n c o' n' c' x S t lb t' la t''
    cases hg
    have q := hl _ (List.mem_singleton.2 rfl)
    unfold okTm at q
    simp only [Bool.and_eq_true, decide_eq_true_eq] at q
    obtain ⟨⟨⟨⟨⟨⟨⟨⟨q1, q2⟩, q3⟩, ra⟩, rb⟩, qn⟩, qN⟩, q5⟩, q6⟩ := q
    have q1 := Nat.eq_of_beq_eq_true q1
    have q2 := Nat.eq_of_beq_eq_true q2
    have q3 := Nat.eq_of_beq_eq_true q3
    have qn := Nat.eq_of_beq_eq_true qn
    have qN : n < 1099511627776 := blt_iff.1 qN
    subst q1 q2 q3 qn
    obtain ⟨a1, a2, a3, a4, a5, a6, a7⟩ := row_of ra
    obtain ⟨b1, b2, b3, b4, b5, b6, b7⟩ := row_of rb
    have eS : S = S.take o ++ (wU (cutI S o n) ++ S.drop (o + n)) := by
      have h1 := a1.cut
      rw [a2] at h1
      rw [← h1]
      unfold cutV
      rw [← List.drop_drop, List.take_append_drop, List.take_append_drop]
    have hF : (S.take o).length = o := by
      have := a1.len
      simp
      omega
    have r := tm_runs (R := S.drop (o + n)) (la := la) (c := c) (c' := c') hF a1.rng b1 (by rw [a2, b2]) (by rw [a2]; exact qN) q6 (by rw [a2]; exact a3) a4
    rw [a2, ← eS] at r
    have ht : (Hp.tight ⟨3, [(tmS S o n (tmR (cutI S o n) (cutI lb o' n) x), tU), (lb, tR), (la, tR)]⟩) = true := by
      unfold Hp.tight tmS
      simp only [List.all_cons, List.all_nil, List.all_append, Bool.and_true, Bool.and_eq_true]
      refine ⟨⟨?_, wU_tight _ _, ?_⟩, all_mono (by omega) (List.all_eq_true.2 b7), all_mono (by omega) q5⟩
      · rw [List.all_eq_true]
        exact fun v hv => still_lt (by omega) (a7 v (List.mem_of_mem_take hv))
      · rw [List.all_eq_true]
        exact fun v hv => still_lt (by omega) (a7 v (List.mem_of_mem_drop hv))
    exact hcalls_of_runs (T := tabOf Tryz.prog extY conN true) Tryz.func90 tm_body (vals := [sl 2 o n c, sl 1 o' n c', uu x]) (v := uu (tmC (cutI S o n) (cutI lb o' n) x)) (h := h3 la lb S) (by rfl) ht r m B w E hv
  · cases hg
def hcM : Hc := altH 90 gTms (altH 60 gTrim hcN)
theorem hcM_ok : HcOk hcM := altH_ok Tryz.func90 rfl gTms_ok (altH_ok Tryz.func60 rfl gTrim_ok hcN_ok)
def pdP (F : Func) : List Code := [cFst (sn 0 F), cFst (sn 1 F), cFst (sn 2 F), cFst (sn 3 F)]
def pdL (F : Func) : Code := cIn (cIn (cSnd (cFst (sn 4 F))))
def pdF (o n c o' n' c' z : Nat) (v7 v8 : Value) : List Value := [sl 0 o n c, sl 1 o' n' c', undef, undef, nilS, .nilIface, sl 2 0 z z, v7, v8]
theorem pd_body : Tryz.f56.body = some (seqs (pdP Tryz.f56) (.seq (.seq (cFst (cFst (sn 4 Tryz.f56))) (.block 0 (.loop (pdL Tryz.f56)))) (cSnd (sn 4 Tryz.f56)))) := by kernel_rfl
def pZ (n n' : Nat) : Int := IntKind.i64.wrap ((n : Int) + (n' : Int))
theorem pd_pre (o n c o' n' c' : Nat) (la lb : List Value) : GoesT (evL (tabH Tryz.prog extY conN hcM) 100 (pdP Tryz.f56) ([sl 0 o n c, sl 1 o' n' c'] ++ List.replicate 57 undef, h2 la lb, [cmp false, cmp false, cmp false, at_]) ⟨[], [], []⟩) 9 50 none (pdF o n c o' n' c' (pZ n n').toNat undef undef) (h3 la lb (List.replicate (pZ n n').toNat (uu 0))) [(okMakeB 4 (pZ n n') (pZ n n'), true), (decide (IntKind.i64.wrap (pZ n n' - 1) > 8192), false), ((n' : Int) == 0, false), ((n : Int) == 0, false)] := ⟨by kernel_rfl, by kernel_rfl, by kernel_rfl⟩
theorem pd_r (o n c o' n' c' z : Nat) (v7 v8 : Value) (la lb S : List Value) (g : Nat → Value) : GoesM (evC (tabH Tryz.prog extY conN hcM) 100 false (cFst (cFst (sn 4 Tryz.f56))) (pdF o n c o' n' c' z v7 v8 ++ tl 50 g, h3 la lb S, []) ⟨[], [], []⟩) 9 22 3 25 none (pdF o n c o' n' c' z v7 v8) [sl 0 o n c, i6' n, i6' 0] (h3 la lb S) [] := ⟨by kernel_rfl, by kernel_rfl, by kernel_rfl⟩
theorem pd_out (o n c o' n' c' z : Nat) (j : Int) (v7 v8 : Value) (la lb S : List Value) (g g' : Nat → Value) : GoesM (evC (tabH Tryz.prog extY conN hcM) 100 false (pdL Tryz.f56) (ml (pdF o n c o' n' c' z v7 v8) 22 g [sl 0 o n c, i6' n, i6' j] 25 g', h3 la lb S, [cmp false]) ⟨[], [], []⟩) 9 22 3 25 (some (some 0)) (pdF o n c o' n' c' z v7 v8) [sl 0 o n c, i6' n, i6' j] (h3 la lb S) [(decide (j < n), false)] := ⟨by kernel_rfl, by kernel_rfl, by kernel_rfl⟩
def pJ (j : Int) : Nat := 0 + j.toNat * 1
def pK (j : Int) (n' : Nat) : Int := IntKind.i64.wrap (j + n')
def pLn (j : Int) (n' : Nat) : Nat := (pK j n').toNat - j.toNat
def pS (S lb : List Value) (o' n' : Nat) (j x : Int) : List Value := tmS S (pJ j) (pLn j n') (tmR (cutI S (pJ j) (pLn j n')) (cutI lb o' n') x)
def pC (S lb : List Value) (o' n' : Nat) (j x : Int) : Int := tmC (cutI S (pJ j) (pLn j n')) (cutI lb o' n') x
theorem pd_go (o n c o' n' c' z : Nat) (j x : Int) (v7 v8 : Value) (la lb S : List Value) (g g' : Nat → Value) : GoesM (evC (tabH Tryz.prog extY conN hcM) 100 false (pdL Tryz.f56) (ml (pdF o n c o' n' c' z v7 v8) 22 g [sl 0 o n c, i6' n, i6' j] 25 g', h3 la lb S, [cmp true, at_, val (uu x), num 0, at_, at_]) ⟨[], [], []⟩) 9 22 3 25 none (pdF o n c o' n' c' z (i6' j) (uu x)) [sl 0 o n c, i6' n, i6' (IntKind.i64.wrap (j + 1))]
    (h3 la lb ((pS S lb o' n' j x).set (0 + (pK j n').toNat * 1) (uu (pC S lb o' n' j x))))
    [(decide (0 + (pK j n').toNat * 1 < (pS S lb o' n' j x).length), true), inR (pK j n') z, (okTm S lb la tU tR tR (pJ j) (pLn j n') (z - j.toNat) o' n' c' x, true), (smallC z, true), (okPart j (pK j n') z z, true), (decide ((z : Int) = j ∧ j ≠ 0), false), celR la o j x, inR j n, (decide (j < n), true)] := ⟨by kernel_rfl, by kernel_rfl, by kernel_rfl⟩
theorem pd_end (o n c o' n' c' z : Nat) (v7 v8 u1 u2 u3 : Value) (la lb S : List Value) (g g' : Nat → Value) : GoesT (evC (tabH Tryz.prog extY conN hcM) 100 false (cSnd (sn 4 Tryz.f56)) (ml (pdF o n c o' n' c' z v7 v8) 22 g [u1, u2, u3] 25 g', h3 la lb S, [cmp false]) ⟨[], [], []⟩) 6 53 (some none) [sl 0 o n c, sl 1 o' n' c', undef, undef, sl 2 0 (trimN (cutI S 0 z)) z, .nilIface] (h3 la lb S) [(decide ((trimN (cutI S 0 z) : Int) > 8192), false), (rowOk tU S 0 z z, true)] := ⟨by kernel_rfl, by kernel_rfl, by kernel_rfl⟩
theorem pd_n1 (p q : Option Addr) (n c n' c' : Nat) (h : Hp) : GoesT (evC (tabH Tryz.prog extY conN hcM) 100 false (cBody Tryz.f56) ([.slice p n c, .slice q n' c'] ++ List.replicate 57 undef, h, [cmp true]) ⟨[], [], []⟩) 6 53 (some none) [.slice p n c, .slice q n' c', undef, undef, nilS, .nilIface] h [((n : Int) == 0, true)] := ⟨by kernel_rfl, by kernel_rfl, by kernel_rfl⟩
theorem pd_n2 (p q : Option Addr) (n c n' c' : Nat) (h : Hp) : GoesT (evC (tabH Tryz.prog extY conN hcM) 100 false (cBody Tryz.f56) ([.slice p n c, .slice q n' c'] ++ List.replicate 57 undef, h, [cmp false, cmp true]) ⟨[], [], []⟩) 6 53 (some none) [.slice p n c, .slice q n' c', undef, undef, nilS, .nilIface] h [((n' : Int) == 0, true), ((n : Int) == 0, false)] := ⟨by kernel_rfl, by kernel_rfl, by kernel_rfl⟩
theorem pd_cbody : Tryz.f56.body = some (cBody Tryz.f56) := by kernel_rfl
end Go.Proofs.YtgefjidphfdhdabGreatDoor.Na
namespace Go.Proofs.YtgefjidphfdhdabGreatDoor.Na
open Go.KRun Go.Nt
set_option maxRecDepth 100000
def hcS : Hc := altH 57 gChk (altH 58 gLen (altH 59 gMup (altH 60 gTrim hcN)))
theorem hcS_ok : HcOk hcS := altH_ok Tryz.func57 rfl gChk_ok (altH_ok Tryz.func58 rfl gLen_ok (altH_ok Tryz.func59 rfl gMup_ok (altH_ok Tryz.func60 rfl gTrim_ok hcN_ok)))
def skI (k : Int) : Int := IntKind.i64.wrap (k.tdiv 32)
def rmI (k : Int) : Int := k.tmod 32
def zI (n : Nat) (k : Int) : Int := IntKind.i64.wrap (IntKind.i64.wrap (skI k + n) + 1)
def zN (n : Nat) (k : Int) : Nat := (zI n k).toNat
def oN (k : Int) : Nat := 0 + (skI k).toNat * 1
def pN (n : Nat) (k : Int) : Nat := zN n k - (skI k).toNat
def cpN (n : Nat) (k : Int) : Nat := Nat.min n (pN n k)
def cpL (la : List Value) (o n : Nat) (k : Int) : List Value := (List.replicate (zN n k) (uu 0)).take (oN k) ++ (la.drop o).take (cpN n k) ++ (List.replicate (zN n k) (uu 0)).drop (oN k + cpN n k)
def clOk (la : List Value) (o n : Nat) (k : Int) : Bool := !(tomb tR) && !(ro tU) && Nat.ble (o + cpN n k) la.length && Nat.ble (oN k + cpN n k) (List.replicate (zN n k) (uu 0)).length && ((la.drop o).take (cpN n k)).all one
def upM (la : List Value) (o n : Nat) (k : Int) : List Value := upS (cpL la o n k) (oN k) (pN n k) (rmI k)
def lnI (la : List Value) (o n : Nat) : Int := IntKind.i64.wrap (262144 - lenN (cutI la o n))
def fS (o n c : Nat) (k : Int) (r e : Value) : List Value := [sl 0 o n c, i6' k, undef, undef, r, e]
theorem shl_body : Tryz.f29.body = some (cBody Tryz.f29) := by kernel_rfl
theorem shl_bad (o n c : Nat) (k : Int) (la : List Value) : GoesT (evC (tabH Tryz.prog extY conN hcS) 200 false (cBody Tryz.f29) ([sl 0 o n c, i6' k] ++ List.replicate 45 undef, ⟨1, [(la, tR)]⟩, [cmp true]) ⟨[], [], []⟩) 6 41 (some none) (fS o n c k nilS (errV 1)) ⟨1, [(la, tR)]⟩ [chkL la o n c, (badL (cutI la o n), true)] := ⟨by kernel_rfl, by kernel_rfl, by kernel_rfl⟩
theorem shl_neg (o n c : Nat) (k : Int) (la : List Value) : GoesT (evC (tabH Tryz.prog extY conN hcS) 200 false (cBody Tryz.f29) ([sl 0 o n c, i6' k] ++ List.replicate 45 undef, ⟨1, [(la, tR)]⟩, [cmp false, cmp true]) ⟨[], [], []⟩) 6 41 (some none) (fS o n c k nilS (errV 1)) ⟨1, [(la, tR)]⟩ [(decide (k < 0), true), chkL la o n c, (badL (cutI la o n), false)] := ⟨by kernel_rfl, by kernel_rfl, by kernel_rfl⟩
theorem shl_nil (o n c : Nat) (k : Int) (la : List Value) : GoesT (evC (tabH Tryz.prog extY conN hcS) 200 false (cBody Tryz.f29) ([sl 0 o n c, i6' k] ++ List.replicate 45 undef, ⟨1, [(la, tR)]⟩, [cmp false, cmp false, cmp true]) ⟨[], [], []⟩) 6 41 (some none) (fS o n c k nilS .nilIface) ⟨1, [(la, tR)]⟩ [((n : Int) == 0, true), (decide (k < 0), false), chkL la o n c, (badL (cutI la o n), false)] := ⟨by kernel_rfl, by kernel_rfl, by kernel_rfl⟩
theorem shl_long (o n c : Nat) (k : Int) (la : List Value) : GoesT (evC (tabH Tryz.prog extY conN hcS) 200 false (cBody Tryz.f29) ([sl 0 o n c, i6' k] ++ List.replicate 45 undef, ⟨1, [(la, tR)]⟩, [cmp false, cmp false, cmp false, cmp true]) ⟨[], [], []⟩) 6 41 (some none) (fS o n c k nilS (errV 2)) ⟨1, [(la, tR)]⟩ [(decide (k > lnI la o n), true), chkL la o n c, ((n : Int) == 0, false), (decide (k < 0), false), chkL la o n c, (badL (cutI la o n), false)] := ⟨by kernel_rfl, by kernel_rfl, by kernel_rfl⟩
theorem shl_good (o n c : Nat) (k : Int) (la : List Value) : GoesT (evC (tabH Tryz.prog extY conN hcS) 200 false (cBody Tryz.f29) ([sl 0 o n c, i6' k] ++ List.replicate 45 undef, ⟨1, [(la, tR)]⟩, [cmp false, cmp false, cmp false, cmp false, at_, num 0, at_, num 0]) ⟨[], [], []⟩) 6 41 (some none) (fS o n c k (sl 1 0 (trimN (cutI (upM la o n k) 0 (zN n k))) (zN n k)) .nilIface) (hU (upM la o n k) la)
    [(rowOk tU (upM la o n k) 0 (zN n k) (zN n k), true), (Nat.beq tU tU, true), (Nat.beq tR tR, true), (rowOk tU (cpL la o n k) (oN k) (pN n k) (pN n k), true), (Nat.beq (oN k + pN n k) (cpL la o n k).length, true), (la.all still, true), (decide (0 ≤ rmI k ∧ rmI k < 32), true),
      (smallC (zN n k), true), (okPart (skI k) (zN n k) (zN n k) (zN n k), true), (decide (((zN n k : Nat) : Int) = skI k ∧ skI k ≠ 0), false), (clOk la o n k, true), (smallC (zN n k), true), (okPart (skI k) (zN n k) (zN n k) (zN n k), true), (decide (((zN n k : Nat) : Int) = skI k ∧ skI k ≠ 0), false), (okMakeB 4 (zI n k) (zI n k), true),
      (decide (k > lnI la o n), false), chkL la o n c, ((n : Int) == 0, false), (decide (k < 0), false), chkL la o n c, (badL (cutI la o n), false)] := ⟨by kernel_rfl, by kernel_rfl, by kernel_rfl⟩
end Go.Proofs.YtgefjidphfdhdabGreatDoor.Na
namespace Go.Nt
theorem dg_skip : ∀ (s m : Nat) (V : Int), dg (s + m) (4294967296 ^ s * V) = List.replicate s 0 ++ dg m V
  | 0, m, V => by simp
  | s + 1, m, V => by
    rw [show s + 1 + m = (s + m) + 1 from by omega]
    simp only [dg]
    rw [pw, Int.mul_assoc]
    generalize hZ : (4294967296 : Int) ^ s * V = Z
    have e1 : (4294967296 * Z) % 4294967296 = 0 := by omega
    have e2 : (4294967296 * Z) / 4294967296 = Z := by omega
    rw [e1, e2, ← hZ, dg_skip s m V, List.replicate_succ, List.cons_append]
theorem two_split (K : Nat) : (2 : Int) ^ K = 4294967296 ^ (K / 32) * 2 ^ (K % 32) := by
  have e : (4294967296 : Int) = 2 ^ 32 := rfl
  rw [e, ← Int.pow_mul, ← Int.pow_add, show 32 * (K / 32) + K % 32 = K from by omega]
/-- words moved up by K bits -/
def shlR (L : List Int) (K : Nat) : List Int := dg (K / 32 + (L.length + 1)) (vN L * 2 ^ K)
theorem shlR_eq (L : List Int) (K : Nat) : shlR L K = List.replicate (K / 32) 0 ++ dg (L.length + 1) (vN L * 2 ^ (K % 32)) := by
  unfold shlR
  rw [two_split K, ← Int.mul_assoc, Int.mul_comm (vN L), Int.mul_assoc, dg_skip]
end Go.Nt
