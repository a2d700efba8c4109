/-
  bits.Len32, as a call; nat.Len, as a call with a row.
-/
import Derived.Test.YtcnmfjhefioldabDoorConN4
import Derived.Laws.MathBits
namespace Go.Proofs.YtcnmfjhefioldabDoor
open Go.KRun Go.Nt
set_option maxRecDepth 100000

/-- the table of the library: how many bits a byte has -/
def lenTab : List UInt8 := (List.range 256).map fun i => UInt8.ofNat (bitLen i)
def byteLen (z : Int) : Int := ((lenTab.getD (IntKind.u8.wrap z).toNat 0).toNat : Int)
def lt8 (z : Int) : Bool × Bool := (decide (0 ≤ IntKind.u8.wrap z ∧ (IntKind.u8.wrap z).toNat < lenTab.length), true)
def shd (z : Int) (k : Nat) : Int := z.fdiv (2 ^ k)
def geq (z k : Int) (d : Bool) : Bool × Bool := (decide (z ≥ k), d)
def lenE (m z : Int) : Value := .int .i64 (IntKind.i64.wrap (m + IntKind.i64.wrap (byteLen z)))
def nz : Bool × Bool := (false, false)
theorem len_00 (u : Int) : Fits (reckon (tabOf Tryd.prog extY conN true) 3000 27 [uu u] [tst false, tst false]) (lenE 0 u) [lt8 u, geq u 256 false, geq u 65536 false] := ⟨by kernel_rfl, by kernel_rfl, by kernel_rfl, by kernel_rfl⟩
theorem len_01 (u : Int) : Fits (reckon (tabOf Tryd.prog extY conN true) 3000 27 [uu u] [tst false, tst true]) (lenE 8 (shd u 8)) [lt8 (shd u 8), nz, geq u 256 true, geq u 65536 false] := ⟨by kernel_rfl, by kernel_rfl, by kernel_rfl, by kernel_rfl⟩
theorem len_10 (u : Int) : Fits (reckon (tabOf Tryd.prog extY conN true) 3000 27 [uu u] [tst true, tst false]) (lenE 16 (shd u 16)) [lt8 (shd u 16), geq (shd u 16) 256 false, nz, geq u 65536 true] := ⟨by kernel_rfl, by kernel_rfl, by kernel_rfl, by kernel_rfl⟩
theorem len_11 (u : Int) : Fits (reckon (tabOf Tryd.prog extY conN true) 3000 27 [uu u] [tst true, tst true]) (lenE 24 (shd (shd u 16) 8)) [lt8 (shd (shd u 16) 8), nz, geq (shd u 16) 256 true, nz, geq u 65536 true] := ⟨by kernel_rfl, by kernel_rfl, by kernel_rfl, by kernel_rfl⟩
theorem lenTab_len : lenTab.length = 256 := by unfold lenTab; rw [List.length_map, List.length_range]
theorem lenTab_get (b : Nat) (h : b < 256) : (lenTab.getD b 0).toNat = bitLen b := by
  have h1 : lenTab.getD b 0 = UInt8.ofNat (bitLen b) := by
    unfold lenTab
    rw [List.getD, List.getElem?_map, List.getElem?_range h]
    rfl
  have h2 := bitLen_le8 b h
  rw [h1, UInt8.toNat_ofNat']
  omega
theorem u8_wrap {z : Int} (h0 : 0 ≤ z) (h1 : z < 256) : IntKind.u8.wrap z = z := by
  simp [IntKind.wrap, IntKind.bits, IntKind.signed]; omega
theorem lenE_eq {m : Int} {Z : Nat} (hm : 0 ≤ m) (hm' : m ≤ 56) (h1 : Z < 256) : lenE m (Z : Int) = .int .i64 (m + bitLen Z) ∧ (lt8 (Z : Int)).1 = (lt8 (Z : Int)).2 := by
  have hb := bitLen_le8 Z h1
  have e := u8_wrap (z := (Z : Int)) (by omega) (by omega)
  refine ⟨?_, ?_⟩
  · unfold lenE byteLen
    rw [e, Int.toNat_natCast, lenTab_get Z h1, wrapI (n := ((bitLen Z : Nat) : Int)) (by omega) (by omega), wrapI (by omega) (by omega)]
  · unfold lt8
    rw [e, Int.toNat_natCast]
    rw [lenTab_len]
    exact decide_eq_true (And.intro (by omega) h1)
theorem shd_eq (Z k : Nat) : shd (Z : Int) k = ((Z / 2 ^ k : Nat) : Int) := by
  unfold shd
  rw [Int.fdiv_eq_ediv_of_nonneg _ (Int.le_of_lt (Int.pow_pos (by omega)))]
  simp
theorem geq_t {z k : Int} (h : k ≤ z) : (geq z k true).1 = (geq z k true).2 := decide_eq_true h
theorem geq_f {z k : Int} (h : z < k) : (geq z k false).1 = (geq z k false).2 := decide_eq_false (by omega)
theorem nz_ok : nz.1 = nz.2 := rfl
theorem len_up (x b : Nat) (h : 2 ^ b ≤ x) : bitLen x = b + bitLen (x / 2 ^ b) := bitLen_shift x b (by
  have : 0 < x / 2 ^ b := Nat.div_pos h (Nat.two_pow_pos b)
  omega)
def len32V (u : Int) : Value := .int .i64 (bitLen u.toNat : Nat)
theorem len32_calls (u : Int) (h0 : 0 ≤ u) (h1 : u < 4294967296) (w : World) : Calls Tryd.prog 27 #[uu u] w fun e w' => e = .returned (len32V u) ∧ Tidy w w' := by
  obtain ⟨U, rfl⟩ := Int.eq_ofNat_of_zero_le h0
  unfold len32V
  rw [Int.toNat_natCast]
  have p8 : (2 : Nat) ^ 8 = 256 := rfl
  have p16 : (2 : Nat) ^ 16 = 65536 := rfl
  have step : ∀ {v : Value} {s : List Dec} {cs : Log}, Fits (reckon (tabOf Tryd.prog extY conN true) 3000 27 [uu (U : Int)] s) v cs → okLog cs → v = .int .i64 (bitLen U : Nat) → Calls Tryd.prog 27 #[uu (U : Int)] w fun e w' => e = .returned (.int .i64 (bitLen U : Nat)) ∧ Tidy w w' :=
    fun {v s cs} hf hc hv => by subst hv; exact fits_calls (tabY_ok conN_ok) hf hc (by rfl) (by rfl) w
  by_cases b : U < 65536
  · by_cases c : U < 256
    · obtain ⟨e1, e2⟩ := lenE_eq (m := 0) (by omega) (by omega) c
      exact step (len_00 U) (okTwo e2 (okTwo (geq_f (by omega)) (okOne (geq_f (by omega))))) (by rw [e1]; congr 1; omega)
    · have l := len_up U 8 (by omega)
      obtain ⟨e1, e2⟩ := lenE_eq (m := 8) (Z := U / 2 ^ 8) (by omega) (by omega) (by omega)
      rw [← shd_eq] at e1 e2
      exact step (len_01 U) (okTwo e2 (okTwo nz_ok (okTwo (geq_t (by omega)) (okOne (geq_f (by omega)))))) (by rw [e1]; congr 1; omega)
  · have l := len_up U 16 (by omega)
    by_cases c : U / 2 ^ 16 < 256
    · obtain ⟨e1, e2⟩ := lenE_eq (m := 16) (Z := U / 2 ^ 16) (by omega) (by omega) c
      rw [← shd_eq] at e1 e2
      exact step (len_10 U) (okTwo e2 (okTwo (geq_f (by rw [shd_eq]; omega)) (okTwo nz_ok (okOne (geq_t (by omega)))))) (by rw [e1]; congr 1; omega)
    · have l2 := len_up (U / 2 ^ 16) 8 (by omega)
      obtain ⟨e1, e2⟩ := lenE_eq (m := 24) (Z := U / 2 ^ 16 / 2 ^ 8) (by omega) (by omega) (by omega)
      rw [← shd_eq, ← shd_eq] at e1 e2
      exact step (len_11 U) (okTwo e2 (okTwo nz_ok (okTwo (geq_t (by rw [shd_eq]; omega)) (okTwo nz_ok (okOne (geq_t (by omega))))))) (by rw [e1]; congr 1; omega)
def gLen32 : Ans := fun vals s =>
  match vals with
  | [.int .u32 x] => some (len32V x, s, [(decide (0 ≤ x ∧ x < 4294967296), true)])
  | _ => none
theorem gLen32_ok : AnsOk 27 gLen32 := by
  intro vals s v s' lg h hl w
  unfold gLen32 at h
  split at h
  · rename_i x
    cases h
    have hr := hl _ (List.mem_singleton.2 rfl)
    simp only [decide_eq_true_eq] at hr
    exact len32_calls x hr.1 hr.2 w
  · cases h
/-! ### Len -/
def conL : Con := alt 27 gLen32 conN
theorem conL_ok : ConOk conL := alt_ok Tryd.func27 rfl gLen32_ok conN_ok
theorem nlen_body : Tryd.f12.body = some (cBody Tryd.f12) := by kernel_rfl
theorem nlen_0 (p : Option Addr) (n c : Nat) (h : Hp) : GoesT (evC (tabH Tryd.prog extY conL hcK) 100 false (cBody Tryd.f12) ([.slice p n c] ++ List.replicate 22 undef, h, [cmp true]) ⟨[], [], []⟩) 3 20 (some none) [.slice p n c, undef, i6' 0] h [((n : Int) == 0, true)] := ⟨by kernel_rfl, by kernel_rfl, by kernel_rfl⟩
theorem nlen_bad (o n c : Nat) (l : List Value) : GoesT (evC (tabH Tryd.prog extY conL hcK) 100 false (cBody Tryd.f12) ([sl 0 o n c] ++ List.replicate 22 undef, ⟨1, [(l, tR)]⟩, [cmp false, cmp true]) ⟨[], [], []⟩) 3 20 (some none) [sl 0 o n c, undef, i6' 0] ⟨1, [(l, tR)]⟩ [chkL l o n c, (badL (cutI l o n), true), ((n : Int) == 0, false)] := ⟨by kernel_rfl, by kernel_rfl, by kernel_rfl⟩
theorem nlen_good (o n c : Nat) (x : Int) (l : List Value) : GoesT (evC (tabH Tryd.prog extY conL hcK) 100 false (cBody Tryd.f12) ([sl 0 o n c] ++ List.replicate 22 undef, ⟨1, [(l, tR)]⟩, [cmp false, cmp false, at_, val (uu x)]) ⟨[], [], []⟩) 3 20 (some none) [sl 0 o n c, undef, i6' (IntKind.i64.wrap (IntKind.i64.wrap (n1 n * 32) + (bitLen x.toNat : Nat)))] ⟨1, [(l, tR)]⟩ [(decide (0 ≤ x ∧ x < 4294967296), true), (cellIs (l[o + (n1 n).toNat * 1]?) (.int .u32 x), true), (decide (0 ≤ n1 n ∧ n1 n < n), true), chkL l o n c, (badL (cutI l o n), false), ((n : Int) == 0, false)] := ⟨by kernel_rfl, by kernel_rfl, by kernel_rfl⟩
def lenN (L : List Int) : Int := match (L.length == 0 || badL L) with | true => 0 | false => 32 * ((L.length - 1 : Nat) : Int) + (bitLen (L.getD (L.length - 1) 0).toNat : Nat)
theorem bitLen_32 {x : Int} (h0 : 0 ≤ x) (h1 : x < 4294967296) : bitLen x.toNat ≤ 32 := by
  by_cases h : 65536 ≤ x.toNat
  · have p8 : (2 : Nat) ^ 8 = 256 := rfl
    have p16 : (2 : Nat) ^ 16 = 65536 := rfl
    have l := len_up x.toNat 16 (by omega)
    by_cases h2 : 256 ≤ x.toNat / 2 ^ 16
    · have l2 := len_up (x.toNat / 2 ^ 16) 8 (by omega)
      have := bitLen_le8 (x.toNat / 2 ^ 16 / 2 ^ 8) (by omega)
      omega
    · have := bitLen_le8 (x.toNat / 2 ^ 16) (by omega)
      omega
  · have p8 : (2 : Nat) ^ 8 = 256 := rfl
    by_cases h2 : 256 ≤ x.toNat
    · have l2 := len_up x.toNat 8 (by omega)
      have := bitLen_le8 (x.toNat / 2 ^ 8) (by omega)
      omega
    · have := bitLen_le8 x.toNat (by omega)
      omega
theorem nlen_runs {l : List Value} {o n c : Nat} (ha : rowOk tR l o n c = true) :
    Runs (tabH Tryd.prog extY conL hcK) (cBody Tryd.f12) ([sl 0 o n c] ++ List.replicate 22 undef, ⟨1, [(l, tR)]⟩, []) fun e y => (e = none ∨ e = some none) ∧ resS Tryd.prog Tryd.f12 y.1 y.2.1 = some (i6' (lenN (cutI l o n))) := by
  obtain ⟨a1, a2, a3, a4, a5, a6, a7⟩ := row_of ha
  unfold lenN
  by_cases h0 : n = 0
  · have e0 : ((cutI l o n).length == 0) = true := by rw [a2, h0]; rfl
    rw [e0, Bool.true_or]
    refine (goesT_runs (tabH_ok conL_ok hcK_ok) (nlen_0 (some ⟨0, o, none⟩) n c _) (okOne (by rw [h0]; rfl))).mono fun e y he => ?_
    obtain ⟨rfl, ⟨g, e2⟩, e3⟩ := he
    refine ⟨.inr rfl, ?_⟩
    rw [e2, e3]
    rfl
  · have e0 : ((cutI l o n).length == 0) = false := by rw [a2]; simpa using h0
    have e1 : ((n : Int) == 0) = false := by simpa using h0
    rw [e0, Bool.false_or]
    cases hb : badL (cutI l o n) with
    | true =>
      refine (goesT_runs (tabH_ok conL_ok hcK_ok) (nlen_bad o n c l) (okTwo ha (okTwo hb (okOne e1)))).mono fun e y he => ?_
      obtain ⟨rfl, ⟨g, e2⟩, e3⟩ := he
      refine ⟨.inr rfl, ?_⟩
      rw [e2, e3]
      rfl
    | false =>
      have h8 : n ≤ 8192 := by
        unfold badL at hb
        simp only [Bool.or_eq_false_iff, decide_eq_false_iff_not, a2] at hb
        omega
      have ek : n1 n = ((n - 1 : Nat) : Int) := by
        unfold n1
        rw [wrapI (by omega) (by omega)]
        omega
      rw [a2]
      have hx := a1.rng ((cutI l o n).getD (n - 1) 0) (by
        have hk' : n - 1 < (cutI l o n).length := by omega
        simp [List.getD, List.getElem?_eq_getElem hk'])
      have hc := a1.cell (k := n - 1) (by omega)
      have b32 := bitLen_32 hx.1 hx.2
      refine (goesT_runs (tabH_ok conL_ok hcK_ok) (nlen_good o n c ((cutI l o n).getD (n - 1) 0) l) (okTwo (decide_eq_true hx) (okTwo (by
        rw [ek, Int.toNat_natCast, Nat.mul_one, hc]; simp [cellIs]) (okTwo (by rw [ek]; exact decide_eq_true (by omega)) (okTwo ha (okTwo hb (okOne e1))))))).mono fun e y he => ?_
      obtain ⟨rfl, ⟨g, e2⟩, e3⟩ := he
      refine ⟨.inr rfl, ?_⟩
      have e4 : IntKind.i64.wrap (IntKind.i64.wrap (n1 n * 32) + (bitLen ((cutI l o n).getD (n - 1) 0).toNat : Nat)) = 32 * ((n - 1 : Nat) : Int) + (bitLen ((cutI l o n).getD (n - 1) 0).toNat : Nat) := by
        rw [ek, wrapI (n := ((n - 1 : Nat) : Int) * 32) (by omega) (by omega), wrapI (by omega) (by omega)]
        omega
      rw [e2, e3, e4]
      rfl
theorem nlen_nil : Fits (reckon (tabOf Tryd.prog extY conN true) 100 12 [nilS] []) (i6' 0) [] := ⟨by kernel_rfl, by kernel_rfl, by kernel_rfl, by kernel_rfl⟩
def gLen : AnsH := fun vals h s =>
  match vals with
  | [.slice none 0 0] => some (i6' 0, h, s, [])
  | [.slice (some ⟨b, o, none⟩) n c] =>
    match h.blk? b with
    | some x => some (i6' (lenN (cutI x.1 o n)), h, s, [(rowOk x.2 x.1 o n c, true)])
    | _ => none
  | _ => none
theorem gLen_ok : AnsHOk 12 gLen := by
  intro vals h s v h' s' lg hg hl m B w E hv
  unfold gLen at hg
  split at hg
  · cases hg
    refine (fits_calls (tabY_ok conN_ok) nlen_nil (fun x hx => by cases hx) (by rfl) (by rfl) w).mono fun e w' he => ?_
    obtain ⟨E', hb⟩ := clean_emb E he.2
    exact ⟨m, he.1, ⟨Agree.refl _ _, E', hb, Nat.le_refl _, rfl⟩⟩
  · rename_i b o n c
    split at hg
    · rename_i x hx
      cases hg
      have ra := hl _ (List.mem_singleton.2 rfl)
      obtain ⟨h1, h2, h3, h4, h5, h6, h7⟩ := row_of ra
      have hlt := Hp.blk_lt hx
      have r := nlen_runs (rowOk_R ra)
      have := row_calls (T := tabH Tryd.prog extY conL hcK) Tryd.func12 nlen_body (rows1 h7) (vals := [sl 0 o n c]) (fun v hv => by rw [List.mem_singleton.1 hv]; rfl) (by rfl) r E (s := fun _ => b) (fun i _ => hlt) (fitsR1 hx h5 h6 rfl)
      exact this.mono fun e w' he => ⟨m, he.1, he.2⟩
    · cases hg
  · cases hg
end Go.Proofs.YtcnmfjhefioldabDoor
