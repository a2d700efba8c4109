/-
  ConNB, ConND, NumTx, ConV4, ConV7, ConVK, Asn, AsNum, RunK, Row, RowS, SlN, NumSl, NumTm, ConNM
-/
import Derived.Test.YtjlponbdflkbjaaGreatDoorG08
import Derived.Laws.MathBits
import Derived.Test.YtjlponbdflkbjaaGreatDoorG09
import Derived.Test.YtjlponbdflkbjaaGreatDoorG07
import Derived.Test.YtjlponbdflkbjaaGreatDoorG06
import Derived.WalkKit
import Derived.LaidEql
import Derived.Stop.Asserts
import Derived.RowKitTokens
import Derived.ProofKit
import Derived.OpenShut
import Derived.Laws.IdiomArrays
import Derived.Lib.SmallJoins
import Derived.ChangeSlices
namespace Go.Proofs.YtjlponbdflkbjaaGreatDoor.Na
open Go.KRun Go.Nt
set_option maxRecDepth 100000
/-- the table of the library: how many bits a byte has -/
def lenTab : List UInt8 := (List.range 256).map fun i => UInt8.ofNat (bitLen i)
def byteLen (z : Int) : Int := ((lenTab.getD (IntKind.u8.wrap z).toNat 0).toNat : Int)
def lt8 (z : Int) : Bool × Bool := (decide (0 ≤ IntKind.u8.wrap z ∧ (IntKind.u8.wrap z).toNat < lenTab.length), true)
def shd (z : Int) (k : Nat) : Int := z.fdiv (2 ^ k)
def geq (z k : Int) (d : Bool) : Bool × Bool := (decide (z ≥ k), d)
def lenE (m z : Int) : Value := .int .i64 (IntKind.i64.wrap (m + IntKind.i64.wrap (byteLen z)))
def nz : Bool × Bool := (false, false)
theorem len_00 (u : Int) : Fits (reckon (tabOf Tryz.prog extY conN true) 3000 118 [uu u] [tst false, tst false]) (lenE 0 u) [lt8 u, geq u 256 false, geq u 65536 false] := ⟨by kernel_rfl, by kernel_rfl, by kernel_rfl, by kernel_rfl⟩
theorem len_01 (u : Int) : Fits (reckon (tabOf Tryz.prog extY conN true) 3000 118 [uu u] [tst false, tst true]) (lenE 8 (shd u 8)) [lt8 (shd u 8), nz, geq u 256 true, geq u 65536 false] := ⟨by kernel_rfl, by kernel_rfl, by kernel_rfl, by kernel_rfl⟩
theorem len_10 (u : Int) : Fits (reckon (tabOf Tryz.prog extY conN true) 3000 118 [uu u] [tst true, tst false]) (lenE 16 (shd u 16)) [lt8 (shd u 16), geq (shd u 16) 256 false, nz, geq u 65536 true] := ⟨by kernel_rfl, by kernel_rfl, by kernel_rfl, by kernel_rfl⟩
theorem len_11 (u : Int) : Fits (reckon (tabOf Tryz.prog extY conN true) 3000 118 [uu u] [tst true, tst true]) (lenE 24 (shd (shd u 16) 8)) [lt8 (shd (shd u 16) 8), nz, geq (shd u 16) 256 true, nz, geq u 65536 true] := ⟨by kernel_rfl, by kernel_rfl, by kernel_rfl, by kernel_rfl⟩
theorem lenTab_len : lenTab.length = 256 := by unfold lenTab; rw [List.length_map, List.length_range]
theorem lenTab_get (b : Nat) (h : b < 256) : (lenTab.getD b 0).toNat = bitLen b := by
  have h1 : lenTab.getD b 0 = UInt8.ofNat (bitLen b) := by
    unfold lenTab
    rw [List.getD, List.getElem?_map, List.getElem?_range h]
    rfl
  have h2 := bitLen_le8 b h
  rw [h1, UInt8.toNat_ofNat']
  omega
theorem u8_wrap {z : Int} (h0 : 0 ≤ z) (h1 : z < 256) : IntKind.u8.wrap z = z := by
  simp [IntKind.wrap, IntKind.bits, IntKind.signed]; omega
theorem lenE_eq {m : Int} {Z : Nat} (hm : 0 ≤ m) (hm' : m ≤ 56) (h1 : Z < 256) : lenE m (Z : Int) = .int .i64 (m + bitLen Z) ∧ (lt8 (Z : Int)).1 = (lt8 (Z : Int)).2 := by
  have hb := bitLen_le8 Z h1
  have e := u8_wrap (z := (Z : Int)) (by omega) (by omega)
  refine ⟨?_, ?_⟩
  · unfold lenE byteLen
    rw [e, Int.toNat_natCast, lenTab_get Z h1, wrapI (n := ((bitLen Z : Nat) : Int)) (by omega) (by omega), wrapI (by omega) (by omega)]
  · unfold lt8
    rw [e, Int.toNat_natCast]
    rw [lenTab_len]
    exact decide_eq_true (And.intro (by omega) h1)
theorem shd_eq (Z k : Nat) : shd (Z : Int) k = ((Z / 2 ^ k : Nat) : Int) := by
  unfold shd
  rw [Int.fdiv_eq_ediv_of_nonneg _ (Int.le_of_lt (Int.pow_pos (by omega)))]
  simp
theorem geq_t {z k : Int} (h : k ≤ z) : (geq z k true).1 = (geq z k true).2 := decide_eq_true h
theorem geq_f {z k : Int} (h : z < k) : (geq z k false).1 = (geq z k false).2 := decide_eq_false (by omega)
theorem nz_ok : nz.1 = nz.2 := rfl
theorem len_up (x b : Nat) (h : 2 ^ b ≤ x) : bitLen x = b + bitLen (x / 2 ^ b) := bitLen_shift x b (by
  have : 0 < x / 2 ^ b := Nat.div_pos h (Nat.two_pow_pos b)
  omega)
def len32V (u : Int) : Value := .int .i64 (bitLen u.toNat : Nat)
theorem len32_calls (u : Int) (h0 : 0 ≤ u) (h1 : u < 4294967296) (w : World) : Calls Tryz.prog 118 #[uu u] w fun e w' => e = .returned (len32V u) ∧ Tidy w w' := by
  obtain ⟨U, rfl⟩ := Int.eq_ofNat_of_zero_le h0
  unfold len32V
  rw [Int.toNat_natCast]
  have p8 : (2 : Nat) ^ 8 = 256 := rfl
  have p16 : (2 : Nat) ^ 16 = 65536 := rfl
  have step : ∀ {v : Value} {s : List Dec} {cs : Log}, Fits (reckon (tabOf Tryz.prog extY conN true) 3000 118 [uu (U : Int)] s) v cs → okLog cs → v = .int .i64 (bitLen U : Nat) → Calls Tryz.prog 118 #[uu (U : Int)] w fun e w' => e = .returned (.int .i64 (bitLen U : Nat)) ∧ Tidy w w' :=
    fun {v s cs} hf hc hv => by subst hv; exact fits_calls (tabY_ok conN_ok) hf hc (by rfl) (by rfl) w
  by_cases b : U < 65536
  · by_cases c : U < 256
    · obtain ⟨e1, e2⟩ := lenE_eq (m := 0) (by omega) (by omega) c
      exact step (len_00 U) (okTwo e2 (okTwo (geq_f (by omega)) (okOne (geq_f (by omega))))) (by rw [e1]; congr 1; omega)
    · have l := len_up U 8 (by omega)
      obtain ⟨e1, e2⟩ := lenE_eq (m := 8) (Z := U / 2 ^ 8) (by omega) (by omega) (by omega)
      rw [← shd_eq] at e1 e2
      exact step (len_01 U) (okTwo e2 (okTwo nz_ok (okTwo (geq_t (by omega)) (okOne (geq_f (by omega)))))) (by rw [e1]; congr 1; omega)
  · have l := len_up U 16 (by omega)
    by_cases c : U / 2 ^ 16 < 256
    · obtain ⟨e1, e2⟩ := lenE_eq (m := 16) (Z := U / 2 ^ 16) (by omega) (by omega) c
      rw [← shd_eq] at e1 e2
      exact step (len_10 U) (okTwo e2 (okTwo (geq_f (by rw [shd_eq]; omega)) (okTwo nz_ok (okOne (geq_t (by omega)))))) (by rw [e1]; congr 1; omega)
    · have l2 := len_up (U / 2 ^ 16) 8 (by omega)
      obtain ⟨e1, e2⟩ := lenE_eq (m := 24) (Z := U / 2 ^ 16 / 2 ^ 8) (by omega) (by omega) (by omega)
      rw [← shd_eq, ← shd_eq] at e1 e2
      exact step (len_11 U) (okTwo e2 (okTwo nz_ok (okTwo (geq_t (by rw [shd_eq]; omega)) (okTwo nz_ok (okOne (geq_t (by omega))))))) (by rw [e1]; congr 1; omega)
def gLen32 : Ans := fun vals s =>
  match vals with
  | [.int .u32 x] => some (len32V x, s, [(decide (0 ≤ x ∧ x < 4294967296), true)])
  | _ => none
theorem gLen32_ok : AnsOk 118 gLen32 := by
  intro vals s v s' lg h hl w
  unfold gLen32 at h
  split at h
  · rename_i x
    cases h
    have hr := hl _ (List.mem_singleton.2 rfl)
    simp only [decide_eq_true_eq] at hr
    exact len32_calls x hr.1 hr.2 w
  · cases h
/-! ### Len -/
def conL : Con := alt 118 gLen32 conN
theorem conL_ok : ConOk conL := alt_ok Tryz.func118 rfl gLen32_ok conN_ok
theorem nlen_body : Tryz.f79.body = some (cBody Tryz.f79) := by kernel_rfl
theorem nlen_0 (p : Option Addr) (n c : Nat) (h : Hp) : GoesT (evC (tabH Tryz.prog extY conL hcK) 100 false (cBody Tryz.f79) ([.slice p n c] ++ List.replicate 22 undef, h, [cmp true]) ⟨[], [], []⟩) 3 20 (some none) [.slice p n c, undef, i6' 0] h [((n : Int) == 0, true)] := ⟨by kernel_rfl, by kernel_rfl, by kernel_rfl⟩
theorem nlen_bad (o n c : Nat) (l : List Value) : GoesT (evC (tabH Tryz.prog extY conL hcK) 100 false (cBody Tryz.f79) ([sl 0 o n c] ++ List.replicate 22 undef, ⟨1, [(l, tR)]⟩, [cmp false, cmp true]) ⟨[], [], []⟩) 3 20 (some none) [sl 0 o n c, undef, i6' 0] ⟨1, [(l, tR)]⟩ [chkL l o n c, (badL (cutI l o n), true), ((n : Int) == 0, false)] := ⟨by kernel_rfl, by kernel_rfl, by kernel_rfl⟩
theorem nlen_good (o n c : Nat) (x : Int) (l : List Value) : GoesT (evC (tabH Tryz.prog extY conL hcK) 100 false (cBody Tryz.f79) ([sl 0 o n c] ++ List.replicate 22 undef, ⟨1, [(l, tR)]⟩, [cmp false, cmp false, at_, val (uu x)]) ⟨[], [], []⟩) 3 20 (some none) [sl 0 o n c, undef, i6' (IntKind.i64.wrap (IntKind.i64.wrap (n1 n * 32) + (bitLen x.toNat : Nat)))] ⟨1, [(l, tR)]⟩ [(decide (0 ≤ x ∧ x < 4294967296), true), (cellIs (l[o + (n1 n).toNat * 1]?) (.int .u32 x), true), (decide (0 ≤ n1 n ∧ n1 n < n), true), chkL l o n c, (badL (cutI l o n), false), ((n : Int) == 0, false)] := ⟨by kernel_rfl, by kernel_rfl, by kernel_rfl⟩
def lenN (L : List Int) : Int := match (L.length == 0 || badL L) with | true => 0 | false => 32 * ((L.length - 1 : Nat) : Int) + (bitLen (L.getD (L.length - 1) 0).toNat : Nat)
theorem bitLen_32 {x : Int} (h0 : 0 ≤ x) (h1 : x < 4294967296) : bitLen x.toNat ≤ 32 := by
  by_cases h : 65536 ≤ x.toNat
  · have p8 : (2 : Nat) ^ 8 = 256 := rfl
    have p16 : (2 : Nat) ^ 16 = 65536 := rfl
    have l := len_up x.toNat 16 (by omega)
    by_cases h2 : 256 ≤ x.toNat / 2 ^ 16
    · have l2 := len_up (x.toNat / 2 ^ 16) 8 (by omega)
      have := bitLen_le8 (x.toNat / 2 ^ 16 / 2 ^ 8) (by omega)
      omega
    · have := bitLen_le8 (x.toNat / 2 ^ 16) (by omega)
      omega
  · have p8 : (2 : Nat) ^ 8 = 256 := rfl
    by_cases h2 : 256 ≤ x.toNat
    · have l2 := len_up x.toNat 8 (by omega)
      have := bitLen_le8 (x.toNat / 2 ^ 8) (by omega)
      omega
    · have := bitLen_le8 x.toNat (by omega)
      omega
theorem nlen_runs {l : List Value} {o n c : Nat} (ha : rowOk tR l o n c = true) :
    Runs (tabH Tryz.prog extY conL hcK) (cBody Tryz.f79) ([sl 0 o n c] ++ List.replicate 22 undef, ⟨1, [(l, tR)]⟩, []) fun e y => (e = none ∨ e = some none) ∧ resS Tryz.prog Tryz.f79 y.1 y.2.1 = some (i6' (lenN (cutI l o n))) := by
  obtain ⟨a1, a2, a3, a4, a5, a6, a7⟩ := row_of ha
  unfold lenN
  by_cases h0 : n = 0
  · have e0 : ((cutI l o n).length == 0) = true := by rw [a2, h0]; rfl
    rw [e0, Bool.true_or]
    refine (goesT_runs (tabH_ok conL_ok hcK_ok) (nlen_0 (some ⟨0, o, none⟩) n c _) (okOne (by rw [h0]; rfl))).mono fun e y he => ?_
    obtain ⟨rfl, ⟨g, e2⟩, e3⟩ := he
    refine ⟨.inr rfl, ?_⟩
    rw [e2, e3]
    rfl
  · have e0 : ((cutI l o n).length == 0) = false := by rw [a2]; simpa using h0
    have e1 : ((n : Int) == 0) = false := by simpa using h0
    rw [e0, Bool.false_or]
    cases hb : badL (cutI l o n) with
    | true =>
      refine (goesT_runs (tabH_ok conL_ok hcK_ok) (nlen_bad o n c l) (okTwo ha (okTwo hb (okOne e1)))).mono fun e y he => ?_
      obtain ⟨rfl, ⟨g, e2⟩, e3⟩ := he
      refine ⟨.inr rfl, ?_⟩
      rw [e2, e3]
      rfl
    | false =>
      have h8 : n ≤ 8192 := by
        unfold badL at hb
        simp only [Bool.or_eq_false_iff, decide_eq_false_iff_not, a2] at hb
        omega
      have ek : n1 n = ((n - 1 : Nat) : Int) := by
        unfold n1
        rw [wrapI (by omega) (by omega)]
        omega
      rw [a2]
      have hx := a1.rng ((cutI l o n).getD (n - 1) 0) (by
        have hk' : n - 1 < (cutI l o n).length := by omega
        simp [List.getD, List.getElem?_eq_getElem hk'])
      have hc := a1.cell (k := n - 1) (by omega)
      have b32 := bitLen_32 hx.1 hx.2
      refine (goesT_runs (tabH_ok conL_ok hcK_ok) (nlen_good o n c ((cutI l o n).getD (n - 1) 0) l) (okTwo (decide_eq_true hx) (okTwo (by
        rw [ek, Int.toNat_natCast, Nat.mul_one, hc]; simp [cellIs]) (okTwo (by rw [ek]; exact decide_eq_true (by omega)) (okTwo ha (okTwo hb (okOne e1))))))).mono fun e y he => ?_
      obtain ⟨rfl, ⟨g, e2⟩, e3⟩ := he
      refine ⟨.inr rfl, ?_⟩
      have e4 : IntKind.i64.wrap (IntKind.i64.wrap (n1 n * 32) + (bitLen ((cutI l o n).getD (n - 1) 0).toNat : Nat)) = 32 * ((n - 1 : Nat) : Int) + (bitLen ((cutI l o n).getD (n - 1) 0).toNat : Nat) := by
        rw [ek, wrapI (n := ((n - 1 : Nat) : Int) * 32) (by omega) (by omega), wrapI (by omega) (by omega)]
        omega
      rw [e2, e3, e4]
      rfl
theorem nlen_nil : Fits (reckon (tabOf Tryz.prog extY conN true) 100 79 [nilS] []) (i6' 0) [] := ⟨by kernel_rfl, by kernel_rfl, by kernel_rfl, by kernel_rfl⟩
def gLen : AnsH := fun vals h s =>
  match vals with
  | [.slice none 0 0] => some (i6' 0, h, s, [])
  | [.slice (some ⟨b, o, none⟩) n c] =>
    match h.blk? b with
    | some x => some (i6' (lenN (cutI x.1 o n)), h, s, [(rowOk x.2 x.1 o n c, true)])
    | _ => none
  | _ => none
theorem gLen_ok : AnsHOk 79 gLen := by
  intro vals h s v h' s' lg hg hl m B w E hv
  unfold gLen at hg
  split at hg
  · cases hg
    refine (fits_calls (tabY_ok conN_ok) nlen_nil (fun x hx => by cases hx) (by rfl) (by rfl) w).mono fun e w' he => ?_
    obtain ⟨E', hb⟩ := clean_emb E he.2
    exact ⟨m, he.1, ⟨Agree.refl _ _, E', hb, Nat.le_refl _, rfl⟩⟩
  · rename_i b o n c
    split at hg
    · rename_i x hx
      cases hg
      have ra := hl _ (List.mem_singleton.2 rfl)
      obtain ⟨h1, h2, h3, h4, h5, h6, h7⟩ := row_of ra
      have hlt := Hp.blk_lt hx
      have r := nlen_runs (rowOk_R ra)
      have := row_calls (T := tabH Tryz.prog extY conL hcK) Tryz.func79 nlen_body (rows1 h7) (vals := [sl 0 o n c]) (fun v hv => by rw [List.mem_singleton.1 hv]; rfl) (by rfl) r E (s := fun _ => b) (fun i _ => hlt) (fitsR1 hx h5 h6 rfl)
      exact this.mono fun e w' he => ⟨m, he.1, he.2⟩
    · cases hg
  · cases hg
theorem fU_get {F : List Value} {o : Nat} (hF : F.length = o) (dx : List Int) (x : Int) (px : List Int) : (F ++ wU (dx ++ x :: px))[o + dx.length]? = some (uu x) := by
  rw [List.getElem?_append_right (by omega), hF, Nat.add_sub_cancel_left]
  exact wU_get dx x px
theorem fU_set {F : List Value} {o : Nat} (hF : F.length = o) (dx : List Int) (x d : Int) (px : List Int) : (F ++ wU (dx ++ x :: px)).set (o + dx.length) (uu d) = F ++ wU ((dx ++ [d]) ++ px) := by
  rw [List.set_append_right _ _ (by omega), hF, Nat.add_sub_cancel_left, wU_set]
theorem mup_runs {F la : List Value} {o c k : Nat} {L : List Int} (hF : F.length = o) (hL : wds L) (hk : k < 32) (hN : L.length < 4611686018427387904) :
    Runs (tabOf Tryz.prog extY conN true) (seqs (mR0 Tryz.f119) (.block 0 (.loop (mL Tryz.f119)))) ([sl 1 o L.length c, i6' k] ++ List.replicate 25 undef, hU (F ++ wU L) la, []) fun e y => (e = none ∨ e = some none) ∧ resS Tryz.prog Tryz.f119 y.1 y.2.1 = some (.tuple #[]) ∧ y.2.1.cut 2 = hU (F ++ wU (dg L.length (vN L * 2 ^ k))) la := by
  refine goesT_list (tabY_ok conN_ok) (mup_pre 1 o L.length c (i6' k) _) (fun x hx => by cases hx) fun g => ?_
  refine (Runs.forLoop (R := fun _ => False) (P := fun y => ∃ (l i x j : Value) (g : Nat → Value), y.1 = mF (sl 1 o L.length c) (i6' k) l i x (sl 1 o L.length c) (i6' L.length) j ++ tl 17 g ∧ y.2.1 = hU (F ++ wU (dg L.length (vN L * 2 ^ k))) la)
    (fun r y => ∃ (dx px : List Int) (l : Int) (i0 x0 : Value) (g : Nat → Value), px.length = r ∧ dx.length + px.length = L.length ∧ wds dx ∧ wds px ∧ (0 ≤ l ∧ l < 2 ^ k) ∧ y.1 = mF (sl 1 o L.length c) (i6' k) (uu l) i0 x0 (sl 1 o L.length c) (i6' L.length) (i6' dx.length) ++ tl 17 g ∧ y.2.1 = hU (F ++ wU (dx ++ px)) la ∧ vN dx + 4294967296 ^ dx.length * (vN px * 2 ^ k + l) = vN L * 2 ^ k)
    ?_ (n := L.length) ⟨[], L, 0, undef, undef, g, rfl, by simp, (fun x hx => by cases hx), hL, ⟨by omega, Int.pow_pos (by omega)⟩, rfl, rfl, by simp [vN]⟩).mono fun e' y he => ?_
  · rintro r ⟨t, h', s'⟩ ⟨dx, px, l, i0, x0, g, hr, hl, wd1, wd2, hlo, ht, hh, hv⟩
    simp only at ht hh
    subst ht hh
    match px, hr, hl, wd2, hv with
    | [], hr, hl, wd2, hv =>
      have hl' : dx.length = L.length := by simpa using hl
      refine (goesT_runs (tabY_ok conN_ok) (mup_out _ _ _ _ _ _ L.length dx.length _ g) (okOne (decide_eq_false (by omega)))).mono fun e' y he => ?_
      obtain ⟨rfl, ⟨g1, e2⟩, e3⟩ := he
      refine ⟨rfl, _, _, _, _, g1, e2, ?_⟩
      simp only [vN] at hv
      rw [Int.zero_mul, Int.zero_add] at hv
      have e5 := dg_mod dx.length (vN dx) l
      rw [hv, dg_vN dx wd1, hl'] at e5
      rw [e3, e5, List.append_nil]
    | x :: px, hr, hl, wd2, hv =>
      obtain ⟨wx, wd2⟩ := wds_tail wd2
      obtain ⟨k1, k2, k3⟩ := up32 wx hlo hk
      have cS := fU_get hF dx x px
      have lS : (F ++ wU (dx ++ x :: px)).length = o + L.length := by
        unfold wU
        simp at hl ⊢
        omega
      have hl' : dx.length < L.length := by simp at hl; omega
      have l1 : decide (o + ((dx.length : Int)).toNat * 1 < (F ++ wU (dx ++ x :: px)).length) = true := by
        rw [lS, Int.toNat_natCast]
        exact decide_eq_true (by omega)
      have l2 : (inR dx.length L.length).1 = (inR dx.length L.length).2 := decide_eq_true (by omega)
      have l4 : (celR (F ++ wU (dx ++ x :: px)) o dx.length x).1 = (celR (F ++ wU (dx ++ x :: px)) o dx.length x).2 := cel_ok cS
      have e32 : IntKind.i64.wrap (32 - (k : Int)) = 32 - (k : Int) := wrapI (by omega) (by omega)
      have l5 : decide (IntKind.i64.wrap (32 - (k : Int)) < 0) = false := by
        rw [e32]
        exact decide_eq_false (by omega)
      have l6 : decide ((k : Int) < 0) = false := decide_eq_false (by omega)
      have l7 : decide ((dx.length : Int) < (L.length : Nat)) = true := decide_eq_true (by omega)
      refine (goesT_runs (tabY_ok conN_ok) (mup_go o L.length c k l dx.length x i0 x0 la (F ++ wU (dx ++ x :: px)) g) (okTwo l5 (okTwo l1 (okTwo l2 (okTwo l6 (okTwo l4 (okTwo l2 (okOne l7)))))))).mono fun e' y he => ?_
      obtain ⟨rfl, ⟨g1, e2⟩, e3⟩ := he
      refine ⟨px.length, by simp at hr; omega, dx ++ [newU x k l], px, lowU x k, i6' dx.length, uu x, g1, rfl, by simp at hl ⊢; omega, wds_app wd1 (fun z hz => by rw [List.mem_singleton.1 hz]; exact k1), wd2, k2, ?_, ?_, ?_⟩
      · rw [e2, wrapI (by omega) (by omega)]
        simp
      · rw [e3, Int.toNat_natCast, Nat.mul_one, fU_set hF]
      · simp only [vN] at hv
        rw [vN_snoc, List.length_append, List.length_singleton, pw]
        exact up_step k3 hv
  · match e', he with
    | none, he =>
      obtain ⟨l, i, x, j, g, e1, e2⟩ := he
      refine ⟨.inl rfl, ?_, ?_⟩
      · rw [e1]; exact mup_res _ _ _ _ _ _ _ _ _ _
      · rw [e2]; rfl
    | some none, he => exact he.elim
    | some (some _), he => exact he.elim
def upS (S : List Value) (o n : Nat) (k : Int) : List Value := S.take o ++ wU (dg n (vN (cutI S o n) * 2 ^ k.toNat))
def gMup : AnsH := fun vals h s =>
  match vals, h with
  | [.slice (some ⟨1, o, none⟩) n c, .int .i64 k], ⟨2, [(S, t), (la, t')]⟩ => some (.tuple #[], ⟨2, [(upS S o n k, tU), (la, tR)]⟩, s, [(Nat.beq t tU, true), (Nat.beq t' tR, true), (rowOk t S o n c, true), (Nat.beq (o + n) S.length, true), (la.all still, true), (decide (0 ≤ k ∧ k < 32), true)])
  | _, _ => none
theorem wU_tight (L : List Int) (n : Nat) : (wU L).all (lt1 n) = true := by
  unfold wU
  rw [List.all_eq_true]
  intro v hv
  obtain ⟨x, _, rfl⟩ := List.mem_map.1 hv
  rfl
theorem all_mono {l : List Value} {n : Nat} (hn : 0 < n) (h : l.all still = true) : l.all (lt1 n) = true := by
  rw [List.all_eq_true] at *
  exact fun v hv => still_lt hn (h v hv)
theorem gMup_ok : AnsHOk 119 gMup := by
  intro vals h s v h' s' lg hg hl m B w E hv
  unfold gMup at hg
  split at hg
  · rename_i o n c k S t la t'
    cases hg
    have q1 := Nat.eq_of_beq_eq_true (hl _ (List.mem_cons_self))
    have q2 := Nat.eq_of_beq_eq_true (hl _ (List.mem_cons_of_mem _ List.mem_cons_self))
    have ra := hl _ (List.mem_cons_of_mem _ (List.mem_cons_of_mem _ List.mem_cons_self))
    have q4 := Nat.eq_of_beq_eq_true (hl _ (List.mem_cons_of_mem _ (List.mem_cons_of_mem _ (List.mem_cons_of_mem _ List.mem_cons_self))))
    have q5 := hl _ (List.mem_cons_of_mem _ (List.mem_cons_of_mem _ (List.mem_cons_of_mem _ (List.mem_cons_of_mem _ List.mem_cons_self))))
    have q6 := of_decide_eq_true (hl _ (List.mem_cons_of_mem _ (List.mem_cons_of_mem _ (List.mem_cons_of_mem _ (List.mem_cons_of_mem _ (List.mem_cons_of_mem _ (List.mem_singleton.2 rfl)))))))
    simp only at q1 q2 q4 q5
    subst q1 q2
    obtain ⟨a1, a2, a3, a4, a5, a6, a7⟩ := row_of ra
    obtain ⟨K, rfl⟩ := Int.eq_ofNat_of_zero_le q6.1
    have hc : c < 4611686018427387904 := blt_iff.1 a4
    have eS : S = S.take o ++ wU (cutI S o n) := by
      have h1 := a1.cut
      rw [a2] at h1
      rw [← h1]
      unfold cutV
      rw [show n = (S.drop o).length from by simp; omega, List.take_length, List.take_append_drop]
    have hF : (S.take o).length = o := by simp; omega
    have r := mup_runs (la := la) (c := c) (k := K) hF a1.rng (by omega) (by omega)
    rw [a2, ← eS] at r
    have ht : (Hp.tight ⟨2, [(upS S o n K, tU), (la, tR)]⟩) = true := by
      unfold Hp.tight upS
      simp only [List.all_cons, List.all_nil, List.all_append, Bool.and_true, Bool.and_eq_true]
      refine ⟨⟨?_, wU_tight _ _⟩, all_mono (by omega) q5⟩
      rw [List.all_eq_true]
      exact fun v hv => still_lt (by omega) (a7 v (List.mem_of_mem_take hv))
    exact hcalls_of_runs (T := tabOf Tryz.prog extY conN true) Tryz.func119 mup_body (vals := [sl 1 o n c, i6' K]) (v := .tuple #[]) (h := hU S la) (by rfl) ht r m B w E hv
  · cases hg
end Go.Proofs.YtjlponbdflkbjaaGreatDoor.Na
namespace Go.Nt
/-- what digits stand for, the highest first -/
def rdV10 (f : Nat → Int) : Nat → Nat
  | 0 => 0
  | k + 1 => 10 * rdV10 f k + (f k).toNat
theorem rdV10_lt {f : Nat → Int} : ∀ k, (∀ j, j < k → 0 ≤ f j ∧ f j < 10) → rdV10 f k < 10 ^ k
  | 0, _ => by simp [rdV10]
  | k + 1, h => by
    have ih := rdV10_lt k (fun j hj => h j (by omega))
    have := h k (by omega)
    simp only [rdV10, Nat.pow_succ]
    omega
theorem rdV10_add {f : Nat → Int} (i : Nat) : ∀ k, rdV10 f (i + k) = rdV10 f i * 10 ^ k + rdV10 (fun j => f (i + j)) k
  | 0 => by simp [rdV10]
  | k + 1 => by
    rw [show i + (k + 1) = (i + k) + 1 by omega]
    simp only [rdV10]
    rw [rdV10_add i k, Nat.pow_succ]
    generalize rdV10 (fun j => f (i + j)) k = A
    generalize rdV10 f i = B
    generalize 10 ^ k = C
    rw [Nat.mul_add, Nat.add_assoc, ← Nat.mul_assoc, Nat.mul_comm 10 B, Nat.mul_assoc B 10 C, Nat.mul_comm 10 C]
end Go.Nt
namespace Go.Proofs.YtjlponbdflkbjaaGreatDoor
open Go.KRun Go.Nt
set_option maxRecDepth 100000
/-- a row or nothing, in block i of a small memory -/
structure Nu (i : Nat) (x : List Value × TypeId) (p : Option Addr) (n c : Nat) (A : List Int) : Prop where
  row : ∀ h : Hp, h.blk? i = some x → rowP h p n c = true ∧ rowOf h p n = A
  pos : p = none ∨ ∃ o, p = some ⟨i, o, none⟩
  st : ∀ v ∈ x.1, still v = true
  lt0 : ∀ v ∈ x.1, still v = true
  ros : ro x.2 = true ∧ ab x.2 = false
theorem rowOf_len {h : Hp} {p : Option Addr} {n c : Nat} (hr : rowP h p n c = true) : (rowOf h p n).length = n := by
  rcases rowP_cases hr with ⟨rfl, rfl, rfl, e0⟩ | ⟨b, o, x, rfl, hx, q1, q2, e0⟩
  · rw [e0]; rfl
  · rw [e0]; exact (rowC_of q1).2.1
/-! ### Add -/
def cmpZ (a b : Nat) : Int := if a < b then -1 else if a = b then 0 else 1
end Go.Proofs.YtjlponbdflkbjaaGreatDoor
namespace Go.Proofs.YtjlponbdflkbjaaGreatDoor.Na
open Go.KRun Go.Nt
set_option maxRecDepth 100000
set_option linter.unusedVariables false
/-! ### numbers -/
section
variable {l : List Value} {o c : Nat} {A : List Int}
def d32 (V : Nat) : List Int := db 4294967296 V
end
end Go.Proofs.YtjlponbdflkbjaaGreatDoor.Na
namespace Go.Proofs.YtjlponbdflkbjaaGreatDoor
open Go.RowKit Go.Extern.Stop Go.Stop Go.Extern
/-! ### what the model's entries for internal/reflectlite answer at these types -/
theorem as_valueOfP (t : Addr) (w : World) : (ReflectliteValue.unpack (.iface 68 (.pointer (some t)))).run Tryz.prog w
    = .ok (.agg #[.pointer (some ⟨4, 68, none⟩), .pointer (some ⟨w.heap.size, 0, none⟩), .int .u64 150]) (w.alloc (.cells #[.pointer (some t)] 68)) := by kernel_rfl
theorem as_typeP (a : Addr) (w : World) : (ReflectliteValue.methodAny (ReflectliteValue.valueError "reflectlite.Value.Type" 0) (fun t _ _ _ => ReflectliteType.toType t) #[.agg #[.pointer (some ⟨4, 68, none⟩), .pointer (some a), .int .u64 150]]).run Tryz.prog w
    = .ok (.iface 154 (.agg #[.pointer (some ⟨4, 68, none⟩)])) w := by kernel_rfl
theorem as_methodKind (h : Value) (w : World) : (Go.method 342 154 (.agg #[h]) "Kind").run Tryz.prog w = .ok (166, h) w := by kernel_rfl
theorem as_kindP (w : World) : ((ReflectliteType.abiMethod fun t => (fun a : Nat => Value.int IntKind.u8 (a : Int)) <$> Rtype.kind t) #[.pointer (some ⟨4, 68, none⟩)]).run Tryz.prog w = .ok (.int .u8 22) w := by kernel_rfl
theorem as_kindE (w : World) : ((ReflectliteType.abiMethod fun t => (fun a : Nat => Value.int IntKind.u8 (a : Int)) <$> Rtype.kind t) #[.pointer (some ⟨4, 42, none⟩)]).run Tryz.prog w = .ok (.int .u8 2) w := by kernel_rfl
theorem as_rlm (z : Sem Value) (f : TypeId → Addr → Nat → Nat → Sem Value) (v : Value) :
    ReflectliteValue.method z f #[v] = (do match ← ReflectliteValue.parts v with | none => z | some (t, a, fl) => f t a fl (fl % 32)) := rfl
theorem as_partsP (a : Addr) (w : World) : (ReflectliteValue.parts (.agg #[.pointer (some ⟨4, 68, none⟩), .pointer (some a), .int .u64 150])).run Tryz.prog w = .ok (some (68, a, 150)) w := by kernel_rfl
theorem as_isNilP (a p : Addr) (W : World) (ha : W.cell? a = some (.pointer (some p))) :
    (ReflectliteValue.method (ReflectliteValue.valueError "reflectlite.Value.IsNil" 0) ReflectliteValue.isNil #[.agg #[.pointer (some ⟨4, 68, none⟩), .pointer (some a), .int .u64 150]]).run Tryz.prog W = .ok (.bool false) W := by
  rw [as_rlm]
  simp only [Sem.run_bind, as_partsP, Result.andThen]
  simp [ReflectliteValue.isNil, loadVar, isAgg, underlying, Tryz.underlying68, ha, Result.andThen]
theorem as_methodElem (h : Value) (w : World) : (Go.method 342 154 (.agg #[h]) "Elem").run Tryz.prog w = .ok (176, .agg #[h]) w := by kernel_rfl
theorem as_methodImplements (h : Value) (w : World) : (Go.method 342 154 (.agg #[h]) "Implements").run Tryz.prog w = .ok (177, .agg #[h]) w := by kernel_rfl
theorem as_methodAssignableTo (h : Value) (w : World) : (Go.method 342 154 (.agg #[h]) "AssignableTo").run Tryz.prog w = .ok (174, .agg #[h]) w := by kernel_rfl
theorem as_elemP (w : World) : (ReflectliteType.method ReflectliteType.elem #[.agg #[.pointer (some ⟨4, 68, none⟩)]]).run Tryz.prog w = .ok (.iface 154 (.agg #[.pointer (some ⟨4, 42, none⟩)])) w := by kernel_rfl
theorem as_implementsE (w : World) : (ReflectliteType.relation "Implements" ReflectliteType.implements_ #[.agg #[.pointer (some ⟨4, 42, none⟩)], .iface 154 (.agg #[.pointer (some ⟨4, 26, none⟩)])]).run Tryz.prog w = .ok (.bool true) w := by kernel_rfl
theorem as_typeOfE (v : Value) (w : World) : (ReflectliteType.typeOf #[.iface 42 v]).run Tryz.prog w = .ok (.iface 154 (.agg #[.pointer (some ⟨4, 42, none⟩)])) w := by kernel_rfl
theorem as_assignableE (w : World) : (ReflectliteType.relation "AssignableTo" ReflectliteType.assignableTo #[.agg #[.pointer (some ⟨4, 42, none⟩)], .iface 154 (.agg #[.pointer (some ⟨4, 42, none⟩)])]).run Tryz.prog w = .ok (.bool true) w := by kernel_rfl
theorem as_valueOfE (n : Int) (w : World) : (ReflectliteValue.unpack (.iface 42 (.int .i64 n))).run Tryz.prog w
    = .ok (.agg #[.pointer (some ⟨4, 42, none⟩), .pointer (some ⟨w.heap.size, 0, none⟩), .int .u64 130]) (w.alloc (.cells #[.int .i64 n] 42)) := by kernel_rfl
theorem as_elemOfP (w : World) : (Rtype.elem? 68).run Tryz.prog w = .ok (some 42) w := by kernel_rfl
theorem as_mkE (p : Addr) (w : World) : (ReflectliteValue.mk 42 p ReflectliteValue.flagAddr).run Tryz.prog w = .ok (.agg #[.pointer (some ⟨4, 42, none⟩), .pointer (some p), .int .u64 386]) w := by kernel_rfl
theorem as_elemVP (a p : Addr) (W : World) (ha : W.cell? a = some (.pointer (some p))) :
    (ReflectliteValue.method (ReflectliteValue.valueError "reflectlite.Value.Elem" 0) ReflectliteValue.elem #[.agg #[.pointer (some ⟨4, 68, none⟩), .pointer (some a), .int .u64 150]]).run Tryz.prog W
      = .ok (.agg #[.pointer (some ⟨4, 42, none⟩), .pointer (some p), .int .u64 386]) W := by
  rw [as_rlm]
  simp only [Sem.run_bind, as_partsP, Result.andThen]
  simp [ReflectliteValue.elem, loadVar, isAgg, underlying, Tryz.underlying68, ha, Result.andThen, as_elemOfP, as_mkE]
theorem as_partsEa (a : Addr) (w : World) : (ReflectliteValue.parts (.agg #[.pointer (some ⟨4, 42, none⟩), .pointer (some a), .int .u64 386])).run Tryz.prog w = .ok (some (42, a, 386)) w := by kernel_rfl
theorem as_partsE (a : Addr) (w : World) : (ReflectliteValue.parts (.agg #[.pointer (some ⟨4, 42, none⟩), .pointer (some a), .int .u64 130])).run Tryz.prog w = .ok (some (42, a, 130)) w := by kernel_rfl
theorem as_directE (w : World) : (Rtype.directlyAssignable 42 42).run Tryz.prog w = .ok true w := by kernel_rfl
theorem as_setE (ta b : Addr) (n : Int) (old : Value) (W : World) (hb : W.cell? b = some (.int .i64 n)) (ht : W.cell? ta = some old) (hf : W.frozen? ta = false) :
    (ReflectliteValue.set #[.agg #[.pointer (some ⟨4, 42, none⟩), .pointer (some ta), .int .u64 386], .agg #[.pointer (some ⟨4, 42, none⟩), .pointer (some b), .int .u64 130]]).run Tryz.prog W
      = .ok (.tuple #[]) (W.setCell ta (.int .i64 n)) := by
  have e : ∀ v x : Value, ReflectliteValue.set #[v, x] = (ReflectliteValue.parts v >>= fun p => ReflectliteValue.parts x >>= fun q => _) := fun _ _ => rfl
  rw [e]
  simp only [Sem.run_bind, as_partsEa, as_partsE, Result.andThen]
  simp [ReflectliteValue.flagAddr, loadVar, isAgg, underlying, Tryz.underlying42, hb, Result.andThen, as_directE, storeVar, Value.cells, storeCells, Addr.add]
  rw [run_store Tryz.prog W ta _ _ (by rfl)]
  simp [ht, hf]
/-- what lies in the variable errors.errorType -/
def errT : Value := .iface 154 (.agg #[.pointer (some ⟨4, 26, none⟩)])
/-- the world behind the call -/
def asW (n : Int) (t : Addr) (w : World) : World := ((((w.alloc (.cells #[.pointer (some t)] 68)).alloc (.cells #[.pointer (some ⟨4, 68, none⟩), .pointer (some ⟨w.heap.size, 0, none⟩), .int .u64 150] 111)).alloc (.cells #[.pointer (some ⟨4, 68, none⟩), .pointer (some ⟨w.heap.size, 0, none⟩), .int .u64 150] 111)).alloc (.cells #[.int .i64 n] 42)).setCell t (.int .i64 n)
set_option maxHeartbeats 4000000 in
theorem as_hit (n : Int) (t : Addr) (old : Value) (w : World) (hg : w.cell? ⟨0, 0, none⟩ = some (.iface 154 (.agg #[.pointer (some ⟨4, 26, none⟩)]))) (ht0 : w.cell? t = some old) (hf0 : w.frozen? t = false) :
    Calls Tryz.prog 23 #[.iface 42 (.int .i64 n), .iface 68 (.pointer (some t))] w fun ev w' => ev = .returned (.bool true) ∧ w' = ((((w.alloc (.cells #[.pointer (some t)] 68)).alloc (.cells #[.pointer (some ⟨4, 68, none⟩), .pointer (some ⟨w.heap.size, 0, none⟩), .int .u64 150] 111)).alloc (.cells #[.pointer (some ⟨4, 68, none⟩), .pointer (some ⟨w.heap.size, 0, none⟩), .int .u64 150] 111)).alloc (.cells #[.int .i64 n] 42)).setCell t (.int .i64 n) := by
  have h6 := @run_callFunc_extern Tryz.prog 57 _ (fun args => ReflectliteValue.unpack (args.getD 0 (.tuple #[]))) Tryz.func57 (by kernel_rfl) (by kernel_rfl) (by kernel_rfl) (by kernel_rfl)
  have h7 := @run_callFunc_extern Tryz.prog 58 _ (ReflectliteValue.methodAny (ReflectliteValue.valueError "reflectlite.Value.Type" 0) (fun t _ _ _ => ReflectliteType.toType t)) Tryz.func58 (by kernel_rfl) (by kernel_rfl) (by kernel_rfl) (by kernel_rfl)
  have h8 := @run_callFunc_extern Tryz.prog 59 _ (ReflectliteValue.method (ReflectliteValue.valueError "reflectlite.Value.IsNil" 0) ReflectliteValue.isNil) Tryz.func59 (by kernel_rfl) (by kernel_rfl) (by kernel_rfl) (by kernel_rfl)
  have h27 := @run_callFunc_extern Tryz.prog 166 _ (ReflectliteType.abiMethod fun t => do pure (.int .u8 (← Rtype.kind t))) Tryz.func166 (by kernel_rfl) (by kernel_rfl) (by kernel_rfl) (by kernel_rfl)
  have h37 := @run_callFunc_extern Tryz.prog 176 _ (ReflectliteType.method ReflectliteType.elem) Tryz.func176 (by kernel_rfl) (by kernel_rfl) (by kernel_rfl) (by kernel_rfl)
  have h38 := @run_callFunc_extern Tryz.prog 177 _ (ReflectliteType.relation "Implements" ReflectliteType.implements_) Tryz.func177 (by kernel_rfl) (by kernel_rfl) (by kernel_rfl) (by kernel_rfl)
  have h10 := @run_callFunc_extern Tryz.prog 95 _ ReflectliteType.typeOf Tryz.func95 (by kernel_rfl) (by kernel_rfl) (by kernel_rfl) (by kernel_rfl)
  have h35 := @run_callFunc_extern Tryz.prog 174 _ (ReflectliteType.relation "AssignableTo" ReflectliteType.assignableTo) Tryz.func174 (by kernel_rfl) (by kernel_rfl) (by kernel_rfl) (by kernel_rfl)
  have h11 := @run_callFunc_extern Tryz.prog 96 _ (ReflectliteValue.method (ReflectliteValue.valueError "reflectlite.Value.Elem" 0) ReflectliteValue.elem) Tryz.func96 (by kernel_rfl) (by kernel_rfl) (by kernel_rfl) (by kernel_rfl)
  have h12 := @run_callFunc_extern Tryz.prog 97 _ ReflectliteValue.set Tryz.func97 (by kernel_rfl) (by kernel_rfl) (by kernel_rfl) (by kernel_rfl)
  have tO := as_typeOfE
  have mA := as_methodAssignableTo
  have aE := as_assignableE
  have vE := as_valueOfE
  have f6 := as_valueOfP
  have f7 := as_typeP
  have mK := as_methodKind
  have mE := as_methodElem
  have mI := as_methodImplements
  have kP := as_kindP
  have kE := as_kindE
  have eP := as_elemP
  have iE := as_implementsE
  have n8 := as_isNilP ⟨w.heap.size, 0, none⟩ t ((w.alloc (.cells #[.pointer (some t)] 68)).alloc (.cells #[.pointer (some ⟨4, 68, none⟩), .pointer (some ⟨w.heap.size, 0, none⟩), .int .u64 150] 111)) (by simp)
  have hlt : 0 < w.heap.size := by
    rcases Nat.eq_zero_or_pos w.heap.size with h0 | h
    · simp [World.cell?, h0] at hg
    · exact h
  have hg2 : ((w.alloc (.cells #[.pointer (some t)] 68)).alloc (.cells #[.pointer (some ⟨4, 68, none⟩), .pointer (some ⟨w.heap.size, 0, none⟩), .int .u64 150] 111)).cell? ⟨0, 0, none⟩ = some (.iface 154 (.agg #[.pointer (some ⟨4, 26, none⟩)])) := by
    rw [World.cell?_alloc_lt _ _ ⟨0, 0, none⟩ (by simp), World.cell?_alloc_lt _ _ ⟨0, 0, none⟩ hlt]; exact hg
  have htl : t.block < w.heap.size := by
    rcases Nat.lt_or_ge t.block w.heap.size with h | h
    · exact h
    · simp [World.cell?, Array.getElem?_eq_none h] at ht0
  have el := as_elemVP ⟨w.heap.size, 0, none⟩ t (((w.alloc (.cells #[.pointer (some t)] 68)).alloc (.cells #[.pointer (some ⟨4, 68, none⟩), .pointer (some ⟨w.heap.size, 0, none⟩), .int .u64 150] 111)).alloc (.cells #[.pointer (some ⟨4, 68, none⟩), .pointer (some ⟨w.heap.size, 0, none⟩), .int .u64 150] 111)) (by rw [World.cell?_alloc_lt _ _ ⟨w.heap.size, 0, none⟩ (by simp; omega)]; simp)
  have st := as_setE t ⟨w.heap.size + 1 + 1 + 1, 0, none⟩ n old ((((w.alloc (.cells #[.pointer (some t)] 68)).alloc (.cells #[.pointer (some ⟨4, 68, none⟩), .pointer (some ⟨w.heap.size, 0, none⟩), .int .u64 150] 111)).alloc (.cells #[.pointer (some ⟨4, 68, none⟩), .pointer (some ⟨w.heap.size, 0, none⟩), .int .u64 150] 111)).alloc (.cells #[.int .i64 n] 42))
    (by rw [World.cell?_alloc_at _ _ _ _ (by simp)]; rfl)
    (by rw [World.cell?_alloc_lt _ _ t (by simp; omega), World.cell?_alloc_lt _ _ t (by simp; omega), World.cell?_alloc_lt _ _ t (by simp; omega), World.cell?_alloc_lt _ _ t htl]; exact ht0)
    (by rw [World.frozen?_alloc_old _ _ t (by simp; omega), World.frozen?_alloc_old _ _ t (by simp; omega), World.frozen?_alloc_old _ _ t (by simp; omega), World.frozen?_alloc_old _ _ t (Nat.ne_of_lt htl)]; exact hf0)
  go_enter Tryz.func23, Tryz.ntmps23
  go_wp2
  refine wp_loop_rounds 1 ?_
  rw [rounds_succ]
  go_wp2
  go_ret
  exact ⟨rfl, rfl⟩
end Go.Proofs.YtjlponbdflkbjaaGreatDoor
namespace Go.Proofs.YtjlponbdflkbjaaGreatDoor
open Go.KRun Go.RowKit
set_option maxRecDepth 100000
def known (w : World) : Prop := w.cell? ⟨0, 0, none⟩ = some errT
set_option maxHeartbeats 4000000 in
theorem num_calls (n : Int) (w : World) (hg : known w) : Calls Tryz.prog 11 #[.iface 42 (.int .i64 n)] w fun e w' => e = .returned (.int .i64 n) ∧ Tidy w w' := by
  have hlt : 0 < w.heap.size := by
    rcases Nat.eq_zero_or_pos w.heap.size with h0 | h
    · unfold known at hg
      simp [World.cell?, h0] at hg
    · exact h
  have hg1 : (w.alloc (.cells #[.int .i64 0] 42)).cell? ⟨0, 0, none⟩ = some errT := by
    rw [World.cell?_alloc_lt _ _ ⟨0, 0, none⟩ hlt]; exact hg
  have ht1 : (w.alloc (.cells #[.int .i64 0] 42)).cell? ⟨w.heap.size, 0, none⟩ = some (.int .i64 0) := by simp
  have hf1 : (w.alloc (.cells #[.int .i64 0] 42)).frozen? ⟨w.heap.size, 0, none⟩ = false := by simp
  have hit := as_hit n ⟨w.heap.size, 0, none⟩ (.int .i64 0) _ hg1 ht1 hf1
  have hb : (w.alloc (.cells #[.int .i64 0] 42)).heap[w.heap.size]? = some (.cells #[.int .i64 0] 42 (0, 0)) := heap_alloc_at w _
  have hcell : (asW n ⟨w.heap.size, 0, none⟩ (w.alloc (.cells #[.int .i64 0] 42))).cell? ⟨w.heap.size, 0, none⟩ = some (.int .i64 n) ∧ Tidy w (asW n ⟨w.heap.size, 0, none⟩ (w.alloc (.cells #[.int .i64 0] 42))) := by
    unfold asW
    have t1 := tidy_alloc w #[.int .i64 0] 42
    generalize hw1 : w.alloc (.cells #[.int .i64 0] 42) = w1 at *
    have s1 : w.heap.size < w1.heap.size := by rw [← hw1, size_alloc']; omega
    have t2 := tidy_alloc w1 #[.pointer (some ⟨w.heap.size, 0, none⟩)] 68
    have q2 := heap_alloc_ne w1 (.cells #[.pointer (some ⟨w.heap.size, 0, none⟩)] 68) w.heap.size (by omega)
    have s2 := size_alloc' w1 (.cells #[.pointer (some ⟨w.heap.size, 0, none⟩)] 68)
    generalize w1.alloc (.cells #[.pointer (some ⟨w.heap.size, 0, none⟩)] 68) = w2 at *
    have t3 := tidy_alloc w2 #[.pointer (some ⟨4, 68, none⟩), .pointer (some ⟨w1.heap.size, 0, none⟩), .int .u64 150] 111
    have q3 := heap_alloc_ne w2 (.cells #[.pointer (some ⟨4, 68, none⟩), .pointer (some ⟨w1.heap.size, 0, none⟩), .int .u64 150] 111) w.heap.size (by omega)
    have s3 := size_alloc' w2 (.cells #[.pointer (some ⟨4, 68, none⟩), .pointer (some ⟨w1.heap.size, 0, none⟩), .int .u64 150] 111)
    generalize w2.alloc (.cells #[.pointer (some ⟨4, 68, none⟩), .pointer (some ⟨w1.heap.size, 0, none⟩), .int .u64 150] 111) = w3 at *
    have t4 := tidy_alloc w3 #[.pointer (some ⟨4, 68, none⟩), .pointer (some ⟨w1.heap.size, 0, none⟩), .int .u64 150] 111
    have q4 := heap_alloc_ne w3 (.cells #[.pointer (some ⟨4, 68, none⟩), .pointer (some ⟨w1.heap.size, 0, none⟩), .int .u64 150] 111) w.heap.size (by omega)
    have s4 := size_alloc' w3 (.cells #[.pointer (some ⟨4, 68, none⟩), .pointer (some ⟨w1.heap.size, 0, none⟩), .int .u64 150] 111)
    generalize w3.alloc (.cells #[.pointer (some ⟨4, 68, none⟩), .pointer (some ⟨w1.heap.size, 0, none⟩), .int .u64 150] 111) = w4 at *
    have t5 := tidy_alloc w4 #[.int .i64 n] 42
    have q5 := heap_alloc_ne w4 (.cells #[.int .i64 n] 42) w.heap.size (by omega)
    generalize w4.alloc (.cells #[.int .i64 n] 42) = w5 at *
    have hb5 : w5.heap[w.heap.size]? = some (.cells #[.int .i64 0] 42 (0, 0)) := by rw [q5, q4, q3, q2]; exact hb
    exact ⟨cell_of_one (one_setCell hb5), tidy_setCell (tidy_trans t1 (tidy_trans t2 (tidy_trans t3 (tidy_trans t4 t5)))) (Nat.le_refl _) hb5 _⟩
  obtain ⟨W', hc1, hc2, hit'⟩ : ∃ W' : World, W'.cell? ⟨w.heap.size, 0, none⟩ = some (.int .i64 n) ∧ Tidy w W' ∧ Calls Tryz.prog 23 #[.iface 42 (.int .i64 n), .iface 68 (.pointer (some ⟨w.heap.size, 0, none⟩))] (w.alloc (.cells #[.int .i64 0] 42)) fun ev w' => ev = .returned (.bool true) ∧ w' = W' := ⟨_, hcell.1, hcell.2, hit⟩
  clear hit hcell hb hf1 ht1 hg1 hlt hg
  go_enter Tryz.func11, Tryz.ntmps11
  go_wp2_with (go_at_call 23; refine hit'.mono ?_; rintro e w' ⟨rfl, rfl⟩)
  go_ret
  exact ⟨rfl, hc2⟩
def eqA : List Value → Bool
  | [.pointer (some ⟨g, e, none⟩)] => Nat.beq g 4 && Nat.beq e 26
  | _ => false
def eqE : Value → Bool
  | .iface r (.agg a) => Nat.beq r 154 && eqA a.toList
  | _ => false
def kOk : List Value → Bool
  | [.iface d v] => Nat.beq d dead && eqE v
  | _ => false
def kV : List Value := [.iface dead errT]
def kT : TypeId := 3 * dead
theorem eqE_spec {v : Value} (h : eqE v = true) : v = errT := by
  unfold eqE at h
  split at h
  · rename_i r a
    simp only [Bool.and_eq_true] at h
    obtain ⟨h1, h2⟩ := h
    have h1 := Nat.eq_of_beq_eq_true h1
    unfold eqA at h2
    split at h2
    · rename_i g e ha
      simp only [Bool.and_eq_true] at h2
      have h3 := Nat.eq_of_beq_eq_true h2.1
      have h4 := Nat.eq_of_beq_eq_true h2.2
      have ea : a = #[.pointer (some ⟨g, e, none⟩)] := by
        apply Array.toList_inj.1
        rw [ha]
      rw [ea, h1, h3, h4]
      rfl
    · cases h2
  · cases h
theorem kOk_spec {cs : List Value} (h : kOk cs = true) : cs = kV := by
  unfold kOk at h
  split at h
  · rename_i d v
    simp only [Bool.and_eq_true] at h
    rw [Nat.eq_of_beq_eq_true h.1, eqE_spec h.2]
    rfl
  · cases h
def gNum : AnsH := fun vals h s =>
  match vals, h.blk? 0 with
  | [.iface t (.int .i64 n)], some (cs, ty) => some (.int .i64 n, h, s, [(Nat.beq t 42 && Nat.beq ty kT && kOk cs, true)])
  | _, _ => none
theorem known_of_blk {w : World} {r : List Value} {t : TypeId} {z : Nat × Nat} (h : w.heap[0]? = some (.cells (errT :: r).toArray t z)) : known w := by
  unfold known World.cell?
  simp [h]
theorem gNum_ok : AnsHOk 11 gNum := by
  intro vals h s v h' s' lg hg hl m B w E hv
  unfold gNum at hg
  split at hg
  · rename_i t n cs ty hb
    cases hg
    have h1 := hl _ (List.mem_singleton.2 rfl)
    simp only [Bool.and_eq_true] at h1
    obtain ⟨⟨e1, e2⟩, e3⟩ := h1
    have e1 := Nat.eq_of_beq_eq_true e1
    have e2 := Nat.eq_of_beq_eq_true e2
    have e3 := kOk_spec e3
    subst e1 e2 e3
    obtain ⟨_, r, t', z, k2⟩ := E.abs 0 _ hb (by kernel_rfl)
    have hk : known w := known_of_blk (r := r) (t := t') (z := z) (by
      have e4 : kV.map (mv1 m) = [errT] := by rfl
      have e5 : kT - 3 * dead = 0 := by kernel_rfl
      rw [e4] at k2
      simp only [e5] at k2
      exact k2)
    refine (num_calls n w hk).mono fun e w' he => ?_
    obtain ⟨E', hb'⟩ := clean_emb E he.2
    exact ⟨m, he.1, ⟨Agree.refl _ _, E', hb', Nat.le_refl _, rfl⟩⟩
  · cases hg
def hK : Hp := ⟨1, [(kV, kT)]⟩
theorem blkK {b : Nat} {x : List Value × TypeId} (h : hK.blk? b = some x) : x = (kV, kT) := by
  have hb0 : b = 0 := by have : b < 1 := Hp.blk_lt h; omega
  subst hb0
  exact (Option.some.inj h).symm
theorem startK {w : World} (hk : known w) : Emb (fun b => (b, 0)) w.heap.size hK w where
  len := rfl
  lies := fun b x hb hx => by rw [blkK hb, show tomb kT = true from by kernel_rfl] at hx; cases hx
  low := fun b x hb hx => by rw [blkK hb, show ro kT = true from by kernel_rfl] at hx; cases hx
  ros := fun b x hb hx => by rw [blkK hb, show tomb kT = true from by kernel_rfl] at hx; cases hx
  inj := fun b b' x x' hb _ hx => by rw [blkK hb, show ro kT = true from by kernel_rfl] at hx; cases hx
  wf := fun b x hb v hv => by
    rw [blkK hb] at hv
    rw [List.mem_singleton.1 hv]
    rfl
  base := Nat.le_refl _
  ice := fun k h1 h2 => by omega
  abs := fun b x hb _ => by
    rw [blkK hb]
    have e5 : kT - 3 * dead = 0 := by kernel_rfl
    have e4 : kV.map (mv1 fun b => (b, 0)) = [errT] := by rfl
    simp only [e5, e4]
    unfold known World.cell? at hk
    simp only at hk
    cases h0 : w.heap[0]? with
    | none => rw [h0] at hk; simp at hk
    | some o =>
      have hlt := (Array.getElem?_eq_some_iff.1 h0).1
      rw [h0] at hk
      cases o with
      | cells c t z =>
        refine ⟨hlt, c.toList.drop 1, t, z, ?_⟩
        have hc : c.toList[0]? = some errT := by simpa using hk
        have : [errT] ++ c.toList.drop 1 = c.toList := by
          cases hl : c.toList with
          | nil => rw [hl] at hc; simp at hc
          | cons a l =>
            rw [hl] at hc
            simp at hc
            simp [hc]
        rw [this]
      | _ => simp at hk
end Go.Proofs.YtjlponbdflkbjaaGreatDoor
namespace Go.KRun
open Go.RowKit
def reckonAt (T : Tab) (h0 : Hp) (n : Nat) (f : Nat) (vals : List Value) (s : List Dec) : Option (Value × Hp × List Dec × Lg) := callBy T (evC T n false) f vals h0 s ⟨[], [], []⟩
theorem fitsAt_calls {T : Tab} (hT : TabOk T) {h0 : Hp} {n f : Nat} {vals : List Value} {s : List Dec} {v : Value} {cs : Log} (hF : Fits (reckonAt T h0 n f vals s) v cs) (hcs : okLog cs) (hvals : (vals.all (lt h0.n)) = true) (hv : lt 0 v = true) {m : Mp} {w : World} (E : Emb m w.heap.size h0 w) :
    Calls T.P f (vals.map (mv m)).toArray w fun e w' => e = .returned v ∧ Tidy w w' := by
  obtain ⟨h1, h2, h3, h4⟩ := hF
  cases hr : reckonAt T h0 n f vals s with
  | none => rw [hr] at h1; cases h1
  | some r =>
    rw [hr] at h1 h2 h3 h4
    simp only [Option.map_some, Option.some.injEq] at h1 h2 h3 h4
    obtain ⟨v', h', s', L⟩ := r
    simp only at h1 h2 h3 h4
    subst h1
    obtain ⟨_, _, h5⟩ := callBy_ok hT (evC_ok hT n).1 _ _ _ _ _ _ _ _ _ hr ⟨by rw [h2]; exact hcs, all_eq _ h3, all_eq _ h4⟩
    refine (h5 _ _ w E (List.all_eq_true.1 hvals)).mono fun en w' he => ?_
    obtain ⟨m', rfl, C⟩ := he
    exact ⟨by rw [mv_still hv], C.below, fun k h1 h2 => C.emb.ice k h1 h2⟩
/-- the same, where the arguments hold no address -/
theorem fitsAt_still {T : Tab} (hT : TabOk T) {h0 : Hp} {n f : Nat} {vals : List Value} {s : List Dec} {v : Value} {cs : Log} (hF : Fits (reckonAt T h0 n f vals s) v cs) (hcs : okLog cs) (hvals : (vals.all (lt 0)) = true) (hv : lt 0 v = true) {m : Mp} {w : World} (E : Emb m w.heap.size h0 w) :
    Calls T.P f vals.toArray w fun e w' => e = .returned v ∧ Tidy w w' := by
  have hst : ∀ y ∈ vals, lt 0 y = true := List.all_eq_true.1 hvals
  have e : vals.map (mv m) = vals := (List.map_congr_left fun y hy => mv_still (hst y hy)).trans (List.map_id' _)
  have := fitsAt_calls hT hF hcs (List.all_eq_true.2 fun y hy => lt_mono (Nat.zero_le _) (hst y hy)) hv E
  rw [e] at this
  exact this
end Go.KRun
namespace Go.KRun
open Go.ChangeShapes Go.WideShapes Go.ChangeAt Go.RowKit Go.Joins
theorem tidy_frozen {w w' : World} (h : Tidy w w') (a : Addr) : w'.frozen? a = w.frozen? a := by
  unfold World.frozen?
  by_cases h1 : a.block < w.heap.size
  · rw [h.1.block _ h1]
  · rw [Array.getElem?_eq_none (by omega : w.heap.size ≤ a.block)]
    by_cases h2 : a.block < w'.heap.size
    · have h3 := h.2 a.block (by omega) h2
      unfold iced at h3
      split
      · rename_i c e lo hi hc
        have := h3 _ _ _ hc
        cases this
        simp
      · rfl
    · rw [Array.getElem?_eq_none (by omega : w'.heap.size ≤ a.block)]
section
variable {H : Type} {enc : TypeId × Value → H} {P : Program} {w : World}
/-- a row that lies in the memory: from 'off' on 'cap' words -/
structure Lain (w : World) (b off : Nat) (cs : Array Value) (zs : List Int) : Prop where
  heap : ∃ ty z, w.heap[b]? = some (.cells cs ty z)
  room : off + zs.length ≤ cs.size
  cell : ∀ i, i < zs.length → cs[off + i]? = some (.int .u32 (zs.getD i 0))
  wf : ∀ n ∈ zs, (Lit.int .u32 n).wf = true
end
end Go.KRun
namespace Go.Proofs.YtjlponbdflkbjaaGreatDoor.Na
open Go.KRun Go.Nt
set_option maxRecDepth 100000
set_option linter.unusedVariables false
theorem log_tl {x : Bool × Bool} {l : Log} (h : okLog (x :: l)) : x.1 = x.2 ∧ okLog l := ⟨h _ List.mem_cons_self, fun y hy => h y (List.mem_cons_of_mem _ hy)⟩
end Go.Proofs.YtjlponbdflkbjaaGreatDoor.Na
namespace Go.Nt
theorem vN_vb : ∀ {L : List Int}, wds L → vN L = (vb 4294967296 L : Nat)
  | [], _ => rfl
  | x :: r, h => by
    obtain ⟨h1, h2⟩ := wds_tail h
    have := vN_vb h2
    show x + 4294967296 * vN r = ((x.toNat + 4294967296 * vb 4294967296 r : Nat) : Int)
    rw [this]
    omega
theorem vN_dg : ∀ (m : Nat) (V : Int), 0 ≤ V → V < 4294967296 ^ m → vN (dg m V) = V
  | 0, V, h0, h1 => by
    have : V = 0 := by rw [Int.pow_zero] at h1; omega
    subst this
    rfl
  | m + 1, V, h0, h1 => by
    rw [pw] at h1
    have h2 := vN_dg m (V / 4294967296) (by omega) (by omega)
    simp only [dg, vN]
    rw [h2]
    omega
theorem take_dg {m : Nat} {V : Nat} (h : (V : Int) < 4294967296 ^ m) : (dg m V).take (trimN (dg m V)) = db 4294967296 V := by
  have hw := dg_wds m V
  rw [take_trim (b := 4294967296) (by omega) _ hw]
  have h1 := vN_dg m V (by omega) h
  rw [vN_vb hw] at h1
  rw [Int.ofNat.inj h1]
theorem topCmp_in (L M : List Int) : ∀ k, topCmp L M k = -1 ∨ topCmp L M k = 0 ∨ topCmp L M k = 1
  | 0 => .inr (.inl rfl)
  | k + 1 => by
    unfold topCmp
    split
    · exact topCmp_in L M k
    · split
      · exact .inl rfl
      · exact .inr (.inr rfl)
theorem cmpL_in (L M : List Int) : cmpL L M = -1 ∨ cmpL L M = 0 ∨ cmpL L M = 1 := by
  unfold cmpL
  split
  · exact topCmp_in _ _ _
  · split
    · exact .inl rfl
    · exact .inr (.inr rfl)
theorem cmpL_vb {L M : List Int} (hL : canon L) (hM : canon M) : cmpL L M = if vb 4294967296 L < vb 4294967296 M then -1 else if vb 4294967296 L = vb 4294967296 M then 0 else 1 := by
  have h := cmpL_val hL hM
  rw [vN_vb hL.1, vN_vb hM.1] at h
  have h3 := cmpL_in L M
  split
  · have := h.1.2 (by omega)
    omega
  · split
    · exact h.2.2 (by omega)
    · have h1 : ¬ cmpL L M < 0 := fun hx => by have := h.1.1 hx; omega
      have h2 : ¬ cmpL L M = 0 := fun hx => by have := h.2.1 hx; omega
      omega
theorem db_pos_len {b V : Nat} (hb : 2 ≤ b) : 0 < (db b V).length ↔ 0 < V := by
  rw [List.length_pos_iff, ne_eq, db_nil hb]
  omega
theorem dg_rest : ∀ (m : Nat) (V : Int), vN (dg m V) + 4294967296 ^ m * (V / 4294967296 ^ m) = V
  | 0, V => by simp [dg, vN]
  | m + 1, V => by
    have h := dg_rest m (V / 4294967296)
    simp only [dg, vN]
    rw [pw, ← Int.ediv_ediv_of_nonneg (show (0 : Int) ≤ 4294967296 by omega), Int.mul_assoc]
    omega
/-- a round -/
theorem tm_step {P a b x y z k d e A B : Int} (he : k + (x * y + z) = d + 4294967296 * e) (h : a + P * ((z + 4294967296 * A) + x * (y + 4294967296 * B) + k) = b) : a + P * d + 4294967296 * P * (A + x * B + e) = b := by
  rw [← h]
  have e1 : (z + 4294967296 * A) + x * (y + 4294967296 * B) + k = d + 4294967296 * (A + x * B + e) := by
    rw [Int.mul_add x y, ← Int.mul_assoc x 4294967296 B, Int.mul_comm x 4294967296, Int.mul_assoc 4294967296 x B]
    omega
  rw [e1]
  generalize A + x * B + e = Z
  rw [Int.mul_add P d, ← Int.mul_assoc P 4294967296 Z, Int.mul_comm P 4294967296]
  omega
theorem xy_bd {x y : Int} (hx : 0 ≤ x ∧ x < 4294967296) (hy : 0 ≤ y ∧ y < 4294967296) : 0 ≤ x * y ∧ x * y ≤ 18446744065119617025 := by
  constructor
  · exact Int.mul_nonneg hx.1 hy.1
  · have h1 : x * y ≤ 4294967295 * y := Int.mul_le_mul_of_nonneg_right (by omega) hy.1
    omega
theorem tm_bd {M B x Q : Int} (hM : 0 ≤ M ∧ M < Q) (hB : 0 ≤ B ∧ B < Q) (hx : 0 ≤ x ∧ x < 4294967296) : 0 ≤ M + x * B ∧ M + x * B < Q * 4294967296 := by
  have h0 := Int.mul_nonneg hx.1 hB.1
  have h1 : x * B ≤ 4294967295 * B := Int.mul_le_mul_of_nonneg_right (by omega) hB.1
  omega
theorem carry_bd {T Q : Int} (hQ : 0 < Q) (h : 0 ≤ T ∧ T < Q * 4294967296) : 0 ≤ T / Q ∧ T / Q < 4294967296 :=
  ⟨Int.ediv_nonneg h.1 (by omega), Int.ediv_lt_of_lt_mul hQ (by rw [Int.mul_comm]; exact h.2)⟩
/-- the words of a row, and of what is added to it: one more -/
theorem tm_split {M : List Int} {T : Int} (hT : 0 ≤ T ∧ T < 4294967296 ^ M.length * 4294967296) : ∃ y m, dg M.length T ++ [T / 4294967296 ^ M.length] = y :: m ∧ m.length = M.length ∧ wds [y] ∧ wds m ∧ y + 4294967296 * vN m = T := by
  have hc := carry_bd (pw_pos M.length) hT
  have hw : wds (dg M.length T ++ [T / 4294967296 ^ M.length]) := wds_app (dg_wds _ _) (fun x hx => by rw [List.mem_singleton.1 hx]; exact hc)
  have hl : (dg M.length T ++ [T / 4294967296 ^ M.length]).length = M.length + 1 := by rw [List.length_append, dg_len]; rfl
  have hv : vN (dg M.length T ++ [T / 4294967296 ^ M.length]) = T := by rw [vN_snoc, dg_len]; exact dg_rest _ _
  cases h : dg M.length T ++ [T / 4294967296 ^ M.length] with
  | nil => rw [h] at hl; simp at hl
  | cons y m =>
    rw [h] at hw hl hv
    obtain ⟨w1, w2⟩ := wds_tail hw
    refine ⟨y, m, rfl, by simpa using hl, fun x hx => by rw [List.mem_singleton.1 hx]; exact w1, w2, hv⟩
theorem pd_step {P d m A B x y m' : Int} (hT : y + 4294967296 * m' = m + x * B) (h : d + P * m = A * B) : d + P * y + 4294967296 * P * m' = (A + P * x) * B := by
  have e1 : P * y + 4294967296 * P * m' = P * (m + x * B) := by
    rw [← hT, Int.mul_add, ← Int.mul_assoc P 4294967296 m', Int.mul_comm P 4294967296]
  rw [Int.add_mul, ← h, Int.mul_assoc P x B]
  rw [Int.mul_add] at e1
  omega
theorem vN_rep : ∀ n : Nat, vN (List.replicate n 0) = 0
  | 0 => rfl
  | n + 1 => by
    rw [List.replicate_succ]
    simp only [vN]
    rw [vN_rep n]
    rfl
end Go.Nt
namespace Go.Proofs.YtjlponbdflkbjaaGreatDoor.Na
open Go.KRun Go.Nt
set_option maxRecDepth 100000
set_option linter.unusedVariables false
def tK (k x y z : Int) : Int := IntKind.u64.wrap (k + IntKind.u64.wrap (IntKind.u64.wrap (IntKind.u64.wrap x * IntKind.u64.wrap y) + IntKind.u64.wrap z))
def tC (k x y z : Int) : Int := (tK k x y z).fdiv (2 ^ min (Int.toNat 32) 64)
def tD (k x y z : Int) : Int := IntKind.u32.wrap (tK k x y z)
theorem tm_word {k x y z : Int} (hk : 0 ≤ k ∧ k < 4294967296) (hx : 0 ≤ x ∧ x < 4294967296) (hy : 0 ≤ y ∧ y < 4294967296) (hz : 0 ≤ z ∧ z < 4294967296) :
    (0 ≤ tD k x y z ∧ tD k x y z < 4294967296) ∧ (0 ≤ tC k x y z ∧ tC k x y z < 4294967296) ∧ k + (x * y + z) = tD k x y z + 4294967296 * tC k x y z := by
  have hxy := xy_bd hx hy
  have e : tK k x y z = k + (x * y + z) := by
    unfold tK
    simp only [u64w]
    rw [Int.emod_eq_of_lt hx.1 (by omega), Int.emod_eq_of_lt hy.1 (by omega), Int.emod_eq_of_lt hz.1 (by omega), Int.emod_eq_of_lt hxy.1 (by omega), Int.emod_eq_of_lt (by omega) (by omega), Int.emod_eq_of_lt (by omega) (by omega)]
  unfold tD tC
  rw [e, u32w, show ((2 : Int) ^ min (Int.toNat 32) 64) = 4294967296 from by decide, Int.fdiv_eq_ediv_of_nonneg _ (by omega)]
  generalize x * y = W at *
  omega
def tmP (F : Func) : List Code := [cFst (cBody F), cFst (cSnd (cBody F)), cFst (cSnd (cSnd (cBody F)))]
def tmB (F : Func) : Code := cFst (cSnd (cSnd (cSnd (cBody F))))
def tmL (F : Func) : Code := cIn (cIn (cSnd (tmB F)))
def tmE (F : Func) : Code := cSnd (cSnd (cSnd (cSnd (cBody F))))
def tmF (o n c o' c' : Nat) (x k : Int) (v8 v9 u1 u2 u3 u4 : Value) (j : Int) : List Value := [sl 2 o n c, sl 1 o' n c', uu x, undef, undef, undef, uu 0, .int .u64 k, v8, v9, u1, u2, u3, u4, sl 1 o' n c', i6' n, i6' j]
theorem tm_body : Tryz.f132.body = some (seqs (tmP Tryz.f132) (.seq (.seq (cFst (tmB Tryz.f132)) (.block 0 (.loop (tmL Tryz.f132)))) (tmE Tryz.f132))) := by kernel_rfl
def tmA (o n c o' c' : Nat) (x : Int) : List Value := [sl 2 o n c, sl 1 o' n c', uu x, undef, undef, undef, uu 0, .int .u64 0, undef, undef, sl 2 o n c, sl 1 o' n c', i6' n, sl 2 o n c]
theorem tm_pre (o n c o' c' : Nat) (x : Int) (S la lb : List Value) : GoesT (evL (tabOf Tryz.prog extY conN true) 100 (tmP Tryz.f132) ([sl 2 o n c, sl 1 o' n c', uu x] ++ List.replicate 41 undef, h3 la lb S, [num 0]) ⟨[], [], []⟩) 14 30 none (tmA o n c o' c' x) (h3 la lb S) [(smallC c, true), (okPart 0 n c c, true), (decide ((c : Int) = 0 ∧ (0 : Int) ≠ 0), false)] := ⟨by kernel_rfl, by kernel_rfl, by kernel_rfl⟩
theorem tm_r3 (o n c o' c' : Nat) (x : Int) (S la lb : List Value) (g : Nat → Value) : GoesT (evC (tabOf Tryz.prog extY conN true) 100 false (cFst (tmB Tryz.f132)) (tmA o n c o' c' x ++ tl 30 g, h3 la lb S, []) ⟨[], [], []⟩) 17 27 none (tmF o n c o' c' x 0 undef undef (sl 2 o n c) (sl 1 o' n c') (i6' n) (sl 2 o n c) 0) (h3 la lb S) [] := ⟨by kernel_rfl, by kernel_rfl, by kernel_rfl⟩
theorem tm_out (o n c o' c' : Nat) (x k j : Int) (v8 v9 u1 u2 u3 u4 : Value) (S la lb : List Value) (g : Nat → Value) : GoesT (evC (tabOf Tryz.prog extY conN true) 100 false (tmL Tryz.f132) (tmF o n c o' c' x k v8 v9 u1 u2 u3 u4 j ++ tl 27 g, h3 la lb S, [cmp false]) ⟨[], [], []⟩) 17 27 (some (some 0)) (tmF o n c o' c' x k v8 v9 u1 u2 u3 u4 j) (h3 la lb S) [(decide (j < n), false)] := ⟨by kernel_rfl, by kernel_rfl, by kernel_rfl⟩
theorem tm_go (o n c o' c' : Nat) (x k j y z : Int) (v8 v9 u1 u2 u3 u4 : Value) (S la lb : List Value) (g : Nat → Value) : GoesT (evC (tabOf Tryz.prog extY conN true) 100 false (tmL Tryz.f132) (tmF o n c o' c' x k v8 v9 u1 u2 u3 u4 j ++ tl 27 g, h3 la lb S, [cmp true, at_, val (uu y), at_, val (uu z), at_, at_]) ⟨[], [], []⟩) 17 27 none (tmF o n c o' c' x (tC k x y z) (i6' j) (uu y) u1 u2 u3 u4 (IntKind.i64.wrap (j + 1))) (h3 la lb (S.set (o + j.toNat * 1) (uu (tD k x y z)))) [(decide ((32 : Int) < 0), false), (decide (o + j.toNat * 1 < S.length), true), inR j n, celR S o j z, inR j n, celR lb o' j y, inR j n, (decide (j < n), true)] := ⟨by kernel_rfl, by kernel_rfl, by kernel_rfl⟩
theorem tm_end (o n c o' c' : Nat) (x k j : Int) (v8 v9 u1 u2 u3 u4 : Value) (h : Hp) (g : Nat → Value) : GoesT (evC (tabOf Tryz.prog extY conN true) 100 false (tmE Tryz.f132) (tmF o n c o' c' x k v8 v9 u1 u2 u3 u4 j ++ tl 27 g, h, []) ⟨[], [], []⟩) 7 37 (some none) [sl 2 o n c, sl 1 o' n c', uu x, undef, undef, undef, uu (IntKind.u32.wrap k)] h [] := ⟨by kernel_rfl, by kernel_rfl, by kernel_rfl⟩
end Go.Proofs.YtjlponbdflkbjaaGreatDoor.Na
