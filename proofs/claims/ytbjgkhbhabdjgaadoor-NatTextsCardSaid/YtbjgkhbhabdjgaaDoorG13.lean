/-
  bits.Len32, as a call; nat.Len, as a call with a row.
-/
import Derived.Test.YtbjgkhbhabdjgaaDoorG10
import Derived.Laws.MathBits
import Derived.Test.YtbjgkhbhabdjgaaDoorG12
import Derived.Test.YtbjgkhbhabdjgaaDoorG07
namespace Go.Proofs.YtbjgkhbhabdjgaaDoor
open Go.KRun Go.Nt
set_option maxRecDepth 100000

/-- the table of the library: how many bits a byte has -/
def lenTab : List UInt8 := (List.range 256).map fun i => UInt8.ofNat (bitLen i)
def byteLen (z : Int) : Int := ((lenTab.getD (IntKind.u8.wrap z).toNat 0).toNat : Int)
def lt8 (z : Int) : Bool × Bool := (decide (0 ≤ IntKind.u8.wrap z ∧ (IntKind.u8.wrap z).toNat < lenTab.length), true)
def shd (z : Int) (k : Nat) : Int := z.fdiv (2 ^ k)
def geq (z k : Int) (d : Bool) : Bool × Bool := (decide (z ≥ k), d)
def lenE (m z : Int) : Value := .int .i64 (IntKind.i64.wrap (m + IntKind.i64.wrap (byteLen z)))
def nz : Bool × Bool := (false, false)
theorem len_00 (u : Int) : Fits (reckon (tabOf Tryd.prog extY conN true) 3000 53 [uu u] [tst false, tst false]) (lenE 0 u) [lt8 u, geq u 256 false, geq u 65536 false] := ⟨by kernel_rfl, by kernel_rfl, by kernel_rfl, by kernel_rfl⟩
theorem len_01 (u : Int) : Fits (reckon (tabOf Tryd.prog extY conN true) 3000 53 [uu u] [tst false, tst true]) (lenE 8 (shd u 8)) [lt8 (shd u 8), nz, geq u 256 true, geq u 65536 false] := ⟨by kernel_rfl, by kernel_rfl, by kernel_rfl, by kernel_rfl⟩
theorem len_10 (u : Int) : Fits (reckon (tabOf Tryd.prog extY conN true) 3000 53 [uu u] [tst true, tst false]) (lenE 16 (shd u 16)) [lt8 (shd u 16), geq (shd u 16) 256 false, nz, geq u 65536 true] := ⟨by kernel_rfl, by kernel_rfl, by kernel_rfl, by kernel_rfl⟩
theorem len_11 (u : Int) : Fits (reckon (tabOf Tryd.prog extY conN true) 3000 53 [uu u] [tst true, tst true]) (lenE 24 (shd (shd u 16) 8)) [lt8 (shd (shd u 16) 8), nz, geq (shd u 16) 256 true, nz, geq u 65536 true] := ⟨by kernel_rfl, by kernel_rfl, by kernel_rfl, by kernel_rfl⟩
theorem lenTab_len : lenTab.length = 256 := by unfold lenTab; rw [List.length_map, List.length_range]
theorem lenTab_get (b : Nat) (h : b < 256) : (lenTab.getD b 0).toNat = bitLen b := by
  have h1 : lenTab.getD b 0 = UInt8.ofNat (bitLen b) := by
    unfold lenTab
    rw [List.getD, List.getElem?_map, List.getElem?_range h]
    rfl
  have h2 := bitLen_le8 b h
  rw [h1, UInt8.toNat_ofNat']
  omega
theorem u8_wrap {z : Int} (h0 : 0 ≤ z) (h1 : z < 256) : IntKind.u8.wrap z = z := by
  simp [IntKind.wrap, IntKind.bits, IntKind.signed]; omega
theorem lenE_eq {m : Int} {Z : Nat} (hm : 0 ≤ m) (hm' : m ≤ 56) (h1 : Z < 256) : lenE m (Z : Int) = .int .i64 (m + bitLen Z) ∧ (lt8 (Z : Int)).1 = (lt8 (Z : Int)).2 := by
  have hb := bitLen_le8 Z h1
  have e := u8_wrap (z := (Z : Int)) (by omega) (by omega)
  refine ⟨?_, ?_⟩
  · unfold lenE byteLen
    rw [e, Int.toNat_natCast, lenTab_get Z h1, wrapI (n := ((bitLen Z : Nat) : Int)) (by omega) (by omega), wrapI (by omega) (by omega)]
  · unfold lt8
    rw [e, Int.toNat_natCast]
    rw [lenTab_len]
    exact decide_eq_true (And.intro (by omega) h1)
theorem shd_eq (Z k : Nat) : shd (Z : Int) k = ((Z / 2 ^ k : Nat) : Int) := by
  unfold shd
  rw [Int.fdiv_eq_ediv_of_nonneg _ (Int.le_of_lt (Int.pow_pos (by omega)))]
  simp
theorem geq_t {z k : Int} (h : k ≤ z) : (geq z k true).1 = (geq z k true).2 := decide_eq_true h
theorem geq_f {z k : Int} (h : z < k) : (geq z k false).1 = (geq z k false).2 := decide_eq_false (by omega)
theorem nz_ok : nz.1 = nz.2 := rfl
theorem len_up (x b : Nat) (h : 2 ^ b ≤ x) : bitLen x = b + bitLen (x / 2 ^ b) := bitLen_shift x b (by
  have : 0 < x / 2 ^ b := Nat.div_pos h (Nat.two_pow_pos b)
  omega)
def len32V (u : Int) : Value := .int .i64 (bitLen u.toNat : Nat)
theorem len32_calls (u : Int) (h0 : 0 ≤ u) (h1 : u < 4294967296) (w : World) : Calls Tryd.prog 53 #[uu u] w fun e w' => e = .returned (len32V u) ∧ Tidy w w' := by
  obtain ⟨U, rfl⟩ := Int.eq_ofNat_of_zero_le h0
  unfold len32V
  rw [Int.toNat_natCast]
  have p8 : (2 : Nat) ^ 8 = 256 := rfl
  have p16 : (2 : Nat) ^ 16 = 65536 := rfl
  have step : ∀ {v : Value} {s : List Dec} {cs : Log}, Fits (reckon (tabOf Tryd.prog extY conN true) 3000 53 [uu (U : Int)] s) v cs → okLog cs → v = .int .i64 (bitLen U : Nat) → Calls Tryd.prog 53 #[uu (U : Int)] w fun e w' => e = .returned (.int .i64 (bitLen U : Nat)) ∧ Tidy w w' :=
    fun {v s cs} hf hc hv => by subst hv; exact fits_calls (tabY_ok conN_ok) hf hc (by rfl) (by rfl) w
  by_cases b : U < 65536
  · by_cases c : U < 256
    · obtain ⟨e1, e2⟩ := lenE_eq (m := 0) (by omega) (by omega) c
      exact step (len_00 U) (okTwo e2 (okTwo (geq_f (by omega)) (okOne (geq_f (by omega))))) (by rw [e1]; congr 1; omega)
    · have l := len_up U 8 (by omega)
      obtain ⟨e1, e2⟩ := lenE_eq (m := 8) (Z := U / 2 ^ 8) (by omega) (by omega) (by omega)
      rw [← shd_eq] at e1 e2
      exact step (len_01 U) (okTwo e2 (okTwo nz_ok (okTwo (geq_t (by omega)) (okOne (geq_f (by omega)))))) (by rw [e1]; congr 1; omega)
  · have l := len_up U 16 (by omega)
    by_cases c : U / 2 ^ 16 < 256
    · obtain ⟨e1, e2⟩ := lenE_eq (m := 16) (Z := U / 2 ^ 16) (by omega) (by omega) c
      rw [← shd_eq] at e1 e2
      exact step (len_10 U) (okTwo e2 (okTwo (geq_f (by rw [shd_eq]; omega)) (okTwo nz_ok (okOne (geq_t (by omega)))))) (by rw [e1]; congr 1; omega)
    · have l2 := len_up (U / 2 ^ 16) 8 (by omega)
      obtain ⟨e1, e2⟩ := lenE_eq (m := 24) (Z := U / 2 ^ 16 / 2 ^ 8) (by omega) (by omega) (by omega)
      rw [← shd_eq, ← shd_eq] at e1 e2
      exact step (len_11 U) (okTwo e2 (okTwo nz_ok (okTwo (geq_t (by rw [shd_eq]; omega)) (okTwo nz_ok (okOne (geq_t (by omega))))))) (by rw [e1]; congr 1; omega)
def gLen32 : Ans := fun vals s =>
  match vals with
  | [.int .u32 x] => some (len32V x, s, [(decide (0 ≤ x ∧ x < 4294967296), true)])
  | _ => none
theorem gLen32_ok : AnsOk 53 gLen32 := by
  intro vals s v s' lg h hl w
  unfold gLen32 at h
  split at h
  · rename_i x
    cases h
    have hr := hl _ (List.mem_singleton.2 rfl)
    simp only [decide_eq_true_eq] at hr
    exact len32_calls x hr.1 hr.2 w
  · cases h
/-! ### Len -/
def conL : Con := alt 53 gLen32 conN
theorem conL_ok : ConOk conL := alt_ok Tryd.func53 rfl gLen32_ok conN_ok
theorem nlen_body : Tryd.f28.body = some (cBody Tryd.f28) := by kernel_rfl
theorem nlen_0 (p : Option Addr) (n c : Nat) (h : Hp) : GoesT (evC (tabH Tryd.prog extY conL hcK) 100 false (cBody Tryd.f28) ([.slice p n c] ++ List.replicate 22 undef, h, [cmp true]) ⟨[], [], []⟩) 3 20 (some none) [.slice p n c, undef, i6' 0] h [((n : Int) == 0, true)] := ⟨by kernel_rfl, by kernel_rfl, by kernel_rfl⟩
theorem nlen_bad (o n c : Nat) (l : List Value) : GoesT (evC (tabH Tryd.prog extY conL hcK) 100 false (cBody Tryd.f28) ([sl 0 o n c] ++ List.replicate 22 undef, ⟨1, [(l, tR)]⟩, [cmp false, cmp true]) ⟨[], [], []⟩) 3 20 (some none) [sl 0 o n c, undef, i6' 0] ⟨1, [(l, tR)]⟩ [chkL l o n c, (badL (cutI l o n), true), ((n : Int) == 0, false)] := ⟨by kernel_rfl, by kernel_rfl, by kernel_rfl⟩
theorem nlen_good (o n c : Nat) (x : Int) (l : List Value) : GoesT (evC (tabH Tryd.prog extY conL hcK) 100 false (cBody Tryd.f28) ([sl 0 o n c] ++ List.replicate 22 undef, ⟨1, [(l, tR)]⟩, [cmp false, cmp false, at_, val (uu x)]) ⟨[], [], []⟩) 3 20 (some none) [sl 0 o n c, undef, i6' (IntKind.i64.wrap (IntKind.i64.wrap (n1 n * 32) + (bitLen x.toNat : Nat)))] ⟨1, [(l, tR)]⟩ [(decide (0 ≤ x ∧ x < 4294967296), true), (cellIs (l[o + (n1 n).toNat * 1]?) (.int .u32 x), true), (decide (0 ≤ n1 n ∧ n1 n < n), true), chkL l o n c, (badL (cutI l o n), false), ((n : Int) == 0, false)] := ⟨by kernel_rfl, by kernel_rfl, by kernel_rfl⟩
def lenN (L : List Int) : Int := match (L.length == 0 || badL L) with | true => 0 | false => 32 * ((L.length - 1 : Nat) : Int) + (bitLen (L.getD (L.length - 1) 0).toNat : Nat)
theorem bitLen_32 {x : Int} (h0 : 0 ≤ x) (h1 : x < 4294967296) : bitLen x.toNat ≤ 32 := by
  by_cases h : 65536 ≤ x.toNat
  · have p8 : (2 : Nat) ^ 8 = 256 := rfl
    have p16 : (2 : Nat) ^ 16 = 65536 := rfl
    have l := len_up x.toNat 16 (by omega)
    by_cases h2 : 256 ≤ x.toNat / 2 ^ 16
    · have l2 := len_up (x.toNat / 2 ^ 16) 8 (by omega)
      have := bitLen_le8 (x.toNat / 2 ^ 16 / 2 ^ 8) (by omega)
      omega
    · have := bitLen_le8 (x.toNat / 2 ^ 16) (by omega)
      omega
  · have p8 : (2 : Nat) ^ 8 = 256 := rfl
    by_cases h2 : 256 ≤ x.toNat
    · have l2 := len_up x.toNat 8 (by omega)
      have := bitLen_le8 (x.toNat / 2 ^ 8) (by omega)
      omega
    · have := bitLen_le8 x.toNat (by omega)
      omega
theorem nlen_runs {l : List Value} {o n c : Nat} (ha : rowOk tR l o n c = true) :
    Runs (tabH Tryd.prog extY conL hcK) (cBody Tryd.f28) ([sl 0 o n c] ++ List.replicate 22 undef, ⟨1, [(l, tR)]⟩, []) fun e y => (e = none ∨ e = some none) ∧ resS Tryd.prog Tryd.f28 y.1 y.2.1 = some (i6' (lenN (cutI l o n))) := by
  obtain ⟨a1, a2, a3, a4, a5, a6, a7⟩ := row_of ha
  unfold lenN
  by_cases h0 : n = 0
  · have e0 : ((cutI l o n).length == 0) = true := by rw [a2, h0]; rfl
    rw [e0, Bool.true_or]
    refine (goesT_runs (tabH_ok conL_ok hcK_ok) (nlen_0 (some ⟨0, o, none⟩) n c _) (okOne (by rw [h0]; rfl))).mono fun e y he => ?_
    obtain ⟨rfl, ⟨g, e2⟩, e3⟩ := he
    refine ⟨.inr rfl, ?_⟩
    rw [e2, e3]
    rfl
  · have e0 : ((cutI l o n).length == 0) = false := by rw [a2]; simpa using h0
    have e1 : ((n : Int) == 0) = false := by simpa using h0
    rw [e0, Bool.false_or]
    cases hb : badL (cutI l o n) with
    | true =>
      refine (goesT_runs (tabH_ok conL_ok hcK_ok) (nlen_bad o n c l) (okTwo ha (okTwo hb (okOne e1)))).mono fun e y he => ?_
      obtain ⟨rfl, ⟨g, e2⟩, e3⟩ := he
      refine ⟨.inr rfl, ?_⟩
      rw [e2, e3]
      rfl
    | false =>
      have h8 : n ≤ 8192 := by
        unfold badL at hb
        simp only [Bool.or_eq_false_iff, decide_eq_false_iff_not, a2] at hb
        omega
      have ek : n1 n = ((n - 1 : Nat) : Int) := by
        unfold n1
        rw [wrapI (by omega) (by omega)]
        omega
      rw [a2]
      have hx := a1.rng ((cutI l o n).getD (n - 1) 0) (by
        have hk' : n - 1 < (cutI l o n).length := by omega
        simp [List.getD, List.getElem?_eq_getElem hk'])
      have hc := a1.cell (k := n - 1) (by omega)
      have b32 := bitLen_32 hx.1 hx.2
      refine (goesT_runs (tabH_ok conL_ok hcK_ok) (nlen_good o n c ((cutI l o n).getD (n - 1) 0) l) (okTwo (decide_eq_true hx) (okTwo (by
        rw [ek, Int.toNat_natCast, Nat.mul_one, hc]; simp [cellIs]) (okTwo (by rw [ek]; exact decide_eq_true (by omega)) (okTwo ha (okTwo hb (okOne e1))))))).mono fun e y he => ?_
      obtain ⟨rfl, ⟨g, e2⟩, e3⟩ := he
      refine ⟨.inr rfl, ?_⟩
      have e4 : IntKind.i64.wrap (IntKind.i64.wrap (n1 n * 32) + (bitLen ((cutI l o n).getD (n - 1) 0).toNat : Nat)) = 32 * ((n - 1 : Nat) : Int) + (bitLen ((cutI l o n).getD (n - 1) 0).toNat : Nat) := by
        rw [ek, wrapI (n := ((n - 1 : Nat) : Int) * 32) (by omega) (by omega), wrapI (by omega) (by omega)]
        omega
      rw [e2, e3, e4]
      rfl
theorem nlen_nil : Fits (reckon (tabOf Tryd.prog extY conN true) 100 28 [nilS] []) (i6' 0) [] := ⟨by kernel_rfl, by kernel_rfl, by kernel_rfl, by kernel_rfl⟩
def gLen : AnsH := fun vals h s =>
  match vals with
  | [.slice none 0 0] => some (i6' 0, h, s, [])
  | [.slice (some ⟨b, o, none⟩) n c] =>
    match h.blk? b with
    | some x => some (i6' (lenN (cutI x.1 o n)), h, s, [(rowOk x.2 x.1 o n c, true)])
    | _ => none
  | _ => none
theorem gLen_ok : AnsHOk 28 gLen := by
  intro vals h s v h' s' lg hg hl m B w E hv
  unfold gLen at hg
  split at hg
  · cases hg
    refine (fits_calls (tabY_ok conN_ok) nlen_nil (fun x hx => by cases hx) (by rfl) (by rfl) w).mono fun e w' he => ?_
    obtain ⟨E', hb⟩ := clean_emb E he.2
    exact ⟨m, he.1, ⟨Agree.refl _ _, E', hb, Nat.le_refl _, rfl⟩⟩
  · rename_i b o n c
    split at hg
    · rename_i x hx
      cases hg
      have ra := hl _ (List.mem_singleton.2 rfl)
      obtain ⟨h1, h2, h3, h4, h5, h6, h7⟩ := row_of ra
      have hlt := Hp.blk_lt hx
      have r := nlen_runs (rowOk_R ra)
      have := row_calls (T := tabH Tryd.prog extY conL hcK) Tryd.func28 nlen_body (rows1 h7) (vals := [sl 0 o n c]) (fun v hv => by rw [List.mem_singleton.1 hv]; rfl) (by rfl) r E (s := fun _ => b) (fun i _ => hlt) (fitsR1 hx h5 h6 rfl)
      exact this.mono fun e w' he => ⟨m, he.1, he.2⟩
    · cases hg
  · cases hg
end Go.Proofs.YtbjgkhbhabdjgaaDoor

/-
  nat.moveUp, as a call: its loop.
-/
namespace Go.Proofs.YtbjgkhbhabdjgaaDoor
open Go.KRun Go.Nt
set_option maxRecDepth 100000

theorem fU_get {F : List Value} {o : Nat} (hF : F.length = o) (dx : List Int) (x : Int) (px : List Int) : (F ++ wU (dx ++ x :: px))[o + dx.length]? = some (uu x) := by
  rw [List.getElem?_append_right (by omega), hF, Nat.add_sub_cancel_left]
  exact wU_get dx x px
theorem fU_set {F : List Value} {o : Nat} (hF : F.length = o) (dx : List Int) (x d : Int) (px : List Int) : (F ++ wU (dx ++ x :: px)).set (o + dx.length) (uu d) = F ++ wU ((dx ++ [d]) ++ px) := by
  rw [List.set_append_right _ _ (by omega), hF, Nat.add_sub_cancel_left, wU_set]
theorem mup_runs {F la : List Value} {o c k : Nat} {L : List Int} (hF : F.length = o) (hL : wds L) (hk : k < 32) (hN : L.length < 4611686018427387904) :
    Runs (tabOf Tryd.prog extY conN true) (seqs (mR0 Tryd.f47) (.block 0 (.loop (mL Tryd.f47)))) ([sl 1 o L.length c, i6' k] ++ List.replicate 25 undef, hU (F ++ wU L) la, []) fun e y => (e = none ∨ e = some none) ∧ resS Tryd.prog Tryd.f47 y.1 y.2.1 = some (.tuple #[]) ∧ y.2.1.cut 2 = hU (F ++ wU (dg L.length (vN L * 2 ^ k))) la := by
  refine goesT_list (tabY_ok conN_ok) (mup_pre 1 o L.length c (i6' k) _) (fun x hx => by cases hx) fun g => ?_
  refine (Runs.forLoop (R := fun _ => False) (P := fun y => ∃ (l i x j : Value) (g : Nat → Value), y.1 = mF (sl 1 o L.length c) (i6' k) l i x (sl 1 o L.length c) (i6' L.length) j ++ tl 17 g ∧ y.2.1 = hU (F ++ wU (dg L.length (vN L * 2 ^ k))) la)
    (fun r y => ∃ (dx px : List Int) (l : Int) (i0 x0 : Value) (g : Nat → Value), px.length = r ∧ dx.length + px.length = L.length ∧ wds dx ∧ wds px ∧ (0 ≤ l ∧ l < 2 ^ k) ∧ y.1 = mF (sl 1 o L.length c) (i6' k) (uu l) i0 x0 (sl 1 o L.length c) (i6' L.length) (i6' dx.length) ++ tl 17 g ∧ y.2.1 = hU (F ++ wU (dx ++ px)) la ∧ vN dx + 4294967296 ^ dx.length * (vN px * 2 ^ k + l) = vN L * 2 ^ k)
    ?_ (n := L.length) ⟨[], L, 0, undef, undef, g, rfl, by simp, (fun x hx => by cases hx), hL, ⟨by omega, Int.pow_pos (by omega)⟩, rfl, rfl, by simp [vN]⟩).mono fun e' y he => ?_
  · rintro r ⟨t, h', s'⟩ ⟨dx, px, l, i0, x0, g, hr, hl, wd1, wd2, hlo, ht, hh, hv⟩
    simp only at ht hh
    subst ht hh
    match px, hr, hl, wd2, hv with
    | [], hr, hl, wd2, hv =>
      have hl' : dx.length = L.length := by simpa using hl
      refine (goesT_runs (tabY_ok conN_ok) (mup_out _ _ _ _ _ _ L.length dx.length _ g) (okOne (decide_eq_false (by omega)))).mono fun e' y he => ?_
      obtain ⟨rfl, ⟨g1, e2⟩, e3⟩ := he
      refine ⟨rfl, _, _, _, _, g1, e2, ?_⟩
      simp only [vN] at hv
      rw [Int.zero_mul, Int.zero_add] at hv
      have e5 := dg_mod dx.length (vN dx) l
      rw [hv, dg_vN dx wd1, hl'] at e5
      rw [e3, e5, List.append_nil]
    | x :: px, hr, hl, wd2, hv =>
      obtain ⟨wx, wd2⟩ := wds_tail wd2
      obtain ⟨k1, k2, k3⟩ := up32 wx hlo hk
      have cS := fU_get hF dx x px
      have lS : (F ++ wU (dx ++ x :: px)).length = o + L.length := by
        unfold wU
        simp at hl ⊢
        omega
      have hl' : dx.length < L.length := by simp at hl; omega
      have l1 : decide (o + ((dx.length : Int)).toNat * 1 < (F ++ wU (dx ++ x :: px)).length) = true := by
        rw [lS, Int.toNat_natCast]
        exact decide_eq_true (by omega)
      have l2 : (inR dx.length L.length).1 = (inR dx.length L.length).2 := decide_eq_true (by omega)
      have l4 : (celR (F ++ wU (dx ++ x :: px)) o dx.length x).1 = (celR (F ++ wU (dx ++ x :: px)) o dx.length x).2 := cel_ok cS
      have e32 : IntKind.i64.wrap (32 - (k : Int)) = 32 - (k : Int) := wrapI (by omega) (by omega)
      have l5 : decide (IntKind.i64.wrap (32 - (k : Int)) < 0) = false := by
        rw [e32]
        exact decide_eq_false (by omega)
      have l6 : decide ((k : Int) < 0) = false := decide_eq_false (by omega)
      have l7 : decide ((dx.length : Int) < (L.length : Nat)) = true := decide_eq_true (by omega)
      refine (goesT_runs (tabY_ok conN_ok) (mup_go o L.length c k l dx.length x i0 x0 la (F ++ wU (dx ++ x :: px)) g) (okTwo l5 (okTwo l1 (okTwo l2 (okTwo l6 (okTwo l4 (okTwo l2 (okOne l7)))))))).mono fun e' y he => ?_
      obtain ⟨rfl, ⟨g1, e2⟩, e3⟩ := he
      refine ⟨px.length, by simp at hr; omega, dx ++ [newU x k l], px, lowU x k, i6' dx.length, uu x, g1, rfl, by simp at hl ⊢; omega, wds_app wd1 (fun z hz => by rw [List.mem_singleton.1 hz]; exact k1), wd2, k2, ?_, ?_, ?_⟩
      · rw [e2, wrapI (by omega) (by omega)]
        simp
      · rw [e3, Int.toNat_natCast, Nat.mul_one, fU_set hF]
      · simp only [vN] at hv
        rw [vN_snoc, List.length_append, List.length_singleton, pw]
        exact up_step k3 hv
  · match e', he with
    | none, he =>
      obtain ⟨l, i, x, j, g, e1, e2⟩ := he
      refine ⟨.inl rfl, ?_, ?_⟩
      · rw [e1]; exact mup_res _ _ _ _ _ _ _ _ _ _
      · rw [e2]; rfl
    | some none, he => exact he.elim
    | some (some _), he => exact he.elim
def upS (S : List Value) (o n : Nat) (k : Int) : List Value := S.take o ++ wU (dg n (vN (cutI S o n) * 2 ^ k.toNat))
def gMup : AnsH := fun vals h s =>
  match vals, h with
  | [.slice (some ⟨1, o, none⟩) n c, .int .i64 k], ⟨2, [(S, t), (la, t')]⟩ => some (.tuple #[], ⟨2, [(upS S o n k, tU), (la, tR)]⟩, s, [(Nat.beq t tU, true), (Nat.beq t' tR, true), (rowOk t S o n c, true), (Nat.beq (o + n) S.length, true), (la.all still, true), (decide (0 ≤ k ∧ k < 32), true)])
  | _, _ => none
theorem wU_tight (L : List Int) (n : Nat) : (wU L).all (lt1 n) = true := by
  unfold wU
  rw [List.all_eq_true]
  intro v hv
  obtain ⟨x, _, rfl⟩ := List.mem_map.1 hv
  rfl
theorem wU_allS (L : List Int) : (wU L).all still = true := by
  unfold wU
  rw [List.all_eq_true]
  intro v hv
  obtain ⟨x, _, rfl⟩ := List.mem_map.1 hv
  rfl
theorem all_mono {l : List Value} {n : Nat} (hn : 0 < n) (h : l.all still = true) : l.all (lt1 n) = true := by
  rw [List.all_eq_true] at *
  exact fun v hv => still_lt hn (h v hv)
theorem gMup_ok : AnsHOk 47 gMup := by
  intro vals h s v h' s' lg hg hl m B w E hv
  unfold gMup at hg
  split at hg
  · rename_i o n c k S t la t'
    cases hg
    have q1 := Nat.eq_of_beq_eq_true (hl _ (List.mem_cons_self))
    have q2 := Nat.eq_of_beq_eq_true (hl _ (List.mem_cons_of_mem _ List.mem_cons_self))
    have ra := hl _ (List.mem_cons_of_mem _ (List.mem_cons_of_mem _ List.mem_cons_self))
    have q4 := Nat.eq_of_beq_eq_true (hl _ (List.mem_cons_of_mem _ (List.mem_cons_of_mem _ (List.mem_cons_of_mem _ List.mem_cons_self))))
    have q5 := hl _ (List.mem_cons_of_mem _ (List.mem_cons_of_mem _ (List.mem_cons_of_mem _ (List.mem_cons_of_mem _ List.mem_cons_self))))
    have q6 := of_decide_eq_true (hl _ (List.mem_cons_of_mem _ (List.mem_cons_of_mem _ (List.mem_cons_of_mem _ (List.mem_cons_of_mem _ (List.mem_cons_of_mem _ (List.mem_singleton.2 rfl)))))))
    simp only at q1 q2 q4 q5
    subst q1 q2
    obtain ⟨a1, a2, a3, a4, a5, a6, a7⟩ := row_of ra
    obtain ⟨K, rfl⟩ := Int.eq_ofNat_of_zero_le q6.1
    have hc : c < 4611686018427387904 := blt_iff.1 a4
    have eS : S = S.take o ++ wU (cutI S o n) := by
      have h1 := a1.cut
      rw [a2] at h1
      rw [← h1]
      unfold cutV
      rw [show n = (S.drop o).length from by simp; omega, List.take_length, List.take_append_drop]
    have hF : (S.take o).length = o := by simp; omega
    have r := mup_runs (la := la) (c := c) (k := K) hF a1.rng (by omega) (by omega)
    rw [a2, ← eS] at r
    have ht : (Hp.tight ⟨2, [(upS S o n K, tU), (la, tR)]⟩) = true := by
      unfold Hp.tight upS
      simp only [List.all_cons, List.all_nil, List.all_append, Bool.and_true, Bool.and_eq_true]
      refine ⟨⟨?_, wU_tight _ _⟩, all_mono (by omega) q5⟩
      rw [List.all_eq_true]
      exact fun v hv => still_lt (by omega) (a7 v (List.mem_of_mem_take hv))
    exact hcalls_of_runs (T := tabOf Tryd.prog extY conN true) Tryd.func47 mup_body (vals := [sl 1 o n c, i6' K]) (v := .tuple #[]) (h := hU S la) (by rfl) ht r m B w E hv
  · cases hg
end Go.Proofs.YtbjgkhbhabdjgaaDoor

/-
  slices.Reverse of a row of bytes, as a call that changes its block.
-/
namespace Go.Proofs.YtbjgkhbhabdjgaaDoor
open Go.KRun Go.Nt
set_option maxRecDepth 100000

def tBy : TypeId := 5
def ub (x : Int) : Value := .int .u8 x
def wB (L : List Int) : List Value := L.map ub
def rvP (F : Func) : Code := cFst (cBody F)
def rvL (F : Func) : Code := cIn (cIn (cSnd (cBody F)))
theorem rv_body : Tryd.f55.body = some (seqs [rvP Tryd.f55] (.block 0 (.loop (rvL Tryd.f55)))) := by kernel_rfl
def hB2 (S : List Value) (Y : List Value × TypeId) (la : List Value) : Hp := ⟨3, [(S, tBy), Y, (la, tR)]⟩
def rvF (n : Nat) (i j : Int) : List Value := [.slice (some ⟨2, 0, none⟩) n grown, undef, .int .i64 i, .int .i64 j]
def celB (S : List Value) (j x : Int) : Bool × Bool := (cellIs S[0 + j.toNat * 1]? (ub x), true)
def stB (S : List Value) (j : Int) : Bool × Bool := (decide (0 + j.toNat * 1 < S.length), true)
theorem rv_pre (n : Nat) (h : Hp) : GoesT (evL (tabOf Tryd.prog extY conN true) 100 [rvP Tryd.f55] ([.slice (some ⟨2, 0, none⟩) n grown] ++ List.replicate 27 undef, h, []) ⟨[], [], []⟩) 4 24 none (rvF n 0 (IntKind.i64.wrap ((n : Int) - 1))) h [] := ⟨by kernel_rfl, by kernel_rfl, by kernel_rfl⟩
theorem rv_out (n : Nat) (i j : Int) (h : Hp) (g : Nat → Value) : GoesT (evC (tabOf Tryd.prog extY conN true) 100 false (rvL Tryd.f55) (rvF n i j ++ tl 24 g, h, [cmp false]) ⟨[], [], []⟩) 4 24 (some (some 0)) (rvF n i j) h [(decide (i < j), false)] := ⟨by kernel_rfl, by kernel_rfl, by kernel_rfl⟩
theorem rv_go (n : Nat) (i j x y : Int) (S : List Value) (Y : List Value × TypeId) (la : List Value) (g : Nat → Value) : GoesT (evC (tabOf Tryd.prog extY conN true) 100 false (rvL Tryd.f55) (rvF n i j ++ tl 24 g, hB2 S Y la, [cmp true, at_, num 8, at_, num 0, at_, num 6, num 1, at_, num 7, num 1, val (ub y), num 10, num 1, at_, num 11, num 1, val (ub x), num 12, num 1, at_, num 13, num 1, at_, num 14, num 1, at_, num 15, num 1, at_]) ⟨[], [], []⟩) 4 24 none (rvF n (IntKind.i64.wrap (i + 1)) (IntKind.i64.wrap (j - 1))) (hB2 ((S.set (0 + i.toNat * 1) (ub y)).set (0 + j.toNat * 1) (ub x)) Y la)
    [stB (S.set (0 + i.toNat * 1) (ub y)) j, inR j n, stB S i, inR i n, celB S j y, celB S i x, stB (S.set (0 + i.toNat * 1) (ub y)) j, inR j n, stB S i, inR i n, celB S i x, celB S j y, inR i n, inR j n, (decide (i < j), true)] := ⟨by kernel_rfl, by kernel_rfl, by kernel_rfl⟩
/-- the first i and the last i have changed places -/
def rvK (D : List Int) (i : Nat) : List Int := (List.range D.length).map fun k => if k < i ∨ D.length - i ≤ k then D.getD (D.length - 1 - k) 0 else D.getD k 0
theorem rvK_len (D : List Int) (i : Nat) : (rvK D i).length = D.length := by simp [rvK]
theorem rvK_at {D : List Int} {i k : Nat} (h : k < D.length) : (rvK D i)[k]? = some (if k < i ∨ D.length - i ≤ k then D.getD (D.length - 1 - k) 0 else D.getD k 0) := by
  simp [rvK, h]
theorem rvK_zero (D : List Int) : rvK D 0 = D := by
  apply List.ext_getElem?
  intro k
  by_cases h : k < D.length
  · rw [rvK_at h, if_neg (by omega)]
    simp [List.getD, h]
  · rw [List.getElem?_eq_none (by rw [rvK_len]; omega), List.getElem?_eq_none (by omega)]
theorem rvK_step {D : List Int} {i j : Nat} (hj : i + j + 1 = D.length) (hij : i < j) : ((rvK D i).set i (D.getD j 0)).set j (D.getD i 0) = rvK D (i + 1) := by
  apply List.ext_getElem?
  intro k
  by_cases h : k < D.length
  · rw [rvK_at h, List.getElem?_set, List.getElem?_set]
    simp only [List.length_set, rvK_len]
    by_cases h1 : j = k
    · rw [if_pos h1, if_pos (by omega), if_pos (by omega), show D.length - 1 - k = i by omega]
    · rw [if_neg h1]
      by_cases h2 : i = k
      · rw [if_pos h2, if_pos (by omega), if_pos (by omega), show D.length - 1 - k = j by omega]
      · rw [if_neg h2, rvK_at h]
        congr 1
        by_cases h3 : k < i ∨ D.length - i ≤ k
        · rw [if_pos h3, if_pos (by omega)]
        · rw [if_neg h3, if_neg (by omega)]
  · rw [List.getElem?_eq_none (by simp [rvK_len]; omega), List.getElem?_eq_none (by rw [rvK_len]; omega)]
theorem rvK_end {D : List Int} {i : Nat} (h : D.length ≤ i + i + 1) : rvK D i = D.reverse := by
  apply List.ext_getElem?
  intro k
  by_cases hk : k < D.length
  · rw [rvK_at hk, List.getElem?_reverse hk]
    have e : ∀ m, m < D.length → D.getD m 0 = D[m]?.getD 0 := fun m _ => by simp [List.getD]
    by_cases h3 : k < i ∨ D.length - i ≤ k
    · rw [if_pos h3]
      have : D.length - 1 - k < D.length := by omega
      simp [List.getD, this]
    · rw [if_neg h3, show D.length - 1 - k = k by omega]
      simp [List.getD, hk]
  · rw [List.getElem?_eq_none (by rw [rvK_len]; omega), List.getElem?_eq_none (by simp; omega)]
theorem wB_len (L : List Int) : (wB L).length = L.length := by simp [wB]
theorem wB_at {L : List Int} {k : Nat} {x : Int} (h : L[k]? = some x) : (wB L)[k]? = some (ub x) := by simp [wB, h]
theorem wB_set (L : List Int) (k : Nat) (x : Int) : (wB L).set k (ub x) = wB (L.set k x) := by simp [wB, List.map_set]
theorem celB_ok {S : List Value} {k : Nat} {x : Int} (h : S[k]? = some (ub x)) : (celB S k x).1 = (celB S k x).2 := by
  unfold celB
  simp only [Int.toNat_natCast, Nat.mul_one, Nat.zero_add, h]
  simp [cellIs, ub]
theorem rv_runs {Y : List Value × TypeId} {la : List Value} (D : List Int) (hN : D.length < 4611686018427387904) :
    Runs (tabOf Tryd.prog extY conN true) (seqs [rvP Tryd.f55] (.block 0 (.loop (rvL Tryd.f55)))) ([.slice (some ⟨2, 0, none⟩) D.length grown] ++ List.replicate 27 undef, hB2 (wB D) Y la, []) fun e y => (e = none ∨ e = some none) ∧ resS Tryd.prog Tryd.f55 y.1 y.2.1 = some (.tuple #[]) ∧ y.2.1.cut 3 = hB2 (wB D.reverse) Y la := by
  have hT := tabY_ok conN_ok
  refine goesT_list hT (rv_pre D.length _) okN9 fun g => ?_
  have ew : IntKind.i64.wrap ((D.length : Int) - 1) = (D.length : Int) - 1 := wrapI (by omega) (by omega)
  rw [ew]
  refine (Runs.forLoop (R := fun _ => False) (P := fun y => ∃ (i j : Int) (g : Nat → Value), y.1 = rvF D.length i j ++ tl 24 g ∧ y.2.1 = hB2 (wB D.reverse) Y la)
    (fun r y => ∃ (i : Nat) (g : Nat → Value), y.1 = rvF D.length i ((D.length : Int) - 1 - i) ++ tl 24 g ∧ y.2.1 = hB2 (wB (rvK D i)) Y la ∧ i ≤ D.length ∧ r = D.length - i)
    ?_ (n := D.length) ⟨0, g, by simp, by rw [rvK_zero], by omega, by omega⟩).mono fun e' y he => ?_
  · rintro r ⟨t, h', s'⟩ ⟨i, g, ht, hh, hi, hr⟩
    simp only at ht hh
    subst ht hh
    by_cases hc : (i : Int) < (D.length : Int) - 1 - i
    · obtain ⟨j, hj⟩ : ∃ j : Nat, i + j + 1 = D.length := ⟨D.length - 1 - i, by omega⟩
      have ej : (D.length : Int) - 1 - i = (j : Nat) := by omega
      rw [ej] at hc ⊢
      have hij : i < j := by omega
      have cx : (rvK D i)[i]? = some (D.getD i 0) := by rw [rvK_at (by omega), if_neg (by omega)]
      have cy : (rvK D i)[j]? = some (D.getD j 0) := by rw [rvK_at (by omega), if_neg (by omega)]
      have l1 : (celB (wB (rvK D i)) i (D.getD i 0)).1 = (celB (wB (rvK D i)) i (D.getD i 0)).2 := celB_ok (wB_at cx)
      have l2 : (celB (wB (rvK D i)) j (D.getD j 0)).1 = (celB (wB (rvK D i)) j (D.getD j 0)).2 := celB_ok (wB_at cy)
      have l3 : (inR i D.length).1 = (inR i D.length).2 := decide_eq_true (by omega)
      have l4 : (inR j D.length).1 = (inR j D.length).2 := decide_eq_true (by omega)
      have l5 : (stB (wB (rvK D i)) i).1 = (stB (wB (rvK D i)) i).2 := decide_eq_true (by rw [wB_len, rvK_len]; omega)
      have l6 : (stB ((wB (rvK D i)).set (0 + (i : Int).toNat * 1) (ub (D.getD j 0))) j).1 = (stB ((wB (rvK D i)).set (0 + (i : Int).toNat * 1) (ub (D.getD j 0))) j).2 := decide_eq_true (by rw [List.length_set, wB_len, rvK_len]; omega)
      refine (goesT_runs hT (rv_go D.length i j (D.getD i 0) (D.getD j 0) (wB (rvK D i)) Y la g) (okCons l6 (okCons l4 (okCons l5 (okCons l3 (okCons l2 (okCons l1 (okCons l6 (okCons l4 (okCons l5 (okCons l3 (okCons l1 (okCons l2 (okCons l3 (okCons l4 (okL1 (decide_eq_true hc))))))))))))))))).mono fun e z he => ?_
      obtain ⟨rfl, ⟨g', z1⟩, z2⟩ := he
      refine ⟨D.length - (i + 1), by omega, i + 1, g', ?_, ?_, by omega, rfl⟩
      · rw [z1, wrapI (by omega) (by omega), wrapI (by omega) (by omega)]
        congr 2
        omega
      · rw [z2, ← rvK_step hj hij, Int.toNat_natCast, Int.toNat_natCast, Nat.mul_one, Nat.mul_one, Nat.zero_add, Nat.zero_add, wB_set, wB_set]
    · refine (goesT_runs hT (rv_out D.length i _ _ g) (okL1 (decide_eq_false hc))).mono fun e z he => ?_
      obtain ⟨rfl, ⟨g', z1⟩, z2⟩ := he
      rw [rvK_end (by omega)] at z2
      exact ⟨rfl, _, _, g', z1, z2⟩
  · match e', he with
    | none, he =>
      obtain ⟨i, j, g, e1, e2⟩ := he
      refine ⟨.inl rfl, ?_, ?_⟩
      · rw [e1]; kernel_rfl
      · rw [e2]; rfl
    | some none, he => exact he.elim
    | some (some _), he => exact he.elim
def isB (S : List Value) : Bool := (bytesL S).isSome
theorem isB_spec {S : List Value} (h : isB S = true) : ∃ D, S = wB D := by
  obtain ⟨D, hD⟩ := Option.isSome_iff_exists.1 h
  exact ⟨D, bytesL_spec _ _ hD⟩
theorem isB_wB : ∀ D, isB (wB D) = true
  | [] => rfl
  | x :: D => by
    have := isB_wB D
    unfold isB at *
    obtain ⟨E, hE⟩ := Option.isSome_iff_exists.1 this
    show (bytesL (ub x :: wB D)).isSome = true
    simp [bytesL, ub, hE]
theorem logB {x : Bool × Bool} {l : Log} (h : okLog (x :: l)) : x.1 = x.2 ∧ okLog l := ⟨h _ List.mem_cons_self, fun y hy => h y (List.mem_cons_of_mem _ hy)⟩
/-- a row of bytes, the other way round -/
def gRv : AnsH := fun vals h s =>
  match vals, h with
  | [.slice (some ⟨2, 0, none⟩) n c], ⟨3, [(S, t), Y, (la, t')]⟩ => some (.tuple #[], ⟨3, [(S.reverse, tBy), Y, (la, tR)]⟩, s, [(Y.1.all still, true), (Nat.beq t tBy, true), (Nat.beq t' tR, true), (Nat.beq n S.length, true), (isB S, true), (Nat.beq c grown, true), (la.all still, true), (Nat.blt n 4611686018427387904, true)])
  | _, _ => none
theorem wB_tight (L : List Int) (n : Nat) : (wB L).all (lt1 n) = true := by
  unfold wB
  rw [List.all_eq_true]
  intro v hv
  obtain ⟨x, _, rfl⟩ := List.mem_map.1 hv
  rfl
theorem gRv_ok : AnsHOk 55 gRv := by
  intro vals h s v h' s' lg hg hl m B w E hv
  unfold gRv at hg
  split at hg
  · rename_i n c S t Y la t'
    cases hg
    obtain ⟨l0, q⟩ := logB hl
    obtain ⟨l1, q⟩ := logB q
    obtain ⟨l2, q⟩ := logB q
    obtain ⟨l3, q⟩ := logB q
    obtain ⟨l4, q⟩ := logB q
    obtain ⟨l5, q⟩ := logB q
    obtain ⟨l6, q⟩ := logB q
    obtain ⟨l7, _⟩ := logB q
    have l1 := Nat.eq_of_beq_eq_true l1
    have l2 := Nat.eq_of_beq_eq_true l2
    have l3 := Nat.eq_of_beq_eq_true l3
    have l5 := Nat.eq_of_beq_eq_true l5
    obtain ⟨D, rfl⟩ := isB_spec l4
    have l7 := blt_iff.1 l7
    subst l1 l2 l3 l5
    rw [wB_len] at l7 hv ⊢
    have e : (wB D).reverse = wB D.reverse := by simp [wB]
    rw [e]
    exact hcalls_of_runs (T := tabOf Tryd.prog extY conN true) Tryd.func55 rv_body (v := .tuple #[]) (h' := hB2 (wB D.reverse) Y la) (by rfl) (by
      show (((wB D.reverse, tBy) :: [Y, (la, tR)]).all fun x => x.1.all (lt1 3)) = true
      rw [List.all_cons, wB_tight, List.all_cons, all_mono (by omega) l0, List.all_cons, all_mono (by omega) l6]
      rfl) (rv_runs D l7) m B w E hv
  · cases hg
end Go.Proofs.YtbjgkhbhabdjgaaDoor
