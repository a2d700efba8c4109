/-
  ConVB, R16, ToS, NumS, ConVC, ConVD, ConVE
-/
import Derived.Test.YtmgcnijpoklhkaaDoorG13
namespace Go.Proofs.YtmgcnijpoklhkaaDoor
open Go.KRun Go.Nt
set_option maxRecDepth 100000
/-! ### Of -/
def f4 (n : Int) : List Int := [IntKind.u32.wrap (n.tmod 65536), IntKind.u32.wrap ((IntKind.u64.wrap (n.tdiv 65536)).tmod 65536), IntKind.u32.wrap ((IntKind.u64.wrap (n.tdiv 4294967296)).tmod 65536), IntKind.u32.wrap (IntKind.u64.wrap (n.tdiv 281474976710656))]
theorem uof_body : Tryd.f32.body = some (cBody Tryd.f32) := by kernel_rfl
theorem uof_go (n : Int) : GoesT (evC (tabH Tryd.prog extY conN hcV) 100 false (cBody Tryd.f32) ([.int .u64 n] ++ List.replicate 18 undef, ⟨0, []⟩, [cmp true, cmp true, cmp true]) ⟨[], [], []⟩) 3 16 (some none) [.int .u64 n, undef, sl 0 0 (trimN (cutI (wU (f4 n)) 0 4)) (trimN (cutI (wU (f4 n)) 0 4))] ⟨1, [(wU (f4 n), tU)]⟩ [(rowC tU (wU (f4 n)) 0 4 4, true), (decide ((65536 : Int) = 0), false), (decide ((65536 : Int) = 0), false), (decide ((65536 : Int) = 0), false)] := ⟨by kernel_rfl, by kernel_rfl, by kernel_rfl⟩
theorem wrap64 {n : Int} (h0 : 0 ≤ n) (h1 : n < 18446744073709551616) : IntKind.u64.wrap n = n := by simp [IntKind.wrap, IntKind.bits, IntKind.signed]; omega
theorem f4_eq {n : Int} (h0 : 0 ≤ n) (h1 : n < 18446744073709551616) : f4 n = [n % 65536, n / 65536 % 65536, n / 4294967296 % 65536, n / 281474976710656] := by
  unfold f4
  rw [Int.tmod_eq_emod_of_nonneg h0, Int.tdiv_eq_ediv_of_nonneg h0, Int.tdiv_eq_ediv_of_nonneg h0, Int.tdiv_eq_ediv_of_nonneg h0, wrap64 (n := n / 65536) (by omega) (by omega), wrap64 (n := n / 4294967296) (by omega) (by omega), wrap64 (n := n / 281474976710656) (by omega) (by omega), Int.tmod_eq_emod_of_nonneg (by omega), Int.tmod_eq_emod_of_nonneg (by omega), wrap32 (n := n % 65536) (by omega) (by omega), wrap32 (n := n / 65536 % 65536) (by omega) (by omega), wrap32 (n := n / 4294967296 % 65536) (by omega) (by omega), wrap32 (by omega) (by omega)]
theorem f4_dg {n : Int} (h0 : 0 ≤ n) (h1 : n < 18446744073709551616) : ∀ x ∈ f4 n, Dg 65536 x := by
  rw [f4_eq h0 h1]
  intro x hx
  simp only [List.mem_cons, List.not_mem_nil, or_false] at hx
  rcases hx with rfl | rfl | rfl | rfl <;> exact ⟨by omega, by omega⟩
theorem f4_val {n : Int} (h0 : 0 ≤ n) (h1 : n < 18446744073709551616) : vb 65536 (f4 n) = n.toNat := by
  rw [f4_eq h0 h1]
  simp only [vb]
  omega
def gUof : AnsH := fun vals h s =>
  match vals with
  | [.int .u64 n] => mk16 n.toNat h s [(decide (0 ≤ n ∧ n < 18446744073709551616), true)]
  | _ => none
theorem gUof_ok : AnsHOk 32 gUof := by
  intro vals h s v h' s' lg hg hl m B w E hv
  unfold gUof at hg
  split at hg
  · rename_i n
    unfold mk16 at hg
    cases hg
    have q := of_decide_eq_true (hl _ (List.mem_singleton.2 rfl))
    have hd := f4_dg q.1 q.2
    have hv4 := f4_val q.1 q.2
    have hl4 : (f4 n).length = 4 := rfl
    have ec : cutI (wU (f4 n)) 0 4 = f4 n := by
      have := cut_wU (f4 n)
      rw [hl4] at this
      exact this
    have et : trimN (f4 n) = (d16 n.toNat).length := by
      rw [trim_len (by omega) hd, hv4]
      rfl
    have hrow : rowC tU (wU (f4 n)) 0 4 4 = true := by
      have := rowC_wU (L := f4 n) (fun x hx => ⟨(hd x hx).1, by have := (hd x hx).2; omega⟩) (by rw [hl4]; omega) (c := 4) (by rw [hl4]; rfl)
      rw [hl4] at this
      exact this
    have hr : Runs (tabH Tryd.prog extY conN hcV) (cBody Tryd.f32) ([.int .u64 n] ++ List.replicate 18 undef, ⟨0, []⟩, []) fun e z => (e = none ∨ e = some none) ∧ resS Tryd.prog Tryd.f32 z.1 z.2.1 = some (sl 0 0 (d16 n.toNat).length (d16 n.toNat).length) ∧ ∃ r, z.2.1.blk? 0 = some (wU (d16 n.toNat) ++ r, tU) := by
      refine (goesT_runs (tabH_ok conN_ok hcV_ok) (uof_go n) (okTwo hrow (okTwo rfl (okTwo rfl (okOne rfl))))).mono fun e z he => ?_
      obtain ⟨rfl, ⟨g, e1⟩, e2⟩ := he
      refine ⟨.inr rfl, ?_, ?_⟩
      · rw [e1, e2, ec, et]
        rfl
      · rw [e2]
        refine ⟨wU ((f4 n).drop (trimN (f4 n))), ?_⟩
        have e3 : wU (d16 n.toNat) ++ wU ((f4 n).drop (trimN (f4 n))) = wU (f4 n) := by
          unfold d16
          rw [← hv4, ← take_trim (by omega) _ hd, ← wU_append, List.take_append_drop]
        rw [e3]
        rfl
    have := row_calls1 (T := tabH Tryd.prog extY conN hcV) Tryd.func32 uof_body (h0 := ⟨0, []⟩) ⟨rfl, fun b x hx => by have : b < 0 := Hp.blk_lt hx; omega⟩ (vals := [.int .u64 n]) (fun v hv => by rw [List.mem_singleton.1 hv]; rfl) (k := 0) (cs := wU (d16 n.toNat)) (ty := tU) (wU_lt _) (by kernel_rfl) hr.w (by rfl) E (s := fun i => i) (fun i x hx _ => by have : i < 0 := Hp.blk_lt hx; omega)
    exact this
  · cases hg
/-! ### Low -/
/-! ### rows that were made -/
theorem d16_len {A k : Nat} (h : A < 2 ^ (16 * k)) : (d16 A).length ≤ k := db_len (by omega) k A (by rw [pow16]; exact h)
theorem rowOf_d16 {h : Hp} {b A : Nat} {ty : TypeId} (hb : h.blk? b = some (wU (d16 A), ty)) : rowOf h (some ⟨b, 0, none⟩) (d16 A).length = d16 A := by
  simp only [rowOf, hb]
  exact cut_wU _
theorem rowP_d16 {h : Hp} {b A : Nat} (hb : h.blk? b = some (wU (d16 A), tU)) (hl : (d16 A).length < 1073741824) : rowP h (some ⟨b, 0, none⟩) (d16 A).length (d16 A).length = true := by
  simp only [rowP, hb, Bool.and_eq_true]
  refine ⟨rowC_wU (fun x hx => ⟨(d16_dg A x hx).1, by have := (d16_dg A x hx).2; omega⟩) (by omega) ?_, List.all_eq_true.2 (wU_still _)⟩
  unfold capOk
  simp only [Bool.or_eq_true, Bool.and_eq_true]
  exact .inl ⟨blt_iff.2 (by unfold dead; omega), Nat.ble_eq_true_of_le (Nat.le_refl _)⟩
theorem log_tlT {x : Bool × Bool} {l : Log} (h : okLog (x :: l)) : x.1 = x.2 ∧ okLog l := ⟨h _ List.mem_cons_self, fun y hy => h y (List.mem_cons_of_mem _ hy)⟩
def okSh (h : Hp) (p : Option Addr) (n c : Nat) (k : Int) : Bool := rowP h p n c && dgB (rowOf h p n) && Nat.blt (k.toNat / 16 + n + 3) 1073741824 && decide (0 ≤ k)
def gUshlT : AnsH := fun vals h s =>
  match vals, s with
  | [.slice p n c, .int .i64 k], .inr (.inr (.inr (.inl d))) :: s' =>
    match d, s' with
    | true, .inr (.inl V) :: s2 => mk16 V.toNat h s2 [(decide (vO h p n * 2 ^ k.toNat = V.toNat), true), (okSh h p n c k, true), (decide (0 < n), true)]
    | false, _ => some (nilS, h, s', [(rowP h p n c, true), (decide (0 < n), false)])
    | _, _ => none
  | _, _ => none
theorem gUshlT_ok : AnsHOk 20 gUshlT := by
  intro vals h s v h' s' lg hg hl
  unfold gUshlT at hg
  split at hg
  · rename_i p n c k d s2
    split at hg
    · rename_i V s3
      unfold mk16 at hg
      cases hg
      obtain ⟨l1, l2⟩ := log_tlT hl
      have l1 := of_decide_eq_true l1
      refine gUshl_ok _ h [cmp true] _ _ [] _ ?_ l2
      simp only [gUshl, mk16, l1]
      rfl
    · cases hg
      exact gUshl_ok _ h [cmp false] _ _ [] _ rfl hl
    · cases hg
  · cases hg
def gUcmpT : AnsH := fun vals h s =>
  match vals, s with
  | [.slice p n c, .slice q n' c'], .inr (.inl k) :: s' => some (.int .i64 k, h, s', [(decide (cmpZ (vO h p n) (vO h q n') = k), true), (two16 h p q n c n' c', true)])
  | _, _ => none
theorem gUcmpT_ok : AnsHOk 11 gUcmpT := by
  intro vals h s v h' s' lg hg hl
  unfold gUcmpT at hg
  split at hg
  · rename_i p n c q n' c' V s3
    cases hg
    obtain ⟨l1, l2⟩ := log_tlT hl
    have l1 := of_decide_eq_true l1
    refine gUcmp_ok _ h [] _ _ [] _ ?_ l2
    simp only [gUcmp, l1]
  · cases hg
/-! ### what is asked of a row that is the number V -/
/-- a block, by its number -/
def aP16 (b : Nat) : Option Addr := some ⟨b, 0, none⟩
def w16 (X : Nat) : List Value × TypeId := (wU (d16 X), tU)
end Go.Proofs.YtmgcnijpoklhkaaDoor
namespace Go.Nt
def dgS (L : List Int) (i : Nat) : Nat := (L.getD i 0).toNat
theorem pow_split16 (k : Nat) : 2 ^ k = 65536 ^ (k / 16) * 2 ^ (k % 16) := by
  rw [pow16, ← Nat.pow_add]
  congr 1
  omega
theorem dg_lt {L : List Int} (h : ∀ x ∈ L, Dg 65536 x) (i : Nat) : dgS L i < 65536 := by
  unfold dgS
  by_cases hi : i < L.length
  · have := h (L.getD i 0) (by simp [List.getD, List.getElem?_eq_getElem hi])
    omega
  · simp [List.getD, List.getElem?_eq_none (show L.length ≤ i by omega)]
theorem vb_cut {L : List Int} (h : ∀ x ∈ L, Dg 65536 x) (z : Nat) : vb 65536 L / 65536 ^ z = vb 65536 (L.drop z) ∧ vb 65536 L % 65536 ^ z = vb 65536 (L.take z) := by
  have hp : 0 < 65536 ^ z := Nat.pow_pos (by omega)
  by_cases hz : z ≤ L.length
  · have e : vb 65536 L = vb 65536 (L.take z) + 65536 ^ z * vb 65536 (L.drop z) := by
      conv => lhs; rw [← List.take_append_drop z L]
      rw [vb_append, List.length_take, show min z L.length = z by omega]
    have hl : vb 65536 (L.take z) < 65536 ^ z := by
      have := vb_lt (b := 65536) (by omega) (L.take z) (fun x hx => h x (List.mem_of_mem_take hx))
      rw [List.length_take, show min z L.length = z by omega] at this
      exact this
    rw [e]
    exact ⟨by rw [Nat.add_mul_div_left _ _ hp, Nat.div_eq_of_lt hl, Nat.zero_add], by rw [Nat.add_mul_mod_self_left, Nat.mod_eq_of_lt hl]⟩
  · have hl : vb 65536 L < 65536 ^ z := by
      have h1 := vb_lt (b := 65536) (by omega) L h
      have h2 := Nat.pow_le_pow_right (show 0 < 65536 by omega) (show L.length ≤ z by omega)
      omega
    rw [List.drop_of_length_le (by omega), List.take_of_length_le (by omega)]
    exact ⟨Nat.div_eq_of_lt hl, Nat.mod_eq_of_lt hl⟩
theorem vb_drop {L : List Int} {z : Nat} : vb 65536 (L.drop z) = dgS L z + 65536 * vb 65536 (L.drop (z + 1)) := by
  by_cases hz : z < L.length
  · rw [List.drop_eq_getElem_cons hz]
    simp only [vb, dgS]
    simp [List.getD, List.getElem?_eq_getElem hz]
  · rw [List.drop_of_length_le (by omega), List.drop_of_length_le (by omega)]
    simp [vb, dgS, List.getD, List.getElem?_eq_none (show L.length ≤ z by omega)]
theorem dvd_pow {s : Nat} (h : s ≤ 16) : 2 ^ s * 2 ^ (16 - s) = 65536 := by rw [← Nat.pow_add, show s + (16 - s) = 16 by omega]
/-- what is cut off -/
theorem lost_iff {L : List Int} (h : ∀ x ∈ L, Dg 65536 x) (k : Nat) : (vb 65536 L % 2 ^ k ≠ 0) ↔ (vb 65536 (L.take (k / 16)) ≠ 0 ∨ dgS L (k / 16) % 2 ^ (k % 16) ≠ 0) := by
  obtain ⟨e1, e2⟩ := vb_cut h (k / 16)
  have hp : 0 < 65536 ^ (k / 16) := Nat.pow_pos (by omega)
  rw [pow_split16, Nat.mod_mul, e1, e2, vb_drop]
  have hd := dvd_pow (s := k % 16) (by omega)
  have e3 : (dgS L (k / 16) + 65536 * vb 65536 (L.drop (k / 16 + 1))) % 2 ^ (k % 16) = dgS L (k / 16) % 2 ^ (k % 16) := by
    rw [← hd, Nat.mul_assoc, Nat.add_mul_mod_self_left]
  rw [e3]
  generalize dgS L (k / 16) % 2 ^ (k % 16) = r
  generalize vb 65536 (L.take (k / 16)) = u
  constructor
  · intro h0
    by_cases hu : u = 0
    · right
      intro hr
      apply h0
      rw [hu, hr, Nat.mul_zero]
    · exact .inl hu
  · rintro (h0 | h0) hh
    · omega
    · have : 0 < 65536 ^ (k / 16) * r := Nat.mul_pos hp (by omega)
      omega
/-- the digits of a number moved down: one more -/
theorem down_step {O : List Int} {P R y x0 x1 j W : Nat} (hPR : P * R = 65536) (hO : O.length = j) (h : vb 65536 O * P + y = W + 65536 ^ j * (x0 % P)) :
    vb 65536 (O ++ [((x0 / P + x1 % P * R : Nat) : Int)]) * P + y = (W + 65536 ^ j * x0) + 65536 ^ (j + 1) * (x1 % P) := by
  have e : vb 65536 (O ++ [((x0 / P + x1 % P * R : Nat) : Int)]) = vb 65536 O + 65536 ^ j * (x0 / P + x1 % P * R) := by
    rw [vb_snoc, hO, Int.toNat_natCast]
  have e2 := Nat.div_add_mod x0 P
  have e3 : 65536 ^ j * (x0 / P + x1 % P * R) * P = 65536 ^ j * (P * (x0 / P)) + 65536 ^ (j + 1) * (x1 % P) := by
    rw [Nat.mul_assoc, Nat.add_mul, Nat.mul_add, Nat.mul_comm (x0 / P) P, Nat.mul_assoc (x1 % P), Nat.mul_comm R P, hPR, Nat.pow_succ, Nat.mul_comm (x1 % P), Nat.mul_assoc]
  have e4 : 65536 ^ j * x0 = 65536 ^ j * (P * (x0 / P)) + 65536 ^ j * (x0 % P) := by rw [← Nat.mul_add, e2]
  rw [e, Nat.add_mul, e3]
  omega
theorem down_lt {P R x0 x1 : Nat} (hP : 0 < P) (hPR : P * R = 65536) (h0 : x0 < 65536) : x0 / P + x1 % P * R < 65536 := by
  have h1 : x0 / P < R := Nat.div_lt_of_lt_mul (by omega)
  have h2 : x1 % P + 1 ≤ P := Nat.mod_lt _ hP
  have h3 := Nat.mul_le_mul_right R h2
  rw [Nat.add_mul, Nat.one_mul, hPR] at h3
  omega
theorem down_end {L : List Int} (h : ∀ x ∈ L, Dg 65536 x) {k V' : Nat} (e : V' * 2 ^ (k % 16) + dgS L (k / 16) % 2 ^ (k % 16) = vb 65536 (L.drop (k / 16))) : V' = vb 65536 L / 2 ^ k := by
  have hp : 0 < 2 ^ (k % 16) := Nat.pow_pos (by omega)
  obtain ⟨e1, _⟩ := vb_cut h (k / 16)
  rw [pow_split16, ← Nat.div_div_eq_div_mul, e1, ← e, Nat.add_comm, Nat.mul_comm, Nat.add_mul_div_left _ _ hp, Nat.div_eq_of_lt (Nat.mod_lt _ hp), Nat.zero_add]
end Go.Nt
namespace Go.Proofs.YtmgcnijpoklhkaaDoor
open Go.KRun Go.Nt
set_option maxRecDepth 100000
/-! ### Bit -/
theorem dg_dgN (L : List Int) (i : Nat) : dgS L i = dgN L i := rfl
theorem blkOne {x : List Value × TypeId} {i : Nat} {z : List Value × TypeId} (hz : (⟨1, [x]⟩ : Hp).blk? i = some z) : i = 0 ∧ z = x := by
  have : i < 1 := Hp.blk_lt hz
  have hi : i = 0 := by omega
  subst hi
  exact ⟨rfl, (Option.some.inj hz).symm⟩
def rB (F : Func) : Code := cSnd (cSnd (cSnd (cSnd (cBody F))))
def rPr (F : Func) : List Code := [cFst (cBody F), cFst (cSnd (cBody F)), cFst (cSnd (cSnd (cBody F))), cFst (cSnd (cSnd (cSnd (cBody F))))]
def rR5 (F : Func) : Code := cFst (cFst (rB F))
def rL1 (F : Func) : Code := cIn (cIn (cSnd (cFst (rB F))))
def rC (F : Func) : Code := cSnd (rB F)
def rIf (F : Func) : Code := cFst (rC F)
def rR11 (F : Func) : Code := cFst (cSnd (rC F))
def rD (F : Func) : Code := cSnd (cSnd (rC F))
def rR12 (F : Func) : Code := cFst (cFst (rD F))
def rL2 (F : Func) : Code := cIn (cIn (cSnd (cFst (rD F))))
def rR16 (F : Func) : Code := cFst (cSnd (rD F))
def rR17 (F : Func) : Code := cFst (cSnd (cSnd (rD F)))
def rE (F : Func) : Code := cSnd (cSnd (cSnd (rD F)))
def rR18 (F : Func) : Code := cFst (cFst (rE F))
def rL3 (F : Func) : Code := cIn (cIn (cSnd (cFst (rE F))))
def rEn (F : Func) : Code := cSnd (rE F)
theorem ushr_body : Tryd.f8.body = some (seqs (rPr Tryd.f8) (.seq (.seq (rR5 Tryd.f8) (.block 0 (.loop (rL1 Tryd.f8)))) (.seq (rIf Tryd.f8) (.seq (rR11 Tryd.f8) (.seq (.seq (rR12 Tryd.f8) (.block 2 (.loop (rL2 Tryd.f8)))) (.seq (rR16 Tryd.f8) (.seq (rR17 Tryd.f8) (.seq (.seq (rR18 Tryd.f8) (.block 4 (.loop (rL3 Tryd.f8)))) (rEn Tryd.f8))))))))) := by kernel_rfl
theorem ushr_body1 : Tryd.f8.body = some (cBody Tryd.f8) := by kernel_rfl
theorem usr_pre (p : Option Addr) (n c : Nat) (k : Int) (h : Hp) : GoesT (evL (tabH Tryd.prog extY conN hcV) 100 (rPr Tryd.f8) ([.slice p n c, .int .i64 k] ++ List.replicate 87 undef, h, [cmp false]) ⟨[], [], []⟩) 8 81 none [.slice p n c, .int .i64 k, undef, undef, nilS, .bool false, .bool false, .int .i64 (k16 k)] h [(decide (k ≤ 0), false)] := ⟨by kernel_rfl, by kernel_rfl, by kernel_rfl⟩
theorem usr_r5 (a : Value) (k b : Int) (h : Hp) (g : Nat → Value) : GoesT (evC (tabH Tryd.prog extY conN hcV) 100 false (rR5 Tryd.f8) ([a, .int .i64 k, undef, undef, nilS, .bool false, .bool false, .int .i64 b] ++ tl 81 g, h, []) ⟨[], [], []⟩) 9 80 none [a, .int .i64 k, undef, undef, nilS, .bool false, .bool false, .int .i64 b, .int .i64 0] h [] := ⟨by kernel_rfl, by kernel_rfl, by kernel_rfl⟩
theorem usr_l1t (p : Option Addr) (n c : Nat) (k b i : Int) (h : Hp) (g : Nat → Value) : GoesT (evC (tabH Tryd.prog extY conN hcV) 100 false (rL1 Tryd.f8) ([.slice p n c, .int .i64 k, undef, undef, nilS, .bool false, .bool true, .int .i64 b, .int .i64 i] ++ tl 80 g, h, [cmp true, cmp true]) ⟨[], [], []⟩) 9 80 none [.slice p n c, .int .i64 k, undef, undef, nilS, .bool false, .bool true, .int .i64 b, .int .i64 (IntKind.i64.wrap (i + 1))] h [(decide (i < n), true), (decide (i < b), true)] := ⟨by kernel_rfl, by kernel_rfl, by kernel_rfl⟩
theorem usr_l1f (o n c : Nat) (k b i x : Int) (l : List Value) (d : Bool) (g : Nat → Value) : GoesT (evC (tabH Tryd.prog extY conN hcV) 100 false (rL1 Tryd.f8) ([sl 0 o n c, .int .i64 k, undef, undef, nilS, .bool false, .bool false, .int .i64 b, .int .i64 i] ++ tl 80 g, ⟨1, [(l, tR)]⟩, [cmp true, cmp true, at_, val (.int .u32 x), cmp d]) ⟨[], [], []⟩) 9 80 none [sl 0 o n c, .int .i64 k, undef, undef, nilS, .bool false, .bool d, .int .i64 b, .int .i64 (IntKind.i64.wrap (i + 1))] ⟨1, [(l, tR)]⟩ [(x != 0, d), (cellIs (l[o + i.toNat * 1]?) (.int .u32 x), true), (decide (0 ≤ i ∧ i < n), true), (decide (i < n), true), (decide (i < b), true)] := ⟨by kernel_rfl, by kernel_rfl, by kernel_rfl⟩
theorem usr_o1a (p : Option Addr) (n c : Nat) (k b i : Int) (e : Bool) (h : Hp) (g : Nat → Value) : GoesT (evC (tabH Tryd.prog extY conN hcV) 100 false (rL1 Tryd.f8) ([.slice p n c, .int .i64 k, undef, undef, nilS, .bool false, .bool e, .int .i64 b, .int .i64 i] ++ tl 80 g, h, [cmp false]) ⟨[], [], []⟩) 9 80 (some (some 0)) [.slice p n c, .int .i64 k, undef, undef, nilS, .bool false, .bool e, .int .i64 b, .int .i64 i] h [(decide (i < b), false)] := ⟨by kernel_rfl, by kernel_rfl, by kernel_rfl⟩
theorem usr_o1b (p : Option Addr) (n c : Nat) (k b i : Int) (e : Bool) (h : Hp) (g : Nat → Value) : GoesT (evC (tabH Tryd.prog extY conN hcV) 100 false (rL1 Tryd.f8) ([.slice p n c, .int .i64 k, undef, undef, nilS, .bool false, .bool e, .int .i64 b, .int .i64 i] ++ tl 80 g, h, [cmp true, cmp false]) ⟨[], [], []⟩) 9 80 (some (some 0)) [.slice p n c, .int .i64 k, undef, undef, nilS, .bool false, .bool e, .int .i64 b, .int .i64 i] h [(decide (i < n), false), (decide (i < b), true)] := ⟨by kernel_rfl, by kernel_rfl, by kernel_rfl⟩
theorem usr_ift (p : Option Addr) (n c : Nat) (k b i : Int) (e : Bool) (h : Hp) (g : Nat → Value) : GoesT (evC (tabH Tryd.prog extY conN hcV) 100 false (rIf Tryd.f8) ([.slice p n c, .int .i64 k, undef, undef, nilS, .bool false, .bool e, .int .i64 b, .int .i64 i] ++ tl 80 g, h, [cmp true]) ⟨[], [], []⟩) 6 83 (some none) [.slice p n c, .int .i64 k, undef, undef, nilS, .bool e] h [(decide (b ≥ n), true)] := ⟨by kernel_rfl, by kernel_rfl, by kernel_rfl⟩
theorem usr_iff (p : Option Addr) (n c : Nat) (k b i : Int) (e : Bool) (h : Hp) (g : Nat → Value) : GoesT (evC (tabH Tryd.prog extY conN hcV) 100 false (rIf Tryd.f8) ([.slice p n c, .int .i64 k, undef, undef, nilS, .bool false, .bool e, .int .i64 b, .int .i64 i] ++ tl 80 g, h, [cmp false]) ⟨[], [], []⟩) 9 80 none [.slice p n c, .int .i64 k, undef, undef, nilS, .bool false, .bool e, .int .i64 b, .int .i64 i] h [(decide (b ≥ n), false)] := ⟨by kernel_rfl, by kernel_rfl, by kernel_rfl⟩
theorem usr_r11 (a : Value) (k b i : Int) (e : Bool) (h : Hp) (g : Nat → Value) : GoesT (evC (tabH Tryd.prog extY conN hcV) 100 false (rR11 Tryd.f8) ([a, .int .i64 k, undef, undef, nilS, .bool false, .bool e, .int .i64 b, .int .i64 i] ++ tl 80 g, h, []) ⟨[], [], []⟩) 10 79 none [a, .int .i64 k, undef, undef, nilS, .bool false, .bool e, .int .i64 b, .int .i64 i, .int .u32 1] h [] := ⟨by kernel_rfl, by kernel_rfl, by kernel_rfl⟩
theorem usr_r12 (a : Value) (k b i : Int) (e : Bool) (h : Hp) (g : Nat → Value) : GoesT (evC (tabH Tryd.prog extY conN hcV) 100 false (rR12 Tryd.f8) ([a, .int .i64 k, undef, undef, nilS, .bool false, .bool e, .int .i64 b, .int .i64 i, .int .u32 1] ++ tl 79 g, h, []) ⟨[], [], []⟩) 11 78 none [a, .int .i64 k, undef, undef, nilS, .bool false, .bool e, .int .i64 b, .int .i64 i, .int .u32 1, .int .i64 0] h [] := ⟨by kernel_rfl, by kernel_rfl, by kernel_rfl⟩
theorem usr_l2 (a : Value) (k b u i q : Int) (e : Bool) (h : Hp) (g : Nat → Value) : GoesT (evC (tabH Tryd.prog extY conN hcV) 100 false (rL2 Tryd.f8) ([a, .int .i64 k, undef, undef, nilS, .bool false, .bool e, .int .i64 b, .int .i64 u, .int .u32 q, .int .i64 i] ++ tl 78 g, h, [cmp true, cmp true]) ⟨[], [], []⟩) 11 78 none [a, .int .i64 k, undef, undef, nilS, .bool false, .bool e, .int .i64 b, .int .i64 u, .int .u32 (IntKind.u32.wrap (2 * q)), .int .i64 (IntKind.i64.wrap (i + 1))] h [(decide (i < k.tmod 16), true), (decide ((16 : Int) = 0), false)] := ⟨by kernel_rfl, by kernel_rfl, by kernel_rfl⟩
theorem usr_o2 (a : Value) (k b u i q : Int) (e : Bool) (h : Hp) (g : Nat → Value) : GoesT (evC (tabH Tryd.prog extY conN hcV) 100 false (rL2 Tryd.f8) ([a, .int .i64 k, undef, undef, nilS, .bool false, .bool e, .int .i64 b, .int .i64 u, .int .u32 q, .int .i64 i] ++ tl 78 g, h, [cmp true, cmp false]) ⟨[], [], []⟩) 11 78 (some (some 2)) [a, .int .i64 k, undef, undef, nilS, .bool false, .bool e, .int .i64 b, .int .i64 u, .int .u32 q, .int .i64 i] h [(decide (i < k.tmod 16), false), (decide ((16 : Int) = 0), false)] := ⟨by kernel_rfl, by kernel_rfl, by kernel_rfl⟩
theorem usr_16t (a : Value) (k b u i q : Int) (h : Hp) (g : Nat → Value) : GoesT (evC (tabH Tryd.prog extY conN hcV) 100 false (rR16 Tryd.f8) ([a, .int .i64 k, undef, undef, nilS, .bool false, .bool true, .int .i64 b, .int .i64 u, .int .u32 q, .int .i64 i] ++ tl 78 g, h, []) ⟨[], [], []⟩) 11 78 none [a, .int .i64 k, undef, undef, nilS, .bool false, .bool true, .int .i64 b, .int .i64 u, .int .u32 q, .int .i64 i] h [] := ⟨by kernel_rfl, by kernel_rfl, by kernel_rfl⟩
theorem usr_16f (o n c : Nat) (k b u i q x : Int) (l : List Value) (d : Bool) (g : Nat → Value) : GoesT (evC (tabH Tryd.prog extY conN hcV) 100 false (rR16 Tryd.f8) ([sl 0 o n c, .int .i64 k, undef, undef, nilS, .bool false, .bool false, .int .i64 b, .int .i64 u, .int .u32 q, .int .i64 i] ++ tl 78 g, ⟨1, [(l, tR)]⟩, [at_, val (.int .u32 x), cmp false, cmp d]) ⟨[], [], []⟩) 11 78 none [sl 0 o n c, .int .i64 k, undef, undef, nilS, .bool false, .bool d, .int .i64 b, .int .i64 u, .int .u32 q, .int .i64 i] ⟨1, [(l, tR)]⟩ [(x.tmod q != 0, d), (decide (q = 0), false), (cellIs (l[o + b.toNat * 1]?) (.int .u32 x), true), (decide (0 ≤ b ∧ b < n), true)] := ⟨by kernel_rfl, by kernel_rfl, by kernel_rfl⟩
theorem usr_r17 (a : Value) (k b u i q : Int) (e : Bool) (h : Hp) (g : Nat → Value) : GoesT (evC (tabH Tryd.prog extY conN hcV) 100 false (rR17 Tryd.f8) ([a, .int .i64 k, undef, undef, nilS, .bool false, .bool e, .int .i64 b, .int .i64 u, .int .u32 q, .int .i64 i] ++ tl 78 g, h, []) ⟨[], [], []⟩) 12 77 none [a, .int .i64 k, undef, undef, nilS, .bool false, .bool e, .int .i64 b, .int .i64 u, .int .u32 q, .int .i64 i, nilS] h [] := ⟨by kernel_rfl, by kernel_rfl, by kernel_rfl⟩
theorem usr_r18 (a : Value) (k b u i q : Int) (e : Bool) (h : Hp) (g : Nat → Value) : GoesT (evC (tabH Tryd.prog extY conN hcV) 100 false (rR18 Tryd.f8) ([a, .int .i64 k, undef, undef, nilS, .bool false, .bool e, .int .i64 b, .int .i64 u, .int .u32 q, .int .i64 i, nilS] ++ tl 77 g, h, []) ⟨[], [], []⟩) 13 76 none [a, .int .i64 k, undef, undef, nilS, .bool false, .bool e, .int .i64 b, .int .i64 u, .int .u32 q, .int .i64 i, nilS, .int .i64 b] h [] := ⟨by kernel_rfl, by kernel_rfl, by kernel_rfl⟩
theorem usr_o3 (p : Option Addr) (n c : Nat) (v : Value) (k b u u2 i q : Int) (e : Bool) (h : Hp) (g : Nat → Value) : GoesT (evC (tabH Tryd.prog extY conN hcV) 100 false (rL3 Tryd.f8) ([.slice p n c, .int .i64 k, undef, undef, nilS, .bool false, .bool e, .int .i64 b, .int .i64 u, .int .u32 q, .int .i64 u2, v, .int .i64 i] ++ tl 76 g, h, [cmp false]) ⟨[], [], []⟩) 13 76 (some (some 4)) [.slice p n c, .int .i64 k, undef, undef, nilS, .bool false, .bool e, .int .i64 b, .int .i64 u, .int .u32 q, .int .i64 u2, v, .int .i64 i] h [(decide (i < n), false)] := ⟨by kernel_rfl, by kernel_rfl, by kernel_rfl⟩
def dwn (h : Hp) (o n : Nat) (i q q1 q2 : Int) : Int := IntKind.u32.wrap (q1 + IntKind.u32.wrap ((atN (rowOf h (some ⟨0, o, none⟩) n) (IntKind.i64.wrap (i + 1))).tmod q * q2))
def lDw (h : Hp) (l : List Value) (o n c : Nat) (i q x q1 q2 : Int) : Log := [(decide (q = 0), false), (rowP h (some ⟨0, o, none⟩) n c, true), (decide (q = 0), false), (decide (IntKind.u32.wrap (Int.tdiv 65536 q) = q2), true), (decide (q = 0), false), (decide (IntKind.u32.wrap (x.tdiv q) = q1), true), (cellIs (l[o + i.toNat * 1]?) (.int .u32 x), true), (decide (0 ≤ i ∧ i < n), true), (decide (i < n), true)]
theorem usr_fst (o n c : Nat) (k b u u2 i q x q1 q2 : Int) (e : Bool) (l : List Value) (g : Nat → Value) : GoesT (evC (tabH Tryd.prog extY conN hcV) 100 false (rL3 Tryd.f8) ([sl 0 o n c, .int .i64 k, undef, undef, nilS, .bool false, .bool e, .int .i64 b, .int .i64 u, .int .u32 q, .int .i64 u2, nilS, .int .i64 i] ++ tl 76 g, ⟨1, [(l, tR)]⟩, [cmp true, at_, val (.int .u32 x), num q1, num q2, cmp false]) ⟨[], [], []⟩) 13 76 none [sl 0 o n c, .int .i64 k, undef, undef, nilS, .bool false, .bool e, .int .i64 b, .int .i64 u, .int .u32 q, .int .i64 u2, sl 2 0 1 grown, .int .i64 (IntKind.i64.wrap (i + 1))] ⟨3, [([.int .u32 (dwn ⟨1, [(l, tR)]⟩ o n i q q1 q2)], tU), ([.int .u32 (dwn ⟨1, [(l, tR)]⟩ o n i q q1 q2)], tU), (l, tR)]⟩ (lDw ⟨1, [(l, tR)]⟩ l o n c i q x q1 q2) := ⟨by kernel_rfl, by kernel_rfl, by kernel_rfl⟩
theorem usr_nxt (o n c z : Nat) (k b u u2 i q x q1 q2 : Int) (e : Bool) (l lo : List Value) (g : Nat → Value) : GoesT (evC (tabH Tryd.prog extY conN hcV) 100 false (rL3 Tryd.f8) ([sl 0 o n c, .int .i64 k, undef, undef, nilS, .bool false, .bool e, .int .i64 b, .int .i64 u, .int .u32 q, .int .i64 u2, sl 1 0 z grown, .int .i64 i] ++ tl 76 g, ⟨2, [(lo, tU), (l, tR)]⟩, [cmp true, at_, val (.int .u32 x), num q1, num q2, cmp false, at_]) ⟨[], [], []⟩) 13 76 none [sl 0 o n c, .int .i64 k, undef, undef, nilS, .bool false, .bool e, .int .i64 b, .int .i64 u, .int .u32 q, .int .i64 u2, sl 3 0 (z + 1) grown, .int .i64 (IntKind.i64.wrap (i + 1))] ⟨4, [(lo ++ [.int .u32 (dwn ⟨2, [(lo, tU), (l, tR)]⟩ o n i q q1 q2)], tU), ([.int .u32 (dwn ⟨2, [(lo, tU), (l, tR)]⟩ o n i q q1 q2)], tU), ([], 2 * dead), (l, tR)]⟩ ((appChk tU (lo, tU) ([.int .u32 (dwn ⟨2, [(lo, tU), (l, tR)]⟩ o n i q q1 q2)], tU) z 0 1, true) :: lDw ⟨2, [(lo, tU), (l, tR)]⟩ l o n c i q x q1 q2) := ⟨by kernel_rfl, by kernel_rfl, by kernel_rfl⟩
theorem usr_end (a : Value) (k b u u2 q u3 : Int) (e : Bool) (z : Nat) (x : List Value × TypeId) (lo : List Value) (g : Nat → Value) : GoesT (evC (tabH Tryd.prog extY conN hcV) 100 false (rEn Tryd.f8) ([a, .int .i64 k, undef, undef, nilS, .bool false, .bool e, .int .i64 b, .int .i64 u, .int .u32 q, .int .i64 u2, sl 1 0 z grown, .int .i64 u3] ++ tl 76 g, ⟨2, [(lo, tU), x]⟩, []) ⟨[], [], []⟩) 6 83 (some none) [a, .int .i64 k, undef, undef, sl 1 0 (trimN (cutI lo 0 z)) (trimN (cutI lo 0 z)), .bool e] ⟨2, [(lo, tU), x]⟩ [(rowC tU lo 0 z grown, true)] := ⟨by kernel_rfl, by kernel_rfl, by kernel_rfl⟩
theorem usr_empty (p : Option Addr) (c : Nat) (k : Int) (h : Hp) : GoesT (evC (tabH Tryd.prog extY conN hcV) 100 false (cBody Tryd.f8) ([.slice p 0 c, .int .i64 k] ++ List.replicate 87 undef, h, [cmp false, cmp true, cmp false, cmp true]) ⟨[], [], []⟩) 6 83 (some none) [.slice p 0 c, .int .i64 k, undef, undef, nilS, .bool false] h [(decide (k16 k ≥ ((0 : Nat) : Int)), true), (decide ((0 : Int) < ((0 : Nat) : Int)), false), (decide (0 < k16 k), true), (decide (k ≤ 0), false)] := ⟨by kernel_rfl, by kernel_rfl, by kernel_rfl⟩
theorem usr_empty0 (p : Option Addr) (c : Nat) (k : Int) (h : Hp) : GoesT (evC (tabH Tryd.prog extY conN hcV) 100 false (cBody Tryd.f8) ([.slice p 0 c, .int .i64 k] ++ List.replicate 87 undef, h, [cmp false, cmp false, cmp true]) ⟨[], [], []⟩) 6 83 (some none) [.slice p 0 c, .int .i64 k, undef, undef, nilS, .bool false] h [(decide (k16 k ≥ ((0 : Nat) : Int)), true), (decide (0 < k16 k), false), (decide (k ≤ 0), false)] := ⟨by kernel_rfl, by kernel_rfl, by kernel_rfl⟩
section
variable {l : List Value} {o c : Nat} {A : List Int}
theorem lost_take (A : List Int) (j : Nat) : vb 65536 (A.take (j + 1)) = vb 65536 (A.take j) + 65536 ^ j * dgN A j := vb_take 65536 A j
theorem ushr_loop1 (hR : Row l o A) (hA : ∀ x ∈ A, Dg 65536 x) (hn : A.length < 1073741824) (k : Int) {z : Nat} (hz : z < 4611686018427387904) (g : Nat → Value) :
    Runs (tabH Tryd.prog extY conN hcV) (.block 0 (.loop (rL1 Tryd.f8))) ([sl 0 o A.length c, .int .i64 k, undef, undef, nilS, .bool false, .bool false, .int .i64 (z : Nat), .int .i64 0] ++ tl 80 g, ⟨1, [(l, tR)]⟩, []) fun e Y => match e with | none => (∃ g u, Y.1 = [sl 0 o A.length c, .int .i64 k, undef, undef, nilS, .bool false, .bool (decide (vb 65536 (A.take z) ≠ 0)), .int .i64 (z : Nat), .int .i64 u] ++ tl 80 g) ∧ Y.2.1 = ⟨1, [(l, tR)]⟩ | some none => False | some (some _) => False := by
  refine Runs.forLoop (P := fun Y => (∃ g u, Y.1 = [sl 0 o A.length c, .int .i64 k, undef, undef, nilS, .bool false, .bool (decide (vb 65536 (A.take z) ≠ 0)), .int .i64 (z : Nat), .int .i64 u] ++ tl 80 g) ∧ Y.2.1 = ⟨1, [(l, tR)]⟩) (R := fun _ => False)
    (fun m Y => ∃ j : Nat, j ≤ z ∧ j ≤ A.length ∧ m = A.length - j ∧ (∃ g, Y.1 = [sl 0 o A.length c, .int .i64 k, undef, undef, nilS, .bool false, .bool (decide (vb 65536 (A.take j) ≠ 0)), .int .i64 (z : Nat), .int .i64 (j : Nat)] ++ tl 80 g) ∧ Y.2.1 = ⟨1, [(l, tR)]⟩) ?_ (n := A.length) ⟨0, by omega, by omega, by omega, ⟨g, by simp [vb]⟩, rfl⟩
  rintro m ⟨t, h', s⟩ ⟨j, hj, hj', hm, ⟨g, ht⟩, hh⟩
  simp only at ht hh
  subst ht hh
  have e2 : IntKind.i64.wrap ((j : Int) + 1) = ((j + 1 : Nat) : Int) := by rw [wrapI (by omega) (by omega)]; omega
  have hs := lost_take A j
  have hp : 0 < 65536 ^ j := Nat.pow_pos (by omega)
  by_cases h1 : j < z
  · by_cases h2 : j < A.length
    · have hd := dgN_lt hA j
      by_cases h0 : vb 65536 (A.take j) = 0
      · have ef : decide (vb 65536 (A.take j) ≠ 0) = false := decide_eq_false (by omega)
        rw [ef]
        refine (goesT_runs (tabH_ok conN_ok hcV_ok) (usr_l1f o A.length c k z j (A.getD j 0) l (A.getD j 0 != 0) g) (okTwo rfl (okTwo (by rw [Int.toNat_natCast, Nat.mul_one, hR.cell h2]; simp [cellIs]) (okTwo (decide_eq_true (by omega)) (okTwo (decide_eq_true (by omega)) (okOne (decide_eq_true (by omega)))))))).mono fun e w hw => ?_
        obtain ⟨rfl, ⟨g', z1⟩, z2⟩ := hw
        have e3 : (A.getD j 0 != 0) = decide (vb 65536 (A.take (j + 1)) ≠ 0) := by
          rw [hs, h0, Nat.zero_add, ← hd.2, Bool.eq_iff_iff]
          simp only [bne_iff_ne, ne_eq, decide_eq_true_eq, Nat.mul_eq_zero]
          omega
        exact ⟨A.length - (j + 1), by omega, j + 1, by omega, by omega, rfl, ⟨g', by rw [z1, e2, e3]⟩, z2⟩
      · have ef : decide (vb 65536 (A.take j) ≠ 0) = true := decide_eq_true h0
        rw [ef]
        refine (goesT_runs (tabH_ok conN_ok hcV_ok) (usr_l1t _ A.length c k z j _ g) (okTwo (decide_eq_true (by omega)) (okOne (decide_eq_true (by omega))))).mono fun e w hw => ?_
        obtain ⟨rfl, ⟨g', z1⟩, z2⟩ := hw
        have e3 : true = decide (vb 65536 (A.take (j + 1)) ≠ 0) := (decide_eq_true (by rw [hs]; omega)).symm
        exact ⟨A.length - (j + 1), by omega, j + 1, by omega, by omega, rfl, ⟨g', by rw [z1, e2, ← e3]; rfl⟩, z2⟩
    · have hjl : A.take j = A.take z := by rw [List.take_of_length_le (by omega), List.take_of_length_le (by omega)]
      rw [hjl]
      refine (goesT_runs (tabH_ok conN_ok hcV_ok) (usr_o1b _ A.length c k z j _ _ g) (okTwo (decide_eq_false (by omega)) (okOne (decide_eq_true (by omega))))).mono fun e w hw => ?_
      obtain ⟨rfl, ⟨g', z1⟩, z2⟩ := hw
      exact ⟨rfl, ⟨g', _, z1⟩, z2⟩
  · have hjz : j = z := by omega
    subst hjz
    refine (goesT_runs (tabH_ok conN_ok hcV_ok) (usr_o1a _ A.length c k j j _ _ g) (okOne (decide_eq_false (by omega)))).mono fun e w hw => ?_
    obtain ⟨rfl, ⟨g', z1⟩, z2⟩ := hw
    exact ⟨rfl, ⟨g', _, z1⟩, z2⟩
theorem ushr_loop2 (a : Value) (k : Nat) (b u : Int) (e : Bool) (h : Hp) (g : Nat → Value) :
    Runs (tabH Tryd.prog extY conN hcV) (.block 2 (.loop (rL2 Tryd.f8))) ([a, .int .i64 (k : Nat), undef, undef, nilS, .bool false, .bool e, .int .i64 b, .int .i64 u, .int .u32 1, .int .i64 0] ++ tl 78 g, h, []) fun ex Y => match ex with | none => (∃ g u2, Y.1 = [a, .int .i64 (k : Nat), undef, undef, nilS, .bool false, .bool e, .int .i64 b, .int .i64 u, .int .u32 ((2 ^ (k % 16) : Nat) : Int), .int .i64 u2] ++ tl 78 g) ∧ Y.2.1 = h | some none => False | some (some _) => False := by
  have em : (k : Int).tmod 16 = ((k % 16 : Nat) : Int) := by rw [Int.tmod_eq_emod_of_nonneg (by omega)]; omega
  refine Runs.forLoop (P := fun Y => (∃ g u2, Y.1 = [a, .int .i64 (k : Nat), undef, undef, nilS, .bool false, .bool e, .int .i64 b, .int .i64 u, .int .u32 ((2 ^ (k % 16) : Nat) : Int), .int .i64 u2] ++ tl 78 g) ∧ Y.2.1 = h) (R := fun _ => False)
    (fun m Y => ∃ j : Nat, j ≤ k % 16 ∧ m = k % 16 - j ∧ (∃ g, Y.1 = [a, .int .i64 (k : Nat), undef, undef, nilS, .bool false, .bool e, .int .i64 b, .int .i64 u, .int .u32 ((2 ^ j : Nat) : Int), .int .i64 (j : Nat)] ++ tl 78 g) ∧ Y.2.1 = h) ?_ (n := k % 16) ⟨0, by omega, by omega, ⟨g, rfl⟩, rfl⟩
  rintro m ⟨t, h', s⟩ ⟨j, hj, hm, ⟨g, ht⟩, hh⟩
  simp only at ht hh
  subst ht hh
  by_cases hlt : j < k % 16
  · refine (goesT_runs (tabH_ok conN_ok hcV_ok) (usr_l2 a k b u j _ e h' g) (okTwo (by rw [em]; exact decide_eq_true (by omega)) (okOne rfl))).mono fun ex w hw => ?_
    obtain ⟨rfl, ⟨g', z1⟩, z2⟩ := hw
    have hp : 2 ^ j ≤ 32768 := by
      have := Nat.pow_le_pow_right (show 0 < 2 by omega) (show j ≤ 15 by omega)
      omega
    have e1 : IntKind.u32.wrap (2 * ((2 ^ j : Nat) : Int)) = ((2 ^ (j + 1) : Nat) : Int) := by
      rw [Nat.pow_succ]
      generalize 2 ^ j = Q at hp ⊢
      rw [wrap32 (by omega) (by omega)]
      omega
    have e2 : IntKind.i64.wrap ((j : Int) + 1) = ((j + 1 : Nat) : Int) := by rw [wrapI (by omega) (by omega)]; omega
    exact ⟨k % 16 - (j + 1), by omega, j + 1, by omega, rfl, ⟨g', by rw [z1, e1, e2]⟩, z2⟩
  · have hj' : j = k % 16 := by omega
    subst hj'
    refine (goesT_runs (tabH_ok conN_ok hcV_ok) (usr_o2 a k b u _ _ e h' g) (okTwo (by rw [em]; exact decide_eq_false (by omega)) (okOne rfl))).mono fun ex w hw => ?_
    obtain ⟨rfl, ⟨g', z1⟩, z2⟩ := hw
    exact ⟨rfl, ⟨g', _, z1⟩, z2⟩
/-! ### its third loop -/
/-- the row is so in any memory whose first block is it -/
def Fst (l : List Value) (o c : Nat) (A : List Int) : Prop := ∀ h : Hp, h.blk? 0 = some (l, tR) → rowP h (some ⟨0, o, none⟩) A.length c = true ∧ rowOf h (some ⟨0, o, none⟩) A.length = A
def dwV (A : List Int) (P R i : Nat) : Nat := dgN A i / P + dgN A (i + 1) % P * R
def rSt (l : List Value) (o c : Nat) (A : List Int) (k b u u2 : Int) (e : Bool) (P j i : Nat) (O : List Int) (Y : Lf) : Prop :=
  (j = 0 ∧ (∃ g, Y.1 = [sl 0 o A.length c, .int .i64 k, undef, undef, nilS, .bool false, .bool e, .int .i64 b, .int .i64 u, .int .u32 (P : Nat), .int .i64 u2, nilS, .int .i64 (i : Nat)] ++ tl 76 g) ∧ Y.2.1 = ⟨1, [(l, tR)]⟩) ∨
  (0 < j ∧ (∃ g, Y.1 = [sl 0 o A.length c, .int .i64 k, undef, undef, nilS, .bool false, .bool e, .int .i64 b, .int .i64 u, .int .u32 (P : Nat), .int .i64 u2, sl 1 0 j grown, .int .i64 (i : Nat)] ++ tl 76 g) ∧ Y.2.1 = ⟨2, [(wU O, tU), (l, tR)]⟩)
theorem ushr_round (hR : Row l o A) (hF : Fst l o c A) (hs : ∀ v ∈ l, still v = true) (hA : ∀ x ∈ A, Dg 65536 x) (hn : A.length + 2 < 1073741824) {k b u u2 : Int} {e : Bool} {P R j i : Nat} {O : List Int} (hP : 0 < P) (hPR : P * R = 65536) (hO : O.length = j) (hj : j ≤ i) (hi : i < A.length) {Y : Lf} (hY : rSt l o c A k b u u2 e P j i O Y) :
    RunsW (tabH Tryd.prog extY conN hcV) (rL3 Tryd.f8) Y fun ex W => ex = none ∧ (∃ g, W.1 = [sl 0 o A.length c, .int .i64 k, undef, undef, nilS, .bool false, .bool e, .int .i64 b, .int .i64 u, .int .u32 (P : Nat), .int .i64 u2, sl 1 0 (j + 1) grown, .int .i64 ((i + 1 : Nat) : Int)] ++ tl 76 g) ∧ W.2.1 = ⟨2, [(wU (O ++ [((dwV A P R i : Nat) : Int)]), tU), (l, tR)]⟩ := by
  obtain ⟨t, h', s⟩ := Y
  have hd := dgN_lt hA i
  have hd1 := dgN_lt hA (i + 1)
  have hPb : P ≤ 65536 := by
    rcases Nat.eq_zero_or_pos R with h0 | h0
    · rw [h0] at hPR; omega
    · have := Nat.mul_le_mul_left P h0; omega
  have hRb : R ≤ 65536 := by
    have := Nat.mul_le_mul_right R hP; omega
  have e3 : IntKind.i64.wrap ((i : Int) + 1) = ((i + 1 : Nat) : Int) := by rw [wrapI (by omega) (by omega)]; omega
  have ne0 : decide ((P : Int) = 0) = false := decide_eq_false (by omega)
  have hdiv : dgN A i / P ≤ dgN A i := Nat.div_le_self _ _
  have eq1 : IntKind.u32.wrap ((A.getD i 0).tdiv (P : Int)) = ((dgN A i / P : Nat) : Int) := by
    rw [← hd.2, Int.tdiv_eq_ediv_of_nonneg (by omega), show ((dgN A i : Nat) : Int) / (P : Int) = ((dgN A i / P : Nat) : Int) from rfl]
    generalize dgN A i / P = y at hdiv ⊢
    exact wrap32 (by omega) (by omega)
  have eq2 : IntKind.u32.wrap (Int.tdiv 65536 (P : Int)) = (R : Int) := by
    have : 65536 / P = R := by rw [← hPR, Nat.mul_div_cancel_left _ hP]
    rw [Int.tdiv_eq_ediv_of_nonneg (by omega), show (65536 : Int) / (P : Int) = ((65536 / P : Nat) : Int) from rfl, this]
    exact wrap32 (by omega) (by omega)
  have hlt := down_lt (x1 := dgN A (i + 1)) hP hPR hd.1
  have hdw : ∀ h : Hp, h.blk? 0 = some (l, tR) → dwn h o A.length i P ((dgN A i / P : Nat) : Int) R = ((dwV A P R i : Nat) : Int) := fun h hh => by
    unfold dwn dwV
    rw [(hF h hh).2, e3, atN_nat, ← hd1.2, Int.tmod_eq_emod_of_nonneg (by omega), show ((dgN A (i + 1) : Nat) : Int) % (P : Int) = ((dgN A (i + 1) % P : Nat) : Int) from rfl, show ((dgN A (i + 1) % P : Nat) : Int) * (R : Int) = ((dgN A (i + 1) % P * R : Nat) : Int) from by simp]
    generalize dgN A i / P = y1 at hlt ⊢
    generalize dgN A (i + 1) % P * R = y2 at hlt ⊢
    rw [wrap32 (n := (y2 : Int)) (by omega) (by omega), wrap32 (by omega) (by omega)]
    omega
  have hlog : ∀ h : Hp, h.blk? 0 = some (l, tR) → okLog (lDw h l o A.length c i P (A.getD i 0) ((dgN A i / P : Nat) : Int) R) := fun h hh => okTwo ne0 (okTwo (hF h hh).1 (okTwo ne0 (okTwo (decide_eq_true eq2) (okTwo ne0 (okTwo (decide_eq_true eq1) (okTwo (by
    show cellIs (l[o + (i : Int).toNat * 1]?) _ = true
    rw [Int.toNat_natCast, Nat.mul_one, hR.cell hi]; simp [cellIs]) (okTwo (decide_eq_true (by omega)) (okOne (decide_eq_true (by omega))))))))))
  have key : ∀ {h : Hp} {bb : Nat}, 1 ≤ bb → h.blk? 0 = some (l, tR) → h.blk? bb = some (wU (O ++ [((dwV A P R i : Nat) : Int)]), tU) → RunsW (tabH Tryd.prog extY conN hcV) (rL3 Tryd.f8) (t, h', s) (fun ex W => ex = none ∧ (∃ g, W.1 = [sl 0 o A.length c, .int .i64 k, undef, undef, nilS, .bool false, .bool e, .int .i64 b, .int .i64 u, .int .u32 (P : Nat), .int .i64 u2, sl bb 0 (j + 1) grown, .int .i64 ((i + 1 : Nat) : Int)] ++ tl 76 g) ∧ W.2.1 = h) →
      RunsW (tabH Tryd.prog extY conN hcV) (rL3 Tryd.f8) (t, h', s) fun ex W => ex = none ∧ (∃ g, W.1 = [sl 0 o A.length c, .int .i64 k, undef, undef, nilS, .bool false, .bool e, .int .i64 b, .int .i64 u, .int .u32 (P : Nat), .int .i64 u2, sl 1 0 (j + 1) grown, .int .i64 ((i + 1 : Nat) : Int)] ++ tl 76 g) ∧ W.2.1 = ⟨2, [(wU (O ++ [((dwV A P R i : Nat) : Int)]), tU), (l, tR)]⟩ := fun {h bb} hb h0 hB fin =>
    fin.kept (k := 1) (b := bb) (base := [(l, tR)]) (y := (wU (O ++ [((dwV A P R i : Nat) : Int)]), tU)) (front' := [sl 0 o A.length c, .int .i64 k, undef, undef, nilS, .bool false, .bool e, .int .i64 b, .int .i64 u, .int .u32 (P : Nat), .int .i64 u2, sl 1 0 (j + 1) grown, .int .i64 ((i + 1 : Nat) : Int)]) rfl
      (by kernel_rfl) (fun j x hx => by
        obtain ⟨rfl, rfl⟩ := blkOne hx
        exact ⟨h0, hs⟩) hB hb (wU_still _) (fun v hv => by
        simp only [List.mem_cons, List.not_mem_nil, or_false] at hv
        rcases hv with rfl | rfl | rfl | rfl | rfl | rfl | rfl | rfl | rfl | rfl | rfl | rfl | rfl <;> rfl)
  rcases hY with ⟨h0, ⟨g, ht⟩, hh⟩ | ⟨h0, ⟨g, ht⟩, hh⟩
  · simp only at ht hh
    subst ht hh
    have hO0 : O = [] := List.length_eq_zero_iff.1 (by omega)
    subst hO0
    subst h0
    have fin := goesT_runsW (tabH_ok conN_ok hcV_ok) (s0 := s) (usr_fst o A.length c k b u u2 i P (A.getD i 0) ((dgN A i / P : Nat) : Int) R e l g) (hlog _ rfl)
    rw [e3, hdw _ rfl] at fin
    exact key (bb := 2) (by omega) rfl rfl fin
  · simp only at ht hh
    subst ht hh
    have hchk : appChk tU (wU O, tU) ([.int .u32 ((dwV A P R i : Nat) : Int)], tU) j 0 1 = true :=
      appChk_of (L := O) (M := [((dwV A P R i : Nat) : Int)]) hO.symm (show 0 < 1 by omega) (by show O.length + 1 ≤ _; omega)
    have ew : wU O ++ [.int .u32 ((dwV A P R i : Nat) : Int)] = wU (O ++ [((dwV A P R i : Nat) : Int)]) := by rw [wU_append]; rfl
    have fin := goesT_runsW (tabH_ok conN_ok hcV_ok) (s0 := s) (usr_nxt o A.length c j k b u u2 i P (A.getD i 0) ((dgN A i / P : Nat) : Int) R e l (wU O) g) (okTwo (by rw [hdw _ rfl]; exact hchk) (hlog _ rfl))
    rw [e3, hdw _ rfl, ew] at fin
    exact key (bb := 3) (by omega) rfl rfl fin
def rFin (l : List Value) (o c : Nat) (A : List Int) (k b u u2 : Int) (e : Bool) (P z : Nat) (Y : Lf) : Prop :=
  ∃ O : List Int, O.length = A.length - z ∧ (∀ x ∈ O, Dg 65536 x) ∧ vb 65536 O * P + dgN A z % P = vb 65536 (A.drop z) ∧ rSt l o c A k b u u2 e P (A.length - z) A.length O Y
def rInv (l : List Value) (o c : Nat) (A : List Int) (k b u u2 : Int) (e : Bool) (P z : Nat) (m : Nat) (Y : Lf) : Prop :=
  ∃ (i : Nat) (O : List Int), m = A.length - i ∧ z ≤ i ∧ i ≤ A.length ∧ O.length = i - z ∧ (∀ x ∈ O, Dg 65536 x) ∧ vb 65536 O * P + dgN A z % P = vb 65536 ((A.drop z).take (i - z)) + 65536 ^ (i - z) * (dgN A i % P) ∧ rSt l o c A k b u u2 e P (i - z) i O Y
theorem getD_drop (A : List Int) (z j : Nat) : (A.drop z).getD j 0 = A.getD (z + j) 0 := by simp [List.getD, List.getElem?_drop]
theorem ushr_loop3 (hR : Row l o A) (hF : Fst l o c A) (hs : ∀ v ∈ l, still v = true) (hA : ∀ x ∈ A, Dg 65536 x) (hn : A.length + 2 < 1073741824) {k b u u2 : Int} {e : Bool} {P R z : Nat} (hP : 0 < P) (hPR : P * R = 65536) (hz : z ≤ A.length) (g : Nat → Value) :
    RunsW (tabH Tryd.prog extY conN hcV) (.block 4 (.loop (rL3 Tryd.f8))) ([sl 0 o A.length c, .int .i64 k, undef, undef, nilS, .bool false, .bool e, .int .i64 b, .int .i64 u, .int .u32 (P : Nat), .int .i64 u2, nilS, .int .i64 (z : Nat)] ++ tl 76 g, ⟨1, [(l, tR)]⟩, []) fun ex Y => match ex with | none => rFin l o c A k b u u2 e P z Y | some none => False | some (some _) => False := by
  refine RunsW.forLoop (P := rFin l o c A k b u u2 e P z) (R := fun _ => False) (rInv l o c A k b u u2 e P z) ?_ (n := A.length - z) ⟨z, [], rfl, Nat.le_refl _, hz, by simp, (fun x hx => by cases hx), by simp [vb], .inl ⟨by omega, ⟨g, rfl⟩, rfl⟩⟩
  rintro m Y ⟨i, O, hm, hzi, hi, hO, hOd, hv, hY⟩
  by_cases hlt : i < A.length
  · refine (ushr_round hR hF hs hA hn hP hPR hO (by omega) hlt hY).mono fun ex W hW => ?_
    obtain ⟨rfl, z1, z2⟩ := hW
    have hd := dgN_lt hA i
    have hl := down_lt (x1 := dgN A (i + 1)) hP hPR hd.1
    have ej : i + 1 - z = i - z + 1 := by omega
    refine ⟨A.length - (i + 1), by omega, i + 1, O ++ [((dwV A P R i : Nat) : Int)], rfl, by omega, by omega, by rw [List.length_append, hO, ej]; rfl, fun x hx => ?_, ?_, .inr ⟨by omega, by rw [ej]; exact z1, z2⟩⟩
    · rcases List.mem_append.1 hx with hx | hx
      · exact hOd x hx
      · rw [List.mem_singleton.1 hx]
        unfold dwV
        exact ⟨Int.natCast_nonneg _, Int.ofNat_lt.2 hl⟩
    · have h1 := down_step (x1 := dgN A (i + 1)) hPR hO hv
      have h2 : vb 65536 ((A.drop z).take (i - z + 1)) = vb 65536 ((A.drop z).take (i - z)) + 65536 ^ (i - z) * dgN A i := by
        rw [vb_take, getD_drop, show z + (i - z) = i by omega]
        rfl
      rw [ej, h2]
      exact h1
  · have hil : i = A.length := by omega
    subst hil
    have hz0 : dgN A A.length = 0 := by unfold dgN; simp [List.getD]
    rw [List.take_of_length_le (by simp), hz0] at hv
    simp only [Nat.zero_mod, Nat.mul_zero, Nat.add_zero] at hv
    obtain ⟨t, h', s⟩ := Y
    rcases hY with ⟨h0, ⟨g, ht⟩, hh⟩ | ⟨h0, ⟨g, ht⟩, hh⟩
    · simp only at ht hh
      subst ht hh
      refine (goesT_runsW (tabH_ok conN_ok hcV_ok) (usr_o3 _ _ _ _ _ _ _ _ _ _ _ _ g) (okOne (decide_eq_false (by omega)))).mono fun ex W hW => ?_
      obtain ⟨rfl, ⟨g', z1⟩, z2⟩ := hW
      exact ⟨rfl, O, hO, hOd, hv, .inl ⟨h0, ⟨g', z1⟩, z2⟩⟩
    · simp only at ht hh
      subst ht hh
      refine (goesT_runsW (tabH_ok conN_ok hcV_ok) (usr_o3 _ _ _ _ _ _ _ _ _ _ _ _ g) (okOne (decide_eq_false (by omega)))).mono fun ex W hW => ?_
      obtain ⟨rfl, ⟨g', z1⟩, z2⟩ := hW
      exact ⟨rfl, O, hO, hOd, hv, .inr ⟨h0, ⟨g', z1⟩, z2⟩⟩
end
end Go.Proofs.YtmgcnijpoklhkaaDoor
