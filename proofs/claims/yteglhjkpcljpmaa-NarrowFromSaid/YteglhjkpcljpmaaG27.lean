/-
  The document's rows of parts of 16 bits (tillerref02): Shr, as a call.
-/
import Derived.Test.YteglhjkpcljpmaaG26
import Derived.Test.YteglhjkpcljpmaaG22
namespace Go.Proofs.Yteglhjkpcljpmaa
open Go.KRun Go.Nt
set_option maxRecDepth 100000

def rCode (F : Func) : Code := seqs (rPr F) (.seq (.seq (rR5 F) (.block 0 (.loop (rL1 F)))) (.seq (rIf F) (.seq (rR11 F) (.seq (.seq (rR12 F) (.block 2 (.loop (rL2 F)))) (.seq (rR16 F) (.seq (rR17 F) (.seq (.seq (rR18 F) (.block 4 (.loop (rL3 F)))) (rEn F))))))))
section
variable {l : List Value} {o c : Nat} {A : List Int}
/-- behind the first loop -/
theorem ushr_first (hR : Row l o A) (hA : ∀ x ∈ A, Dg 65536 x) (hn : A.length + 2 < 1073741824) {k : Nat} (hk0 : 0 < k) (hk : k < 4611686018427387904) {P : Ex → Lf → Prop} {rest : Code}
    (h : ∀ (g : Nat → Value) (u : Int), RunsW (tabH Try.prog extY conN hcV) rest ([sl 0 o A.length c, .int .i64 (k : Nat), undef, undef, nilS, .bool false, .bool (decide (vb 65536 (A.take (k / 16)) ≠ 0)), .int .i64 ((k / 16 : Nat) : Int), .int .i64 u] ++ tl 80 g, ⟨1, [(l, tR)]⟩, []) P) :
    RunsW (tabH Try.prog extY conN hcV) (seqs (rPr Try.f42) (.seq (.seq (rR5 Try.f42) (.block 0 (.loop (rL1 Try.f42)))) rest)) ([sl 0 o A.length c, .int .i64 (k : Nat)] ++ List.replicate 87 undef, ⟨1, [(l, tR)]⟩, []) P := by
  have ek : k16 (k : Int) = ((k / 16 : Nat) : Int) := by unfold k16; rw [Int.tdiv_eq_ediv_of_nonneg (by omega), wrapI (by omega) (by omega)]; omega
  refine goesT_listW (tabH_ok conN_ok hcV_ok) (usr_pre _ A.length c k _) (okOne (decide_eq_false (by omega))) fun g => ?_
  rw [ek]
  refine seqW3 (goesT_runsW (tabH_ok conN_ok hcV_ok) (usr_r5 _ k _ _ g) (fun x hx => by cases hx)) (fun e y he => by cases he.1) (P2 := fun e Y => match e with | none => (∃ g u, Y.1 = [sl 0 o A.length c, .int .i64 (k : Nat), undef, undef, nilS, .bool false, .bool (decide (vb 65536 (A.take (k / 16)) ≠ 0)), .int .i64 ((k / 16 : Nat) : Int), .int .i64 u] ++ tl 80 g) ∧ Y.2.1 = ⟨1, [(l, tR)]⟩ | some none => False | some (some _) => False) ?_ (fun e y he => by match e, he with | none, he => exact he | some id, he => exact he) ?_
  · rintro ⟨t, h', s⟩ ⟨_, ⟨g', ht⟩, hh⟩
    simp only at ht hh
    subst ht hh
    exact RunsW.script (ushr_loop1 hR hA (by omega) _ (by omega) g').w
  · rintro ⟨t, h', s⟩ ⟨⟨g', u, ht⟩, hh⟩
    simp only at ht hh
    subst ht hh
    exact RunsW.script (h g' u)
theorem ushr_short (hR : Row l o A) (hA : ∀ x ∈ A, Dg 65536 x) (hn : A.length + 2 < 1073741824) {k : Nat} (hk0 : 0 < k) (hk : k < 4611686018427387904) (hz : A.length ≤ k / 16) :
    RunsW (tabH Try.prog extY conN hcV) (rCode Try.f42) ([sl 0 o A.length c, .int .i64 (k : Nat)] ++ List.replicate 87 undef, ⟨1, [(l, tR)]⟩, []) fun e z => (e = none ∨ e = some none) ∧ resS Try.prog Try.f42 z.1 z.2.1 = some (.tuple #[nilS, .bool (decide (vb 65536 A % 2 ^ k ≠ 0))]) := by
  have el : decide (vb 65536 (A.take (k / 16)) ≠ 0) = decide (vb 65536 A % 2 ^ k ≠ 0) := by
    congr 1
    have h1 := Go.Nt.lost_iff hA k
    have h2 : dgS A (k / 16) = 0 := by unfold dgS; simp [List.getD, List.getElem?_eq_none hz]
    rw [h2, Nat.zero_mod] at h1
    simp only [ne_eq, not_true_eq_false, or_false] at h1
    simp only [ne_eq, eq_iff_iff]
    exact h1.symm
  refine ushr_first hR hA hn hk0 hk fun g u => ?_
  refine RunsW.seq (P1 := fun e Y => e = some none ∧ (∃ g, Y.1 = [sl 0 o A.length c, .int .i64 (k : Nat), undef, undef, nilS, .bool (decide (vb 65536 (A.take (k / 16)) ≠ 0))] ++ tl 83 g) ∧ Y.2.1 = ⟨1, [(l, tR)]⟩) (goesT_runsW (tabH_ok conN_ok hcV_ok) (usr_ift _ A.length c k _ u _ _ g) (okOne (decide_eq_true (by omega)))) (fun y he => by cases he.1) (fun e y he => ?_)
  obtain ⟨he, ⟨g', z1⟩, z2⟩ := he
  refine ⟨.inr he, ?_⟩
  rw [z1, z2, el]
  rfl
theorem ushr_long (hR : Row l o A) (hF : Fst l o c A) (hs : ∀ v ∈ l, still v = true) (hA : ∀ x ∈ A, Dg 65536 x) (hn : A.length + 2 < 1073741824) {k : Nat} (hk0 : 0 < k) (hk : k < 4611686018427387904) (hz : k / 16 < A.length) {V : Nat} (hV : V = vb 65536 A / 2 ^ k) :
    RunsW (tabH Try.prog extY conN hcV) (rCode Try.f42) ([sl 0 o A.length c, .int .i64 (k : Nat)] ++ List.replicate 87 undef, ⟨1, [(l, tR)]⟩, []) fun e z => (e = none ∨ e = some none) ∧ resS Try.prog Try.f42 z.1 z.2.1 = some (.tuple #[sl 1 0 (d16 V).length (d16 V).length, .bool (decide (vb 65536 A % 2 ^ k ≠ 0))]) ∧ ∃ r, z.2.1.blk? 1 = some (wU (d16 V) ++ r, tU) := by
  have hP0 : 0 < 2 ^ (k % 16) := Nat.pow_pos (by omega)
  have hPR := dvd_pow (s := k % 16) (by omega)
  have hPb : 2 ^ (k % 16) ≤ 32768 := by
    have := Nat.pow_le_pow_right (show 0 < 2 by omega) (show k % 16 ≤ 15 by omega)
    omega
  have hd := dgN_lt hA (k / 16)
  have hl := Go.Nt.lost_iff hA k
  refine ushr_first hR hA hn hk0 hk fun g u => ?_
  refine RunsW.seq (P1 := fun e Y => e = none ∧ (∃ g, Y.1 = [sl 0 o A.length c, .int .i64 (k : Nat), undef, undef, nilS, .bool false, .bool (decide (vb 65536 (A.take (k / 16)) ≠ 0)), .int .i64 ((k / 16 : Nat) : Int), .int .i64 u] ++ tl 80 g) ∧ Y.2.1 = ⟨1, [(l, tR)]⟩) (goesT_runsW (tabH_ok conN_ok hcV_ok) (usr_iff _ A.length c k _ u _ _ g) (okOne (decide_eq_false (by omega)))) ?_ (fun e y he => by cases he.1)
  rintro ⟨t, h', s⟩ ⟨_, ⟨g, ht⟩, hh⟩
  simp only at ht hh
  subst ht hh
  refine RunsW.seq (P1 := fun e Y => e = none ∧ (∃ g, Y.1 = [sl 0 o A.length c, .int .i64 (k : Nat), undef, undef, nilS, .bool false, .bool (decide (vb 65536 (A.take (k / 16)) ≠ 0)), .int .i64 ((k / 16 : Nat) : Int), .int .i64 u, .int .u32 1] ++ tl 79 g) ∧ Y.2.1 = ⟨1, [(l, tR)]⟩) (goesT_runsW (tabH_ok conN_ok hcV_ok) (usr_r11 _ k _ u _ _ g) (fun x hx => by cases hx)) ?_ (fun e y he => by cases he.1)
  rintro ⟨t, h', s⟩ ⟨_, ⟨g, ht⟩, hh⟩
  simp only at ht hh
  subst ht hh
  refine seqW3 (goesT_runsW (tabH_ok conN_ok hcV_ok) (usr_r12 _ k _ u _ _ g) (fun x hx => by cases hx)) (fun e y he => by cases he.1) (P2 := fun e Y => match e with | none => (∃ g u2, Y.1 = [sl 0 o A.length c, .int .i64 (k : Nat), undef, undef, nilS, .bool false, .bool (decide (vb 65536 (A.take (k / 16)) ≠ 0)), .int .i64 ((k / 16 : Nat) : Int), .int .i64 u, .int .u32 ((2 ^ (k % 16) : Nat) : Int), .int .i64 u2] ++ tl 78 g) ∧ Y.2.1 = ⟨1, [(l, tR)]⟩ | some none => False | some (some _) => False) ?_ (fun e y he => by match e, he with | none, he => exact he | some id, he => exact he) ?_
  · rintro ⟨t, h', s⟩ ⟨_, ⟨g', ht⟩, hh⟩
    simp only at ht hh
    subst ht hh
    exact RunsW.script (ushr_loop2 _ k _ u _ _ g').w
  rintro ⟨t, h', s⟩ ⟨⟨g, u2, ht⟩, hh⟩
  simp only at ht hh
  subst ht hh
  refine RunsW.seq (P1 := fun e Y => e = none ∧ (∃ g, Y.1 = [sl 0 o A.length c, .int .i64 (k : Nat), undef, undef, nilS, .bool false, .bool (decide (vb 65536 A % 2 ^ k ≠ 0)), .int .i64 ((k / 16 : Nat) : Int), .int .i64 u, .int .u32 ((2 ^ (k % 16) : Nat) : Int), .int .i64 u2] ++ tl 78 g) ∧ Y.2.1 = ⟨1, [(l, tR)]⟩) ?_ ?_ (fun e y he => by cases he.1)
  · by_cases h0 : vb 65536 (A.take (k / 16)) = 0
    · rw [decide_eq_false (show ¬ (vb 65536 (A.take (k / 16)) ≠ 0) by omega)]
      have ev : (((A.getD (k / 16) 0)).tmod ((2 ^ (k % 16) : Nat) : Int) != 0) = decide (vb 65536 A % 2 ^ k ≠ 0) := by
        rw [← hd.2, Int.tmod_eq_emod_of_nonneg (by omega), show ((dgN A (k / 16) : Nat) : Int) % ((2 ^ (k % 16) : Nat) : Int) = ((dgN A (k / 16) % 2 ^ (k % 16) : Nat) : Int) from rfl, Bool.eq_iff_iff]
        rw [h0] at hl
        simp only [ne_eq, not_true_eq_false, false_or] at hl
        simp only [bne_iff_ne, ne_eq, decide_eq_true_eq, hl, dg_dgN]
        omega
      refine (goesT_runsW (tabH_ok conN_ok hcV_ok) (usr_16f o A.length c k ((k / 16 : Nat) : Int) u u2 ((2 ^ (k % 16) : Nat) : Int) (A.getD (k / 16) 0) l (decide (vb 65536 A % 2 ^ k ≠ 0)) g) (okTwo ev (okTwo (decide_eq_false (by omega)) (okTwo (by rw [Int.toNat_natCast, Nat.mul_one, hR.cell hz]; simp [cellIs]) (okOne (decide_eq_true (by omega))))))).mono fun e w hw => hw
    · rw [decide_eq_true h0, decide_eq_true (hl.2 (.inl h0))]
      exact goesT_runsW (tabH_ok conN_ok hcV_ok) (usr_16t _ k _ u u2 _ _ g) (fun x hx => by cases hx)
  rintro ⟨t, h', s⟩ ⟨_, ⟨g, ht⟩, hh⟩
  simp only at ht hh
  subst ht hh
  refine RunsW.seq (P1 := fun e Y => e = none ∧ (∃ g, Y.1 = [sl 0 o A.length c, .int .i64 (k : Nat), undef, undef, nilS, .bool false, .bool (decide (vb 65536 A % 2 ^ k ≠ 0)), .int .i64 ((k / 16 : Nat) : Int), .int .i64 u, .int .u32 ((2 ^ (k % 16) : Nat) : Int), .int .i64 u2, nilS] ++ tl 77 g) ∧ Y.2.1 = ⟨1, [(l, tR)]⟩) (goesT_runsW (tabH_ok conN_ok hcV_ok) (usr_r17 _ k _ u u2 _ _ _ g) (fun x hx => by cases hx)) ?_ (fun e y he => by cases he.1)
  rintro ⟨t, h', s⟩ ⟨_, ⟨g, ht⟩, hh⟩
  simp only at ht hh
  subst ht hh
  refine seqW3 (goesT_runsW (tabH_ok conN_ok hcV_ok) (usr_r18 _ k _ u u2 _ _ _ g) (fun x hx => by cases hx)) (fun e y he => by cases he.1) (P2 := fun e Y => match e with | none => rFin l o c A k ((k / 16 : Nat) : Int) u u2 (decide (vb 65536 A % 2 ^ k ≠ 0)) (2 ^ (k % 16)) (k / 16) Y | some none => False | some (some _) => False) ?_ (fun e y he => by match e, he with | none, he => exact he | some id, he => exact he) ?_
  · rintro ⟨t, h', s⟩ ⟨_, ⟨g', ht⟩, hh⟩
    simp only at ht hh
    subst ht hh
    exact RunsW.script (ushr_loop3 hR hF hs hA hn hP0 hPR (by omega) g')
  rintro ⟨t, h', s⟩ ⟨O, hO, hOd, hv, hY⟩
  rcases hY with ⟨e0, _⟩ | ⟨_, ⟨g', ht⟩, hh⟩
  · omega
  · simp only at ht hh
    subst ht hh
    have hval : vb 65536 O = V := by rw [hV]; exact down_end hA hv
    have hrow : rowC tU (wU O) 0 (A.length - k / 16) grown = true := by
      rw [← hO]
      exact rowC_wU (fun x hx => ⟨(hOd x hx).1, by have := (hOd x hx).2; omega⟩) (by omega) (capG _)
    refine (goesT_runsW (tabH_ok conN_ok hcV_ok) (usr_end _ k _ u u2 _ _ _ (A.length - k / 16) (l, tR) (wU O) g') (okOne hrow)).mono fun e z he => ?_
    obtain ⟨rfl, ⟨g2, e1⟩, e2⟩ := he
    have et : trimN (cutI (wU O) 0 (A.length - k / 16)) = (d16 V).length := by
      rw [← hO, cut_wU, trim_len (by omega) hOd, hval]
      rfl
    refine ⟨.inr rfl, ?_, ?_⟩
    · rw [e1, e2, et]
      rfl
    · rw [e2]
      refine ⟨wU (O.drop (trimN O)), ?_⟩
      have e3 : wU (d16 V) ++ wU (O.drop (trimN O)) = wU O := by
        unfold d16
        rw [← hval, ← take_trim (by omega) _ hOd, ← wU_append, List.take_append_drop]
      rw [e3]
      rfl
end
theorem ushr_bodyC : Try.f42.body = some (rCode Try.f42) := ushr_body
/-- a caller's row, in the smallest memory -/
theorem fst_of {ty : TypeId} {l : List Value} {o n c : Nat} (r : rowC ty l o n c = true) (hs : ∀ v ∈ l, still v = true) : Fst l o c (cutI l o n) := by
  intro h hb
  have hlen := (rowC_of r).2.1
  rw [hlen]
  constructor
  · simp only [rowP, hb, Bool.and_eq_true]
    refine ⟨?_, List.all_eq_true.2 hs⟩
    unfold rowC at r ⊢
    simp only [Bool.and_eq_true, Bool.not_eq_true'] at r ⊢
    obtain ⟨⟨⟨⟨⟨⟨_, _⟩, p3⟩, p4⟩, p5⟩, p6⟩, p7⟩ := r
    exact ⟨⟨⟨⟨⟨⟨tR_tomb, by kernel_rfl⟩, p3⟩, p4⟩, p5⟩, p6⟩, p7⟩
  · simp [rowOf, hb]
def okShr (h : Hp) (p : Option Addr) (n c : Nat) (k : Int) : Bool := rowP h p n c && dgB (rowOf h p n) && Nat.blt (n + 2) 1073741824 && decide (0 < k ∧ k < 4611686018427387904)
def gUshr : AnsH := fun vals h s =>
  match vals, s with
  | [.slice p n c, .int .i64 k], .inr (.inr (.inr (.inl d))) :: .inr (.inr (.inr (.inl e))) :: s' =>
    match d with
    | true => some (.tuple #[sl h.n 0 (d16 (vO h p n / 2 ^ k.toNat)).length (d16 (vO h p n / 2 ^ k.toNat)).length, .bool e], h.push (wU (d16 (vO h p n / 2 ^ k.toNat))) tU, s', [(decide (vO h p n % 2 ^ k.toNat ≠ 0), e), (decide (k.toNat / 16 < n), true), (okShr h p n c k, true)])
    | false => some (.tuple #[nilS, .bool e], h, s', [(decide (vO h p n % 2 ^ k.toNat ≠ 0), e), (decide (k.toNat / 16 < n), false), (okShr h p n c k, true)])
  | _, _ => none
theorem gUshr_ok : AnsHOk 42 gUshr := by
  intro vals h s v h' s' lg hg hl m B w E hv
  unfold gUshr at hg
  split at hg
  · rename_i p n c k d e s2
    split at hg
    · cases hg
      have l1 := hl _ (List.mem_cons_self)
      have l2 := hl _ (List.mem_cons_of_mem _ (List.mem_cons_self))
      have l3 := hl _ (List.mem_cons_of_mem _ (List.mem_cons_of_mem _ (List.mem_singleton.2 rfl)))
      simp only at l1 l2 l3
      simp only [okShr, Bool.and_eq_true, decide_eq_true_eq] at l2 l3
      obtain ⟨⟨⟨q1, q2⟩, q3⟩, q4⟩ := l3
      have q2 := dgB_of q2
      have q3 := blt_iff.1 q3
      obtain ⟨K, rfl⟩ := Int.eq_ofNat_of_zero_le (show 0 ≤ k by omega)
      rw [Int.toNat_natCast] at l1 l2 ⊢
      rcases rowP_cases q1 with ⟨rfl, rfl, rfl, e0⟩ | ⟨b, o, x, rfl, hx, r1, rs, e0⟩
      · omega
      · rw [e0] at q2
        obtain ⟨h1, h2, h3, h4, h5, h6, h7⟩ := rowC_of r1
        have ev : vO h (some ⟨b, o, none⟩) n = vb 65536 (cutI x.1 o n) := by unfold vO; rw [e0]
        have r := ushr_long h1 (fst_of r1 rs) rs q2 (by rw [h2]; exact q3) (k := K) (by omega) (by omega) (by rw [h2]; exact l2) rfl
        rw [h2, ← ev, l1] at r
        have e2 : ∀ L : Nat, rn (fun _ => h.n) (.tuple #[sl 1 0 L L, .bool e]) = .tuple #[sl h.n 0 L L, .bool e] := fun L => by simp [rn, rn2, rn1, sl]
        have fin := row_calls1 (T := tabH Try.prog extY conN hcV) Try.func42 ushr_bodyC (rows1 h7) (vals := [sl 0 o n c, .int .i64 (K : Nat)]) (fun v hv => by
          simp only [List.mem_cons, List.not_mem_nil, or_false] at hv
          rcases hv with rfl | rfl <;> rfl) (k := 1) (cs := wU (d16 (vO h (some ⟨b, o, none⟩) n / 2 ^ K))) (ty := tU) (wU_lt _) (by kernel_rfl) r (by rfl) E (s := fun _ => b) (fitsR1 hx h5 h6 rfl)
        rw [e2] at fin
        exact fin
    · cases hg
      have l1 := hl _ (List.mem_cons_self)
      have l2 := hl _ (List.mem_cons_of_mem _ (List.mem_cons_self))
      have l3 := hl _ (List.mem_cons_of_mem _ (List.mem_cons_of_mem _ (List.mem_singleton.2 rfl)))
      simp only at l1 l2 l3
      simp only [okShr, Bool.and_eq_true, decide_eq_true_eq, decide_eq_false_iff_not] at l2 l3
      obtain ⟨⟨⟨q1, q2⟩, q3⟩, q4⟩ := l3
      have q2 := dgB_of q2
      have q3 := blt_iff.1 q3
      obtain ⟨K, rfl⟩ := Int.eq_ofNat_of_zero_le (show 0 ≤ k by omega)
      rw [Int.toNat_natCast] at l1 l2
      by_cases hn : n = 0
      · subst hn
        have hlen := rowOf_len q1
        have e0 : rowOf h p 0 = [] := List.length_eq_zero_iff.1 hlen
        have ev : vO h p 0 = 0 := by unfold vO; rw [e0]; rfl
        have ee : e = false := by rw [← l1, ev]; simp
        subst ee
        obtain ⟨x, p', a, NA, eA, fA⟩ := nu_of 0 q1
        have ek : k16 (K : Int) = ((K / 16 : Nat) : Int) := by unfold k16; rw [Int.tdiv_eq_ediv_of_nonneg (by omega), wrapI (by omega) (by omega)]; omega
        have hr : Runs (tabH Try.prog extY conN hcV) (cBody Try.f42) ([.slice p' 0 c, .int .i64 (K : Nat)] ++ List.replicate 87 undef, ⟨1, [x]⟩, []) fun e z => (e = none ∨ e = some none) ∧ resS Try.prog Try.f42 z.1 z.2.1 = some (.tuple #[nilS, .bool false]) := by
          by_cases hk : 0 < K / 16
          · refine (goesT_runs (tabH_ok conN_ok hcV_ok) (usr_empty p' c K _) (okTwo (show decide (k16 (K : Int) ≥ ((0 : Nat) : Int)) = true by rw [ek]; exact decide_eq_true (by omega)) (okTwo rfl (okTwo (show decide (0 < k16 (K : Int)) = true by rw [ek]; exact decide_eq_true (by omega)) (okOne (decide_eq_false (by omega))))))).mono fun e z he => ?_
            obtain ⟨rfl, ⟨g, e2⟩, e3⟩ := he
            refine ⟨.inr rfl, ?_⟩
            rw [e2, e3]
            rfl
          · refine (goesT_runs (tabH_ok conN_ok hcV_ok) (usr_empty0 p' c K _) (okTwo (show decide (k16 (K : Int) ≥ ((0 : Nat) : Int)) = true by rw [ek]; exact decide_eq_true (by omega)) (okTwo (show decide (0 < k16 (K : Int)) = false by rw [ek]; exact decide_eq_false (by omega)) (okOne (decide_eq_false (by omega)))))).mono fun e z he => ?_
            obtain ⟨rfl, ⟨g, e2⟩, e3⟩ := he
            refine ⟨.inr rfl, ?_⟩
            rw [e2, e3]
            rfl
        have := row_calls0 (T := tabH Try.prog extY conN hcV) Try.func42 ushr_body1 (h0 := ⟨1, [x]⟩) ⟨rfl, fun b z hz => by obtain ⟨_, rfl⟩ := blkOne hz; exact ⟨NA.ros.1, NA.lt0, NA.ros.2⟩⟩ (vals := [.slice p' 0 c, .int .i64 (K : Nat)]) (fun v hv => by
          simp only [List.mem_cons, List.not_mem_nil, or_false] at hv
          rcases hv with rfl | rfl
          · exact NA.lt (by show 0 < 1; omega)
          · rfl) (by rfl) hr.w E (s := fun _ => a) (fun i z hz ht => by obtain ⟨_, rfl⟩ := blkOne hz; exact fA ht)
        simp only [List.map_cons, List.map_nil] at this
        rw [eA _ rfl] at this
        exact this
      · rcases rowP_cases q1 with ⟨rfl, rfl, rfl, e0⟩ | ⟨b, o, x, rfl, hx, r1, rs, e0⟩
        · exact absurd rfl hn
        · rw [e0] at q2
          obtain ⟨h1, h2, h3, h4, h5, h6, h7⟩ := rowC_of r1
          have ev : vO h (some ⟨b, o, none⟩) n = vb 65536 (cutI x.1 o n) := by unfold vO; rw [e0]
          have r := ushr_short (c := c) h1 q2 (by rw [h2]; exact q3) (k := K) (by omega) (by omega) (by rw [h2]; omega)
          rw [h2, ← ev, l1] at r
          exact row_calls0 (T := tabH Try.prog extY conN hcV) Try.func42 ushr_bodyC (rows1 h7) (vals := [sl 0 o n c, .int .i64 (K : Nat)]) (fun v hv => by
            simp only [List.mem_cons, List.not_mem_nil, or_false] at hv
            rcases hv with rfl | rfl <;> rfl) (by rfl) r E (s := fun _ => b) (fitsR1 hx h5 h6 rfl)
  · cases hg
end Go.Proofs.Yteglhjkpcljpmaa

/-
  What is known of the document's numbers of any size, as one table.
-/
namespace Go.Proofs.Yteglhjkpcljpmaa
open Go.KRun Go.Nt
set_option maxRecDepth 100000

def hcW : Hc := altH 28 gUof (altH 23 gUlow (altH 43 gUbit (altH 42 gUshr (altH 41 gUshl (altH 46 gUadd (altH 44 gUsub (altH 45 gUcmp (altH 21 gUlen hcV))))))))
theorem hcW_ok : HcOk hcW := altH_ok Try.func28 rfl gUof_ok (altH_ok Try.func23 rfl gUlow_ok (altH_ok Try.func43 rfl gUbit_ok (altH_ok Try.func42 rfl gUshr_ok (altH_ok Try.func41 rfl gUshl_ok (altH_ok Try.func46 rfl gUadd_ok (altH_ok Try.func44 rfl gUsub_ok (altH_ok Try.func45 rfl gUcmp_ok (altH_ok Try.func21 rfl gUlen_ok hcV_ok))))))))
end Go.Proofs.Yteglhjkpcljpmaa

/-
  The document's numbers (tillerref04.Num), as values.
-/
namespace Go.Proofs.Yteglhjkpcljpmaa
open Go.KRun Go.Nt

def bOf (m : Bool) (e : Int) (v : Value) : List Value × TypeId := ([.bool m, .int .i64 e, v], 57)
def sOf (b V : Nat) : Value := sl b 0 (d16 V).length (d16 V).length
def vRN (m : Bool) (e : Int) (v : Value) : Value := .agg #[.bool m, .int .i64 e, v]
end Go.Proofs.Yteglhjkpcljpmaa
