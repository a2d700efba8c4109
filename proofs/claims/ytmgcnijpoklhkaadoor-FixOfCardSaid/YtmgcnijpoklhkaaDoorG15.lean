/-
  ConVF, NumI, ConVI, ConVJ, NumPa, RunP
-/
import Derived.Test.YtmgcnijpoklhkaaDoorG14
namespace Go.Proofs.YtmgcnijpoklhkaaDoor
open Go.KRun Go.Nt
set_option maxRecDepth 100000
def rCode (F : Func) : Code := seqs (rPr F) (.seq (.seq (rR5 F) (.block 0 (.loop (rL1 F)))) (.seq (rIf F) (.seq (rR11 F) (.seq (.seq (rR12 F) (.block 2 (.loop (rL2 F)))) (.seq (rR16 F) (.seq (rR17 F) (.seq (.seq (rR18 F) (.block 4 (.loop (rL3 F)))) (rEn F))))))))
section
variable {l : List Value} {o c : Nat} {A : List Int}
/-- behind the first loop -/
theorem ushr_first (hR : Row l o A) (hA : ∀ x ∈ A, Dg 65536 x) (hn : A.length + 2 < 1073741824) {k : Nat} (hk0 : 0 < k) (hk : k < 4611686018427387904) {P : Ex → Lf → Prop} {rest : Code}
    (h : ∀ (g : Nat → Value) (u : Int), RunsW (tabH Tryd.prog extY conN hcV) rest ([sl 0 o A.length c, .int .i64 (k : Nat), undef, undef, nilS, .bool false, .bool (decide (vb 65536 (A.take (k / 16)) ≠ 0)), .int .i64 ((k / 16 : Nat) : Int), .int .i64 u] ++ tl 80 g, ⟨1, [(l, tR)]⟩, []) P) :
    RunsW (tabH Tryd.prog extY conN hcV) (seqs (rPr Tryd.f8) (.seq (.seq (rR5 Tryd.f8) (.block 0 (.loop (rL1 Tryd.f8)))) rest)) ([sl 0 o A.length c, .int .i64 (k : Nat)] ++ List.replicate 87 undef, ⟨1, [(l, tR)]⟩, []) P := by
  have ek : k16 (k : Int) = ((k / 16 : Nat) : Int) := by unfold k16; rw [Int.tdiv_eq_ediv_of_nonneg (by omega), wrapI (by omega) (by omega)]; omega
  refine goesT_listW (tabH_ok conN_ok hcV_ok) (usr_pre _ A.length c k _) (okOne (decide_eq_false (by omega))) fun g => ?_
  rw [ek]
  refine seqW3 (goesT_runsW (tabH_ok conN_ok hcV_ok) (usr_r5 _ k _ _ g) (fun x hx => by cases hx)) (fun e y he => by cases he.1) (P2 := fun e Y => match e with | none => (∃ g u, Y.1 = [sl 0 o A.length c, .int .i64 (k : Nat), undef, undef, nilS, .bool false, .bool (decide (vb 65536 (A.take (k / 16)) ≠ 0)), .int .i64 ((k / 16 : Nat) : Int), .int .i64 u] ++ tl 80 g) ∧ Y.2.1 = ⟨1, [(l, tR)]⟩ | some none => False | some (some _) => False) ?_ (fun e y he => by match e, he with | none, he => exact he | some id, he => exact he) ?_
  · rintro ⟨t, h', s⟩ ⟨_, ⟨g', ht⟩, hh⟩
    simp only at ht hh
    subst ht hh
    exact RunsW.script (ushr_loop1 hR hA (by omega) _ (by omega) g').w
  · rintro ⟨t, h', s⟩ ⟨⟨g', u, ht⟩, hh⟩
    simp only at ht hh
    subst ht hh
    exact RunsW.script (h g' u)
theorem ushr_short (hR : Row l o A) (hA : ∀ x ∈ A, Dg 65536 x) (hn : A.length + 2 < 1073741824) {k : Nat} (hk0 : 0 < k) (hk : k < 4611686018427387904) (hz : A.length ≤ k / 16) :
    RunsW (tabH Tryd.prog extY conN hcV) (rCode Tryd.f8) ([sl 0 o A.length c, .int .i64 (k : Nat)] ++ List.replicate 87 undef, ⟨1, [(l, tR)]⟩, []) fun e z => (e = none ∨ e = some none) ∧ resS Tryd.prog Tryd.f8 z.1 z.2.1 = some (.tuple #[nilS, .bool (decide (vb 65536 A % 2 ^ k ≠ 0))]) := by
  have el : decide (vb 65536 (A.take (k / 16)) ≠ 0) = decide (vb 65536 A % 2 ^ k ≠ 0) := by
    congr 1
    have h1 := Go.Nt.lost_iff hA k
    have h2 : dgS A (k / 16) = 0 := by unfold dgS; simp [List.getD, List.getElem?_eq_none hz]
    rw [h2, Nat.zero_mod] at h1
    simp only [ne_eq, not_true_eq_false, or_false] at h1
    simp only [ne_eq, eq_iff_iff]
    exact h1.symm
  refine ushr_first hR hA hn hk0 hk fun g u => ?_
  refine RunsW.seq (P1 := fun e Y => e = some none ∧ (∃ g, Y.1 = [sl 0 o A.length c, .int .i64 (k : Nat), undef, undef, nilS, .bool (decide (vb 65536 (A.take (k / 16)) ≠ 0))] ++ tl 83 g) ∧ Y.2.1 = ⟨1, [(l, tR)]⟩) (goesT_runsW (tabH_ok conN_ok hcV_ok) (usr_ift _ A.length c k _ u _ _ g) (okOne (decide_eq_true (by omega)))) (fun y he => by cases he.1) (fun e y he => ?_)
  obtain ⟨he, ⟨g', z1⟩, z2⟩ := he
  refine ⟨.inr he, ?_⟩
  rw [z1, z2, el]
  rfl
theorem ushr_long (hR : Row l o A) (hF : Fst l o c A) (hs : ∀ v ∈ l, still v = true) (hA : ∀ x ∈ A, Dg 65536 x) (hn : A.length + 2 < 1073741824) {k : Nat} (hk0 : 0 < k) (hk : k < 4611686018427387904) (hz : k / 16 < A.length) {V : Nat} (hV : V = vb 65536 A / 2 ^ k) :
    RunsW (tabH Tryd.prog extY conN hcV) (rCode Tryd.f8) ([sl 0 o A.length c, .int .i64 (k : Nat)] ++ List.replicate 87 undef, ⟨1, [(l, tR)]⟩, []) fun e z => (e = none ∨ e = some none) ∧ resS Tryd.prog Tryd.f8 z.1 z.2.1 = some (.tuple #[sl 1 0 (d16 V).length (d16 V).length, .bool (decide (vb 65536 A % 2 ^ k ≠ 0))]) ∧ ∃ r, z.2.1.blk? 1 = some (wU (d16 V) ++ r, tU) := by
  have hP0 : 0 < 2 ^ (k % 16) := Nat.pow_pos (by omega)
  have hPR := dvd_pow (s := k % 16) (by omega)
  have hPb : 2 ^ (k % 16) ≤ 32768 := by
    have := Nat.pow_le_pow_right (show 0 < 2 by omega) (show k % 16 ≤ 15 by omega)
    omega
  have hd := dgN_lt hA (k / 16)
  have hl := Go.Nt.lost_iff hA k
  refine ushr_first hR hA hn hk0 hk fun g u => ?_
  refine RunsW.seq (P1 := fun e Y => e = none ∧ (∃ g, Y.1 = [sl 0 o A.length c, .int .i64 (k : Nat), undef, undef, nilS, .bool false, .bool (decide (vb 65536 (A.take (k / 16)) ≠ 0)), .int .i64 ((k / 16 : Nat) : Int), .int .i64 u] ++ tl 80 g) ∧ Y.2.1 = ⟨1, [(l, tR)]⟩) (goesT_runsW (tabH_ok conN_ok hcV_ok) (usr_iff _ A.length c k _ u _ _ g) (okOne (decide_eq_false (by omega)))) ?_ (fun e y he => by cases he.1)
  rintro ⟨t, h', s⟩ ⟨_, ⟨g, ht⟩, hh⟩
  simp only at ht hh
  subst ht hh
  refine RunsW.seq (P1 := fun e Y => e = none ∧ (∃ g, Y.1 = [sl 0 o A.length c, .int .i64 (k : Nat), undef, undef, nilS, .bool false, .bool (decide (vb 65536 (A.take (k / 16)) ≠ 0)), .int .i64 ((k / 16 : Nat) : Int), .int .i64 u, .int .u32 1] ++ tl 79 g) ∧ Y.2.1 = ⟨1, [(l, tR)]⟩) (goesT_runsW (tabH_ok conN_ok hcV_ok) (usr_r11 _ k _ u _ _ g) (fun x hx => by cases hx)) ?_ (fun e y he => by cases he.1)
  rintro ⟨t, h', s⟩ ⟨_, ⟨g, ht⟩, hh⟩
  simp only at ht hh
  subst ht hh
  refine seqW3 (goesT_runsW (tabH_ok conN_ok hcV_ok) (usr_r12 _ k _ u _ _ g) (fun x hx => by cases hx)) (fun e y he => by cases he.1) (P2 := fun e Y => match e with | none => (∃ g u2, Y.1 = [sl 0 o A.length c, .int .i64 (k : Nat), undef, undef, nilS, .bool false, .bool (decide (vb 65536 (A.take (k / 16)) ≠ 0)), .int .i64 ((k / 16 : Nat) : Int), .int .i64 u, .int .u32 ((2 ^ (k % 16) : Nat) : Int), .int .i64 u2] ++ tl 78 g) ∧ Y.2.1 = ⟨1, [(l, tR)]⟩ | some none => False | some (some _) => False) ?_ (fun e y he => by match e, he with | none, he => exact he | some id, he => exact he) ?_
  · rintro ⟨t, h', s⟩ ⟨_, ⟨g', ht⟩, hh⟩
    simp only at ht hh
    subst ht hh
    exact RunsW.script (ushr_loop2 _ k _ u _ _ g').w
  rintro ⟨t, h', s⟩ ⟨⟨g, u2, ht⟩, hh⟩
  simp only at ht hh
  subst ht hh
  refine RunsW.seq (P1 := fun e Y => e = none ∧ (∃ g, Y.1 = [sl 0 o A.length c, .int .i64 (k : Nat), undef, undef, nilS, .bool false, .bool (decide (vb 65536 A % 2 ^ k ≠ 0)), .int .i64 ((k / 16 : Nat) : Int), .int .i64 u, .int .u32 ((2 ^ (k % 16) : Nat) : Int), .int .i64 u2] ++ tl 78 g) ∧ Y.2.1 = ⟨1, [(l, tR)]⟩) ?_ ?_ (fun e y he => by cases he.1)
  · by_cases h0 : vb 65536 (A.take (k / 16)) = 0
    · rw [decide_eq_false (show ¬ (vb 65536 (A.take (k / 16)) ≠ 0) by omega)]
      have ev : (((A.getD (k / 16) 0)).tmod ((2 ^ (k % 16) : Nat) : Int) != 0) = decide (vb 65536 A % 2 ^ k ≠ 0) := by
        rw [← hd.2, Int.tmod_eq_emod_of_nonneg (by omega), show ((dgN A (k / 16) : Nat) : Int) % ((2 ^ (k % 16) : Nat) : Int) = ((dgN A (k / 16) % 2 ^ (k % 16) : Nat) : Int) from rfl, Bool.eq_iff_iff]
        rw [h0] at hl
        simp only [ne_eq, not_true_eq_false, false_or] at hl
        simp only [bne_iff_ne, ne_eq, decide_eq_true_eq, hl, dg_dgN]
        omega
      refine (goesT_runsW (tabH_ok conN_ok hcV_ok) (usr_16f o A.length c k ((k / 16 : Nat) : Int) u u2 ((2 ^ (k % 16) : Nat) : Int) (A.getD (k / 16) 0) l (decide (vb 65536 A % 2 ^ k ≠ 0)) g) (okTwo ev (okTwo (decide_eq_false (by omega)) (okTwo (by rw [Int.toNat_natCast, Nat.mul_one, hR.cell hz]; simp [cellIs]) (okOne (decide_eq_true (by omega))))))).mono fun e w hw => hw
    · rw [decide_eq_true h0, decide_eq_true (hl.2 (.inl h0))]
      exact goesT_runsW (tabH_ok conN_ok hcV_ok) (usr_16t _ k _ u u2 _ _ g) (fun x hx => by cases hx)
  rintro ⟨t, h', s⟩ ⟨_, ⟨g, ht⟩, hh⟩
  simp only at ht hh
  subst ht hh
  refine RunsW.seq (P1 := fun e Y => e = none ∧ (∃ g, Y.1 = [sl 0 o A.length c, .int .i64 (k : Nat), undef, undef, nilS, .bool false, .bool (decide (vb 65536 A % 2 ^ k ≠ 0)), .int .i64 ((k / 16 : Nat) : Int), .int .i64 u, .int .u32 ((2 ^ (k % 16) : Nat) : Int), .int .i64 u2, nilS] ++ tl 77 g) ∧ Y.2.1 = ⟨1, [(l, tR)]⟩) (goesT_runsW (tabH_ok conN_ok hcV_ok) (usr_r17 _ k _ u u2 _ _ _ g) (fun x hx => by cases hx)) ?_ (fun e y he => by cases he.1)
  rintro ⟨t, h', s⟩ ⟨_, ⟨g, ht⟩, hh⟩
  simp only at ht hh
  subst ht hh
  refine seqW3 (goesT_runsW (tabH_ok conN_ok hcV_ok) (usr_r18 _ k _ u u2 _ _ _ g) (fun x hx => by cases hx)) (fun e y he => by cases he.1) (P2 := fun e Y => match e with | none => rFin l o c A k ((k / 16 : Nat) : Int) u u2 (decide (vb 65536 A % 2 ^ k ≠ 0)) (2 ^ (k % 16)) (k / 16) Y | some none => False | some (some _) => False) ?_ (fun e y he => by match e, he with | none, he => exact he | some id, he => exact he) ?_
  · rintro ⟨t, h', s⟩ ⟨_, ⟨g', ht⟩, hh⟩
    simp only at ht hh
    subst ht hh
    exact RunsW.script (ushr_loop3 hR hF hs hA hn hP0 hPR (by omega) g')
  rintro ⟨t, h', s⟩ ⟨O, hO, hOd, hv, hY⟩
  rcases hY with ⟨e0, _⟩ | ⟨_, ⟨g', ht⟩, hh⟩
  · omega
  · simp only at ht hh
    subst ht hh
    have hval : vb 65536 O = V := by rw [hV]; exact down_end hA hv
    have hrow : rowC tU (wU O) 0 (A.length - k / 16) grown = true := by
      rw [← hO]
      exact rowC_wU (fun x hx => ⟨(hOd x hx).1, by have := (hOd x hx).2; omega⟩) (by omega) (capG _)
    refine (goesT_runsW (tabH_ok conN_ok hcV_ok) (usr_end _ k _ u u2 _ _ _ (A.length - k / 16) (l, tR) (wU O) g') (okOne hrow)).mono fun e z he => ?_
    obtain ⟨rfl, ⟨g2, e1⟩, e2⟩ := he
    have et : trimN (cutI (wU O) 0 (A.length - k / 16)) = (d16 V).length := by
      rw [← hO, cut_wU, trim_len (by omega) hOd, hval]
      rfl
    refine ⟨.inr rfl, ?_, ?_⟩
    · rw [e1, e2, et]
      rfl
    · rw [e2]
      refine ⟨wU (O.drop (trimN O)), ?_⟩
      have e3 : wU (d16 V) ++ wU (O.drop (trimN O)) = wU O := by
        unfold d16
        rw [← hval, ← take_trim (by omega) _ hOd, ← wU_append, List.take_append_drop]
      rw [e3]
      rfl
end
theorem ushr_bodyC : Tryd.f8.body = some (rCode Tryd.f8) := ushr_body
/-- a caller's row, in the smallest memory -/
theorem fst_of {ty : TypeId} {l : List Value} {o n c : Nat} (r : rowC ty l o n c = true) (hs : ∀ v ∈ l, still v = true) : Fst l o c (cutI l o n) := by
  intro h hb
  have hlen := (rowC_of r).2.1
  rw [hlen]
  constructor
  · simp only [rowP, hb, Bool.and_eq_true]
    refine ⟨?_, List.all_eq_true.2 hs⟩
    unfold rowC at r ⊢
    simp only [Bool.and_eq_true, Bool.not_eq_true'] at r ⊢
    obtain ⟨⟨⟨⟨⟨⟨_, _⟩, p3⟩, p4⟩, p5⟩, p6⟩, p7⟩ := r
    exact ⟨⟨⟨⟨⟨⟨tR_tomb, by kernel_rfl⟩, p3⟩, p4⟩, p5⟩, p6⟩, p7⟩
  · simp [rowOf, hb]
def okShr (h : Hp) (p : Option Addr) (n c : Nat) (k : Int) : Bool := rowP h p n c && dgB (rowOf h p n) && Nat.blt (n + 2) 1073741824 && decide (0 < k ∧ k < 4611686018427387904)
def gUshr : AnsH := fun vals h s =>
  match vals, s with
  | [.slice p n c, .int .i64 k], .inr (.inr (.inr (.inl d))) :: .inr (.inr (.inr (.inl e))) :: s' =>
    match d with
    | true => some (.tuple #[sl h.n 0 (d16 (vO h p n / 2 ^ k.toNat)).length (d16 (vO h p n / 2 ^ k.toNat)).length, .bool e], h.push (wU (d16 (vO h p n / 2 ^ k.toNat))) tU, s', [(decide (vO h p n % 2 ^ k.toNat ≠ 0), e), (decide (k.toNat / 16 < n), true), (okShr h p n c k, true)])
    | false => some (.tuple #[nilS, .bool e], h, s', [(decide (vO h p n % 2 ^ k.toNat ≠ 0), e), (decide (k.toNat / 16 < n), false), (okShr h p n c k, true)])
  | _, _ => none
theorem gUshr_ok : AnsHOk 8 gUshr := by
  intro vals h s v h' s' lg hg hl m B w E hv
  unfold gUshr at hg
  split at hg
  · rename_i p n c k d e s2
    split at hg
    · cases hg
      have l1 := hl _ (List.mem_cons_self)
      have l2 := hl _ (List.mem_cons_of_mem _ (List.mem_cons_self))
      have l3 := hl _ (List.mem_cons_of_mem _ (List.mem_cons_of_mem _ (List.mem_singleton.2 rfl)))
      simp only at l1 l2 l3
      simp only [okShr, Bool.and_eq_true, decide_eq_true_eq] at l2 l3
      obtain ⟨⟨⟨q1, q2⟩, q3⟩, q4⟩ := l3
      have q2 := dgB_of q2
      have q3 := blt_iff.1 q3
      obtain ⟨K, rfl⟩ := Int.eq_ofNat_of_zero_le (show 0 ≤ k by omega)
      rw [Int.toNat_natCast] at l1 l2 ⊢
      rcases rowP_cases q1 with ⟨rfl, rfl, rfl, e0⟩ | ⟨b, o, x, rfl, hx, r1, rs, e0⟩
      · omega
      · rw [e0] at q2
        obtain ⟨h1, h2, h3, h4, h5, h6, h7⟩ := rowC_of r1
        have ev : vO h (some ⟨b, o, none⟩) n = vb 65536 (cutI x.1 o n) := by unfold vO; rw [e0]
        have r := ushr_long h1 (fst_of r1 rs) rs q2 (by rw [h2]; exact q3) (k := K) (by omega) (by omega) (by rw [h2]; exact l2) rfl
        rw [h2, ← ev, l1] at r
        have e2 : ∀ L : Nat, rn (fun _ => h.n) (.tuple #[sl 1 0 L L, .bool e]) = .tuple #[sl h.n 0 L L, .bool e] := fun L => by simp [rn, rn2, rn1, sl]
        have fin := row_calls1 (T := tabH Tryd.prog extY conN hcV) Tryd.func8 ushr_bodyC (rows1 h7) (vals := [sl 0 o n c, .int .i64 (K : Nat)]) (fun v hv => by
          simp only [List.mem_cons, List.not_mem_nil, or_false] at hv
          rcases hv with rfl | rfl <;> rfl) (k := 1) (cs := wU (d16 (vO h (some ⟨b, o, none⟩) n / 2 ^ K))) (ty := tU) (wU_lt _) (by kernel_rfl) r (by rfl) E (s := fun _ => b) (fitsR1 hx h5 h6 rfl)
        rw [e2] at fin
        exact fin
    · cases hg
      have l1 := hl _ (List.mem_cons_self)
      have l2 := hl _ (List.mem_cons_of_mem _ (List.mem_cons_self))
      have l3 := hl _ (List.mem_cons_of_mem _ (List.mem_cons_of_mem _ (List.mem_singleton.2 rfl)))
      simp only at l1 l2 l3
      simp only [okShr, Bool.and_eq_true, decide_eq_true_eq, decide_eq_false_iff_not] at l2 l3
      obtain ⟨⟨⟨q1, q2⟩, q3⟩, q4⟩ := l3
      have q2 := dgB_of q2
      have q3 := blt_iff.1 q3
      obtain ⟨K, rfl⟩ := Int.eq_ofNat_of_zero_le (show 0 ≤ k by omega)
      rw [Int.toNat_natCast] at l1 l2
      by_cases hn : n = 0
      · subst hn
        have hlen := rowOf_len q1
        have e0 : rowOf h p 0 = [] := List.length_eq_zero_iff.1 hlen
        have ev : vO h p 0 = 0 := by unfold vO; rw [e0]; rfl
        have ee : e = false := by rw [← l1, ev]; simp
        subst ee
        obtain ⟨x, p', a, NA, eA, fA⟩ := nu_of 0 q1
        have ek : k16 (K : Int) = ((K / 16 : Nat) : Int) := by unfold k16; rw [Int.tdiv_eq_ediv_of_nonneg (by omega), wrapI (by omega) (by omega)]; omega
        have hr : Runs (tabH Tryd.prog extY conN hcV) (cBody Tryd.f8) ([.slice p' 0 c, .int .i64 (K : Nat)] ++ List.replicate 87 undef, ⟨1, [x]⟩, []) fun e z => (e = none ∨ e = some none) ∧ resS Tryd.prog Tryd.f8 z.1 z.2.1 = some (.tuple #[nilS, .bool false]) := by
          by_cases hk : 0 < K / 16
          · refine (goesT_runs (tabH_ok conN_ok hcV_ok) (usr_empty p' c K _) (okTwo (show decide (k16 (K : Int) ≥ ((0 : Nat) : Int)) = true by rw [ek]; exact decide_eq_true (by omega)) (okTwo rfl (okTwo (show decide (0 < k16 (K : Int)) = true by rw [ek]; exact decide_eq_true (by omega)) (okOne (decide_eq_false (by omega))))))).mono fun e z he => ?_
            obtain ⟨rfl, ⟨g, e2⟩, e3⟩ := he
            refine ⟨.inr rfl, ?_⟩
            rw [e2, e3]
            rfl
          · refine (goesT_runs (tabH_ok conN_ok hcV_ok) (usr_empty0 p' c K _) (okTwo (show decide (k16 (K : Int) ≥ ((0 : Nat) : Int)) = true by rw [ek]; exact decide_eq_true (by omega)) (okTwo (show decide (0 < k16 (K : Int)) = false by rw [ek]; exact decide_eq_false (by omega)) (okOne (decide_eq_false (by omega)))))).mono fun e z he => ?_
            obtain ⟨rfl, ⟨g, e2⟩, e3⟩ := he
            refine ⟨.inr rfl, ?_⟩
            rw [e2, e3]
            rfl
        have := row_calls0 (T := tabH Tryd.prog extY conN hcV) Tryd.func8 ushr_body1 (h0 := ⟨1, [x]⟩) ⟨rfl, fun b z hz => by obtain ⟨_, rfl⟩ := blkOne hz; exact ⟨NA.ros.1, NA.lt0, NA.ros.2⟩⟩ (vals := [.slice p' 0 c, .int .i64 (K : Nat)]) (fun v hv => by
          simp only [List.mem_cons, List.not_mem_nil, or_false] at hv
          rcases hv with rfl | rfl
          · exact NA.lt (by show 0 < 1; omega)
          · rfl) (by rfl) hr.w E (s := fun _ => a) (fun i z hz ht => by obtain ⟨_, rfl⟩ := blkOne hz; exact fA ht)
        simp only [List.map_cons, List.map_nil] at this
        rw [eA _ rfl] at this
        exact this
      · rcases rowP_cases q1 with ⟨rfl, rfl, rfl, e0⟩ | ⟨b, o, x, rfl, hx, r1, rs, e0⟩
        · exact absurd rfl hn
        · rw [e0] at q2
          obtain ⟨h1, h2, h3, h4, h5, h6, h7⟩ := rowC_of r1
          have ev : vO h (some ⟨b, o, none⟩) n = vb 65536 (cutI x.1 o n) := by unfold vO; rw [e0]
          have r := ushr_short (c := c) h1 q2 (by rw [h2]; exact q3) (k := K) (by omega) (by omega) (by rw [h2]; omega)
          rw [h2, ← ev, l1] at r
          exact row_calls0 (T := tabH Tryd.prog extY conN hcV) Tryd.func8 ushr_bodyC (rows1 h7) (vals := [sl 0 o n c, .int .i64 (K : Nat)]) (fun v hv => by
            simp only [List.mem_cons, List.not_mem_nil, or_false] at hv
            rcases hv with rfl | rfl <;> rfl) (by rfl) r E (s := fun _ => b) (fitsR1 hx h5 h6 rfl)
  · cases hg
end Go.Proofs.YtmgcnijpoklhkaaDoor
namespace Go.Nt
theorem set_dg {L : List Int} (h : ∀ x ∈ L, Dg 65536 x) {v : Int} (hv : Dg 65536 v) (j : Nat) : ∀ x ∈ L.set j v, Dg 65536 x := fun x hx => by
  rcases List.mem_or_eq_of_mem_set hx with hx | rfl
  · exact h x hx
  · exact hv
end Go.Nt
namespace Go.Proofs.YtmgcnijpoklhkaaDoor
open Go.KRun Go.Nt
set_option maxRecDepth 100000
set_option linter.unusedVariables false
def sPre (F : Func) : List Code := [cFst (cBody F), cFst (cSnd (cBody F)), cFst (cSnd (cSnd (cBody F)))]
def sR3J (F : Func) : Code := cFst (cFst (cSnd (cSnd (cSnd (cBody F)))))
def sLoop (F : Func) : Code := cIn (cIn (cSnd (cFst (cSnd (cSnd (cSnd (cBody F)))))))
def sEnd (F : Func) : Code := cSnd (cSnd (cSnd (cSnd (cBody F))))
theorem usm_body : Tryd.f49.body = some (seqs (sPre Tryd.f49) (.seq (.seq (sR3J Tryd.f49) (.block 0 (.loop (sLoop Tryd.f49)))) (sEnd Tryd.f49))) := by kernel_rfl
def sv (A : List Int) (b c i : Int) : Int := IntKind.u64.wrap (c + IntKind.u64.wrap (IntKind.u64.wrap (atN A i) * IntKind.u64.wrap b))
def hs1' (x : List Value × TypeId) : Hp := ⟨1, [x]⟩
def hs2' (lo : List Value) (x : List Value × TypeId) : Hp := ⟨2, [(lo, tU), x]⟩
def sScr (w : Nat) : List Dec := match w with | 0 => [cmp true] | _ => [cmp false, cmp true]
def sLog (w : Nat) (n : Nat) (k i : Int) : Log := match w with | 0 => [(decide (i < n), true)] | _ => [(decide (k > 0), true), (decide (i < n), false)]
def rP' (h : Hp) (p : Option Addr) (n c : Nat) : Bool × Bool := (rowP h p n c, true)
theorem usm_pre (p : Option Addr) (n c : Nat) (b e : Int) (h : Hp) : GoesT (evL (tabH Tryd.prog extY conN hcV) 100 (sPre Tryd.f49) ([.slice p n c, .int .u32 b, .int .u32 e] ++ List.replicate 38 undef, h, []) ⟨[], [], []⟩) 9 32 none [.slice p n c, .int .u32 b, .int .u32 e, undef, undef, undef, nilS, nilS, .int .u64 (IntKind.u64.wrap e)] h [] := ⟨by kernel_rfl, by kernel_rfl, by kernel_rfl⟩
theorem usm_r3 (p : Option Addr) (n c : Nat) (b e k : Int) (h : Hp) (g : Nat → Value) : GoesT (evC (tabH Tryd.prog extY conN hcV) 100 false (sR3J Tryd.f49) ([.slice p n c, .int .u32 b, .int .u32 e, undef, undef, undef, nilS, nilS, .int .u64 k] ++ tl 32 g, h, []) ⟨[], [], []⟩) 10 31 none [.slice p n c, .int .u32 b, .int .u32 e, undef, undef, undef, nilS, nilS, .int .u64 k, .int .i64 0] h [] := ⟨by kernel_rfl, by kernel_rfl, by kernel_rfl⟩
theorem usm_nil0 (p : Option Addr) (n c : Nat) (b e k i : Int) (x : List Value × TypeId) (g : Nat → Value) : GoesT (evC (tabH Tryd.prog extY conN hcV) 100 false (sLoop Tryd.f49) ([.slice p n c, .int .u32 b, .int .u32 e, undef, undef, undef, nilS, nilS, .int .u64 k, .int .i64 i] ++ tl 31 g, hs1' x, sScr 0 ++ [cmp true]) ⟨[], [], []⟩) 10 31 none [.slice p n c, .int .u32 b, .int .u32 e, undef, undef, undef, nilS, sl 2 0 1 grown, .int .u64 (IntKind.u64.wrap ((sv (rowOf (hs1' x) p n) b k i).tdiv 65536)), .int .i64 (IntKind.i64.wrap (i + 1))] ⟨3, [([.int .u32 (IntKind.u32.wrap ((sv (rowOf (hs1' x) p n) b k i).tmod 65536))], tU), ([.int .u32 (IntKind.u32.wrap ((sv (rowOf (hs1' x) p n) b k i).tmod 65536))], tU), x]⟩ ((decide ((65536 : Int) = 0), false) :: rP' (hs1' x) p n c :: sLog 0 n k i) := ⟨by kernel_rfl, by kernel_rfl, by kernel_rfl⟩
theorem usm_nil1 (p : Option Addr) (n c : Nat) (b e k i : Int) (x : List Value × TypeId) (g : Nat → Value) : GoesT (evC (tabH Tryd.prog extY conN hcV) 100 false (sLoop Tryd.f49) ([.slice p n c, .int .u32 b, .int .u32 e, undef, undef, undef, nilS, nilS, .int .u64 k, .int .i64 i] ++ tl 31 g, hs1' x, sScr 1 ++ [cmp true]) ⟨[], [], []⟩) 10 31 none [.slice p n c, .int .u32 b, .int .u32 e, undef, undef, undef, nilS, sl 2 0 1 grown, .int .u64 (IntKind.u64.wrap ((sv (rowOf (hs1' x) p n) b k i).tdiv 65536)), .int .i64 (IntKind.i64.wrap (i + 1))] ⟨3, [([.int .u32 (IntKind.u32.wrap ((sv (rowOf (hs1' x) p n) b k i).tmod 65536))], tU), ([.int .u32 (IntKind.u32.wrap ((sv (rowOf (hs1' x) p n) b k i).tmod 65536))], tU), x]⟩ ((decide ((65536 : Int) = 0), false) :: rP' (hs1' x) p n c :: sLog 1 n k i) := ⟨by kernel_rfl, by kernel_rfl, by kernel_rfl⟩
theorem usm_some0 (p : Option Addr) (n c z : Nat) (b e k i : Int) (x : List Value × TypeId) (lo : List Value) (g : Nat → Value) : GoesT (evC (tabH Tryd.prog extY conN hcV) 100 false (sLoop Tryd.f49) ([.slice p n c, .int .u32 b, .int .u32 e, undef, undef, undef, nilS, sl 1 0 z grown, .int .u64 k, .int .i64 i] ++ tl 31 g, hs2' lo x, sScr 0 ++ [cmp true, at_]) ⟨[], [], []⟩) 10 31 none [.slice p n c, .int .u32 b, .int .u32 e, undef, undef, undef, nilS, sl 3 0 (z + 1) grown, .int .u64 (IntKind.u64.wrap ((sv (rowOf (hs2' lo x) p n) b k i).tdiv 65536)), .int .i64 (IntKind.i64.wrap (i + 1))] ⟨4, [(lo ++ [.int .u32 (IntKind.u32.wrap ((sv (rowOf (hs2' lo x) p n) b k i).tmod 65536))], tU), ([.int .u32 (IntKind.u32.wrap ((sv (rowOf (hs2' lo x) p n) b k i).tmod 65536))], tU), ([], 2 * dead), x]⟩ ((appChk tU (lo, tU) ([.int .u32 (IntKind.u32.wrap ((sv (rowOf (hs2' lo x) p n) b k i).tmod 65536))], tU) z 0 1, true) :: (decide ((65536 : Int) = 0), false) :: rP' (hs2' lo x) p n c :: sLog 0 n k i) := ⟨by kernel_rfl, by kernel_rfl, by kernel_rfl⟩
theorem usm_some1 (p : Option Addr) (n c z : Nat) (b e k i : Int) (x : List Value × TypeId) (lo : List Value) (g : Nat → Value) : GoesT (evC (tabH Tryd.prog extY conN hcV) 100 false (sLoop Tryd.f49) ([.slice p n c, .int .u32 b, .int .u32 e, undef, undef, undef, nilS, sl 1 0 z grown, .int .u64 k, .int .i64 i] ++ tl 31 g, hs2' lo x, sScr 1 ++ [cmp true, at_]) ⟨[], [], []⟩) 10 31 none [.slice p n c, .int .u32 b, .int .u32 e, undef, undef, undef, nilS, sl 3 0 (z + 1) grown, .int .u64 (IntKind.u64.wrap ((sv (rowOf (hs2' lo x) p n) b k i).tdiv 65536)), .int .i64 (IntKind.i64.wrap (i + 1))] ⟨4, [(lo ++ [.int .u32 (IntKind.u32.wrap ((sv (rowOf (hs2' lo x) p n) b k i).tmod 65536))], tU), ([.int .u32 (IntKind.u32.wrap ((sv (rowOf (hs2' lo x) p n) b k i).tmod 65536))], tU), ([], 2 * dead), x]⟩ ((appChk tU (lo, tU) ([.int .u32 (IntKind.u32.wrap ((sv (rowOf (hs2' lo x) p n) b k i).tmod 65536))], tU) z 0 1, true) :: (decide ((65536 : Int) = 0), false) :: rP' (hs2' lo x) p n c :: sLog 1 n k i) := ⟨by kernel_rfl, by kernel_rfl, by kernel_rfl⟩
theorem usm_out (p : Option Addr) (n c : Nat) (b e k i : Int) (v : Value) (h : Hp) (g : Nat → Value) : GoesT (evC (tabH Tryd.prog extY conN hcV) 100 false (sLoop Tryd.f49) ([.slice p n c, .int .u32 b, .int .u32 e, undef, undef, undef, nilS, v, .int .u64 k, .int .i64 i] ++ tl 31 g, h, [cmp false, cmp false]) ⟨[], [], []⟩) 10 31 (some (some 0)) [.slice p n c, .int .u32 b, .int .u32 e, undef, undef, undef, nilS, v, .int .u64 k, .int .i64 i] h [(decide (k > 0), false), (decide (i < n), false)] := ⟨by kernel_rfl, by kernel_rfl, by kernel_rfl⟩
theorem usm_end (p : Option Addr) (n c z : Nat) (b e k i : Int) (x : List Value × TypeId) (lo : List Value) (g : Nat → Value) : GoesT (evC (tabH Tryd.prog extY conN hcV) 100 false (sEnd Tryd.f49) ([.slice p n c, .int .u32 b, .int .u32 e, undef, undef, undef, nilS, sl 1 0 z grown, .int .u64 k, .int .i64 i] ++ tl 31 g, hs2' lo x, []) ⟨[], [], []⟩) 7 34 (some none) [.slice p n c, .int .u32 b, .int .u32 e, undef, undef, undef, sl 1 0 (trimN (cutI lo 0 z)) (trimN (cutI lo 0 z))] (hs2' lo x) [(rowC tU lo 0 z grown, true)] := ⟨by kernel_rfl, by kernel_rfl, by kernel_rfl⟩
theorem usm_empty (p : Option Addr) (n c : Nat) (b e : Int) (h : Hp) : GoesT (evC (tabH Tryd.prog extY conN hcV) 100 false (cBody Tryd.f49) ([.slice p n c, .int .u32 b, .int .u32 e] ++ List.replicate 38 undef, h, [cmp false, cmp false]) ⟨[], [], []⟩) 7 34 (some none) [.slice p n c, .int .u32 b, .int .u32 e, undef, undef, undef, nilS] h [(decide (IntKind.u64.wrap e > 0), false), (decide ((0 : Int) < n), false)] := ⟨by kernel_rfl, by kernel_rfl, by kernel_rfl⟩
theorem wrap64s {n : Int} (h0 : 0 ≤ n) (h1 : n < 18446744073709551616) : IntKind.u64.wrap n = n := by simp [IntKind.wrap, IntKind.bits, IntKind.signed]; omega
theorem sv_eq {A : List Int} (hA : ∀ x ∈ A, Dg 65536 x) {b k : Nat} (hb : b < 4294967296) (hk : k < 4294967296) (i : Nat) : sv A b k i = ((k + dgN A i * b : Nat) : Int) := by
  have h1 := (dgN_lt hA i).1
  have h2 := (dgN_lt hA i).2
  have hp : dgN A i * b ≤ 65535 * 4294967295 := Nat.mul_le_mul (by omega) (by omega)
  have e0 : atN A (i : Int) = ((dgN A i : Nat) : Int) := by
    have := at_dg hA i
    rw [atN_nat]
    unfold dgN
    have := this.1
    omega
  unfold sv
  rw [e0, wrap64s (n := ((dgN A i : Nat) : Int)) (by omega) (by omega), wrap64s (n := (b : Int)) (by omega) (by omega)]
  have e1 : ((dgN A i : Nat) : Int) * (b : Int) = ((dgN A i * b : Nat) : Int) := by simp
  rw [e1, wrap64s (n := ((dgN A i * b : Nat) : Int)) (by omega) (by omega), wrap64s (by omega) (by omega)]
  omega
theorem small_step {O : List Int} {A : List Int} {i k b e : Nat} (hO : O.length = i) (h : vb 65536 O + 65536 ^ i * k = vb 65536 (A.take i) * b + e) :
    vb 65536 (O ++ [(((k + dgN A i * b) % 65536 : Nat) : Int)]) + 65536 ^ (i + 1) * ((k + dgN A i * b) / 65536) = vb 65536 (A.take (i + 1)) * b + e := by
  rw [vb_snoc, hO, Int.toNat_natCast, vb_take, Nat.add_mul]
  have h2 := Nat.div_add_mod (k + dgN A i * b) 65536
  have h3 : 65536 ^ i * (k + dgN A i * b) = 65536 ^ i * (65536 * ((k + dgN A i * b) / 65536)) + 65536 ^ i * ((k + dgN A i * b) % 65536) := by rw [← Nat.mul_add, h2]
  have h4 : 65536 ^ i * (k + dgN A i * b) = 65536 ^ i * k + 65536 ^ i * (dgN A i * b) := Nat.mul_add _ _ _
  have h5 : 65536 ^ (i + 1) * ((k + dgN A i * b) / 65536) = 65536 ^ i * (65536 * ((k + dgN A i * b) / 65536)) := by rw [Nat.pow_succ, Nat.mul_assoc]
  have h6 : 65536 ^ i * (A.getD i 0).toNat * b = 65536 ^ i * (dgN A i * b) := by rw [Nat.mul_assoc]; rfl
  rw [h5, h6]
  omega
section
variable {x : List Value × TypeId} {p : Option Addr} {n c : Nat} {A : List Int}
theorem kept_one (NA : Nu 0 x p n c A) {h : Hp} (h0 : h.blk? 0 = some x) : ∀ i z, (⟨1, [x]⟩ : Hp).blk? i = some z → h.blk? i = some z ∧ ∀ v ∈ z.1, still v = true := fun i z hz => by
  have hi : i = 0 := by have : i < 1 := Hp.blk_lt hz; omega
  subst hi
  have : z = x := (Option.some.inj hz).symm
  subst this
  exact ⟨h0, NA.st⟩
def sFr (p : Option Addr) (n c : Nat) (b e : Nat) (out : Value) (k i : Nat) : List Value := [.slice p n c, .int .u32 ((b : Nat) : Int), .int .u32 ((e : Nat) : Int), undef, undef, undef, nilS, out, .int .u64 ((k : Nat) : Int), .int .i64 ((i : Nat) : Int)]
def sStJ (x : List Value × TypeId) (p : Option Addr) (n c b e : Nat) (O : List Int) (i k : Nat) (Y : Lf) : Prop :=
  (i = 0 ∧ (∃ g, Y.1 = sFr p n c b e nilS k i ++ tl 31 g) ∧ Y.2.1 = hs1' x) ∨ (0 < i ∧ (∃ g, Y.1 = sFr p n c b e (sl 1 0 i grown) k i ++ tl 31 g) ∧ Y.2.1 = hs2' (wU O) x)
theorem usm_round (NA : Nu 0 x p n c A) (hA : ∀ x ∈ A, Dg 65536 x) {b e k i : Nat} (hb : b < 4294967296) {O : List Int} (hk : k < 4294967296) (hi : i < 1073741823) (hO : O.length = i) (hgo : i < n ∨ 0 < k) {Y : Lf} (hY : sStJ x p n c b e O i k Y) :
    RunsW (tabH Tryd.prog extY conN hcV) (sLoop Tryd.f49) Y fun ex z => ex = none ∧ (∃ g, z.1 = sFr p n c b e (sl 1 0 (i + 1) grown) ((k + dgN A i * b) / 65536) (i + 1) ++ tl 31 g) ∧ z.2.1 = hs2' (wU (O ++ [(((k + dgN A i * b) % 65536 : Nat) : Int)])) x := by
  obtain ⟨t, h', s⟩ := Y
  have hd1 := (dgN_lt hA i).1
  have hp : dgN A i * b ≤ 65535 * 4294967295 := Nat.mul_le_mul (by omega) (by omega)
  have es := sv_eq hA hb hk i
  have e1 : IntKind.u32.wrap ((sv A b k i).tmod 65536) = (((k + dgN A i * b) % 65536 : Nat) : Int) := by rw [es, Int.tmod_eq_emod_of_nonneg (by omega), wrap32 (by omega) (by omega)]; omega
  have e2 : IntKind.u64.wrap ((sv A b k i).tdiv 65536) = (((k + dgN A i * b) / 65536 : Nat) : Int) := by rw [es, Int.tdiv_eq_ediv_of_nonneg (by omega), wrap64s (by omega) (by omega)]; omega
  have e3 : IntKind.i64.wrap ((i : Int) + 1) = ((i + 1 : Nat) : Int) := by rw [wrapI (by omega) (by omega)]; omega
  have hw : ∃ w, w ≤ 1 ∧ okLog (sLog w n k i) := by
    by_cases ha : i < n
    · exact ⟨0, by omega, okOne (decide_eq_true (by omega))⟩
    · exact ⟨1, by omega, okW (decide_eq_true (by omega)) (okOne (decide_eq_false (by omega)))⟩
  obtain ⟨w, hw1, hl⟩ := hw
  rcases hY with ⟨h0, ⟨g, ht⟩, hh⟩ | ⟨h0, ⟨g, ht⟩, hh⟩
  · simp only at ht hh
    subst ht hh
    have r0 := NA.row (hs1' x) rfl
    have hO' : O = [] := List.length_eq_zero_iff.1 (by omega)
    have fin : RunsW (tabH Tryd.prog extY conN hcV) (sLoop Tryd.f49) (sFr p n c b e nilS k i ++ tl 31 g, hs1' x, s) fun ex z => ex = none ∧ (∃ g, z.1 = [.slice p n c, .int .u32 ((b : Nat) : Int), .int .u32 ((e : Nat) : Int), undef, undef, undef, nilS, sl 2 0 1 grown, .int .u64 (IntKind.u64.wrap ((sv A b k i).tdiv 65536)), .int .i64 (IntKind.i64.wrap ((i : Int) + 1))] ++ tl 31 g) ∧ z.2.1 = ⟨3, [([.int .u32 (IntKind.u32.wrap ((sv A b k i).tmod 65536))], tU), ([.int .u32 (IntKind.u32.wrap ((sv A b k i).tmod 65536))], tU), x]⟩ := by
      match w, hw1, hl with
      | 0, _, hl =>
        have := goesT_runsW (tabH_ok conN_ok hcV_ok) (s0 := s) (usm_nil0 p n c b e k i x g) (okW rfl (okW r0.1 hl))
        rw [r0.2] at this
        exact this
      | 1, _, hl =>
        have := goesT_runsW (tabH_ok conN_ok hcV_ok) (s0 := s) (usm_nil1 p n c b e k i x g) (okW rfl (okW r0.1 hl))
        rw [r0.2] at this
        exact this
    rw [e1, e2, e3] at fin
    have := fin.kept (k := 1) (b := 2) (base := [x]) (y := ([.int .u32 (((k + dgN A i * b) % 65536 : Nat) : Int)], tU)) (front' := sFr p n c b e (sl 1 0 1 grown) ((k + dgN A i * b) / 65536) (i + 1)) rfl
      (by simp only [sFr, List.map_cons, List.map_nil, NA.rn (f := keepK 1 2) rfl]; kernel_rfl) (kept_one NA rfl) rfl (by omega) (fun v hv => by rw [List.mem_singleton.1 hv]; rfl) (fun v hv => by
        simp only [sFr, List.mem_cons, List.not_mem_nil, or_false] at hv
        rcases hv with rfl | rfl | rfl | rfl | rfl | rfl | rfl | rfl | rfl | rfl
        · exact NA.lt (by omega)
        all_goals rfl)
    refine this.mono fun ex z hz => ?_
    obtain ⟨rfl, ⟨g', q1⟩, q2⟩ := hz
    subst hO' h0
    exact ⟨rfl, ⟨g', q1⟩, q2⟩
  · simp only at ht hh
    subst ht hh
    have r0 := NA.row (hs2' (wU O) x) rfl
    have hchk : appChk tU (wU O, tU) ([.int .u32 (IntKind.u32.wrap ((sv A b k i).tmod 65536))], tU) i 0 1 = true :=
      appChk_of (L := O) (M := [IntKind.u32.wrap ((sv A b k i).tmod 65536)]) hO.symm (show 0 < 1 by omega) (by show O.length + 1 ≤ _; omega)
    have fin : RunsW (tabH Tryd.prog extY conN hcV) (sLoop Tryd.f49) (sFr p n c b e (sl 1 0 i grown) k i ++ tl 31 g, hs2' (wU O) x, s) fun ex z => ex = none ∧ (∃ g, z.1 = [.slice p n c, .int .u32 ((b : Nat) : Int), .int .u32 ((e : Nat) : Int), undef, undef, undef, nilS, sl 3 0 (i + 1) grown, .int .u64 (IntKind.u64.wrap ((sv A b k i).tdiv 65536)), .int .i64 (IntKind.i64.wrap ((i : Int) + 1))] ++ tl 31 g) ∧ z.2.1 = ⟨4, [(wU O ++ [.int .u32 (IntKind.u32.wrap ((sv A b k i).tmod 65536))], tU), ([.int .u32 (IntKind.u32.wrap ((sv A b k i).tmod 65536))], tU), ([], 2 * dead), x]⟩ := by
      match w, hw1, hl with
      | 0, _, hl =>
        have := goesT_runsW (tabH_ok conN_ok hcV_ok) (s0 := s) (usm_some0 p n c i b e k i x (wU O) g) (by rw [r0.2]; exact okW hchk (okW rfl (okW r0.1 hl)))
        rw [r0.2] at this
        exact this
      | 1, _, hl =>
        have := goesT_runsW (tabH_ok conN_ok hcV_ok) (s0 := s) (usm_some1 p n c i b e k i x (wU O) g) (by rw [r0.2]; exact okW hchk (okW rfl (okW r0.1 hl)))
        rw [r0.2] at this
        exact this
    rw [e1, e2, e3] at fin
    have ew : wU O ++ [.int .u32 (((k + dgN A i * b) % 65536 : Nat) : Int)] = wU (O ++ [(((k + dgN A i * b) % 65536 : Nat) : Int)]) := by rw [wU_append]; rfl
    rw [ew] at fin
    have := fin.kept (k := 1) (b := 3) (base := [x]) (y := (wU (O ++ [(((k + dgN A i * b) % 65536 : Nat) : Int)]), tU)) (front' := sFr p n c b e (sl 1 0 (i + 1) grown) ((k + dgN A i * b) / 65536) (i + 1)) rfl
      (by simp only [sFr, List.map_cons, List.map_nil, NA.rn (f := keepK 1 3) rfl]; kernel_rfl) (kept_one NA rfl) rfl (by omega) (wU_still _) (fun v hv => by
        simp only [sFr, List.mem_cons, List.not_mem_nil, or_false] at hv
        rcases hv with rfl | rfl | rfl | rfl | rfl | rfl | rfl | rfl | rfl | rfl
        · exact NA.lt (by omega)
        all_goals rfl)
    exact this
def sInvJ (x : List Value × TypeId) (p : Option Addr) (n c : Nat) (A : List Int) (b e m : Nat) (Y : Lf) : Prop :=
  ∃ (i k : Nat) (O : List Int), O.length = i ∧ m = n + 2 - i ∧ i ≤ n + 2 ∧ k < 4294967296 ∧ ((i = n + 1 → k < 65536) ∧ (i = n + 2 → k = 0)) ∧ (∀ x ∈ O, Dg 65536 x) ∧ vb 65536 O + 65536 ^ i * k = vb 65536 (A.take i) * b + e ∧ sStJ x p n c b e O i k Y
def sFinJ (x : List Value × TypeId) (p : Option Addr) (n c : Nat) (A : List Int) (b e : Nat) (Y : Lf) : Prop :=
  ∃ (i : Nat) (O : List Int), O.length = i ∧ i ≤ n + 2 ∧ (∀ x ∈ O, Dg 65536 x) ∧ vb 65536 O = vb 65536 A * b + e ∧ n ≤ i ∧ sStJ x p n c b e O i 0 Y
theorem usm_loop (NA : Nu 0 x p n c A) (lA : A.length = n) (hA : ∀ x ∈ A, Dg 65536 x) {b e : Nat} (hb : b < 4294967296) (he : e < 4294967296) (hn : n + 3 < 1073741824) (g : Nat → Value) :
    RunsW (tabH Tryd.prog extY conN hcV) (.block 0 (.loop (sLoop Tryd.f49))) (sFr p n c b e nilS e 0 ++ tl 31 g, hs1' x, []) fun ex Y => match ex with | none => sFinJ x p n c A b e Y | some none => False | some (some _) => False := by
  refine RunsW.forLoop (P := sFinJ x p n c A b e) (R := fun _ => False) (sInvJ x p n c A b e) ?_ (n := n + 2) ⟨0, e, [], rfl, by omega, by omega, he, ⟨by omega, by omega⟩, (fun x hx => by cases hx), by simp [vb], .inl ⟨rfl, ⟨g, rfl⟩, rfl⟩⟩
  rintro m Y ⟨i, k, O, hO, hm, hi, hk, ⟨hk1, hk0⟩, hOd, hval, hY⟩
  by_cases hgo : i < n ∨ 0 < k
  · have hmx : i ≤ n + 1 := by
      rcases Nat.lt_or_ge i (n + 2) with h | h
      · omega
      · have : k = 0 := hk0 (by omega)
        omega
    have r := usm_round NA hA (e := e) hb hk (by omega) hO hgo hY
    refine r.mono fun ex z hz => ?_
    obtain ⟨rfl, z1, z2⟩ := hz
    have d1 := (dgN_lt hA i).1
    have hp : dgN A i * b ≤ 65535 * 4294967295 := Nat.mul_le_mul (by omega) (by omega)
    refine ⟨n + 2 - (i + 1), by omega, i + 1, (k + dgN A i * b) / 65536, O ++ [(((k + dgN A i * b) % 65536 : Nat) : Int)], by simp [hO], rfl, by omega, by omega, ⟨fun he' => ?_, fun he' => ?_⟩, fun x hx => ?_, small_step hO hval, .inr ⟨by omega, z1, z2⟩⟩
    · have z1 : dgN A i = 0 := dgN_out (by omega)
      rw [z1]
      omega
    · have z1 : dgN A i = 0 := dgN_out (by omega)
      have := hk1 (by omega)
      rw [z1]
      omega
    · rcases List.mem_append.1 hx with hx | hx
      · exact hOd x hx
      · rw [List.mem_singleton.1 hx]
        exact ⟨by omega, by omega⟩
  · have hk : k = 0 := by omega
    subst hk
    have ha : n ≤ i := by omega
    have out : ∀ (v : Value) (h : Hp) (g : Nat → Value) (s : List Dec), RunsW (tabH Tryd.prog extY conN hcV) (sLoop Tryd.f49) (sFr p n c b e v 0 i ++ tl 31 g, h, s) fun ex z => ex = some (some 0) ∧ (∃ g, z.1 = sFr p n c b e v 0 i ++ tl 31 g) ∧ z.2.1 = h := fun v h g s =>
      goesT_runsW (tabH_ok conN_ok hcV_ok) (usm_out p n c b e 0 i v h g) (okW rfl (okOne (decide_eq_false (by omega))))
    have hv : vb 65536 O = vb 65536 A * b + e := by
      rw [List.take_of_length_le (by omega)] at hval
      omega
    obtain ⟨t, h', s⟩ := Y
    rcases hY with ⟨h0, ⟨g, ht⟩, hh⟩ | ⟨h0, ⟨g, ht⟩, hh⟩
    · simp only at ht hh
      subst ht hh
      refine (out nilS _ g s).mono fun ex z hz => ?_
      obtain ⟨rfl, z1, z2⟩ := hz
      exact ⟨rfl, i, O, hO, hi, hOd, hv, ha, .inl ⟨h0, z1, z2⟩⟩
    · simp only at ht hh
      subst ht hh
      refine (out (sl 1 0 i grown) _ g s).mono fun ex z hz => ?_
      obtain ⟨rfl, z1, z2⟩ := hz
      exact ⟨rfl, i, O, hO, hi, hOd, hv, ha, .inr ⟨h0, z1, z2⟩⟩
theorem usm_runs (NA : Nu 0 x p n c A) (lA : A.length = n) (hA : ∀ x ∈ A, Dg 65536 x) {b e : Nat} (hb : b < 4294967296) (he : e < 4294967296) (hn : n + 3 < 1073741824) (h0 : 0 < n ∨ 0 < e) {V : Nat} (hV : V = vb 65536 A * b + e) :
    RunsW (tabH Tryd.prog extY conN hcV) (seqs (sPre Tryd.f49) (.seq (.seq (sR3J Tryd.f49) (.block 0 (.loop (sLoop Tryd.f49)))) (sEnd Tryd.f49))) ([.slice p n c, .int .u32 ((b : Nat) : Int), .int .u32 ((e : Nat) : Int)] ++ List.replicate 38 undef, hs1' x, []) fun ex z => (ex = none ∨ ex = some none) ∧ resS Tryd.prog Tryd.f49 z.1 z.2.1 = some (sl 1 0 (d16 V).length (d16 V).length) ∧ ∃ r, z.2.1.blk? 1 = some (wU (d16 V) ++ r, tU) := by
  refine goesT_listW (tabH_ok conN_ok hcV_ok) (usm_pre p n c b e (hs1' x)) (fun x hx => by cases hx) fun g => ?_
  have ee : IntKind.u64.wrap ((e : Nat) : Int) = ((e : Nat) : Int) := wrap64s (by omega) (by omega)
  rw [ee]
  refine seqW3 (goesT_runsW (tabH_ok conN_ok hcV_ok) (usm_r3 p n c b e e (hs1' x) g) (fun x hx => by cases hx)) (fun ex y he => by cases he.1) (P2 := fun ex Y => match ex with | none => sFinJ x p n c A b e Y | some none => False | some (some _) => False) ?_ ?_ ?_
  · rintro ⟨t, h', s⟩ ⟨_, ⟨g', ht⟩, hh⟩
    simp only at ht hh
    subst ht hh
    exact RunsW.script (usm_loop NA lA hA hb he hn g')
  · intro ex y hy
    match ex, hy with
    | none, hy => exact hy
    | some id, hy => exact hy
  · rintro ⟨t, h', s⟩ ⟨i, O, hO, hi, hOd, hv, ha, hY⟩
    rcases hY with ⟨e0, _⟩ | ⟨_, ⟨g', ht⟩, hh⟩
    · exfalso
      have hO' : O = [] := List.length_eq_zero_iff.1 (by omega)
      rw [hO'] at hv
      have : vb 65536 [] = 0 := rfl
      omega
    · simp only at ht hh
      subst ht hh
      have hrow : rowC tU (wU O) 0 i grown = true := by
        rw [← hO]
        exact rowC_wU (fun x hx => ⟨(hOd x hx).1, by have := (hOd x hx).2; omega⟩) (by omega) (capG _)
      refine (goesT_runsW (tabH_ok conN_ok hcV_ok) (usm_end p n c i b e 0 i x (wU O) g') (okOne hrow)).mono fun ex z hz => ?_
      obtain ⟨rfl, ⟨g2, e1⟩, e2⟩ := hz
      have et : trimN (cutI (wU O) 0 i) = (d16 V).length := by
        rw [← hO, cut_wU, trim_len (by omega) hOd, hv, ← hV]
        rfl
      refine ⟨.inr rfl, ?_, ?_⟩
      · rw [e1, e2, et]
        rfl
      · rw [e2]
        refine ⟨wU (O.drop (trimN O)), ?_⟩
        have e3 : wU (d16 V) ++ wU (O.drop (trimN O)) = wU O := by
          unfold d16
          rw [hV, ← hv, ← take_trim (by omega) _ hOd, ← wU_append, List.take_append_drop]
        rw [e3]
        rfl
theorem rows_hs1 (NA : Nu 0 x p n c A) : (hs1' x).rows := by
  refine ⟨rfl, fun b z hz => ?_⟩
  have hb : b = 0 := by have : b < 1 := Hp.blk_lt hz; omega
  subst hb
  have : z = x := (Option.some.inj hz).symm
  subst this
  exact ⟨NA.ros.1, NA.lt0, NA.ros.2⟩
theorem fits_hs1 {h : Hp} {a : Nat} (hx : tomb x.2 = false → ∃ z r, h.blk? a = some z ∧ tomb z.2 = false ∧ rt z.2 = rt x.2 ∧ z.1 = x.1 ++ r) : (hs1' x).fits (fun _ => a) h := by
  intro i z hz ht
  have hb : i = 0 := by have : i < 1 := Hp.blk_lt hz; omega
  subst hb
  have : z = x := (Option.some.inj hz).symm
  subst this
  exact hx ht
end
theorem usm_body1 : Tryd.f49.body = some (cBody Tryd.f49) := by kernel_rfl
def okSml (h : Hp) (p : Option Addr) (n c : Nat) (b e : Int) : Bool := rowP h p n c && dgB (rowOf h p n) && Nat.blt (n + 3) 1073741824 && decide ((0 ≤ b ∧ b < 4294967296) ∧ (0 ≤ e ∧ e < 4294967296))
def gUsm : AnsH := fun vals h s =>
  match vals, s with
  | [.slice p n c, .int .u32 b, .int .u32 e], .inr (.inr (.inr (.inl d))) :: s' =>
    match d with
    | true => mk16 (vO h p n * b.toNat + e.toNat) h s' [(okSml h p n c b e, true), (decide (0 < n ∨ 0 < e), true)]
    | false => some (nilS, h, s', [(okSml h p n c b e, true), (decide (0 < n ∨ 0 < e), false)])
  | _, _ => none
theorem gUsm_ok : AnsHOk 49 gUsm := by
  intro vals h s v h' s' lg hg hl m B w E hv
  unfold gUsm at hg
  split at hg
  · rename_i p n c b e d s2
    have key : okSml h p n c b e = true → ∃ b' e' : Nat, b = (b' : Int) ∧ e = (e' : Int) ∧ b' < 4294967296 ∧ e' < 4294967296 ∧ rowP h p n c = true ∧ (∀ x ∈ rowOf h p n, Dg 65536 x) ∧ n + 3 < 1073741824 := fun hk => by
      simp only [okSml, Bool.and_eq_true, decide_eq_true_eq] at hk
      obtain ⟨⟨⟨r1, r2⟩, r3⟩, r4⟩ := hk
      exact ⟨b.toNat, e.toNat, by omega, by omega, by omega, by omega, r1, dgB_of r2, blt_iff.1 r3⟩
    split at hg
    · unfold mk16 at hg
      cases hg
      have q1 := hl _ (List.mem_cons_self)
      have q2 := hl _ (List.mem_cons_of_mem _ (List.mem_singleton.2 rfl))
      simp only [decide_eq_true_eq] at q2
      obtain ⟨b', e', rfl, rfl, hb, he, r1, r2, r3⟩ := key q1
      rw [Int.toNat_natCast, Int.toNat_natCast]
      obtain ⟨x, p', a, NA, eA, fA⟩ := nu_of 0 r1
      have r := usm_runs NA (rowOf_len r1) r2 hb he r3 (by omega) rfl
      have := row_calls1 (T := tabH Tryd.prog extY conN hcV) Tryd.func49 usm_body (rows_hs1 NA) (vals := [.slice p' n c, .int .u32 ((b' : Nat) : Int), .int .u32 ((e' : Nat) : Int)]) (fun v hv => by
        simp only [List.mem_cons, List.not_mem_nil, or_false] at hv
        rcases hv with rfl | rfl | rfl
        · exact NA.lt (by show 0 < 1; omega)
        all_goals rfl) (k := 1) (cs := wU (d16 (vO h p n * b' + e'))) (ty := tU) (wU_lt _) (by kernel_rfl) r (by rfl) E (s := fun _ => a) (fits_hs1 fA)
      simp only [List.map_cons, List.map_nil] at this
      rw [eA _ rfl] at this
      exact this
    · cases hg
      have q1 := hl _ (List.mem_cons_self)
      have q2 := hl _ (List.mem_cons_of_mem _ (List.mem_singleton.2 rfl))
      simp only [decide_eq_false_iff_not] at q2
      obtain ⟨b', e', rfl, rfl, hb, he, r1, r2, r3⟩ := key q1
      obtain ⟨x, p', a, NA, eA, fA⟩ := nu_of 0 r1
      have hr : Runs (tabH Tryd.prog extY conN hcV) (cBody Tryd.f49) ([.slice p' n c, .int .u32 ((b' : Nat) : Int), .int .u32 ((e' : Nat) : Int)] ++ List.replicate 38 undef, hs1' x, []) fun ex z => (ex = none ∨ ex = some none) ∧ resS Tryd.prog Tryd.f49 z.1 z.2.1 = some nilS := by
        refine (goesT_runs (tabH_ok conN_ok hcV_ok) (usm_empty p' n c b' e' _) (okW (decide_eq_false (by rw [wrap64s (by omega) (by omega)]; omega)) (okOne (decide_eq_false (by omega))))).mono fun ex z he => ?_
        obtain ⟨rfl, ⟨g, e2⟩, e3⟩ := he
        refine ⟨.inr rfl, ?_⟩
        rw [e2, e3]
        rfl
      have := row_calls0 (T := tabH Tryd.prog extY conN hcV) Tryd.func49 usm_body1 (rows_hs1 NA) (vals := [.slice p' n c, .int .u32 ((b' : Nat) : Int), .int .u32 ((e' : Nat) : Int)]) (fun v hv => by
        simp only [List.mem_cons, List.not_mem_nil, or_false] at hv
        rcases hv with rfl | rfl | rfl
        · exact NA.lt (by show 0 < 1; omega)
        all_goals rfl) (v := nilS) (by rfl) hr.w E (s := fun _ => a) (fits_hs1 fA)
      simp only [List.map_cons, List.map_nil] at this
      rw [eA _ rfl] at this
      exact this
  · cases hg
end Go.Proofs.YtmgcnijpoklhkaaDoor
namespace Go.Nt
set_option maxRecDepth 100000
theorem getD_db : ∀ (i V : Nat), ((db 65536 V).getD i 0).toNat = V / 65536 ^ i % 65536
  | i, V => by
    by_cases hV : V = 0
    · rw [hV, db_zero]; simp
    · rw [db_pos (by omega) hV]
      cases i with
      | zero => simp; omega
      | succ i =>
        have := getD_db i (V / 65536)
        rw [List.getD_cons_succ, this, Nat.div_div_eq_div_mul, Nat.pow_succ, Nat.mul_comm (65536 ^ i)]
theorem two_w {c : Nat} (h : c < 4294967296) : c / 65536 % 65536 * 65536 + c % 65536 = c := by omega
theorem three_w {v : Nat} (h : v < 281474976710656) : v / 4294967296 % 65536 * 4294967296 + v / 65536 % 65536 * 65536 + v % 65536 = v := by
  have h1 : v / 4294967296 < 65536 := by omega
  have h2 : v / 4294967296 = v / 65536 / 65536 := by rw [Nat.div_div_eq_div_mul]
  rw [Nat.mod_eq_of_lt h1, h2]
  omega
theorem one_w {v : Nat} (h : v < 4294967296) : v / 65536 % 65536 * 4294967296 + v % 65536 * 65536 + 0 = v * 65536 := by omega
/-- the three parts of a number from the (n-2)nd on, the two of its divisor -/
def topP (V n : Nat) : Nat := (V / 65536 ^ n % 65536) * 4294967296 + (V / 65536 ^ (n - 1) % 65536) * 65536 + (if 2 ≤ n then V / 65536 ^ (n - 2) % 65536 else 0)
def topB (B n : Nat) : Nat := (B / 65536 ^ (n - 1) % 65536) * 65536 + (if 2 ≤ n then B / 65536 ^ (n - 2) % 65536 else 0)
theorem top_ok {V B n : Nat} (hn : 1 ≤ n) (h0 : 65536 ^ (n - 1) ≤ B) (h1 : B < 65536 ^ n) (hV : V < 65536 * B) : 0 < topB B n ∧ topB B n < 4294967296 ∧ topP V n < 281474976710656 ∧ V / B ≤ topP V n / topB B n ∧ V / B < 65536 := by
  have hp : 0 < 65536 ^ (n - 1) := Nat.pow_pos (by omega)
  have hB : 0 < B := by omega
  have hd : V / B < 65536 := by rw [Nat.div_lt_iff_lt_mul hB]; exact hV
  have b1 : topB B n < 4294967296 := by
    have := Nat.mod_lt (B / 65536 ^ (n - 1)) (show 0 < 65536 by omega)
    have := Nat.mod_lt (B / 65536 ^ (n - 2)) (show 0 < 65536 by omega)
    unfold topB; split <;> omega
  have b2 : topP V n < 281474976710656 := by
    have := Nat.mod_lt (V / 65536 ^ n) (show 0 < 65536 by omega)
    have := Nat.mod_lt (V / 65536 ^ (n - 1)) (show 0 < 65536 by omega)
    have := Nat.mod_lt (V / 65536 ^ (n - 2)) (show 0 < 65536 by omega)
    unfold topP; split <;> omega
  by_cases h2 : 2 ≤ n
  · obtain ⟨k, rfl⟩ : ∃ k, n = k + 2 := ⟨n - 2, by omega⟩
    have e1 : k + 2 - 1 = k + 1 := by omega
    have e2 : k + 2 - 2 = k := by omega
    rw [e1] at h0
    unfold topP topB at *
    rw [e1, e2, if_pos h2] at *
    rw [if_pos h2] at *
    have hw : 0 < 65536 ^ k := Nat.pow_pos (by omega)
    -- in units of 65536 ^ k
    have dv : ∀ x j : Nat, x / 65536 ^ (k + j) = x / 65536 ^ k / 65536 ^ j := fun x j => by rw [Nat.pow_add, Nat.div_div_eq_div_mul]
    rw [dv V 2, dv V 1, dv B 1] at *
    have p1 : (65536 : Nat) ^ 1 = 65536 := rfl
    have p2 : (65536 : Nat) ^ 2 = 4294967296 := rfl
    rw [p1, p2] at *
    have hBw : B / 65536 ^ k < 4294967296 := by
      rw [Nat.div_lt_iff_lt_mul hw]
      have : 65536 ^ (k + 2) = 4294967296 * 65536 ^ k := by rw [Nat.pow_add, p2, Nat.mul_comm]
      omega
    have hBl : 65536 ≤ B / 65536 ^ k := by
      rw [Nat.le_div_iff_mul_le hw]
      have : 65536 ^ (k + 1) = 65536 * 65536 ^ k := by rw [Nat.pow_add, p1, Nat.mul_comm]
      omega
    have hVw : V / 65536 ^ k < 281474976710656 := by
      rw [Nat.div_lt_iff_lt_mul hw]
      have : 65536 ^ (k + 2) = 4294967296 * 65536 ^ k := by rw [Nat.pow_add, p2, Nat.mul_comm]
      omega
    have hm : V / B * (B / 65536 ^ k) ≤ V / 65536 ^ k := by
      rw [Nat.le_div_iff_mul_le hw, Nat.mul_assoc]
      have h3 : B / 65536 ^ k * 65536 ^ k ≤ B := Nat.div_mul_le_self _ _
      have h4 := Nat.mul_le_mul_left (V / B) h3
      have h5 := Nat.div_mul_le_self V B
      omega
    generalize V / 65536 ^ k = v at *
    generalize B / 65536 ^ k = c at *
    have ec := two_w hBw
    have ev := three_w hVw
    rw [ec, ev]
    have hc : 0 < c := Nat.lt_of_lt_of_le (by decide) hBl
    refine ⟨hc, hBw, hVw, ?_, hd⟩
    rw [Nat.le_div_iff_mul_le hc]
    exact hm
  · have e : n = 1 := by omega
    subst e
    unfold topP topB at *
    rw [if_neg h2] at *
    rw [if_neg h2] at *
    have p1 : (65536 : Nat) ^ 1 = 65536 := rfl
    have p0 : (65536 : Nat) ^ (1 - 1) = 1 := rfl
    rw [p1] at *
    rw [p0] at *
    rw [Nat.div_one] at *
    rw [Nat.div_one] at *
    have hB1 : B < 65536 := h1
    have hV1 : V < 4294967296 := Nat.lt_of_lt_of_le hV (Nat.mul_le_mul_left 65536 (Nat.le_of_lt hB1))
    have eB : B % 65536 * 65536 + 0 = B * 65536 := by rw [Nat.mod_eq_of_lt hB1, Nat.add_zero]
    have eV := one_w hV1
    rw [eB, eV]
    rw [eB] at b1
    rw [eV] at b2
    refine ⟨Nat.mul_pos hB (by decide), b1, b2, ?_, hd⟩
    rw [Nat.mul_div_mul_right _ _ (by decide)]
    exact Nat.le_refl _
theorem can_lo {L : List Int} (hC : Canon 65536 L) (h : 1 ≤ L.length) : 65536 ^ (L.length - 1) ≤ vb 65536 L := by
  rcases Nat.lt_or_ge (vb 65536 L) (65536 ^ (L.length - 1)) with h1 | h1
  · have := db_len (b := 65536) (by omega) _ _ h1
    rw [db_can (by omega) hC] at this
    omega
  · exact h1
/-- all parts from the i-th on -/
theorem vb_dropP {L : List Int} {i : Nat} (h : i < L.length) : vb 65536 (L.drop i) = (L.getD i 0).toNat + 65536 * vb 65536 (L.drop (i + 1)) := by
  rw [List.drop_eq_getElem_cons h]
  simp only [vb]
  simp [List.getD, List.getElem?_eq_getElem h]
end Go.Nt
namespace Go.KRun
open Go.RowKit
/-- behind a round: the first blocks and one more are kept, of that one its first cells -/
theorem RunsW.keptP {T : Tab} {c : Code} {x0 : Lf} {ex : Ex} {front front' : List Value} {n k b : Nat} {h : Hp} {base : List (List Value × TypeId)} {y : List Value × TypeId} {r : List Value} (hr : RunsW T c x0 fun e z => e = ex ∧ (∃ g, z.1 = front ++ tl n g) ∧ z.2.1 = h)
    (hk : base.length = k) (hf : front'.map (rn (keepK k b)) = front) (hx : ∀ i x, (⟨k, base⟩ : Hp).blk? i = some x → h.blk? i = some x ∧ ∀ v ∈ x.1, still v = true) (hy : h.blk? b = some (y.1 ++ r, y.2)) (hb : k ≤ b) (sy : ∀ v ∈ y.1, still v = true) (hw : ∀ v ∈ front', lt (k + 1) v = true) :
    RunsW T c x0 fun e z => e = ex ∧ (∃ g, z.1 = front' ++ tl n g) ∧ z.2.1 = ⟨k + 1, y :: base⟩ := by
  refine hr.small fun e z he => .inr ?_
  obtain ⟨rfl, ⟨g, h1⟩, h2⟩ := he
  obtain ⟨t, h', s⟩ := z
  simp only at h1 h2
  subst h1 h2
  refine ⟨front, front', tl n g, h', ⟨k + 1, y :: base⟩, s, keepK k b, rfl, hf, by simp [hk], Nat.succ_pos _, fun i z hz => ?_, fun i j u v hi hj _ _ hij => ?_, hw, fun g' => ⟨rfl, ⟨g', by rw [tl_len]⟩, rfl⟩⟩
  · rcases blkK1 hk hz with ⟨hi, hz'⟩ | ⟨rfl, rfl⟩
    · obtain ⟨q1, q2⟩ := hx i z hz'
      exact ⟨q2, z, [], by unfold keepK; rw [if_pos (blt_iff.2 hi)]; exact q1, rfl, by simp⟩
    · exact ⟨sy, (z.1 ++ r, z.2), r, by unfold keepK; rw [if_neg (by rw [blt_iff]; omega)]; exact hy, rfl, rfl⟩
  · unfold keepK at hij
    rcases blkK1 hk hi with ⟨h1, _⟩ | ⟨rfl, _⟩ <;> rcases blkK1 hk hj with ⟨h2, _⟩ | ⟨rfl, _⟩
    · rw [if_pos (blt_iff.2 h1), if_pos (blt_iff.2 h2)] at hij; exact hij
    · rw [if_pos (blt_iff.2 h1), if_neg (by rw [blt_iff]; omega)] at hij; omega
    · rw [if_pos (blt_iff.2 h2), if_neg (by rw [blt_iff]; omega)] at hij; omega
    · rfl
/-- a call that keeps two blocks of its own -/
theorem row_callsT {T : Tab} {f : Nat} {F : Func} {c : Code} (hF : T.P.funcs[f]? = some F) (hc : F.body = some c) {h0 : Hp} (hr : h0.rows) {vals : List Value} (hvals : ∀ v ∈ vals, lt h0.n v = true) {v : Nat → Nat → Value}
    {cs ds : List Value} {ty : TypeId} (hcs : ∀ u ∈ cs, lt1 0 u = true) (hds : ∀ u ∈ ds, lt1 0 u = true) (hty : ro ty = false)
    (hrun : RunsW T c (vals ++ List.replicate (F.ntmps - vals.length) undef, h0, []) fun e y => (e = none ∨ e = some none) ∧ ∃ k j, k ≠ j ∧ resS T.P F y.1 y.2.1 = some (v k j) ∧ (∃ r, y.2.1.blk? k = some (cs ++ r, ty)) ∧ ∃ r, y.2.1.blk? j = some (ds ++ r, ty))
    (hv0 : ∀ k j, oc [k, j] (v k j) = true)
    {m : Mp} {B : Nat} {h : Hp} {w : World} (E : Emb m B h w) {s : Nat → Nat} (hf : h0.fits s h) (hv1 : ∀ k j, ∀ g : Nat → Nat, rn g (v k j) = v (g k) (g j)) :
    Calls T.P f ((vals.map (rn s)).map (mv m)).toArray w fun e w' => ∃ m', e = .returned (mv m' (v h.n (h.n + 1))) ∧ Came m B h w (v h.n (h.n + 1)) ((h.push cs ty).push ds ty) m' w' := by
  have E0 := E.small hr hf
  have ev : (vals.map (rn s)).map (mv m) = vals.map (mv fun i => m (s i)) := by
    rw [List.map_map]
    exact List.map_congr_left fun y _ => mv_rn m s y
  rw [ev]
  refine calls_of_wp hF hc ?_
  have R : Rel (fun i => m (s i)) w.heap.size (vals ++ List.replicate (F.ntmps - vals.length) undef, h0, []) { tmps := (vals.map (mv fun i => m (s i))).toArray ++ Array.replicate (F.ntmps - (vals.map (mv fun i => m (s i))).toArray.size) undef, defers := [] } w := by
    refine ⟨?_, rfl, E0, ?_⟩
    · simp [mv_undef]
    · intro y hy
      rcases List.mem_append.1 hy with hy | hy
      · exact hvals y hy
      · rw [List.eq_of_mem_replicate hy]; simp [undef, lt]
  refine hrun _ _ _ w R _ fun e y he m1 a' w' k2 k3 => ?_
  obtain ⟨hex, k, j, hkj, hres, ⟨r, hblk⟩, r', hblj⟩ := he
  obtain ⟨r1, r2⟩ := resS_run k2.emb k2.wf hres
  rw [← k2.tmps] at r1
  have td : Tidy w w' := ⟨k3, fun k h1 h2 => k2.emb.ice k h1 h2⟩
  obtain ⟨E', hb⟩ := clean_emb E td
  have low : ∀ {k : Nat} {x : List Value × TypeId}, y.2.1.blk? k = some x → ro x.2 = false → w.heap.size ≤ (m1 k).1 := fun h1 h2 => k2.emb.low _ _ h1 h2
  have hlie : ∀ {k : Nat} {cs r : List Value}, (∀ u ∈ cs, lt1 0 u = true) → y.2.1.blk? k = some (cs ++ r, ty) → ∀ m' : Mp, lie w' (m1 k) (cs.map (mv1 m')) ty := fun {k cs r} hcs hblk m' => by
    obtain ⟨r', z, l0, l1, l2⟩ := k2.emb.lies k _ hblk (tomb_ro hty)
    have e : cs.map (mv1 m1) = cs.map (mv1 m') := map_still hcs
    simp only [List.map_append] at l0 l1
    refine ⟨r.map (mv1 m1) ++ r', z, ?_, ?_, l2⟩
    · simp at l0 ⊢; omega
    · rw [← e, l1, List.append_assoc]
  have lk := low hblk hty
  have lj := low hblj hty
  have Ea := E'.adopt cs ty hty (fun u hu => lt1_mono (Nat.zero_le _) (hcs u hu)) (hlie hcs hblk m) (Nat.le_trans E.base lk) (fun b x hbx hx heq => by
    have := E.here hbx (tomb_ro hx)
    omega)
  have Eb := Ea.adopt ds ty hty (fun u hu => lt1_mono (Nat.zero_le _) (hds u hu)) (hlie hds hblj (upd m h.n (m1 k))) (Nat.le_trans E.base lj) (fun b x hbx hx heq => by
    rw [Hp.blk_push E.len] at hbx
    by_cases h1 : b = h.n
    · subst h1
      simp only [upd, if_pos] at heq
      exact hkj (k2.emb.inj k j _ _ hblk hblj hty hty heq)
    · rw [if_neg h1] at hbx
      simp only [upd, if_neg h1] at heq
      have := E.here hbx (tomb_ro hx)
      omega)
  have hn : (h.push cs ty).n = h.n + 1 := rfl
  rw [hn] at Eb
  have e1 : mv m1 (v k j) = mv (upd (upd m h.n (m1 k)) (h.n + 1) (m1 j)) (v h.n (h.n + 1)) := by
    have e2 := hv1 k j (fun b => if b = k then h.n else h.n + 1)
    simp only [if_pos, if_neg (Ne.symm hkj)] at e2
    rw [← e2, mv_rn]
    refine mv_on (fun b hb => ?_) (hv0 k j)
    simp only [List.mem_cons, List.not_mem_nil, or_false] at hb
    rcases hb with rfl | rfl
    · simp [upd]
    · simp [upd, Ne.symm hkj]
  rw [e1] at r1
  have hlt : lt (h.n + 2) (v h.n (h.n + 1)) = true := by
    have e2 := hv1 k j (fun b => if b = k then h.n else h.n + 1)
    simp only [if_pos, if_neg (Ne.symm hkj)] at e2
    rw [← e2]
    exact oc_ren (bs := [k, j]) (fun b hb => by split <;> omega) (hv0 k j)
  have post : a'.defers = [] ∧ ∃ v', (results F a'.tmps).run T.P w' = .ok v' w' ∧ ∃ m', Ending.returned v' = .returned (mv m' (v h.n (h.n + 1))) ∧ Came m B h w (v h.n (h.n + 1)) ((h.push cs ty).push ds ty) m' w' :=
    ⟨k2.dfr, _, r1, _, rfl, ⟨(upd_agree m h.n (m1 k)).trans (upd_agree _ _ _) (by omega), Eb, hb, by show h.n ≤ h.n + 1 + 1; omega, hlt⟩⟩
  rcases hex with rfl | rfl <;> exact post
end Go.KRun
