/-
  PwG, TxU, TxA, RunI, TxT, TxB, NumTx, TxC, UuY, TxD, UuZ, TxV
-/
import Derived.Test.YtgefjidphfdhdaaGreatDoorG13
import Derived.SizedLaws
import Derived.Laws.RangeString
namespace Go.Proofs.YtgefjidphfdhdaaGreatDoor.Na
open Go.KRun Go.Nt
set_option maxRecDepth 100000
set_option linter.unusedVariables false
theorem np_runs {b n : Nat} (hb : b < 4294967296) (hn : n ≤ 2000) (hw : ∀ j, j ≤ n → nw (b ^ j) ≤ 400) : RunsW (tabH Tryz.prog extY conPw hcQ) (seqs (qP Tryz.f76) (.seq (.seq (qI Tryz.f76) (.block 0 (.loop (qL Tryz.f76)))) (qE Tryz.f76))) ([.int .u32 (b : Int), .int .i64 (n : Int)] ++ List.replicate 54 undef, ⟨0, []⟩, []) fun e z => (e = none ∨ e = some none) ∧ ((¬ (b = 0 ∧ 1 ≤ n) ∧ ∃ k, resS Tryz.prog Tryz.f76 z.1 z.2.1 = some (.tuple #[s32 k (pM b n) (b ^ n), .nilIface]) ∧ ∃ r, z.2.1.blk? k = some (wU (dg (pM b n) ((b ^ n : Nat) : Int)) ++ r, tU)) ∨ ((b = 0 ∧ 1 ≤ n) ∧ resS Tryz.prog Tryz.f76 z.1 z.2.1 = some (.tuple #[nilS, .nilIface]))) := by
  have eb : IntKind.u64.wrap (b : Int) = (b : Int) := by simp [IntKind.wrap, IntKind.bits, IntKind.signed]; omega
  have en : IntKind.u64.wrap (n : Int) = (n : Int) := by simp [IntKind.wrap, IntKind.bits, IntKind.signed]; omega
  have hp := np_pre b n
  rw [eb] at hp
  have hi := np_i b n
  rw [en, Int.toNat_natCast] at hi
  have hl9 : bitLen n ≤ 11 := by
    obtain ⟨s1, s2⟩ := bitLen_spec n
    rcases Nat.lt_or_ge 11 (bitLen n) with h | h
    · have h0 : n ≠ 0 := by rintro rfl; simp [bitLen] at h
      have h1 := s2 h0
      have h2 : 2 ^ 11 ≤ 2 ^ (bitLen n - 1) := Nat.pow_le_pow_right (by omega) (by omega)
      have h3 : (2 : Nat) ^ 11 = 2048 := rfl
      omega
    · exact h
  have hz : n / 2 ^ bitLen n = 0 := Nat.div_eq_of_lt (bitLen_spec n).1
  have ew : IntKind.i64.wrap (((bitLen n : Nat) : Int) - 1) = ((bitLen n : Nat) : Int) - 1 := wrapI (by omega) (by omega)
  rw [ew] at hi
  refine goesT_listW tabQ hp (okCons (decide_eq_true ⟨by omega, by omega⟩) (okCons (by decide) (okCons (decide_eq_false (by omega)) (okL1 (decide_eq_false (by omega)))))) fun g => ?_
  refine RunsW.seq (P1 := fun e y => e = none ∧ nS b n 0 y) ?_ ?_ (fun e y hy => by cases hy.1)
  · refine RunsW.seq (goesT_runsW tabQ (hi (s32 1 2 b) g (Q2 b)) (okL1 (decide_eq_true ⟨by omega, by omega⟩))) ?_ (fun e y hy => by cases hy.1)
    rintro ⟨t, h', s⟩ ⟨_, ⟨g', ht⟩, hh⟩
    simp only at ht hh
    subst ht hh
    have lp := RunsW.forLoop (T := tabH Tryz.prog extY conPw hcQ) (c := qL Tryz.f76) (id := 0) (P := nS b n 0) (R := fun _ => False) (fun k y => k ≤ bitLen n ∧ nS b n k y) (x := (qF b n (s32 0 2 1) (s32 1 2 b) (((bitLen n : Nat) : Int) - 1) ++ tl 46 g', Q2 b, s)) ?_ (n := bitLen n) ⟨Nat.le_refl _, g', .inl ⟨hz, rfl, rfl⟩⟩
    · refine lp.mono fun e z hz => ?_
      match e, hz with
      | none, hz => exact ⟨rfl, hz⟩
      | some none, hz => exact hz.elim
      | some (some _), hz => exact hz.elim
    · rintro k y ⟨hk, hy⟩
      match k, hk, hy with
      | k + 1, hk, hy =>
        refine (np_round hb hn hw (by omega) hy fun h0 => ?_).mono fun e z hz => ?_
        · obtain ⟨s1, s2⟩ := bitLen_spec n
          have hn0 : n ≠ 0 := by
            rintro rfl
            simp [bitLen] at hk
          have h1 := s2 hn0
          have h2 : bitLen n = k + 1 := by
            rcases Nat.lt_or_ge (k + 1) (bitLen n) with h | h
            · exfalso
              have h3 : 2 ^ (k + 1) ≤ 2 ^ (bitLen n - 1) := Nat.pow_le_pow_right (by omega) (by omega)
              have h4 : 0 < n / 2 ^ (k + 1) := Nat.div_pos (by omega) (Nat.pow_pos (by omega))
              omega
            · omega
          rw [h2, Nat.add_sub_cancel] at h1
          have h5 : 0 < n / 2 ^ k := Nat.div_pos h1 (Nat.pow_pos (by omega))
          have h6 : n / 2 ^ (k + 1) = n / 2 ^ k / 2 := by rw [Nat.pow_succ, ← Nat.div_div_eq_div_mul]
          omega
        · obtain ⟨rfl, hz⟩ := hz
          exact ⟨k, by omega, by omega, hz⟩
      | 0, _, hy =>
        obtain ⟨t, h', s⟩ := y
        have out : ∀ (P : Value) (h : Hp) (g : Nat → Value) (s : List Dec), RunsW (tabH Tryz.prog extY conPw hcQ) (qL Tryz.f76) (qF b n P (s32 1 2 b) (((0 : Nat) : Int) - 1) ++ tl 46 g, h, s) fun e z => e = some (some 0) ∧ (∃ g, z.1 = qF b n P (s32 1 2 b) (((0 : Nat) : Int) - 1) ++ tl 46 g) ∧ z.2.1 = h := fun P h g s =>
          goesT_runsW tabQ (np_x n (((0 : Nat) : Int) - 1) b P (s32 1 2 b) h g) (okL1 (by decide))
        obtain ⟨g, hy⟩ := hy
        rcases hy with ⟨j0, ht, hh⟩ | ⟨j1, b0, ht, hh⟩ | ⟨j1, b0, m, V, ht, hh⟩ <;> simp only at ht hh <;> subst ht hh
        · refine (out _ _ g s).mono fun e z hz => ?_
          obtain ⟨rfl, ⟨g', e1⟩, e2⟩ := hz
          exact ⟨rfl, g', .inl ⟨j0, e1, e2⟩⟩
        · refine (out _ _ g s).mono fun e z hz => ?_
          obtain ⟨rfl, ⟨g', e1⟩, e2⟩ := hz
          exact ⟨rfl, g', .inr (.inl ⟨j1, b0, e1, e2⟩)⟩
        · refine (out _ _ g s).mono fun e z hz => ?_
          obtain ⟨rfl, ⟨g', e1⟩, e2⟩ := hz
          exact ⟨rfl, g', .inr (.inr ⟨j1, b0, m, V, e1, e2⟩)⟩
  · rintro ⟨t, h', s⟩ ⟨_, g, hy⟩
    rw [Nat.pow_zero, Nat.div_one] at hy
    rcases hy with ⟨j0, ht, hh⟩ | ⟨j1, b0, ht, hh⟩ | ⟨j1, b0, m, V, ht, hh⟩ <;> simp only at ht hh <;> subst ht hh
    · refine (goesT_runsW tabQ (np_e n _ b _ _ _ g) (fun x hx => by cases hx)).mono fun e z hz => ?_
      obtain ⟨rfl, ⟨g', e1⟩, e2⟩ := hz
      subst j0
      have e3 : pM b 0 = 2 := rfl
      rw [e3, Nat.pow_zero]
      exact ⟨.inr rfl, .inl ⟨by omega, 0, by rw [e1, e2]; rfl, [], by rw [e2, List.append_nil]; rfl⟩⟩
    · refine (goesT_runsW tabQ (np_e n _ b _ _ _ g) (fun x hx => by cases hx)).mono fun e z hz => ?_
      obtain ⟨rfl, ⟨g', e1⟩, e2⟩ := hz
      exact ⟨.inr rfl, .inl ⟨by omega, 2, by rw [e1, e2]; rfl, [], by rw [e2, List.append_nil]; rfl⟩⟩
    · refine (goesT_runsW tabQ (np_e n _ b _ _ _ g) (fun x hx => by cases hx)).mono fun e z hz => ?_
      obtain ⟨rfl, ⟨g', e1⟩, e2⟩ := hz
      exact ⟨.inr rfl, .inr ⟨⟨b0, j1⟩, by rw [e1, e2]; rfl⟩⟩
def okPn (b n : Int) : Bool := decide (0 ≤ b ∧ b < 4294967296 ∧ 0 ≤ n ∧ (n ≤ 300 ∨ ((b = 10 ∨ b = 5) ∧ n ≤ 2000)))
theorem okPn_wd {b n : Nat} (h : okPn b n = true) : b < 4294967296 ∧ n ≤ 2000 ∧ ∀ j, j ≤ n → nw (b ^ j) ≤ 400 := by
  have q := of_decide_eq_true h
  rcases q.2.2.2 with h1 | ⟨h1, h2⟩
  · exact ⟨by omega, by omega, wd_small (by omega) (by omega)⟩
  · refine ⟨by omega, by omega, fun j hj => ?_⟩
    rcases h1 with h1 | h1
    · rw [show b = 10 by omega]
      exact wd_ten (n := n) (by omega) j hj
    · rw [show b = 5 by omega]
      refine Nat.le_trans (nw_le (k := nw (10 ^ j)) (Nat.lt_of_le_of_lt (Nat.pow_le_pow_left (by omega) j) (nw_lt _))) (wd_ten (n := n) (by omega) j hj)
def pMi (b n : Int) : Nat := pM b.toNat n.toNat
/-- the power, told ahead -/
def gPowN : AnsH := fun vals h s =>
  match vals, s with
  | [.int .u32 b, .int .i64 n], .inr (.inr (.inr (.inl true))) :: s' => some (.tuple #[nilS, errV 1], h, s', [(decide (n < 0 ∨ n > 1000000), true)])
  | [.int .u32 b, .int .i64 n], .inr (.inr (.inr (.inl false))) :: .inr (.inr (.inr (.inl true))) :: s' => some (.tuple #[nilS, .nilIface], h, s', [(okPn b n, true), (decide (b = 0 ∧ 1 ≤ n), true)])
  | [.int .u32 b, .int .i64 n], .inr (.inr (.inr (.inl false))) :: .inr (.inr (.inr (.inl false))) :: .inr (.inl V) :: s' => some (.tuple #[sl h.n 0 (trimN (dg (pMi b n) V)) (pMi b n), .nilIface], h.push (wU (dg (pMi b n) V)) tU, s', [(decide (((b.toNat ^ n.toNat : Nat) : Int) = V), true), (okPn b n, true), (decide (b = 0 ∧ 1 ≤ n), false)])
  | _, _ => none
theorem gPowN_ok : AnsHOk 76 gPowN := by
  intro vals h s v h' s' lg hg hl m B w E hv
  have hr0 : (⟨0, []⟩ : Hp).rows := ⟨rfl, fun b x hx => by have : b < 0 := Hp.blk_lt hx; omega⟩
  unfold gPowN at hg
  split at hg
  · rename_i b n s2
    cases hg
    have l1 := of_decide_eq_true (hl _ (List.mem_singleton.2 rfl))
    have r : RunsW (tabH Tryz.prog extY conPw hcQ) (cBody Tryz.f76) ([.int .u32 b, .int .i64 n] ++ List.replicate 54 undef, ⟨0, []⟩, []) fun e z => (e = none ∨ e = some none) ∧ resS Tryz.prog Tryz.f76 z.1 z.2.1 = some (.tuple #[nilS, errV 1]) := by
      by_cases h0 : n < 0
      · refine (goesT_runsW tabQ (np_bad0 b n) (okL1 (decide_eq_true h0))).mono fun e z hz => ?_
        obtain ⟨rfl, ⟨g', e1⟩, e2⟩ := hz
        exact ⟨.inr rfl, by rw [e1, e2]; rfl⟩
      · refine (goesT_runsW tabQ (np_bad1 b n) (okCons (decide_eq_true (l1.resolve_left h0)) (okL1 (decide_eq_false h0)))).mono fun e z hz => ?_
        obtain ⟨rfl, ⟨g', e1⟩, e2⟩ := hz
        exact ⟨.inr rfl, by rw [e1, e2]; rfl⟩
    have := row_calls0 (T := tabH Tryz.prog extY conPw hcQ) Tryz.func76 np_body1 hr0 (vals := [.int .u32 b, .int .i64 n]) (fun v hv => by
      simp only [List.mem_cons, List.not_mem_nil, or_false] at hv
      rcases hv with rfl | rfl <;> rfl) (v := .tuple #[nilS, errV 1]) (by rfl) r E (s := fun i => i) (fun i x hx _ => by have : i < 0 := Hp.blk_lt hx; omega)
    exact this
  · rename_i b n s2
    cases hg
    have l2' : okPn b n = true := hl _ List.mem_cons_self
    have l2 := of_decide_eq_true l2'
    have l3 := of_decide_eq_true (hl _ (List.mem_cons_of_mem _ (List.mem_singleton.2 rfl)))
    obtain ⟨b', rfl⟩ := Int.eq_ofNat_of_zero_le l2.1
    obtain ⟨n', rfl⟩ := Int.eq_ofNat_of_zero_le l2.2.2.1
    obtain ⟨w1, w2, w3⟩ := okPn_wd l2'
    have r := (np_runs (b := b') (n := n') w1 w2 w3).mono (P' := fun e z => (e = none ∨ e = some none) ∧ resS Tryz.prog Tryz.f76 z.1 z.2.1 = some (.tuple #[nilS, .nilIface])) fun e z hz => ⟨hz.1, by
      rcases hz.2 with ⟨q, _⟩ | ⟨_, q⟩
      · exact absurd (show b' = 0 ∧ 1 ≤ n' by omega) q
      · exact q⟩
    have := row_calls0 (T := tabH Tryz.prog extY conPw hcQ) Tryz.func76 np_body hr0 (vals := [.int .u32 (b' : Int), .int .i64 (n' : Int)]) (fun v hv => by
      simp only [List.mem_cons, List.not_mem_nil, or_false] at hv
      rcases hv with rfl | rfl <;> rfl) (v := .tuple #[nilS, .nilIface]) (by rfl) r E (s := fun i => i) (fun i x hx _ => by have : i < 0 := Hp.blk_lt hx; omega)
    exact this
  · rename_i b n V s2
    cases hg
    have l1 := of_decide_eq_true (hl _ List.mem_cons_self)
    have l2' : okPn b n = true := hl _ (List.mem_cons_of_mem _ List.mem_cons_self)
    have l2 := of_decide_eq_true l2'
    have l3 := of_decide_eq_false (hl _ (List.mem_cons_of_mem _ (List.mem_cons_of_mem _ (List.mem_singleton.2 rfl))))
    obtain ⟨b', rfl⟩ := Int.eq_ofNat_of_zero_le l2.1
    obtain ⟨n', rfl⟩ := Int.eq_ofNat_of_zero_le l2.2.2.1
    obtain ⟨w1, w2, w3⟩ := okPn_wd l2'
    rw [Int.toNat_natCast, Int.toNat_natCast] at l1
    rw [← l1]
    have ep : pMi (b' : Int) (n' : Int) = pM b' n' := by unfold pMi; rw [Int.toNat_natCast, Int.toNat_natCast]
    rw [ep]
    have r := (np_runs (b := b') (n := n') w1 w2 w3).mono (P' := fun e z => (e = none ∨ e = some none) ∧ ∃ k, resS Tryz.prog Tryz.f76 z.1 z.2.1 = some (.tuple #[s32 k (pM b' n') (b' ^ n'), .nilIface]) ∧ ∃ r, z.2.1.blk? k = some (wU (dg (pM b' n') ((b' ^ n' : Nat) : Int)) ++ r, tU)) fun e z hz => ⟨hz.1, by
      rcases hz.2 with ⟨_, q⟩ | ⟨q, _⟩
      · exact q
      · exact absurd q (by omega)⟩
    exact row_calls2 (T := tabH Tryz.prog extY conPw hcQ) Tryz.func76 np_body hr0 (vals := [.int .u32 (b' : Int), .int .i64 (n' : Int)]) (fun v hv => by
      simp only [List.mem_cons, List.not_mem_nil, or_false] at hv
      rcases hv with rfl | rfl <;> rfl) (v := fun k => .tuple #[s32 k (pM b' n') (b' ^ n'), .nilIface]) (wU_lt _) (by kernel_rfl) r (fun k => by simp [oc, oc2, oc1, s32, sl]) E (s := fun i => i) (fun i x hx _ => by have : i < 0 := Hp.blk_lt hx; omega) (fun k => by simp [rn, rn2, rn1, s32, sl])
  · cases hg
end Go.Proofs.YtgefjidphfdhdaaGreatDoor.Na
namespace Go.Proofs.YtgefjidphfdhdaaGreatDoor
open Go.KRun
set_option maxRecDepth 100000
theorem okN9 : okLog [] := fun _ h => by cases h
/-- a string, by its letters -/
def bS (l : List UInt8) : Value := .string ⟨⟨l⟩⟩
theorem bs_eq (l l' : List UInt8) : ((⟨⟨l⟩⟩ : ByteArray) == ⟨⟨l'⟩⟩) = decide (l = l') := by
  rw [beq_toListBytes, ByteArray.toList_eq, ByteArray.toList_eq]
  show (l == l') = decide (l = l')
  by_cases h : l = l'
  · rw [decide_eq_true h]; simpa using h
  · rw [decide_eq_false h]; simpa using h
end Go.Proofs.YtgefjidphfdhdaaGreatDoor
namespace Go.Proofs.YtgefjidphfdhdaaGreatDoor.Na
open Go.KRun
set_option maxRecDepth 100000
def tlP (F : Func) : Code := cFst (cBody F)
def tlL (F : Func) : Code := cIn (cIn (cFst (cSnd (cBody F))))
def tlE (F : Func) : Code := cSnd (cSnd (cBody F))
theorem tl_body : Tryz.f172.body = some (seqs [tlP Tryz.f172] (.seq (.block 0 (.loop (tlL Tryz.f172))) (tlE Tryz.f172))) := by kernel_rfl
def tlF (l : List UInt8) (c : Int) : List Value := [bS l, .int .u8 c, undef, undef, bS []]
theorem tl_pre (l : List UInt8) (c : Int) : GoesT (evL (tabOf Tryz.prog extY conN true) 100 [tlP Tryz.f172] ([bS l, .int .u8 c] ++ List.replicate 15 undef, ⟨0, []⟩, []) ⟨[], [], []⟩) 5 12 none (tlF l c) ⟨0, []⟩ [] := ⟨by kernel_rfl, by kernel_rfl, by kernel_rfl⟩
theorem tl_go (x : UInt8) (l : List UInt8) (c : Int) (g : Nat → Value) : GoesT (evC (tabOf Tryz.prog extY conN true) 100 false (tlL Tryz.f172) (tlF (x :: l) c ++ tl 12 g, ⟨0, []⟩, [cmp true, cmp true, sam true]) ⟨[], [], []⟩) 5 12 none (tlF l c) ⟨0, []⟩ [(decide ((0 : Int) ≤ 1 ∧ (1 : Int) ≤ ((x :: l).length : Nat)), true), (((x.toNat : Nat) : Int) == c, true), (decide ((0 : Int) ≤ 0 ∧ 0 < (x :: l).length), true), (decide ((((x :: l).length : Nat) : Int) > 0), true)] := ⟨by kernel_rfl, by kernel_rfl, by kernel_rfl⟩
theorem tl_out (x : UInt8) (l : List UInt8) (c : Int) (g : Nat → Value) : GoesT (evC (tabOf Tryz.prog extY conN true) 100 false (tlL Tryz.f172) (tlF (x :: l) c ++ tl 12 g, ⟨0, []⟩, [cmp true, cmp false]) ⟨[], [], []⟩) 5 12 (some (some 0)) (tlF (x :: l) c) ⟨0, []⟩ [(((x.toNat : Nat) : Int) == c, false), (decide ((0 : Int) ≤ 0 ∧ 0 < (x :: l).length), true), (decide ((((x :: l).length : Nat) : Int) > 0), true)] := ⟨by kernel_rfl, by kernel_rfl, by kernel_rfl⟩
theorem tl_nil (c : Int) (g : Nat → Value) : GoesT (evC (tabOf Tryz.prog extY conN true) 100 false (tlL Tryz.f172) (tlF [] c ++ tl 12 g, ⟨0, []⟩, [cmp false]) ⟨[], [], []⟩) 5 12 (some (some 0)) (tlF [] c) ⟨0, []⟩ [(decide (((0 : Nat) : Int) > 0), false)] := ⟨by kernel_rfl, by kernel_rfl, by kernel_rfl⟩
theorem tl_fin (l : List UInt8) (c : Int) (g : Nat → Value) : GoesT (evC (tabOf Tryz.prog extY conN true) 100 false (tlE Tryz.f172) (tlF l c ++ tl 12 g, ⟨0, []⟩, []) ⟨[], [], []⟩) 5 12 (some none) [bS l, .int .u8 c, undef, undef, bS l] ⟨0, []⟩ [] := ⟨by kernel_rfl, by kernel_rfl, by kernel_rfl⟩
/-- a string's letters behind those that are c -/
def trL (c : Int) (l : List UInt8) : List UInt8 := l.dropWhile fun x => ((x.toNat : Nat) : Int) == c
theorem tl_loop (c : Int) (L : List UInt8) (n : Nat) (x : Lf) (h : ∃ (l : List UInt8) (g : Nat → Value), x.1 = tlF l c ++ tl 12 g ∧ x.2.1 = ⟨0, []⟩ ∧ trL c l = trL c L ∧ n = l.length) : Runs (tabOf Tryz.prog extY conN true) (tlL Tryz.f172) x fun e y => match e with | none => ∃ n', n' < n ∧ ∃ (l : List UInt8) (g : Nat → Value), y.1 = tlF l c ++ tl 12 g ∧ y.2.1 = ⟨0, []⟩ ∧ trL c l = trL c L ∧ n' = l.length | some none => False | some (some id') => id' = 0 ∧ ∃ g : Nat → Value, y.1 = tlF (trL c L) c ++ tl 12 g ∧ y.2.1 = ⟨0, []⟩ := by
  obtain ⟨l, g, e1, e2, h1, h2⟩ := h
  obtain ⟨t, hh, s⟩ := x
  have e1 : t = _ := e1
  have e2 : hh = _ := e2
  subst e1 e2
  have T := tabY_ok conN_ok
  cases l with
  | nil =>
    refine (goesT_runs T (tl_nil c g) (okL1 (by decide))).mono fun e z he => ?_
    obtain ⟨rfl, ⟨g', z1⟩, z2⟩ := he
    have : trL c L = [] := h1.symm
    rw [this]
    exact ⟨rfl, g', z1, z2⟩
  | cons x l =>
    by_cases hx : ((x.toNat : Nat) : Int) = c
    · refine (goesT_runs T (tl_go x l c g) (okCons (decide_eq_true (by rw [List.length_cons]; omega)) (okCons (by simpa using hx) (okCons (decide_eq_true (by rw [List.length_cons]; omega)) (okL1 (decide_eq_true (by rw [List.length_cons]; omega))))))).mono fun e z he => ?_
      obtain ⟨rfl, ⟨g', z1⟩, z2⟩ := he
      refine ⟨l.length, by rw [h2, List.length_cons]; omega, l, g', z1, z2, ?_, rfl⟩
      rw [← h1]
      unfold trL
      rw [List.dropWhile_cons_of_pos (by simpa using hx)]
    · refine (goesT_runs T (tl_out x l c g) (okCons (by simpa using hx) (okCons (decide_eq_true (by rw [List.length_cons]; omega)) (okL1 (decide_eq_true (by rw [List.length_cons]; omega)))))).mono fun e z he => ?_
      obtain ⟨rfl, ⟨g', z1⟩, z2⟩ := he
      have : trL c L = x :: l := by
        rw [← h1]
        unfold trL
        rw [List.dropWhile_cons_of_neg (by simpa using hx)]
      rw [this]
      exact ⟨rfl, g', z1, z2⟩
theorem tlb_calls (l : List UInt8) (c : Int) (w : World) : Calls Tryz.prog 172 #[bS l, .int .u8 c] w fun r w' => r = .returned (bS (trL c l)) ∧ Tidy w w' := by
  have hT := tabY_ok conN_ok
  refine calls_of_runs (T := tabOf Tryz.prog extY conN true) Tryz.func172 tl_body (by rfl) (by rfl) ?_ w
  refine goesT_list hT (tl_pre l c) okN9 fun g => ?_
  refine Runs.seq (P1 := fun e y => e = none ∧ ∃ g : Nat → Value, y.1 = tlF (trL c l) c ++ tl 12 g ∧ y.2.1 = ⟨0, []⟩) ?_ ?_ (fun e y he => by cases he.1)
  · refine (Runs.forLoop (R := fun _ => False) (P := fun y => ∃ g : Nat → Value, y.1 = tlF (trL c l) c ++ tl 12 g ∧ y.2.1 = ⟨0, []⟩) (fun n x => ∃ (l' : List UInt8) (g : Nat → Value), x.1 = tlF l' c ++ tl 12 g ∧ x.2.1 = ⟨0, []⟩ ∧ trL c l' = trL c l ∧ n = l'.length) (tl_loop c l) (n := l.length) ⟨l, g, rfl, rfl, rfl, rfl⟩).mono fun e z hz => ?_
    match e, hz with
    | none, hz => exact ⟨rfl, hz⟩
  · intro y he
    obtain ⟨_, g', e1, e2⟩ := he
    obtain ⟨t, hh, s⟩ := y
    have e1 : t = _ := e1
    have e2 : hh = _ := e2
    subst e1 e2
    refine (goesT_runs hT (tl_fin (trL c l) c g') okN9).mono fun e z hz => ?_
    obtain ⟨rfl, ⟨g2, z1⟩, z2⟩ := hz
    exact ⟨.inr rfl, by rw [z1, z2]; rfl⟩
def gTlb : Ans := fun vals s =>
  match vals with
  | [.string b, .int .u8 c] => some (bS (trL c b.data.toList), s, [])
  | _ => none
theorem gTlb_ok : AnsOk 172 gTlb := by
  intro vals s v s' lg h hl w
  unfold gTlb at h
  split at h
  · cases h
    exact tlb_calls _ _ w
  · cases h
def conTl : Con := alt 172 gTlb conN
theorem conTl_ok : ConOk conTl := alt_ok Tryz.func172 rfl gTlb_ok conN_ok
theorem tr_e (l : List UInt8) : Fits (reckon (tabOf Tryz.prog extY conTl true) 100 135 [bS l, bS [48]] [sam true]) (bS l) [((⟨⟨l⟩⟩ : ByteArray) == ⟨⟨[]⟩⟩, true)] := ⟨by kernel_rfl, by kernel_rfl, by kernel_rfl, by kernel_rfl⟩
theorem tr_n (l : List UInt8) : Fits (reckon (tabOf Tryz.prog extY conTl true) 100 135 [bS l, bS [48]] [sam false]) (bS (trL 48 l)) [(true, true), (true, true), ((⟨⟨l⟩⟩ : ByteArray) == ⟨⟨[]⟩⟩, false)] := ⟨by kernel_rfl, by kernel_rfl, by kernel_rfl, by kernel_rfl⟩
/-- what is left of a string behind its noughts -/
def gTrl : Ans := fun vals s =>
  match vals with
  | [.string b, .string ⟨⟨[c]⟩⟩] => some (bS (trL 48 b.data.toList), s, [(decide (c = 48), true)])
  | _ => none
theorem gTrl_ok : AnsOk 135 gTrl := by
  intro vals s v s' lg h hl w
  unfold gTrl at h
  split at h
  · rename_i b c
    cases h
    have hc := of_decide_eq_true (hl _ (List.mem_singleton.2 rfl))
    subst hc
    by_cases hn : b.data.toList = []
    · have := fits_calls (tabY_ok conTl_ok) (tr_e b.data.toList) (okL1 ((bs_eq _ _).trans (decide_eq_true hn))) (by rfl) (by rfl) w
      rw [hn] at this ⊢
      have hb : b = ⟨⟨[]⟩⟩ := by
        apply ByteArray.ext
        apply Array.ext'
        exact hn
      rw [hb]
      exact this
    · exact fits_calls (tabY_ok conTl_ok) (tr_n b.data.toList) (okCons rfl (okCons rfl (okL1 ((bs_eq _ _).trans (decide_eq_false hn))))) (by rfl) (by rfl) w
  · cases h
end Go.Proofs.YtgefjidphfdhdaaGreatDoor.Na
namespace Go.KRun
open Go.RowKit
/-- all that lies below B stays, but for one block -/
structure BelowI (B r : Nat) (w w' : World) : Prop where
  os : w'.os = w.os
  tape : w'.tape = w.tape
  output : w'.output = w.output
  size : w.heap.size ≤ w'.heap.size
  block : ∀ k, k < B → k ≠ r → w'.heap[k]? = w.heap[k]?
/-! ### one step of the iterator -/
end Go.KRun
namespace Go.Proofs.YtgefjidphfdhdaaGreatDoor
open Go.KRun
set_option maxRecDepth 100000
theorem logB {x : Bool × Bool} {l : Log} (h : okLog (x :: l)) : x.1 = x.2 ∧ okLog l := ⟨h _ List.mem_cons_self, fun y hy => h y (List.mem_cons_of_mem _ hy)⟩
end Go.Proofs.YtgefjidphfdhdaaGreatDoor
namespace Go.Proofs.YtgefjidphfdhdaaGreatDoor.Na
open Go.KRun Go.Nt
set_option maxRecDepth 100000
def tBy : TypeId := 5
def ub (x : Int) : Value := .int .u8 x
def wB (L : List Int) : List Value := L.map ub
def rvP (F : Func) : Code := cFst (cBody F)
def rvL (F : Func) : Code := cIn (cIn (cSnd (cBody F)))
theorem rv_body : Tryz.f134.body = some (seqs [rvP Tryz.f134] (.block 0 (.loop (rvL Tryz.f134)))) := by kernel_rfl
def hB2 (S : List Value) (Y : List Value × TypeId) (la : List Value) : Hp := ⟨3, [(S, tBy), Y, (la, tR)]⟩
def rvF (n : Nat) (i j : Int) : List Value := [.slice (some ⟨2, 0, none⟩) n grown, undef, .int .i64 i, .int .i64 j]
def celB (S : List Value) (j x : Int) : Bool × Bool := (cellIs S[0 + j.toNat * 1]? (ub x), true)
def stB (S : List Value) (j : Int) : Bool × Bool := (decide (0 + j.toNat * 1 < S.length), true)
theorem rv_pre (n : Nat) (h : Hp) : GoesT (evL (tabOf Tryz.prog extY conN true) 100 [rvP Tryz.f134] ([.slice (some ⟨2, 0, none⟩) n grown] ++ List.replicate 27 undef, h, []) ⟨[], [], []⟩) 4 24 none (rvF n 0 (IntKind.i64.wrap ((n : Int) - 1))) h [] := ⟨by kernel_rfl, by kernel_rfl, by kernel_rfl⟩
theorem rv_out (n : Nat) (i j : Int) (h : Hp) (g : Nat → Value) : GoesT (evC (tabOf Tryz.prog extY conN true) 100 false (rvL Tryz.f134) (rvF n i j ++ tl 24 g, h, [cmp false]) ⟨[], [], []⟩) 4 24 (some (some 0)) (rvF n i j) h [(decide (i < j), false)] := ⟨by kernel_rfl, by kernel_rfl, by kernel_rfl⟩
theorem rv_go (n : Nat) (i j x y : Int) (S : List Value) (Y : List Value × TypeId) (la : List Value) (g : Nat → Value) : GoesT (evC (tabOf Tryz.prog extY conN true) 100 false (rvL Tryz.f134) (rvF n i j ++ tl 24 g, hB2 S Y la, [cmp true, at_, num 8, at_, num 0, at_, num 6, num 1, at_, num 7, num 1, val (ub y), num 10, num 1, at_, num 11, num 1, val (ub x), num 12, num 1, at_, num 13, num 1, at_, num 14, num 1, at_, num 15, num 1, at_]) ⟨[], [], []⟩) 4 24 none (rvF n (IntKind.i64.wrap (i + 1)) (IntKind.i64.wrap (j - 1))) (hB2 ((S.set (0 + i.toNat * 1) (ub y)).set (0 + j.toNat * 1) (ub x)) Y la)
    [stB (S.set (0 + i.toNat * 1) (ub y)) j, inR j n, stB S i, inR i n, celB S j y, celB S i x, stB (S.set (0 + i.toNat * 1) (ub y)) j, inR j n, stB S i, inR i n, celB S i x, celB S j y, inR i n, inR j n, (decide (i < j), true)] := ⟨by kernel_rfl, by kernel_rfl, by kernel_rfl⟩
/-- the first i and the last i have changed places -/
def rvK (D : List Int) (i : Nat) : List Int := (List.range D.length).map fun k => if k < i ∨ D.length - i ≤ k then D.getD (D.length - 1 - k) 0 else D.getD k 0
theorem rvK_len (D : List Int) (i : Nat) : (rvK D i).length = D.length := by simp [rvK]
theorem rvK_at {D : List Int} {i k : Nat} (h : k < D.length) : (rvK D i)[k]? = some (if k < i ∨ D.length - i ≤ k then D.getD (D.length - 1 - k) 0 else D.getD k 0) := by
  simp [rvK, h]
theorem rvK_zero (D : List Int) : rvK D 0 = D := by
  apply List.ext_getElem?
  intro k
  by_cases h : k < D.length
  · rw [rvK_at h, if_neg (by omega)]
    simp [List.getD, h]
  · rw [List.getElem?_eq_none (by rw [rvK_len]; omega), List.getElem?_eq_none (by omega)]
theorem rvK_step {D : List Int} {i j : Nat} (hj : i + j + 1 = D.length) (hij : i < j) : ((rvK D i).set i (D.getD j 0)).set j (D.getD i 0) = rvK D (i + 1) := by
  apply List.ext_getElem?
  intro k
  by_cases h : k < D.length
  · rw [rvK_at h, List.getElem?_set, List.getElem?_set]
    simp only [List.length_set, rvK_len]
    by_cases h1 : j = k
    · rw [if_pos h1, if_pos (by omega), if_pos (by omega), show D.length - 1 - k = i by omega]
    · rw [if_neg h1]
      by_cases h2 : i = k
      · rw [if_pos h2, if_pos (by omega), if_pos (by omega), show D.length - 1 - k = j by omega]
      · rw [if_neg h2, rvK_at h]
        congr 1
        by_cases h3 : k < i ∨ D.length - i ≤ k
        · rw [if_pos h3, if_pos (by omega)]
        · rw [if_neg h3, if_neg (by omega)]
  · rw [List.getElem?_eq_none (by simp [rvK_len]; omega), List.getElem?_eq_none (by rw [rvK_len]; omega)]
theorem rvK_end {D : List Int} {i : Nat} (h : D.length ≤ i + i + 1) : rvK D i = D.reverse := by
  apply List.ext_getElem?
  intro k
  by_cases hk : k < D.length
  · rw [rvK_at hk, List.getElem?_reverse hk]
    have e : ∀ m, m < D.length → D.getD m 0 = D[m]?.getD 0 := fun m _ => by simp [List.getD]
    by_cases h3 : k < i ∨ D.length - i ≤ k
    · rw [if_pos h3]
      have : D.length - 1 - k < D.length := by omega
      simp [List.getD, this]
    · rw [if_neg h3, show D.length - 1 - k = k by omega]
      simp [List.getD, hk]
  · rw [List.getElem?_eq_none (by rw [rvK_len]; omega), List.getElem?_eq_none (by simp; omega)]
theorem wB_len (L : List Int) : (wB L).length = L.length := by simp [wB]
theorem wB_at {L : List Int} {k : Nat} {x : Int} (h : L[k]? = some x) : (wB L)[k]? = some (ub x) := by simp [wB, h]
theorem wB_set (L : List Int) (k : Nat) (x : Int) : (wB L).set k (ub x) = wB (L.set k x) := by simp [wB, List.map_set]
theorem celB_ok {S : List Value} {k : Nat} {x : Int} (h : S[k]? = some (ub x)) : (celB S k x).1 = (celB S k x).2 := by
  unfold celB
  simp only [Int.toNat_natCast, Nat.mul_one, Nat.zero_add, h]
  simp [cellIs, ub]
theorem rv_runs {Y : List Value × TypeId} {la : List Value} (D : List Int) (hN : D.length < 4611686018427387904) :
    Runs (tabOf Tryz.prog extY conN true) (seqs [rvP Tryz.f134] (.block 0 (.loop (rvL Tryz.f134)))) ([.slice (some ⟨2, 0, none⟩) D.length grown] ++ List.replicate 27 undef, hB2 (wB D) Y la, []) fun e y => (e = none ∨ e = some none) ∧ resS Tryz.prog Tryz.f134 y.1 y.2.1 = some (.tuple #[]) ∧ y.2.1.cut 3 = hB2 (wB D.reverse) Y la := by
  have hT := tabY_ok conN_ok
  refine goesT_list hT (rv_pre D.length _) okN9 fun g => ?_
  have ew : IntKind.i64.wrap ((D.length : Int) - 1) = (D.length : Int) - 1 := wrapI (by omega) (by omega)
  rw [ew]
  refine (Runs.forLoop (R := fun _ => False) (P := fun y => ∃ (i j : Int) (g : Nat → Value), y.1 = rvF D.length i j ++ tl 24 g ∧ y.2.1 = hB2 (wB D.reverse) Y la)
    (fun r y => ∃ (i : Nat) (g : Nat → Value), y.1 = rvF D.length i ((D.length : Int) - 1 - i) ++ tl 24 g ∧ y.2.1 = hB2 (wB (rvK D i)) Y la ∧ i ≤ D.length ∧ r = D.length - i)
    ?_ (n := D.length) ⟨0, g, by simp, by rw [rvK_zero], by omega, by omega⟩).mono fun e' y he => ?_
  · rintro r ⟨t, h', s'⟩ ⟨i, g, ht, hh, hi, hr⟩
    simp only at ht hh
    subst ht hh
    by_cases hc : (i : Int) < (D.length : Int) - 1 - i
    · obtain ⟨j, hj⟩ : ∃ j : Nat, i + j + 1 = D.length := ⟨D.length - 1 - i, by omega⟩
      have ej : (D.length : Int) - 1 - i = (j : Nat) := by omega
      rw [ej] at hc ⊢
      have hij : i < j := by omega
      have cx : (rvK D i)[i]? = some (D.getD i 0) := by rw [rvK_at (by omega), if_neg (by omega)]
      have cy : (rvK D i)[j]? = some (D.getD j 0) := by rw [rvK_at (by omega), if_neg (by omega)]
      have l1 : (celB (wB (rvK D i)) i (D.getD i 0)).1 = (celB (wB (rvK D i)) i (D.getD i 0)).2 := celB_ok (wB_at cx)
      have l2 : (celB (wB (rvK D i)) j (D.getD j 0)).1 = (celB (wB (rvK D i)) j (D.getD j 0)).2 := celB_ok (wB_at cy)
      have l3 : (inR i D.length).1 = (inR i D.length).2 := decide_eq_true (by omega)
      have l4 : (inR j D.length).1 = (inR j D.length).2 := decide_eq_true (by omega)
      have l5 : (stB (wB (rvK D i)) i).1 = (stB (wB (rvK D i)) i).2 := decide_eq_true (by rw [wB_len, rvK_len]; omega)
      have l6 : (stB ((wB (rvK D i)).set (0 + (i : Int).toNat * 1) (ub (D.getD j 0))) j).1 = (stB ((wB (rvK D i)).set (0 + (i : Int).toNat * 1) (ub (D.getD j 0))) j).2 := decide_eq_true (by rw [List.length_set, wB_len, rvK_len]; omega)
      refine (goesT_runs hT (rv_go D.length i j (D.getD i 0) (D.getD j 0) (wB (rvK D i)) Y la g) (okCons l6 (okCons l4 (okCons l5 (okCons l3 (okCons l2 (okCons l1 (okCons l6 (okCons l4 (okCons l5 (okCons l3 (okCons l1 (okCons l2 (okCons l3 (okCons l4 (okL1 (decide_eq_true hc))))))))))))))))).mono fun e z he => ?_
      obtain ⟨rfl, ⟨g', z1⟩, z2⟩ := he
      refine ⟨D.length - (i + 1), by omega, i + 1, g', ?_, ?_, by omega, rfl⟩
      · rw [z1, wrapI (by omega) (by omega), wrapI (by omega) (by omega)]
        congr 2
        omega
      · rw [z2, ← rvK_step hj hij, Int.toNat_natCast, Int.toNat_natCast, Nat.mul_one, Nat.mul_one, Nat.zero_add, Nat.zero_add, wB_set, wB_set]
    · refine (goesT_runs hT (rv_out D.length i _ _ g) (okL1 (decide_eq_false hc))).mono fun e z he => ?_
      obtain ⟨rfl, ⟨g', z1⟩, z2⟩ := he
      rw [rvK_end (by omega)] at z2
      exact ⟨rfl, _, _, g', z1, z2⟩
  · match e', he with
    | none, he =>
      obtain ⟨i, j, g, e1, e2⟩ := he
      refine ⟨.inl rfl, ?_, ?_⟩
      · rw [e1]; kernel_rfl
      · rw [e2]; rfl
    | some none, he => exact he.elim
    | some (some _), he => exact he.elim
def isB (S : List Value) : Bool := (bytesL S).isSome
theorem isB_spec {S : List Value} (h : isB S = true) : ∃ D, S = wB D := by
  obtain ⟨D, hD⟩ := Option.isSome_iff_exists.1 h
  exact ⟨D, bytesL_spec _ _ hD⟩
theorem isB_wB : ∀ D, isB (wB D) = true
  | [] => rfl
  | x :: D => by
    have := isB_wB D
    unfold isB at *
    obtain ⟨E, hE⟩ := Option.isSome_iff_exists.1 this
    show (bytesL (ub x :: wB D)).isSome = true
    simp [bytesL, ub, hE]
/-- a row of bytes, the other way round -/
def gRv : AnsH := fun vals h s =>
  match vals, h with
  | [.slice (some ⟨2, 0, none⟩) n c], ⟨3, [(S, t), Y, (la, t')]⟩ => some (.tuple #[], ⟨3, [(S.reverse, tBy), Y, (la, tR)]⟩, s, [(Y.1.all still, true), (Nat.beq t tBy, true), (Nat.beq t' tR, true), (Nat.beq n S.length, true), (isB S, true), (Nat.beq c grown, true), (la.all still, true), (Nat.blt n 4611686018427387904, true)])
  | _, _ => none
theorem wB_tight (L : List Int) (n : Nat) : (wB L).all (lt1 n) = true := by
  unfold wB
  rw [List.all_eq_true]
  intro v hv
  obtain ⟨x, _, rfl⟩ := List.mem_map.1 hv
  rfl
theorem gRv_ok : AnsHOk 134 gRv := by
  intro vals h s v h' s' lg hg hl m B w E hv
  unfold gRv at hg
  split at hg
  · rename_i n c S t Y la t'
    cases hg
    obtain ⟨l0, q⟩ := logB hl
    obtain ⟨l1, q⟩ := logB q
    obtain ⟨l2, q⟩ := logB q
    obtain ⟨l3, q⟩ := logB q
    obtain ⟨l4, q⟩ := logB q
    obtain ⟨l5, q⟩ := logB q
    obtain ⟨l6, q⟩ := logB q
    obtain ⟨l7, _⟩ := logB q
    have l1 := Nat.eq_of_beq_eq_true l1
    have l2 := Nat.eq_of_beq_eq_true l2
    have l3 := Nat.eq_of_beq_eq_true l3
    have l5 := Nat.eq_of_beq_eq_true l5
    obtain ⟨D, rfl⟩ := isB_spec l4
    have l7 := blt_iff.1 l7
    subst l1 l2 l3 l5
    rw [wB_len] at l7 hv ⊢
    have e : (wB D).reverse = wB D.reverse := by simp [wB]
    rw [e]
    exact hcalls_of_runs (T := tabOf Tryz.prog extY conN true) Tryz.func134 rv_body (v := .tuple #[]) (h' := hB2 (wB D.reverse) Y la) (by rfl) (by
      show (((wB D.reverse, tBy) :: [Y, (la, tR)]).all fun x => x.1.all (lt1 3)) = true
      rw [List.all_cons, wB_tight, List.all_cons, all_mono (by omega) l0, List.all_cons, all_mono (by omega) l6]
      rfl) (rv_runs D l7) m B w E hv
  · cases hg
end Go.Proofs.YtgefjidphfdhdaaGreatDoor.Na
namespace Go.Nt
theorem getD_at {L : List Int} {i : Nat} (h : i < L.length) : L.getD i 0 = L[i] := by simp [List.getD, h]
/-- the digits, the highest first, without noughts ahead -/
def dropZ (L : List Int) : List Int := L.dropWhile fun x => x == 0
theorem drop_trim (L : List Int) : ∀ x ∈ L.drop (trimN L), x = 0 := by
  intro x hx
  obtain ⟨i, hi, rfl⟩ := List.mem_iff_getElem.1 hx
  rw [List.getElem_drop]
  have h := trimN_high L (trimN L + i) (by omega)
  rw [List.length_drop] at hi
  rw [getD_at (by omega)] at h
  exact h
theorem dropZ_app {A B : List Int} (h : ∀ x ∈ A, x = 0) : dropZ (A ++ B) = dropZ B := by
  unfold dropZ
  rw [List.dropWhile_append_of_pos]
  intro x hx
  rw [h x hx]
  rfl
theorem dropZ_self {L : List Int} (h : L = [] ∨ L.getD 0 0 ≠ 0) : dropZ L = L := by
  cases L with
  | nil => rfl
  | cons x L =>
    rcases h with h | h
    · cases h
    · unfold dropZ
      rw [List.dropWhile_cons_of_neg]
      simpa using h
theorem dropZ_rev {D : List Int} (h : ∀ x ∈ D, Dg 10 x) : dropZ D.reverse = (db 10 (vb 10 D)).reverse := by
  have t := take_trim (b := 10) (by omega) D h
  have e : D.reverse = (D.drop (trimN D)).reverse ++ (D.take (trimN D)).reverse := by
    rw [← List.reverse_append, List.take_append_drop]
  rw [e, dropZ_app (fun x hx => drop_trim D x (List.mem_reverse.1 hx)), t]
  apply dropZ_self
  by_cases h0 : trimN D = 0
  · left
    rw [← t, h0]
    rfl
  · right
    have hl := trimN_le D
    have ht := trimN_top D
    have hlen : (db 10 (vb 10 D)).length = trimN D := by rw [← t, List.length_take]; omega
    rw [← t]
    have hlt : (D.take (trimN D)).reverse.length = trimN D := by rw [List.length_reverse, List.length_take]; omega
    rw [getD_at (by omega), List.getElem_reverse, List.getElem_take]
    rcases ht with ht | ht
    · exact absurd ht h0
    · rw [getD_at (by omega)] at ht
      have e2 : (List.take (trimN D) D).length - 1 - 0 = trimN D - 1 := by rw [List.length_take]; omega
      simp only [e2]
      exact ht
/-- the low k digits, the lowest first -/
def ld : Nat → Nat → List Int
  | 0, _ => []
  | k + 1, p => ((p % 10 : Nat) : Int) :: ld k (p / 10)
theorem ld_len : ∀ k p, (ld k p).length = k
  | 0, _ => rfl
  | k + 1, p => by simp [ld, ld_len k]
theorem ld_dg : ∀ k p, ∀ x ∈ ld k p, Dg 10 x
  | 0, _, x, h => by cases h
  | k + 1, p, x, h => by
    rcases List.mem_cons.1 h with rfl | h
    · exact ⟨by omega, by omega⟩
    · exact ld_dg k _ x h
theorem ld_val : ∀ k p, vb 10 (ld k p) = p % 10 ^ k
  | 0, p => by simp [ld, vb, Nat.mod_one]
  | k + 1, p => by
    rw [show vb 10 (ld (k + 1) p) = ((p % 10 : Nat) : Int).toNat + 10 * vb 10 (ld k (p / 10)) from rfl, ld_val k (p / 10), Nat.pow_succ', Nat.mod_mul]
    omega
theorem ld_snoc : ∀ k p, ld (k + 1) p = ld k p ++ [((p / 10 ^ k % 10 : Nat) : Int)]
  | 0, p => by simp [ld]
  | k + 1, p => by
    rw [show ld (k + 1 + 1) p = ((p % 10 : Nat) : Int) :: ld (k + 1) (p / 10) from rfl, ld_snoc k (p / 10), Nat.div_div_eq_div_mul, ← Nat.pow_succ']
    rfl
/-- one piece more -/
theorem piece_step {D : List Int} {R V k : Nat} (hl : D.length = 9 * k) (h : vb 10 D + 10 ^ (9 * k) * R = V) : vb 10 (D ++ ld 9 (R % 1000000000)) + 10 ^ (9 * (k + 1)) * (R / 1000000000) = V := by
  rw [vb_append, ld_val, hl]
  have e : (10 : Nat) ^ (9 * (k + 1)) = 10 ^ (9 * k) * 1000000000 := by rw [Nat.mul_add, Nat.pow_add]
  have e9 : (10 : Nat) ^ 9 = 1000000000 := rfl
  rw [e, e9, Nat.mod_mod, Nat.mul_assoc, Nat.add_assoc, ← Nat.mul_add]
  have := Nat.mod_add_div R 1000000000
  rw [this]
  exact h
end Go.Nt
namespace Go.Proofs.YtgefjidphfdhdaaGreatDoor.Na
open Go.KRun Go.Nt
set_option maxRecDepth 100000
def kP (F : Func) : List Code := [cFst (cBody F), cFst (cSnd (cBody F))]
def kR2 (F : Func) : Code := cFst (cFst (cSnd (cSnd (cBody F))))
def kL (F : Func) : Code := cIn (cIn (cSnd (cFst (cSnd (cSnd (cBody F))))))
def kE (F : Func) : Code := cSnd (cSnd (cSnd (cBody F)))
theorem kp_body : Tryz.f133.body = some (seqs (kP Tryz.f133) (.seq (.seq (kR2 Tryz.f133) (.block 0 (.loop (kL Tryz.f133)))) (kE Tryz.f133))) := by kernel_rfl
/-- the words' block, another one's below it, at most one above it -/
def hX (X : List (List Value × TypeId)) (S la : List Value) : Hp := ⟨2 + X.length, X ++ [(S, tU), (la, tR)]⟩
def kF (n c : Nat) (r i : Int) : List Value := [sl 1 0 n c, undef, uu 0, .int .u64 r, .int .i64 i]
def tpT (r x : Int) : Int := IntKind.u64.wrap ↑(BitVec.ofInt 64 (IntKind.u64.wrap (r * 2 ^ min (Int.toNat 32) 64)) ||| BitVec.ofInt 64 (IntKind.u64.wrap x)).toNat
def tpQ (r x : Int) : Int := IntKind.u32.wrap (IntKind.u64.wrap ((tpT r x).tdiv 1000000000))
def tpR (r x : Int) : Int := (tpT r x).tmod 1000000000
theorem tp_num {r x : Int} (hr : 0 ≤ r ∧ r < 1000000000) (hx : 0 ≤ x ∧ x < 4294967296) : tpQ r x = (r * 4294967296 + x) / 1000000000 ∧ tpR r x = (r * 4294967296 + x) % 1000000000 ∧ 0 ≤ tpQ r x ∧ tpQ r x < 4294967296 := by
  have e0 : (2 : Int) ^ min (Int.toNat 32) 64 = 4294967296 := rfl
  obtain ⟨a, rfl⟩ := Int.eq_ofNat_of_zero_le hr.1
  obtain ⟨u, rfl⟩ := Int.eq_ofNat_of_zero_le hx.1
  have e1 : IntKind.u64.wrap ((a : Int) * 4294967296) = (a : Int) * 4294967296 := by simp [IntKind.wrap, IntKind.bits, IntKind.signed]; omega
  have e2 : IntKind.u64.wrap (u : Int) = u := by simp [IntKind.wrap, IntKind.bits, IntKind.signed]; omega
  have e3 : (BitVec.ofInt 64 ((a : Int) * 4294967296)).toNat = 2 ^ 32 * a := by rw [BitVec.toNat_ofInt]; omega
  have e4 : (BitVec.ofInt 64 (u : Int)).toNat = u := by rw [BitVec.toNat_ofInt]; omega
  have eT : tpT a u = (a : Int) * 4294967296 + u := by
    unfold tpT
    rw [e0, e1, e2, BitVec.toNat_or, e3, e4, ← Nat.two_pow_add_eq_or_of_lt (by omega) a]
    simp [IntKind.wrap, IntKind.bits, IntKind.signed]
    omega
  have q1 : ((a : Int) * 4294967296 + u).tdiv 1000000000 = ((a : Int) * 4294967296 + u) / 1000000000 := Int.tdiv_eq_ediv_of_nonneg (by omega)
  have q2 : tpQ a u = ((a : Int) * 4294967296 + u) / 1000000000 := by
    unfold tpQ
    rw [eT, q1]
    simp [IntKind.wrap, IntKind.bits, IntKind.signed]
    omega
  have q3 : tpR a u = ((a : Int) * 4294967296 + u) % 1000000000 := by
    unfold tpR
    rw [eT, Int.tmod_eq_emod_of_nonneg (by omega)]
  rw [q2, q3]
  exact ⟨rfl, rfl, by omega, by omega⟩
theorem kp_pre (n c : Nat) (h : Hp) : GoesT (evL (tabOf Tryz.prog extY conN true) 100 (kP Tryz.f133) ([sl 1 0 n c] ++ List.replicate 29 undef, h, []) ⟨[], [], []⟩) 4 26 none [sl 1 0 n c, undef, uu 0, .int .u64 0] h [] := ⟨by kernel_rfl, by kernel_rfl, by kernel_rfl⟩
theorem kp_r2 (n c : Nat) (h : Hp) (g : Nat → Value) : GoesT (evC (tabOf Tryz.prog extY conN true) 100 false (kR2 Tryz.f133) ([sl 1 0 n c, undef, uu 0, .int .u64 0] ++ tl 26 g, h, []) ⟨[], [], []⟩) 5 25 none (kF n c 0 (IntKind.i64.wrap ((n : Int) - 1))) h [] := ⟨by kernel_rfl, by kernel_rfl, by kernel_rfl⟩
theorem kp_out (n c : Nat) (r i : Int) (h : Hp) (g : Nat → Value) : GoesT (evC (tabOf Tryz.prog extY conN true) 100 false (kL Tryz.f133) (kF n c r i ++ tl 25 g, h, [cmp false]) ⟨[], [], []⟩) 5 25 (some (some 0)) (kF n c r i) h [(decide (i ≥ 0), false)] := ⟨by kernel_rfl, by kernel_rfl, by kernel_rfl⟩
theorem kp_go0 (n c : Nat) (r i x : Int) (S la : List Value) (g : Nat → Value) : GoesT (evC (tabOf Tryz.prog extY conN true) 100 false (kL Tryz.f133) (kF n c r i ++ tl 25 g, hX [] S la, [cmp true, at_, val (uu x), at_, at_]) ⟨[], [], []⟩) 5 25 none (kF n c (tpR r x) (IntKind.i64.wrap (i - 1))) (hX [] (S.set (0 + i.toNat * 1) (uu (tpQ r x))) la) [(decide (0 + i.toNat * 1 < S.length), true), inR i n, celR S 0 i x, inR i n, (decide ((32 : Int) < 0), false), (decide (i ≥ 0), true)] := ⟨by kernel_rfl, by kernel_rfl, by kernel_rfl⟩
theorem kp_go1 (n c : Nat) (r i x : Int) (X : List Value × TypeId) (S la : List Value) (g : Nat → Value) : GoesT (evC (tabOf Tryz.prog extY conN true) 100 false (kL Tryz.f133) (kF n c r i ++ tl 25 g, hX [X] S la, [cmp true, at_, val (uu x), at_, at_]) ⟨[], [], []⟩) 5 25 none (kF n c (tpR r x) (IntKind.i64.wrap (i - 1))) (hX [X] (S.set (0 + i.toNat * 1) (uu (tpQ r x))) la) [(decide (0 + i.toNat * 1 < S.length), true), inR i n, celR S 0 i x, inR i n, (decide ((32 : Int) < 0), false), (decide (i ≥ 0), true)] := ⟨by kernel_rfl, by kernel_rfl, by kernel_rfl⟩
theorem kp_go (n c : Nat) (r i x : Int) {X : List (List Value × TypeId)} (hX1 : X.length ≤ 1) (S la : List Value) (g : Nat → Value) : GoesT (evC (tabOf Tryz.prog extY conN true) 100 false (kL Tryz.f133) (kF n c r i ++ tl 25 g, hX X S la, [cmp true, at_, val (uu x), at_, at_]) ⟨[], [], []⟩) 5 25 none (kF n c (tpR r x) (IntKind.i64.wrap (i - 1))) (hX X (S.set (0 + i.toNat * 1) (uu (tpQ r x))) la) [(decide (0 + i.toNat * 1 < S.length), true), inR i n, celR S 0 i x, inR i n, (decide ((32 : Int) < 0), false), (decide (i ≥ 0), true)] := by
  match X, hX1 with
  | [], _ => exact kp_go0 n c r i x S la g
  | [y], _ => exact kp_go1 n c r i x y S la g
theorem kp_fin (n c : Nat) (r i : Int) (h : Hp) (g : Nat → Value) : GoesT (evC (tabOf Tryz.prog extY conN true) 100 false (kE Tryz.f133) (kF n c r i ++ tl 25 g, h, []) ⟨[], [], []⟩) 3 27 (some none) [sl 1 0 n c, undef, uu (IntKind.u32.wrap r)] h [] := ⟨by kernel_rfl, by kernel_rfl, by kernel_rfl⟩
theorem kp_runs {c : Nat} {X : List (List Value × TypeId)} (hX1 : X.length ≤ 1) {la Z : List Value} {L : List Int} (hL : wds L) (hN : L.length < 4611686018427387904) :
    Runs (tabOf Tryz.prog extY conN true) (seqs (kP Tryz.f133) (.seq (.seq (kR2 Tryz.f133) (.block 0 (.loop (kL Tryz.f133)))) (kE Tryz.f133))) ([sl 1 0 L.length c] ++ List.replicate 29 undef, hX X (wU L ++ Z) la, []) fun e y => (e = none ∨ e = some none) ∧ resS Tryz.prog Tryz.f133 y.1 y.2.1 = some (uu (vN L % 1000000000)) ∧ y.2.1 = hX X (wU (dg L.length (vN L / 1000000000)) ++ Z) la := by
  have hT := tabY_ok conN_ok
  refine goesT_list hT (kp_pre L.length c _) okN9 fun g => ?_
  refine Runs.seq (P1 := fun e y => e = none ∧ ∃ (i : Int) (g : Nat → Value), y.1 = kF L.length c (vN L % 1000000000) i ++ tl 25 g ∧ y.2.1 = hX X (wU (dg L.length (vN L / 1000000000)) ++ Z) la) ?_ ?_ (fun e y he => by cases he.1)
  · refine Runs.seq (goesT_runs hT (kp_r2 L.length c _ g) okN9) ?_ (fun e y he => by cases he.1)
    rintro ⟨t, hh, s⟩ ⟨_, ⟨g', e1⟩, e2⟩
    have ew : IntKind.i64.wrap ((L.length : Int) - 1) = (L.length : Int) - 1 := wrapI (by omega) (by omega)
    rw [ew] at e1
    refine (Runs.forLoop (R := fun _ => False) (P := fun y => ∃ (i : Int) (g : Nat → Value), y.1 = kF L.length c (vN L % 1000000000) i ++ tl 25 g ∧ y.2.1 = hX X (wU (dg L.length (vN L / 1000000000)) ++ Z) la)
      (fun m y => ∃ (A Q H : List Int) (r : Int) (g : Nat → Value), y.1 = kF L.length c r ((A.length : Int) - 1) ++ tl 25 g ∧ y.2.1 = hX X (wU (A ++ Q) ++ Z) la ∧ L = A ++ H ∧ H.length = Q.length ∧ wds Q ∧ (0 ≤ r ∧ r < 1000000000) ∧ vN H = vN Q * 1000000000 + r ∧ m = A.length)
      ?_ (n := L.length) ⟨L, [], [], 0, g', e1, by rw [List.append_nil]; exact e2, by simp, rfl, (fun x hx => by cases hx), by omega, rfl, rfl⟩).mono fun e z hz => ?_
    · rintro m ⟨t, h', s'⟩ ⟨A, Q, H, r, g, ht, hh, hLA, hHQ, wQ, hr, hv, hm⟩
      simp only at ht hh
      subst ht hh
      rcases List.eq_nil_or_concat A with rfl | ⟨A', x, rfl⟩
      · refine (goesT_runs hT (kp_out L.length c r _ _ g) (okL1 (decide_eq_false (by simp)))).mono fun e z he => ?_
        obtain ⟨rfl, ⟨g', z1⟩, z2⟩ := he
        have eH : L = H := by simpa using hLA
        have hd : vN L / 1000000000 = vN Q ∧ vN L % 1000000000 = r := by rw [eH]; omega
        have e5 : dg L.length (vN Q) = Q := by rw [eH, hHQ]; exact dg_vN Q wQ
        refine ⟨rfl, ((([] : List Int).length : Nat) : Int) - 1, g', ?_, ?_⟩
        · rw [z1, hd.2]
        · rw [z2, hd.1, e5]; rfl
      · rw [List.concat_eq_append] at *
        have hlen : L.length = A'.length + 1 + H.length := by rw [hLA]; simp; omega
        have hx : 0 ≤ x ∧ x < 4294967296 := hL x (by rw [hLA]; simp)
        obtain ⟨n1, n2, n3, n4⟩ := tp_num hr hx
        have ei : (((A' ++ [x]).length : Nat) : Int) - 1 = (A'.length : Nat) := by simp
        have eS : wU (A' ++ [x] ++ Q) ++ Z = wU (A' ++ x :: Q) ++ Z := by simp
        have cS : (wU (A' ++ x :: Q) ++ Z)[0 + A'.length]? = some (uu x) := by
          rw [Nat.zero_add, List.getElem?_append_left (by unfold wU; simp)]
          exact wU_get A' x Q
        have l1 : decide (0 + ((A'.length : Nat) : Int).toNat * 1 < (wU (A' ++ x :: Q) ++ Z).length) = true := decide_eq_true (by unfold wU; simp)
        have l2 : (inR (A'.length : Nat) L.length).1 = (inR (A'.length : Nat) L.length).2 := decide_eq_true (by omega)
        have l3 : (celR (wU (A' ++ x :: Q) ++ Z) 0 (A'.length : Nat) x).1 = (celR (wU (A' ++ x :: Q) ++ Z) 0 (A'.length : Nat) x).2 := cel_ok cS
        rw [ei, eS]
        refine (goesT_runs hT (kp_go L.length c r (A'.length : Nat) x hX1 (wU (A' ++ x :: Q) ++ Z) la g) (okCons l1 (okCons l2 (okCons l3 (okCons l2 (okCons (by decide) (okL1 (decide_eq_true (by omega))))))))).mono fun e z he => ?_
        obtain ⟨rfl, ⟨g', z1⟩, z2⟩ := he
        refine ⟨A'.length, by rw [hm]; simp, A', tpQ r x :: Q, x :: H, tpR r x, g', ?_, ?_, by rw [hLA]; simp, by simp [hHQ], ?_, by rw [n2]; omega, ?_, rfl⟩
        · rw [z1, wrapI (by omega) (by omega)]
        · rw [z2, Int.toNat_natCast, Nat.mul_one, Nat.zero_add, List.set_append_left _ _ (by unfold wU; simp), wU_set]
          simp
        · intro y hy
          rcases List.mem_cons.1 hy with rfl | hy
          · exact ⟨n3, n4⟩
          · exact wQ y hy
        · simp only [vN]
          rw [n1, n2, hv]
          omega
    · match e, hz with
      | none, hz => exact ⟨rfl, hz⟩
  · rintro ⟨t, hh, s⟩ ⟨_, i, g', e1, e2⟩
    simp only at e1 e2
    subst e1 e2
    refine (goesT_runs hT (kp_fin L.length c _ i _ g') okN9).mono fun e z hz => ?_
    obtain ⟨rfl, ⟨g2, z1⟩, z2⟩ := hz
    have hm : IntKind.u32.wrap (vN L % 1000000000) = vN L % 1000000000 := by simp [IntKind.wrap, IntKind.bits, IntKind.signed]; omega
    rw [hm] at z1
    exact ⟨.inr rfl, by rw [z1, z2]; rfl, z2⟩
/-- the piece that is taken off the words in block 1 -/
def tpS (S : List Value) (n : Nat) : List Value := wU (dg n (vN (cutI S 0 n) / 1000000000)) ++ S.drop n
def tpG (X : List (List Value × TypeId)) (S : List Value) (t : TypeId) (la : List Value) (t' : TypeId) (n c : Nat) (s : List Dec) : Option (Value × Hp × List Dec × Log) :=
  some (uu (vN (cutI S 0 n) % 1000000000), ⟨2 + X.length, X ++ [(tpS S n, tU), (la, tR)]⟩, s, [(Nat.beq t tU, true), (Nat.beq t' tR, true), (rowOk t S 0 n c, true), (la.all still, true), (X.all fun x => x.1.all still, true)])
def gTp : AnsH := fun vals h s =>
  match vals, h with
  | [.slice (some ⟨1, 0, none⟩) n c], ⟨2, [(S, t), (la, t')]⟩ => tpG [] S t la t' n c s
  | [.slice (some ⟨1, 0, none⟩) n c], ⟨3, [x, (S, t), (la, t')]⟩ => tpG [x] S t la t' n c s
  | _, _ => none
theorem tpG_ok {X : List (List Value × TypeId)} (hX1 : X.length ≤ 1) {S : List Value} {t : TypeId} {la : List Value} {t' : TypeId} {n c : Nat} {s s' : List Dec} {v : Value} {h' : Hp} {lg : Log} (hg : tpG X S t la t' n c s = some (v, h', s', lg)) (hl : okLog lg) (m : Mp) (B : Nat) (w : World) (E : Emb m B ⟨2 + X.length, X ++ [(S, t), (la, t')]⟩ w) (hv : ∀ v ∈ [sl 1 0 n c], lt (2 + X.length) v = true) :
    Calls Tryz.prog 133 (([sl 1 0 n c] : List Value).map (mv m)).toArray w fun e w' => ∃ m', e = .returned (mv m' v) ∧ Came m B ⟨2 + X.length, X ++ [(S, t), (la, t')]⟩ w v h' m' w' := by
  unfold tpG at hg
  cases hg
  obtain ⟨l1, q⟩ := logB hl
  obtain ⟨l2, q⟩ := logB q
  obtain ⟨l3, q⟩ := logB q
  obtain ⟨l4, q⟩ := logB q
  obtain ⟨l5, _⟩ := logB q
  have l1 := Nat.eq_of_beq_eq_true l1
  have l2 := Nat.eq_of_beq_eq_true l2
  subst l1 l2
  obtain ⟨a1, a2, a3, a4, a5, a6, a7⟩ := row_of l3
  have hc : c < 4611686018427387904 := blt_iff.1 a4
  have eS : S = wU (cutI S 0 n) ++ S.drop n := by
    have h1 := a1.cut
    rw [a2] at h1
    rw [← h1]
    unfold cutV
    simp
  have r := kp_runs (c := c) hX1 (la := la) (Z := S.drop n) a1.rng (by omega)
  rw [a2, ← eS] at r
  have ht : (Hp.tight ⟨2 + X.length, X ++ [(tpS S n, tU), (la, tR)]⟩) = true := by
    unfold Hp.tight tpS
    simp only [List.all_append, List.all_cons, List.all_nil, Bool.and_true, Bool.and_eq_true]
    refine ⟨?_, ⟨wU_tight _ _, ?_⟩, all_mono (by omega) l4⟩
    · rw [List.all_eq_true]
      intro x hx
      exact all_mono (by omega) (List.all_eq_true.1 l5 x hx)
    · rw [List.all_eq_true]
      exact fun v hv => still_lt (by omega) (a7 v (List.mem_of_mem_drop hv))
  refine hcalls_of_runs (T := tabOf Tryz.prog extY conN true) Tryz.func133 kp_body (vals := [sl 1 0 n c]) (h := hX X S la) (by rfl) ht (r.mono fun e y he => ⟨he.1, he.2.1, ?_⟩) m B w E hv
  rw [he.2.2]
  unfold hX Hp.cut
  simp [tpS, tU]
theorem gTp_ok : AnsHOk 133 gTp := by
  intro vals h s v h' s' lg hg hl m B w E hv
  unfold gTp at hg
  split at hg
  · exact tpG_ok (X := []) (by simp) hg hl m B w E hv
  · exact tpG_ok (X := [_]) (by simp) hg hl m B w E hv
  · cases hg
end Go.Proofs.YtgefjidphfdhdaaGreatDoor.Na
namespace Go.Proofs.YtgefjidphfdhdaaGreatDoor
open Go.KRun
set_option maxRecDepth 100000
def h1R (l : List Value) : Hp := ⟨1, [(l, tR)]⟩
end Go.Proofs.YtgefjidphfdhdaaGreatDoor
namespace Go.Proofs.YtgefjidphfdhdaaGreatDoor.Na
open Go.KRun Go.Nt
set_option maxRecDepth 100000
def dC (F : Func) : Nat → Code
  | 0 => cBody F
  | n + 1 => cSnd (dC F n)
def dP (F : Func) : List Code := [cFst (dC F 0), cFst (dC F 1), cFst (dC F 2), cFst (dC F 3), cFst (dC F 4), cFst (dC F 5)]
def dL (F : Func) : Code := cIn (cIn (cFst (dC F 6)))
def dE (F : Func) : Code := dC F 7
theorem dc_body : Tryz.f80.body = some (seqs (dP Tryz.f80) (.seq (.block 0 (.loop (dL Tryz.f80))) (dE Tryz.f80))) := by kernel_rfl
def conDc : Con := alt 135 gTrl conN
theorem conDc_ok : ConOk conDc := alt_ok Tryz.func135 rfl gTrl_ok conN_ok
def hcDc : Hc := altH 128 gChkU (altH 133 gTp (altH 131 gTrim (altH 134 gRv hcN)))
theorem hcDc_ok : HcOk hcDc := altH_ok Tryz.func128 rfl gChkU_ok (altH_ok Tryz.func133 rfl gTp_ok (altH_ok Tryz.func131 rfl gTrim_ok (altH_ok Tryz.func134 rfl gRv_ok hcN_ok)))
theorem tabDc : TabOk (tabH Tryz.prog extY conDc hcDc) := tabH_ok conDc_ok hcDc_ok
def cpD (l : List Value) (o n : Nat) : List Value := List.take (n.min n) (List.drop o l) ++ List.drop (0 + n.min n) (List.replicate n (Value.int .u32 0))
def cpC (l : List Value) (o n : Nat) : Bool := !(tomb tR) && !(ro tU) && (o + n.min n).ble l.length && (0 + n.min n).ble (List.replicate n (Value.int .u32 0)).length && (List.take (n.min n) (List.drop o l)).all one
def dF (a rest dig p : Value) : List Value := [a, undef, bS [], .nilIface, .nilIface, rest, dig, p]
theorem dc_pre (o n c : Nat) (l : List Value) : GoesT (evL (tabH Tryz.prog extY conDc hcDc) 100 (dP Tryz.f80) ([sl 0 o n c] ++ List.replicate 45 undef, h1R l, [cmp false, cmp false, at_, at_]) ⟨[], [], []⟩) 8 38 none (dF (sl 0 o n c) (sl 1 0 n n) nilS undef) (hX [] (cpD l o n) l) [(cpC l o n, true), (okMakeB 4 n n, true), ((n : Int) == 0, false), (rowX (h1R l) (some ⟨0, o, none⟩) n c, true), (badL (rowOf (h1R l) (some ⟨0, o, none⟩) n), false)] := ⟨by kernel_rfl, by kernel_rfl, by kernel_rfl⟩
theorem dc_bad (p : Option Addr) (n c : Nat) (h : Hp) : GoesT (evC (tabH Tryz.prog extY conDc hcDc) 100 false (cBody Tryz.f80) ([.slice p n c] ++ List.replicate 45 undef, h, [cmp true]) ⟨[], [], []⟩) 4 42 (some none) [.slice p n c, undef, bS [], errV 1] h [(rowX h p n c, true), (badL (rowOf h p n), true)] := ⟨by kernel_rfl, by kernel_rfl, by kernel_rfl⟩
theorem dc_zero (p : Option Addr) (n c : Nat) (h : Hp) : GoesT (evC (tabH Tryz.prog extY conDc hcDc) 100 false (cBody Tryz.f80) ([.slice p n c] ++ List.replicate 45 undef, h, [cmp false, cmp true]) ⟨[], [], []⟩) 4 42 (some none) [.slice p n c, undef, bS [48], .nilIface] h [((n : Int) == 0, true), (rowX h p n c, true), (badL (rowOf h p n), false)] := ⟨by kernel_rfl, by kernel_rfl, by kernel_rfl⟩
def pNx (p : Int) : Nat → Int
  | 0 => p
  | j + 1 => IntKind.u32.wrap ((pNx p j).tdiv 10)
def dgV (p : Int) : Value := ub (IntKind.u8.wrap (IntKind.u32.wrap (48 + p.tmod 10)))
def apB (S : List Value) (p : Int) : Nat → List Value
  | 0 => S
  | j + 1 => apB S p j ++ [dgV (pNx p j)]
def tpP (S : List Value) (n : Nat) : Int := vN (cutI S 0 n) % 1000000000
def apL (S : List Value) (p : Int) (n j : Nat) : Bool × Bool := (appChk tBy (apB S p j, tBy) ([dgV (pNx p j)], tBy) n 0 1, true)
def trS (S : List Value) (n : Nat) : Nat := trimN (cutI (tpS S n) 0 n)
theorem dc_go0 (n c : Nat) (a w : Value) (S la : List Value) (g : Nat → Value) : GoesT (evC (tabH Tryz.prog extY conDc hcDc) 100 false (dL Tryz.f80) (dF a (sl 1 0 n c) nilS w ++ tl 38 g, hX [] S la, [cmp true, cmp true, cmp false, cmp true, at_, cmp true, at_, cmp true, at_, cmp true, at_, cmp true, at_, cmp true, at_, cmp true, at_, cmp true, at_, cmp false]) ⟨[], [], []⟩) 8 38 none (dF a (sl 1 0 (trS S n) c) (.slice (some ⟨19, 0, none⟩) 9 grown) (uu (pNx (tpP S n) 9))) ⟨20, [(apB [] (tpP S n) 9, tBy), ([dgV (pNx (tpP S n) 8)], tBy), ([], 2 * dead), ([dgV (pNx (tpP S n) 7)], tBy), ([], 2 * dead), ([dgV (pNx (tpP S n) 6)], tBy), ([], 2 * dead), ([dgV (pNx (tpP S n) 5)], tBy), ([], 2 * dead), ([dgV (pNx (tpP S n) 4)], tBy), ([], 2 * dead), ([dgV (pNx (tpP S n) 3)], tBy), ([], 2 * dead), ([dgV (pNx (tpP S n) 2)], tBy), ([], 2 * dead), ([dgV (pNx (tpP S n) 1)], tBy), ([], 2 * dead), ([dgV (pNx (tpP S n) 0)], tBy), (tpS S n, tU), (la, tR)]⟩ [(rowOk tU (tpS S n) 0 n c, true), (false, false), apL [] (tpP S n) 8 8, (true, true), apL [] (tpP S n) 7 7, (true, true), apL [] (tpP S n) 6 6, (true, true), apL [] (tpP S n) 5 5, (true, true), apL [] (tpP S n) 4 4, (true, true), apL [] (tpP S n) 3 3, (true, true), apL [] (tpP S n) 2 2, (true, true), apL [] (tpP S n) 1 1, (true, true), (false, false), (true, true), (Nat.beq tU tU, true), (Nat.beq tR tR, true), (rowOk tU S 0 n c, true), (la.all still, true), (([] : List (List Value × TypeId)).all fun x => x.1.all still, true), (decide ((n : Int) > 0), true)] := ⟨by kernel_rfl, by kernel_rfl, by kernel_rfl⟩
theorem dc_go1 (n c m : Nat) (a w : Value) (D S la : List Value) (g : Nat → Value) : GoesT (evC (tabH Tryz.prog extY conDc hcDc) 100 false (dL Tryz.f80) (dF a (sl 1 0 n c) (.slice (some ⟨2, 0, none⟩) m grown) w ++ tl 38 g, hX [(D, tBy)] S la, [cmp true, cmp true, at_, cmp true, at_, cmp true, at_, cmp true, at_, cmp true, at_, cmp true, at_, cmp true, at_, cmp true, at_, cmp true, at_, cmp false]) ⟨[], [], []⟩) 8 38 none (dF a (sl 1 0 (trS S n) c) (.slice (some ⟨20, 0, none⟩) (m + 9) grown) (uu (pNx (tpP S n) 9))) ⟨21, [(apB D (tpP S n) 9, tBy), ([dgV (pNx (tpP S n) 8)], tBy), ([], 2 * dead), ([dgV (pNx (tpP S n) 7)], tBy), ([], 2 * dead), ([dgV (pNx (tpP S n) 6)], tBy), ([], 2 * dead), ([dgV (pNx (tpP S n) 5)], tBy), ([], 2 * dead), ([dgV (pNx (tpP S n) 4)], tBy), ([], 2 * dead), ([dgV (pNx (tpP S n) 3)], tBy), ([], 2 * dead), ([dgV (pNx (tpP S n) 2)], tBy), ([], 2 * dead), ([dgV (pNx (tpP S n) 1)], tBy), ([], 2 * dead), ([dgV (pNx (tpP S n) 0)], tBy), ([], 2 * dead), (tpS S n, tU), (la, tR)]⟩ [(rowOk tU (tpS S n) 0 n c, true), (false, false), apL D (tpP S n) (m + 8) 8, (true, true), apL D (tpP S n) (m + 7) 7, (true, true), apL D (tpP S n) (m + 6) 6, (true, true), apL D (tpP S n) (m + 5) 5, (true, true), apL D (tpP S n) (m + 4) 4, (true, true), apL D (tpP S n) (m + 3) 3, (true, true), apL D (tpP S n) (m + 2) 2, (true, true), apL D (tpP S n) (m + 1) 1, (true, true), apL D (tpP S n) m 0, (true, true), (Nat.beq tU tU, true), (Nat.beq tR tR, true), (rowOk tU S 0 n c, true), (la.all still, true), (([(D, tBy)] : List (List Value × TypeId)).all fun x => x.1.all still, true), (decide ((n : Int) > 0), true)] := ⟨by kernel_rfl, by kernel_rfl, by kernel_rfl⟩
theorem dc_out (n c : Nat) (a d w : Value) (h : Hp) (g : Nat → Value) : GoesT (evC (tabH Tryz.prog extY conDc hcDc) 100 false (dL Tryz.f80) (dF a (sl 1 0 n c) d w ++ tl 38 g, h, [cmp false]) ⟨[], [], []⟩) 8 38 (some (some 0)) (dF a (sl 1 0 n c) d w) h [(decide ((n : Int) > 0), false)] := ⟨by kernel_rfl, by kernel_rfl, by kernel_rfl⟩
theorem dc_end (m : Nat) (a r w : Value) (b : ByteArray) (D : List Value) (Y : List Value × TypeId) (la : List Value) (g : Nat → Value) : GoesT (evC (tabH Tryz.prog extY conDc hcDc) 100 false (dE Tryz.f80) (dF a r (.slice (some ⟨2, 0, none⟩) m grown) w ++ tl 38 g, hB2 D Y la, [val (.string b)]) ⟨[], [], []⟩) 4 42 (some none) [a, undef, bS (trL 48 b.data.toList), .nilIface] (hB2 D.reverse Y la) [(decide ((48 : UInt8) = 48), true), (txtChk (D.reverse, tBy) 0 m b, true), (Y.1.all still, true), (Nat.beq tBy tBy, true), (Nat.beq tR tR, true), (Nat.beq m D.length, true), (isB D, true), (Nat.beq grown grown, true), (la.all still, true), (Nat.blt m 4611686018427387904, true)] := ⟨by kernel_rfl, by kernel_rfl, by kernel_rfl⟩
end Go.Proofs.YtgefjidphfdhdaaGreatDoor.Na
namespace Go.Proofs.YtgefjidphfdhdaaGreatDoor
open Go.KRun Go.Nt
set_option maxRecDepth 100000
theorem cutI_wT (W : List Int) (k : Nat) : cutI (wU W) 0 k = W.take k := by
  unfold cutI cutV wU
  rw [List.drop_zero, ← List.map_take, List.map_map]
  exact (List.map_congr_left fun x _ => rfl).trans (List.map_id' _)
/-- a digit's letter -/
def asc (x : Int) : Int := 48 + x
def decL (V : Nat) : List Int := if V = 0 then [0] else (db 10 V).reverse
/-- a number's letters -/
def decS (V : Nat) : List UInt8 := (decL V).map fun x => UInt8.ofNat (asc x).toNat
end Go.Proofs.YtgefjidphfdhdaaGreatDoor
