/-
  The document's Pow (tillerref02), as a contract.
-/
import Derived.Test.YtecemjilmlagdaaDoorG36
import Derived.Test.YtecemjilmlagdaaDoorG29
namespace Go.Proofs.YtecemjilmlagdaaDoor
open Go.KRun Go.Nt
set_option maxRecDepth 100000
set_option linter.unusedVariables false

def pwP (F : Func) : List Code := [cFst (cBody F), cFst (cSnd (cBody F))]
def pwI (F : Func) : Code := cFst (cFst (cSnd (cSnd (cBody F))))
def pwL (F : Func) : Code := cIn (cIn (cSnd (cFst (cSnd (cSnd (cBody F))))))
def pwE (F : Func) : Code := cSnd (cSnd (cSnd (cBody F)))
theorem pw_body : Tryd.f30.body = some (seqs (pwP Tryd.f30) (.seq (.seq (pwI Tryd.f30) (.block 0 (.loop (pwL Tryd.f30)))) (pwE Tryd.f30))) := by kernel_rfl
def wq (V : Nat) : List Value × TypeId := (wU (d16 V), tU)
def sq0 (V : Nat) : Value := sl 0 0 (d16 V).length (d16 V).length
def pwF (b n : Int) (out : Value) (i : Int) : List Value := [.int .u32 b, .int .i64 n, .tuple #[], .tuple #[], nilS, out, .int .i64 i]
theorem pw_pre (b n : Int) : GoesT (evL (tabH Tryd.prog extY conN hcPw) 100 (pwP Tryd.f30) ([.int .u32 b, .int .i64 n] ++ List.replicate 15 undef, ⟨0, []⟩, []) ⟨[], [], []⟩) 6 11 none [.int .u32 b, .int .i64 n, .tuple #[], .tuple #[], nilS, sq0 1] ⟨1, [wq 1]⟩ [] := ⟨by kernel_rfl, by kernel_rfl, by kernel_rfl⟩
theorem pw_i (v0 v1 v2 v3 v4 v5 : Value) (g : Nat → Value) (h : Hp) : GoesT (evC (tabH Tryd.prog extY conN hcPw) 100 false (pwI Tryd.f30) ([v0, v1, v2, v3, v4, v5] ++ tl 11 g, h, []) ⟨[], [], []⟩) 7 10 none [v0, v1, v2, v3, v4, v5, .int .i64 0] h [] := ⟨by kernel_rfl, by kernel_rfl, by kernel_rfl⟩
def pA (V : Nat) : Hp := ⟨1, [wq V]⟩
theorem pw_r1 (b n i : Int) (V W : Nat) (g : Nat → Value) : GoesT (evC (tabH Tryd.prog extY conN hcPw) 100 false (pwL Tryd.f30) (pwF b n (sq0 V) i ++ tl 10 g, pA V, [cmp true, cmp true, num W]) ⟨[], [], []⟩) 7 10 none (pwF b n (sl 1 0 (d16 W).length (d16 W).length) (IntKind.i64.wrap (i + 1))) ⟨2, [wq W, wq V]⟩ [(decide (vO (pA V) (some ⟨0, 0, none⟩) (d16 V).length * b.toNat + (0 : Int).toNat = W), true), (okSml (pA V) (some ⟨0, 0, none⟩) (d16 V).length (d16 V).length b 0, true), (decide (0 < (d16 V).length ∨ 0 < (0 : Int)), true), (decide (i < n), true)] := ⟨by kernel_rfl, by kernel_rfl, by kernel_rfl⟩
theorem pw_r2 (b n i : Int) (V : Nat) (g : Nat → Value) : GoesT (evC (tabH Tryd.prog extY conN hcPw) 100 false (pwL Tryd.f30) (pwF b n (sq0 V) i ++ tl 10 g, pA V, [cmp true, cmp false]) ⟨[], [], []⟩) 7 10 none (pwF b n nilS (IntKind.i64.wrap (i + 1))) (pA V) [(okSml (pA V) (some ⟨0, 0, none⟩) (d16 V).length (d16 V).length b 0, true), (decide (0 < (d16 V).length ∨ 0 < (0 : Int)), false), (decide (i < n), true)] := ⟨by kernel_rfl, by kernel_rfl, by kernel_rfl⟩
theorem pw_r3 (b n i : Int) (V : Nat) (g : Nat → Value) : GoesT (evC (tabH Tryd.prog extY conN hcPw) 100 false (pwL Tryd.f30) (pwF b n nilS i ++ tl 10 g, pA V, [cmp true, cmp false]) ⟨[], [], []⟩) 7 10 none (pwF b n nilS (IntKind.i64.wrap (i + 1))) (pA V) [(okSml (pA V) none 0 0 b 0, true), (decide (0 < 0 ∨ 0 < (0 : Int)), false), (decide (i < n), true)] := ⟨by kernel_rfl, by kernel_rfl, by kernel_rfl⟩
theorem pw_x (b n i : Int) (v : Value) (h : Hp) (g : Nat → Value) : GoesT (evC (tabH Tryd.prog extY conN hcPw) 100 false (pwL Tryd.f30) (pwF b n v i ++ tl 10 g, h, [cmp false]) ⟨[], [], []⟩) 7 10 (some (some 0)) (pwF b n v i) h [(decide (i < n), false)] := ⟨by kernel_rfl, by kernel_rfl, by kernel_rfl⟩
theorem pw_e (b n i : Int) (v : Value) (h : Hp) (g : Nat → Value) : GoesT (evC (tabH Tryd.prog extY conN hcPw) 100 false (pwE Tryd.f30) (pwF b n v i ++ tl 10 g, h, []) ⟨[], [], []⟩) 5 12 (some none) [.int .u32 b, .int .i64 n, .tuple #[], .tuple #[], v] h [] := ⟨by kernel_rfl, by kernel_rfl, by kernel_rfl⟩
/-- what there is behind i rounds -/
def pwS (b n i : Nat) (y : Lf) : Prop := (¬ (b = 0 ∧ 2 ≤ i) ∧ ∃ g, y.1 = pwF b n (sq0 (b ^ i)) i ++ tl 10 g ∧ y.2.1 = pA (b ^ i)) ∨ ((b = 0 ∧ 2 ≤ i) ∧ ∃ g V, y.1 = pwF b n nilS i ++ tl 10 g ∧ y.2.1 = pA V)
theorem tabPw : TabOk (tabH Tryd.prog extY conN hcPw) := tabH_ok conN_ok hcPw_ok
theorem pow_lt {b i k : Nat} (hb : b < 4294967296) (hi : 2 * i < k) : b ^ i < 2 ^ (16 * k) := by
  have h1 : b ^ i ≤ (2 ^ 32) ^ i := Nat.pow_le_pow_left (by have : (2 : Nat) ^ 32 = 4294967296 := rfl; omega) i
  rw [← Nat.pow_mul] at h1
  exact Nat.lt_of_le_of_lt h1 (Nat.pow_lt_pow_right (by omega) (by omega))
theorem pwF_lt (b n : Int) {s : Value} (i : Int) (hs : lt 1 s = true) : ∀ v ∈ pwF b n s i, lt 1 v = true := by
  intro v hv
  unfold pwF at hv
  simp only [List.mem_cons, List.not_mem_nil, or_false] at hv
  rcases hv with rfl | rfl | rfl | rfl | rfl | rfl | rfl <;> first | rfl | exact hs
theorem pw_round {b n i : Nat} (hb : b < 4294967296) (hn : n ≤ 300) (hi : i < n) {y : Lf} (h : pwS b n i y) : RunsW (tabH Tryd.prog extY conN hcPw) (pwL Tryd.f30) y fun e z => e = none ∧ pwS b n (i + 1) z := by
  obtain ⟨t, h', s⟩ := y
  have ei : IntKind.i64.wrap ((i : Int) + 1) = ((i + 1 : Nat) : Int) := by rw [wrapI (by omega) (by omega)]; omega
  have hlt : decide ((i : Int) < (n : Int)) = true := decide_eq_true (by omega)
  rcases h with ⟨hA, g, ht, hh⟩ | ⟨hB, g, V, ht, hh⟩
  · simp only at ht hh
    subst ht hh
    have lV := d16_len (pow_lt (b := b) (i := i) (k := 2 * i + 1) hb (by omega))
    have hk : okSml (pA (b ^ i)) (some ⟨0, 0, none⟩) (d16 (b ^ i)).length (d16 (b ^ i)).length (b : Int) 0 = true := by
      unfold okSml
      rw [rowP_d16 (h := pA (b ^ i)) (b := 0) (A := b ^ i) rfl (by omega), dgB_d16 (h := pA (b ^ i)) (b := 0) (A := b ^ i) (ty := tU) rfl, blt_iff.2 (by omega), decide_eq_true ⟨⟨by omega, by omega⟩, by omega, by omega⟩]
      rfl
    by_cases hz : b ^ i = 0
    · have h1 : ¬ 0 < (d16 (b ^ i)).length := by rw [hz, show d16 0 = [] from db_zero 65536]; decide
      have hg := pw_r2 b n i (b ^ i) g
      rw [ei] at hg
      refine (goesT_runsW (s0 := s) tabPw hg (okCons hk (okCons (decide_eq_false (by omega)) (okL1 hlt)))).mono fun e z hz' => ?_
      obtain ⟨rfl, ⟨g', e1⟩, e2⟩ := hz'
      have b0 : b = 0 := by
        rcases Nat.eq_zero_or_pos b with h0 | h0
        · exact h0
        · have := Nat.pow_pos (n := i) h0; omega
      have i1 : 1 ≤ i := by
        rcases Nat.eq_zero_or_pos i with h0 | h0
        · subst h0; rw [Nat.pow_zero] at hz; omega
        · exact h0
      exact ⟨rfl, .inr ⟨⟨b0, by omega⟩, g', _, e1, e2⟩⟩
    · have h1 : 0 < (d16 (b ^ i)).length := by
        unfold d16
        rw [List.length_pos_iff, ne_eq, db_nil (by omega)]
        exact hz
      have hg := pw_r1 b n i (b ^ i) (b ^ (i + 1)) g
      rw [ei] at hg
      have := (goesT_runsW (s0 := s) tabPw hg (okCons (decide_eq_true (by rw [vO_d16 (h := pA (b ^ i)) (b := 0) (A := b ^ i) (ty := tU) rfl, Nat.pow_succ]; rfl)) (okCons hk (okCons (decide_eq_true (.inl h1)) (okL1 hlt))))).kept (k := 0) (b := 1) (base := []) (y := wq (b ^ (i + 1))) (front' := pwF b n (sq0 (b ^ (i + 1))) ((i + 1 : Nat) : Int)) rfl (by kernel_rfl) (fun j x hx => by have : j < 0 := Hp.blk_lt hx; omega) rfl (by omega) (wU_still _) (pwF_lt _ _ _ rfl)
      refine this.mono fun e z hz' => ?_
      obtain ⟨rfl, ⟨g', e1⟩, e2⟩ := hz'
      refine ⟨rfl, .inl ⟨fun hc => ?_, g', e1, e2⟩⟩
      obtain ⟨b0, i2⟩ := hc
      apply hz
      rw [b0, Nat.zero_pow (by omega)]
  · simp only at ht hh
    subst ht hh
    have hk : okSml (pA V) none 0 0 (b : Int) 0 = true := by
      unfold okSml
      rw [show rowP (pA V) none 0 0 = true from rfl, show dgB (rowOf (pA V) none 0) = true from rfl, blt_iff.2 (by omega), decide_eq_true ⟨⟨by omega, by omega⟩, by omega, by omega⟩]
      rfl
    have hg := pw_r3 b n i V g
    rw [ei] at hg
    refine (goesT_runsW (s0 := s) tabPw hg (okCons hk (okCons (by decide) (okL1 hlt)))).mono fun e z hz' => ?_
    obtain ⟨rfl, ⟨g', e1⟩, e2⟩ := hz'
    exact ⟨rfl, .inr ⟨⟨hB.1, by omega⟩, g', V, e1, e2⟩⟩
theorem pw_runs {b n : Nat} (hb : b < 4294967296) (hn : n ≤ 300) : RunsW (tabH Tryd.prog extY conN hcPw) (seqs (pwP Tryd.f30) (.seq (.seq (pwI Tryd.f30) (.block 0 (.loop (pwL Tryd.f30)))) (pwE Tryd.f30))) ([.int .u32 (b : Int), .int .i64 (n : Int)] ++ List.replicate 15 undef, ⟨0, []⟩, []) fun e z => (e = none ∨ e = some none) ∧ ((¬ (b = 0 ∧ 2 ≤ n) ∧ resS Tryd.prog Tryd.f30 z.1 z.2.1 = some (sq0 (b ^ n)) ∧ ∃ r, z.2.1.blk? 0 = some (wU (d16 (b ^ n)) ++ r, tU)) ∨ ((b = 0 ∧ 2 ≤ n) ∧ resS Tryd.prog Tryd.f30 z.1 z.2.1 = some nilS)) := by
  refine goesT_listW tabPw (pw_pre b n) (fun x hx => by cases hx) fun g => ?_
  refine RunsW.seq (P1 := fun e y => e = none ∧ pwS b n n y) ?_ ?_ (fun e y hy => by cases hy.1)
  · refine RunsW.seq (goesT_runsW tabPw (pw_i _ _ _ _ _ _ g _) (fun x hx => by cases hx)) ?_ (fun e y hy => by cases hy.1)
    rintro ⟨t, h', s⟩ ⟨_, ⟨g', ht⟩, hh⟩
    simp only at ht hh
    subst ht hh
    have lp := RunsW.forLoop (T := tabH Tryd.prog extY conN hcPw) (c := pwL Tryd.f30) (id := 0) (P := pwS b n n) (R := fun _ => False) (fun k y => ∃ i, k = n - i ∧ i ≤ n ∧ pwS b n i y) (x := (pwF b n (sq0 1) 0 ++ tl 10 g', pA 1, s)) ?_ (n := n) ⟨0, by omega, by omega, .inl ⟨by omega, g', by rw [Nat.pow_zero]; rfl, by rw [Nat.pow_zero]⟩⟩
    · refine lp.mono fun e z hz => ?_
      match e, hz with
      | none, hz => exact ⟨rfl, hz⟩
      | some none, hz => exact hz.elim
      | some (some _), hz => exact hz.elim
    · rintro k y ⟨i, hk, hi, hy⟩
      by_cases hlt : i < n
      · refine (pw_round hb hn hlt hy).mono fun e z hz => ?_
        obtain ⟨rfl, hz⟩ := hz
        exact ⟨n - (i + 1), by omega, i + 1, rfl, by omega, hz⟩
      · have e : i = n := by omega
        subst e
        obtain ⟨t, h', s⟩ := y
        rcases hy with ⟨hA, g, ht, hh⟩ | ⟨hB, g, V, ht, hh⟩
        · simp only at ht hh
          subst ht hh
          refine (goesT_runsW tabPw (pw_x b i i _ _ g) (okL1 (decide_eq_false (by omega)))).mono fun e z hz => ?_
          obtain ⟨rfl, ⟨g', e1⟩, e2⟩ := hz
          exact ⟨rfl, .inl ⟨hA, g', e1, e2⟩⟩
        · simp only at ht hh
          subst ht hh
          refine (goesT_runsW tabPw (pw_x b i i _ _ g) (okL1 (decide_eq_false (by omega)))).mono fun e z hz => ?_
          obtain ⟨rfl, ⟨g', e1⟩, e2⟩ := hz
          exact ⟨rfl, .inr ⟨hB, g', V, e1, e2⟩⟩
  · rintro ⟨t, h', s⟩ ⟨_, hy⟩
    rcases hy with ⟨hA, g, ht, hh⟩ | ⟨hB, g, V, ht, hh⟩
    · simp only at ht hh
      subst ht hh
      refine (goesT_runsW tabPw (pw_e b n n _ _ g) (fun x hx => by cases hx)).mono fun e z hz => ?_
      obtain ⟨rfl, ⟨g', e1⟩, e2⟩ := hz
      exact ⟨.inr rfl, .inl ⟨hA, by rw [e1, e2]; rfl, [], by rw [e2, List.append_nil]; rfl⟩⟩
    · simp only at ht hh
      subst ht hh
      refine (goesT_runsW tabPw (pw_e b n n _ _ g) (fun x hx => by cases hx)).mono fun e z hz => ?_
      obtain ⟨rfl, ⟨g', e1⟩, e2⟩ := hz
      exact ⟨.inr rfl, .inr ⟨hB, by rw [e1, e2]; rfl⟩⟩
def okPw (b n : Int) : Bool := decide (0 ≤ b ∧ b < 4294967296 ∧ 0 ≤ n ∧ n ≤ 300)
/-- the power, told ahead; 'cmp false': nothing -/
def gUpow : AnsH := fun vals h s =>
  match vals, s with
  | [.int .u32 b, .int .i64 n], .inr (.inr (.inr (.inl d))) :: s' =>
    match d, s' with
    | true, .inr (.inl V) :: s2 => mk16 V.toNat h s2 [(decide (b.toNat ^ n.toNat = V.toNat), true), (okPw b n, true), (decide (b = 0 ∧ 2 ≤ n), false)]
    | false, _ => some (nilS, h, s', [(okPw b n, true), (decide (b = 0 ∧ 2 ≤ n), true)])
    | _, _ => none
  | _, _ => none
theorem gUpow_ok : AnsHOk 30 gUpow := by
  intro vals h s v h' s' lg hg hl m B w E hv
  have hr0 : (⟨0, []⟩ : Hp).rows := ⟨rfl, fun b x hx => by have : b < 0 := Hp.blk_lt hx; omega⟩
  unfold gUpow at hg
  split at hg
  · rename_i b n d s2
    split at hg
    · rename_i V s3
      unfold mk16 at hg
      cases hg
      have l1 := of_decide_eq_true (hl _ List.mem_cons_self)
      have l2 := of_decide_eq_true (hl _ (List.mem_cons_of_mem _ List.mem_cons_self))
      have l3 := hl _ (List.mem_cons_of_mem _ (List.mem_cons_of_mem _ (List.mem_singleton.2 rfl)))
      have l3 := of_decide_eq_false l3
      obtain ⟨b', rfl⟩ := Int.eq_ofNat_of_zero_le l2.1
      obtain ⟨n', rfl⟩ := Int.eq_ofNat_of_zero_le l2.2.2.1
      rw [Int.toNat_natCast, Int.toNat_natCast] at l1
      rw [← l1]
      have r := (pw_runs (b := b') (n := n') (by omega) (by omega)).mono (P' := fun e z => (e = none ∨ e = some none) ∧ resS Tryd.prog Tryd.f30 z.1 z.2.1 = some (sq0 (b' ^ n')) ∧ ∃ r, z.2.1.blk? 0 = some (wU (d16 (b' ^ n')) ++ r, tU)) fun e z hz => ⟨hz.1, by
        rcases hz.2 with ⟨_, q⟩ | ⟨q, _⟩
        · exact q
        · exact absurd q (by omega)⟩
      have := row_calls1 (T := tabH Tryd.prog extY conN hcPw) Tryd.func30 pw_body hr0 (vals := [.int .u32 (b' : Int), .int .i64 (n' : Int)]) (fun v hv => by
        simp only [List.mem_cons, List.not_mem_nil, or_false] at hv
        rcases hv with rfl | rfl <;> rfl) (k := 0) (cs := wU (d16 (b' ^ n'))) (ty := tU) (wU_lt _) (by kernel_rfl) r (by simp [oc, oc2, oc1, sq0, sl]) E (s := fun i => i) (fun i x hx _ => by have : i < 0 := Hp.blk_lt hx; omega)
      exact this
    · cases hg
      have l2 := of_decide_eq_true (hl _ List.mem_cons_self)
      have l3 := of_decide_eq_true (hl _ (List.mem_cons_of_mem _ (List.mem_singleton.2 rfl)))
      obtain ⟨b', rfl⟩ := Int.eq_ofNat_of_zero_le l2.1
      obtain ⟨n', rfl⟩ := Int.eq_ofNat_of_zero_le l2.2.2.1
      have r := (pw_runs (b := b') (n := n') (by omega) (by omega)).mono (P' := fun e z => (e = none ∨ e = some none) ∧ resS Tryd.prog Tryd.f30 z.1 z.2.1 = some nilS) fun e z hz => ⟨hz.1, by
        rcases hz.2 with ⟨q, _⟩ | ⟨_, q⟩
        · exact absurd (show b' = 0 ∧ 2 ≤ n' by omega) q
        · exact q⟩
      have := row_calls0 (T := tabH Tryd.prog extY conN hcPw) Tryd.func30 pw_body hr0 (vals := [.int .u32 (b' : Int), .int .i64 (n' : Int)]) (fun v hv => by
        simp only [List.mem_cons, List.not_mem_nil, or_false] at hv
        rcases hv with rfl | rfl <;> rfl) (v := nilS) (by rfl) r E (s := fun i => i) (fun i x hx _ => by have : i < 0 := Hp.blk_lt hx; omega)
      exact this
    · cases hg
  · cases hg
end Go.Proofs.YtecemjilmlagdaaDoor

/-
  nat.Pow, as a contract.
-/
namespace Go.Proofs.YtecemjilmlagdaaDoor
open Go.KRun Go.Nt
set_option maxRecDepth 100000
set_option linter.unusedVariables false

def qsn (k : Nat) (F : Func) : Code := match k with | 0 => cBody F | k + 1 => cSnd (qsn k F)
def qP (F : Func) : List Code := [cFst (qsn 0 F), cFst (qsn 1 F), cFst (qsn 2 F), cFst (qsn 3 F)]
def qI (F : Func) : Code := cFst (cFst (qsn 4 F))
def qL (F : Func) : Code := cIn (cIn (cSnd (cFst (qsn 4 F))))
def qE (F : Func) : Code := qsn 5 F
theorem np_body : Tryd.f26.body = some (seqs (qP Tryd.f26) (.seq (.seq (qI Tryd.f26) (.block 0 (.loop (qL Tryd.f26)))) (qE Tryd.f26))) := by kernel_rfl
theorem np_body1 : Tryd.f26.body = some (cBody Tryd.f26) := by kernel_rfl
def w32 (m : Nat) (V : Nat) : List Value × TypeId := (wU (dg m (V : Int)), tU)
def s32 (k m V : Nat) : Value := sl k 0 (trimN (dg m (V : Int))) m
def qF (b n : Int) (P O : Value) (i : Int) : List Value := [.int .u32 b, .int .i64 n, .tuple #[], .tuple #[], nilS, .nilIface, P, O, .nilIface, .int .i64 i]
def Q2 (b : Nat) : Hp := ⟨2, [w32 2 b, w32 2 1]⟩
def Q3 (b m V : Nat) : Hp := ⟨3, [w32 m V, w32 2 b, w32 2 1]⟩
def Q4 (b m V M S : Nat) : Hp := ⟨4, [w32 M S, w32 m V, w32 2 b, w32 2 1]⟩
def bitE (n i : Int) : Int := IntKind.i64.wrap ((BitVec.ofInt 64 (n.fdiv (2 ^ min i.toNat 64)) &&& BitVec.ofInt 64 1).toNat : Nat)
def q0F (b n : Int) (O : Value) : List Value := [.int .u32 b, .int .i64 n, .tuple #[], .tuple #[], nilS, .nilIface, s32 0 2 1, O, .nilIface]
theorem np_pre (b : Nat) (n : Int) : GoesT (evL (tabH Tryd.prog extY conPw hcQ) 100 (qP Tryd.f26) ([.int .u32 (b : Int), .int .i64 n] ++ List.replicate 54 undef, ⟨0, []⟩, [cmp false, cmp false]) ⟨[], [], []⟩) 9 47 none (q0F b n (sl 1 0 (trimN (dg 2 (IntKind.u64.wrap (b : Int)))) 2)) ⟨2, [(wU (dg 2 (IntKind.u64.wrap (b : Int))), tU), w32 2 1]⟩ [(decide (0 ≤ IntKind.u64.wrap (b : Int) ∧ IntKind.u64.wrap (b : Int) < 18446744073709551616), true), (decide (0 ≤ (1 : Int) ∧ (1 : Int) < 18446744073709551616), true), (decide (n > 1000000), false), (decide (n < 0), false)] := ⟨by kernel_rfl, by kernel_rfl, by kernel_rfl⟩
theorem np_i (b : Nat) (n : Int) (O : Value) (g : Nat → Value) (h : Hp) : GoesT (evC (tabH Tryd.prog extY conPw hcQ) 100 false (qI Tryd.f26) (q0F b n O ++ tl 47 g, h, []) ⟨[], [], []⟩) 10 46 none (qF b n (s32 0 2 1) O (IntKind.i64.wrap (((bitLen (IntKind.u64.wrap n).toNat : Nat) : Int) - 1))) h [(decide (0 ≤ IntKind.u64.wrap n ∧ IntKind.u64.wrap n < 65536), true)] := ⟨by kernel_rfl, by kernel_rfl, by kernel_rfl⟩
theorem np_bad0 (b n : Int) : GoesT (evC (tabH Tryd.prog extY conPw hcQ) 100 false (cBody Tryd.f26) ([.int .u32 b, .int .i64 n] ++ List.replicate 54 undef, ⟨0, []⟩, [cmp true]) ⟨[], [], []⟩) 6 50 (some none) [.int .u32 b, .int .i64 n, .tuple #[], undef, nilS, errV 1] ⟨0, []⟩ [(decide (n < 0), true)] := ⟨by kernel_rfl, by kernel_rfl, by kernel_rfl⟩
theorem np_bad1 (b n : Int) : GoesT (evC (tabH Tryd.prog extY conPw hcQ) 100 false (cBody Tryd.f26) ([.int .u32 b, .int .i64 n] ++ List.replicate 54 undef, ⟨0, []⟩, [cmp false, cmp true]) ⟨[], [], []⟩) 6 50 (some none) [.int .u32 b, .int .i64 n, .tuple #[], undef, nilS, errV 1] ⟨0, []⟩ [(decide (n > 1000000), true), (decide (n < 0), false)] := ⟨by kernel_rfl, by kernel_rfl, by kernel_rfl⟩
theorem np_a1 (n i : Int) (b m V S : Nat) (g : Nat → Value) : GoesT (evC (tabH Tryd.prog extY conPw hcQ) 100 false (qL Tryd.f26) (qF b n (s32 2 m V) (s32 1 2 b) i ++ tl 46 g, Q3 b m V, [cmp true, cmp false, num S, cmp false]) ⟨[], [], []⟩) 10 46 none (qF b n (s32 3 (trimN (dg m (V : Int)) + trimN (dg m (V : Int))) S) (s32 1 2 b) (IntKind.i64.wrap (i - 1))) (Q4 b m V (trimN (dg m (V : Int)) + trimN (dg m (V : Int))) S) [(bitE n i == 1, false), (decide (i < 0), false), (decide (mulR (rowOf (Q3 b m V) (some ⟨2, 0, none⟩) (trimN (dg m (V : Int)))) (rowOf (Q3 b m V) (some ⟨2, 0, none⟩) (trimN (dg m (V : Int)))) = dg (trimN (dg m (V : Int)) + trimN (dg m (V : Int))) (S : Int)), true), (rowX (Q3 b m V) (some ⟨2, 0, none⟩) (trimN (dg m (V : Int))) (m), true), (rowX (Q3 b m V) (some ⟨2, 0, none⟩) (trimN (dg m (V : Int))) (m), true), (!decide (trimN (dg m (V : Int)) = 0 ∨ trimN (dg m (V : Int)) = 0) && Nat.ble (trimN (dg m (V : Int)) + trimN (dg m (V : Int))) 8192, true), (decide (i ≥ 0), true)] := ⟨by kernel_rfl, by kernel_rfl, by kernel_rfl⟩
theorem np_a2 (n i : Int) (b m V S W : Nat) (g : Nat → Value) : GoesT (evC (tabH Tryd.prog extY conPw hcQ) 100 false (qL Tryd.f26) (qF b n (s32 2 m V) (s32 1 2 b) i ++ tl 46 g, Q3 b m V, [cmp true, cmp false, num S, cmp true, cmp false, num W]) ⟨[], [], []⟩) 10 46 none (qF b n (s32 4 (trimN (dg (trimN (dg m (V : Int)) + trimN (dg m (V : Int))) (S : Int)) + trimN (dg 2 (b : Int))) W) (s32 1 2 b) (IntKind.i64.wrap (i - 1))) ⟨5, [w32 (trimN (dg (trimN (dg m (V : Int)) + trimN (dg m (V : Int))) (S : Int)) + trimN (dg 2 (b : Int))) W, w32 (trimN (dg m (V : Int)) + trimN (dg m (V : Int))) S, w32 m V, w32 2 b, w32 2 1]⟩ [(decide (mulR (rowOf (Q4 b m V (trimN (dg m (V : Int)) + trimN (dg m (V : Int))) S) (some ⟨3, 0, none⟩) (trimN (dg (trimN (dg m (V : Int)) + trimN (dg m (V : Int))) (S : Int)))) (rowOf (Q4 b m V (trimN (dg m (V : Int)) + trimN (dg m (V : Int))) S) (some ⟨1, 0, none⟩) (trimN (dg 2 (b : Int)))) = dg (trimN (dg (trimN (dg m (V : Int)) + trimN (dg m (V : Int))) (S : Int)) + trimN (dg 2 (b : Int))) (W : Int)), true), (rowX (Q4 b m V (trimN (dg m (V : Int)) + trimN (dg m (V : Int))) S) (some ⟨3, 0, none⟩) (trimN (dg (trimN (dg m (V : Int)) + trimN (dg m (V : Int))) (S : Int))) (trimN (dg m (V : Int)) + trimN (dg m (V : Int))), true), (rowX (Q4 b m V (trimN (dg m (V : Int)) + trimN (dg m (V : Int))) S) (some ⟨1, 0, none⟩) (trimN (dg 2 (b : Int))) (2), true), (!decide (trimN (dg (trimN (dg m (V : Int)) + trimN (dg m (V : Int))) (S : Int)) = 0 ∨ trimN (dg 2 (b : Int)) = 0) && Nat.ble (trimN (dg (trimN (dg m (V : Int)) + trimN (dg m (V : Int))) (S : Int)) + trimN (dg 2 (b : Int))) 8192, true), (bitE n i == 1, true), (decide (i < 0), false), (decide (mulR (rowOf (Q3 b m V) (some ⟨2, 0, none⟩) (trimN (dg m (V : Int)))) (rowOf (Q3 b m V) (some ⟨2, 0, none⟩) (trimN (dg m (V : Int)))) = dg (trimN (dg m (V : Int)) + trimN (dg m (V : Int))) (S : Int)), true), (rowX (Q3 b m V) (some ⟨2, 0, none⟩) (trimN (dg m (V : Int))) (m), true), (rowX (Q3 b m V) (some ⟨2, 0, none⟩) (trimN (dg m (V : Int))) (m), true), (!decide (trimN (dg m (V : Int)) = 0 ∨ trimN (dg m (V : Int)) = 0) && Nat.ble (trimN (dg m (V : Int)) + trimN (dg m (V : Int))) 8192, true), (decide (i ≥ 0), true)] := ⟨by kernel_rfl, by kernel_rfl, by kernel_rfl⟩
theorem np_a3 (n i : Int) (b S W : Nat) (g : Nat → Value) : GoesT (evC (tabH Tryd.prog extY conPw hcQ) 100 false (qL Tryd.f26) (qF b n (s32 0 2 1) (s32 1 2 b) i ++ tl 46 g, Q2 b, [cmp true, cmp false, num S, cmp true, cmp false, num W]) ⟨[], [], []⟩) 10 46 none (qF b n (s32 3 (trimN (dg (trimN (dg 2 ((1 : Nat) : Int)) + trimN (dg 2 ((1 : Nat) : Int))) (S : Int)) + trimN (dg 2 (b : Int))) W) (s32 1 2 b) (IntKind.i64.wrap (i - 1))) ⟨4, [w32 (trimN (dg (trimN (dg 2 ((1 : Nat) : Int)) + trimN (dg 2 ((1 : Nat) : Int))) (S : Int)) + trimN (dg 2 (b : Int))) W, w32 (trimN (dg 2 ((1 : Nat) : Int)) + trimN (dg 2 ((1 : Nat) : Int))) S, w32 2 b, w32 2 1]⟩ [(decide (mulR (rowOf (Q3 b (trimN (dg 2 ((1 : Nat) : Int)) + trimN (dg 2 ((1 : Nat) : Int))) S) (some ⟨2, 0, none⟩) (trimN (dg (trimN (dg 2 ((1 : Nat) : Int)) + trimN (dg 2 ((1 : Nat) : Int))) (S : Int)))) (rowOf (Q3 b (trimN (dg 2 ((1 : Nat) : Int)) + trimN (dg 2 ((1 : Nat) : Int))) S) (some ⟨1, 0, none⟩) (trimN (dg 2 (b : Int)))) = dg (trimN (dg (trimN (dg 2 ((1 : Nat) : Int)) + trimN (dg 2 ((1 : Nat) : Int))) (S : Int)) + trimN (dg 2 (b : Int))) (W : Int)), true), (rowX (Q3 b (trimN (dg 2 ((1 : Nat) : Int)) + trimN (dg 2 ((1 : Nat) : Int))) S) (some ⟨2, 0, none⟩) (trimN (dg (trimN (dg 2 ((1 : Nat) : Int)) + trimN (dg 2 ((1 : Nat) : Int))) (S : Int))) (trimN (dg 2 ((1 : Nat) : Int)) + trimN (dg 2 ((1 : Nat) : Int))), true), (rowX (Q3 b (trimN (dg 2 ((1 : Nat) : Int)) + trimN (dg 2 ((1 : Nat) : Int))) S) (some ⟨1, 0, none⟩) (trimN (dg 2 (b : Int))) (2), true), (!decide (trimN (dg (trimN (dg 2 ((1 : Nat) : Int)) + trimN (dg 2 ((1 : Nat) : Int))) (S : Int)) = 0 ∨ trimN (dg 2 (b : Int)) = 0) && Nat.ble (trimN (dg (trimN (dg 2 ((1 : Nat) : Int)) + trimN (dg 2 ((1 : Nat) : Int))) (S : Int)) + trimN (dg 2 (b : Int))) 8192, true), (bitE n i == 1, true), (decide (i < 0), false), (decide (mulR (rowOf (Q2 b) (some ⟨0, 0, none⟩) (trimN (dg 2 ((1 : Nat) : Int)))) (rowOf (Q2 b) (some ⟨0, 0, none⟩) (trimN (dg 2 ((1 : Nat) : Int)))) = dg (trimN (dg 2 ((1 : Nat) : Int)) + trimN (dg 2 ((1 : Nat) : Int))) (S : Int)), true), (rowX (Q2 b) (some ⟨0, 0, none⟩) (trimN (dg 2 ((1 : Nat) : Int))) (2), true), (rowX (Q2 b) (some ⟨0, 0, none⟩) (trimN (dg 2 ((1 : Nat) : Int))) (2), true), (!decide (trimN (dg 2 ((1 : Nat) : Int)) = 0 ∨ trimN (dg 2 ((1 : Nat) : Int)) = 0) && Nat.ble (trimN (dg 2 ((1 : Nat) : Int)) + trimN (dg 2 ((1 : Nat) : Int))) 8192, true), (decide (i ≥ 0), true)] := ⟨by kernel_rfl, by kernel_rfl, by kernel_rfl⟩
theorem np_a4 (n i : Int) (b S : Nat) (g : Nat → Value) : GoesT (evC (tabH Tryd.prog extY conPw hcQ) 100 false (qL Tryd.f26) (qF b n (s32 0 2 1) (s32 1 2 b) i ++ tl 46 g, Q2 b, [cmp true, cmp false, num S, cmp true, cmp true]) ⟨[], [], []⟩) 10 46 none (qF b n nilS (s32 1 2 b) (IntKind.i64.wrap (i - 1))) (Q3 b (trimN (dg 2 ((1 : Nat) : Int)) + trimN (dg 2 ((1 : Nat) : Int))) S) [(decide (trimN (dg (trimN (dg 2 ((1 : Nat) : Int)) + trimN (dg 2 ((1 : Nat) : Int))) (S : Int)) = 0 ∨ trimN (dg 2 (b : Int)) = 0), true), (bitE n i == 1, true), (decide (i < 0), false), (decide (mulR (rowOf (Q2 b) (some ⟨0, 0, none⟩) (trimN (dg 2 ((1 : Nat) : Int)))) (rowOf (Q2 b) (some ⟨0, 0, none⟩) (trimN (dg 2 ((1 : Nat) : Int)))) = dg (trimN (dg 2 ((1 : Nat) : Int)) + trimN (dg 2 ((1 : Nat) : Int))) (S : Int)), true), (rowX (Q2 b) (some ⟨0, 0, none⟩) (trimN (dg 2 ((1 : Nat) : Int))) (2), true), (rowX (Q2 b) (some ⟨0, 0, none⟩) (trimN (dg 2 ((1 : Nat) : Int))) (2), true), (!decide (trimN (dg 2 ((1 : Nat) : Int)) = 0 ∨ trimN (dg 2 ((1 : Nat) : Int)) = 0) && Nat.ble (trimN (dg 2 ((1 : Nat) : Int)) + trimN (dg 2 ((1 : Nat) : Int))) 8192, true), (decide (i ≥ 0), true)] := ⟨by kernel_rfl, by kernel_rfl, by kernel_rfl⟩
theorem np_a5 (n i : Int) (b m V : Nat) (g : Nat → Value) : GoesT (evC (tabH Tryd.prog extY conPw hcQ) 100 false (qL Tryd.f26) (qF b n nilS (s32 1 2 b) i ++ tl 46 g, Q3 b m V, [cmp true, cmp true, cmp false]) ⟨[], [], []⟩) 10 46 none (qF b n nilS (s32 1 2 b) (IntKind.i64.wrap (i - 1))) (Q3 b m V) [(bitE n i == 1, false), (decide (i < 0), false), (decide (0 = 0 ∨ 0 = 0), true), (decide (i ≥ 0), true)] := ⟨by kernel_rfl, by kernel_rfl, by kernel_rfl⟩
theorem np_a6 (n i : Int) (b m V : Nat) (g : Nat → Value) : GoesT (evC (tabH Tryd.prog extY conPw hcQ) 100 false (qL Tryd.f26) (qF b n nilS (s32 1 2 b) i ++ tl 46 g, Q3 b m V, [cmp true, cmp true, cmp true, cmp true]) ⟨[], [], []⟩) 10 46 none (qF b n nilS (s32 1 2 b) (IntKind.i64.wrap (i - 1))) (Q3 b m V) [(decide (0 = 0 ∨ trimN (dg 2 (b : Int)) = 0), true), (bitE n i == 1, true), (decide (i < 0), false), (decide (0 = 0 ∨ 0 = 0), true), (decide (i ≥ 0), true)] := ⟨by kernel_rfl, by kernel_rfl, by kernel_rfl⟩
theorem np_x (n i : Int) (b : Nat) (P O : Value) (h : Hp) (g : Nat → Value) : GoesT (evC (tabH Tryd.prog extY conPw hcQ) 100 false (qL Tryd.f26) (qF b n P O i ++ tl 46 g, h, [cmp false]) ⟨[], [], []⟩) 10 46 (some (some 0)) (qF b n P O i) h [(decide (i ≥ 0), false)] := ⟨by kernel_rfl, by kernel_rfl, by kernel_rfl⟩
theorem np_e (n i : Int) (b : Nat) (P O : Value) (h : Hp) (g : Nat → Value) : GoesT (evC (tabH Tryd.prog extY conPw hcQ) 100 false (qE Tryd.f26) (qF b n P O i ++ tl 46 g, h, []) ⟨[], [], []⟩) 6 50 (some none) [.int .u32 (b : Int), .int .i64 n, .tuple #[], .tuple #[], P, .nilIface] h [] := ⟨by kernel_rfl, by kernel_rfl, by kernel_rfl⟩

/-! ### its numbers -/
def nw (V : Nat) : Nat := (d32 V).length
def pM (b j : Nat) : Nat := if j = 0 then 2 else if j % 2 = 1 then nw (b ^ (j - 1)) + nw b else nw (b ^ (j / 2)) + nw (b ^ (j / 2))
theorem tabQ : TabOk (tabH Tryd.prog extY conPw hcQ) := tabH_ok conPw_ok hcQ_ok
theorem nw_le {V k : Nat} (h : V < 4294967296 ^ k) : nw V ≤ k := db_len (by omega) k V h
theorem nw_lt (V : Nat) : V < 4294967296 ^ nw V := by
  have := vb_lt (b := 4294967296) (by omega) (d32 V) (db_dg (by omega) V)
  rw [show vb 4294967296 (d32 V) = V from vb_db (by omega) V] at this
  exact this
theorem nw_pos {V : Nat} (h : 0 < V) : 0 < nw V := (db_pos_len (by omega)).2 h
theorem nw_zero : nw 0 = 0 := by unfold nw d32; rw [db_zero]; rfl
theorem tn_nw {m V : Nat} (h : V < 4294967296 ^ m) (hm : m ≤ 1000) : trimN (dg m (V : Int)) = nw V :=
  (isRd (H := ⟨1, [w32 m V]⟩) (b := 0) rfl h hm).2.2.2.1
theorem pow_w {b j : Nat} (hb : b < 4294967296) (hj : 1 ≤ j) : b ^ j < 4294967296 ^ j := Nat.pow_lt_pow_left hb (by omega)
theorem nw_pow {b j : Nat} (hb : b < 4294967296) : nw (b ^ j) ≤ j + 1 := by
  by_cases h : 1 ≤ j
  · have := nw_le (pow_w hb h); omega
  · have : j = 0 := by omega
    subst this
    rw [Nat.pow_zero]
    exact nw_le (by decide)
theorem bitE_eq {n i : Nat} (hn : n < 65536) (hi : i < 64) : bitE (n : Int) (i : Int) = ((n / 2 ^ i % 2 : Nat) : Int) := by
  have e : (n : Int).fdiv (2 ^ min (i : Int).toNat 64) = ((n / 2 ^ i : Nat) : Int) := by
    rw [Int.toNat_natCast, show min i 64 = i by omega, Int.fdiv_eq_ediv_of_nonneg _ (Int.le_of_lt (Int.pow_pos (by omega)))]
    simp
  have hl : n / 2 ^ i ≤ n := Nat.div_le_self _ _
  unfold bitE
  rw [e, BitVec.toNat_and, show (BitVec.ofInt 64 1).toNat = 1 from rfl, Nat.and_one_is_mod, BitVec.toNat_ofInt]
  have h2 : ((2 ^ 64 : Nat) : Int) = 18446744073709551616 := rfl
  rw [wrapI (by omega) (by omega)]
  omega
theorem base2 (b : Nat) {h : Hp} (h0 : h.blk? 0 = some (w32 2 1)) (h1 : h.blk? 1 = some (w32 2 b)) : ∀ i x, (⟨2, [w32 2 b, w32 2 1]⟩ : Hp).blk? i = some x → h.blk? i = some x ∧ ∀ v ∈ x.1, still v = true := by
  intro i x hx
  have hi : i < 2 := Hp.blk_lt hx
  match i, hi, hx with
  | 0, _, hx =>
    have e : x = w32 2 1 := (Option.some.inj hx).symm
    subst e
    exact ⟨h0, wU_still _⟩
  | 1, _, hx =>
    have e : x = w32 2 b := (Option.some.inj hx).symm
    subst e
    exact ⟨h1, wU_still _⟩
theorem qF_lt (b n : Int) {P O : Value} (i : Int) (hP : lt 3 P = true) (hO : lt 3 O = true) : ∀ v ∈ qF b n P O i, lt 3 v = true := by
  intro v hv
  unfold qF at hv
  simp only [List.mem_cons, List.not_mem_nil, or_false] at hv
  rcases hv with rfl | rfl | rfl | rfl | rfl | rfl | rfl | rfl | rfl | rfl <;> first | rfl | exact hP | exact hO
/-- what there is with k bits to come -/
def nS (b n k : Nat) (y : Lf) : Prop := ∃ g, (n / 2 ^ k = 0 ∧ y.1 = qF b n (s32 0 2 1) (s32 1 2 b) ((k : Int) - 1) ++ tl 46 g ∧ y.2.1 = Q2 b) ∨
  (1 ≤ n / 2 ^ k ∧ 0 < b ∧ y.1 = qF b n (s32 2 (pM b (n / 2 ^ k)) (b ^ (n / 2 ^ k))) (s32 1 2 b) ((k : Int) - 1) ++ tl 46 g ∧ y.2.1 = Q3 b (pM b (n / 2 ^ k)) (b ^ (n / 2 ^ k))) ∨
  (1 ≤ n / 2 ^ k ∧ b = 0 ∧ ∃ m V, y.1 = qF b n nilS (s32 1 2 b) ((k : Int) - 1) ++ tl 46 g ∧ y.2.1 = Q3 b m V)
theorem pM_ok {b j : Nat} (hb : b < 4294967296) (hb0 : 0 < b) (hj : j ≤ 300) (hj0 : 1 ≤ j) : b ^ j < 4294967296 ^ pM b j ∧ pM b j ≤ 1000 := by
  unfold pM
  rw [if_neg (by omega)]
  by_cases h : j % 2 = 1
  · rw [if_pos h]
    have e : b ^ j = b ^ (j - 1) * b := by rw [← Nat.pow_succ]; congr 1; omega
    have l1 := nw_lt (b ^ (j - 1))
    have l2 := nw_lt b
    have k1 := nw_pow (b := b) (j := j - 1) hb
    have k2 : nw b ≤ 1 := nw_le (by omega)
    refine ⟨?_, by omega⟩
    rw [e, Nat.pow_add]
    exact Nat.mul_lt_mul'' l1 l2
  · rw [if_neg h]
    have e : b ^ j = b ^ (j / 2) * b ^ (j / 2) := by rw [← Nat.pow_add]; congr 1; omega
    have l1 := nw_lt (b ^ (j / 2))
    have k1 := nw_pow (b := b) (j := j / 2) hb
    refine ⟨?_, by omega⟩
    rw [e, Nat.pow_add]
    exact Nat.mul_lt_mul'' l1 l1
theorem nz_ok2 {x y : Nat} (hx : 0 < x) (hy : 0 < y) (h : x + y ≤ 8192) : (!decide (x = 0 ∨ y = 0) && Nat.ble (x + y) 8192) = true := by
  rw [decide_eq_false (by omega), Nat.ble_eq_true_of_le h]
  rfl
theorem np_round {b n k : Nat} (hb : b < 4294967296) (hn : n ≤ 300) (hk : k ≤ 20) {y : Lf} (h : nS b n (k + 1) y) (ht : n / 2 ^ (k + 1) = 0 → n / 2 ^ k % 2 = 1) : RunsW (tabH Tryd.prog extY conPw hcQ) (qL Tryd.f26) y fun e z => e = none ∧ nS b n k z := by
  obtain ⟨t, h', s⟩ := y
  obtain ⟨i, hi⟩ : ∃ i : Int, i = ((k + 1 : Nat) : Int) - 1 := ⟨_, rfl⟩
  have hik : i = (k : Int) := by omega
  have hi0 : i ≥ 0 := by omega
  have hiF : decide (i < 0) = false := decide_eq_false (by omega)
  have ei : IntKind.i64.wrap (i - 1) = (k : Int) - 1 := by rw [wrapI (by omega) (by omega)]; omega
  have eb : bitE (n : Int) i = ((n / 2 ^ k % 2 : Nat) : Int) := by rw [hik]; exact bitE_eq (by omega) (by omega)
  have dd : n / 2 ^ k = 2 * (n / 2 ^ (k + 1)) + n / 2 ^ k % 2 := by
    rw [Nat.pow_succ, ← Nat.div_div_eq_div_mul]
    omega
  have jn : n / 2 ^ k ≤ 300 := Nat.le_trans (Nat.div_le_self _ _) hn
  have kb : nw b ≤ 1 := nw_le (by omega)
  have tb := tn_nw (m := 2) (V := b) (by have : (4294967296 : Nat) ^ 2 = 18446744073709551616 := rfl; omega) (by omega)
  have lt1 : KRun.lt 3 (s32 1 2 b) = true := rfl
  have bN : b < 4294967296 ^ 2 := by have : (4294967296 : Nat) ^ 2 = 18446744073709551616 := rfl; omega
  generalize hj : n / 2 ^ (k + 1) = j at *
  generalize hj' : n / 2 ^ k = j' at *
  obtain ⟨g, hy⟩ := h
  rw [hj] at hy
  rcases hy with ⟨j0, ht', hh⟩ | ⟨j1, b0, ht', hh⟩ | ⟨j1, b0, m, V, ht', hh⟩
  · have hbit := ht j0
    have j'1 : j' = 1 := by omega
    simp only at ht' hh
    rw [← hi] at ht'
    subst ht' hh
    have hbt : (bitE (n : Int) i == 1) = true := by rw [eb, hbit]; rfl
    have n1 : trimN (dg 2 ((1 : Nat) : Int)) = 1 := by decide
    have r1 := isRd (H := Q2 b) (b := 0) (V := 1) (m := 2) rfl (by decide) (by omega)
    have z1 : (!decide (trimN (dg 2 ((1 : Nat) : Int)) = 0 ∨ trimN (dg 2 ((1 : Nat) : Int)) = 0) && Nat.ble (trimN (dg 2 ((1 : Nat) : Int)) + trimN (dg 2 ((1 : Nat) : Int))) 8192) = true := nz_ok2 (by omega) (by omega) (by omega)
    by_cases b0 : 0 < b
    · have e2 : trimN (dg (trimN (dg 2 ((1 : Nat) : Int)) + trimN (dg 2 ((1 : Nat) : Int))) ((1 : Nat) : Int)) = 1 := by decide
      have r2 := isRd (H := Q3 b (trimN (dg 2 ((1 : Nat) : Int)) + trimN (dg 2 ((1 : Nat) : Int))) 1) (b := 2) (V := 1) (m := trimN (dg 2 ((1 : Nat) : Int)) + trimN (dg 2 ((1 : Nat) : Int))) rfl (by decide) (by omega)
      have r3 := isRd (H := Q3 b (trimN (dg 2 ((1 : Nat) : Int)) + trimN (dg 2 ((1 : Nat) : Int))) 1) (b := 1) (V := b) (m := 2) rfl bN (by omega)
      have pb := nw_pos b0
      have hg := np_a3 n i b 1 (1 * b) g
      rw [ei] at hg
      have z2 := nz_ok2 (x := trimN (dg (trimN (dg 2 ((1 : Nat) : Int)) + trimN (dg 2 ((1 : Nat) : Int))) ((1 : Nat) : Int))) (y := trimN (dg 2 (b : Int))) (by omega) (by omega) (by omega)
      have hp : pM b 1 = trimN (dg (trimN (dg 2 ((1 : Nat) : Int)) + trimN (dg 2 ((1 : Nat) : Int))) ((1 : Nat) : Int)) + trimN (dg 2 (b : Int)) := by
        rw [e2, tb]
        unfold pM
        rw [if_neg (by omega), if_pos (by omega), Nat.sub_self, Nat.pow_zero]
        rw [show nw 1 = 1 from by
          have := tn_nw (m := 2) (V := 1) (by decide) (by omega)
          rw [← this]
          exact n1]
      have run := goesT_runsW (s0 := s) tabQ hg (okCons (rMul r2 r3) (okCons (rX r2) (okCons (rX r3) (okCons z2 (okCons hbt (okCons hiF (okCons (rMul r1 r1) (okCons (rX r1) (okCons (rX r1) (okCons z1 (okL1 (decide_eq_true hi0))))))))))))
      rw [← hp, Nat.one_mul] at run
      have := run.kept (k := 2) (b := 3) (base := [w32 2 b, w32 2 1]) (y := w32 (pM b 1) b) (front' := qF b n (s32 2 (pM b 1) b) (s32 1 2 b) ((k : Int) - 1)) rfl (by kernel_rfl) (base2 b rfl rfl) rfl (by omega) (wU_still _) (qF_lt _ _ _ rfl rfl)
      refine this.mono fun e z hz => ?_
      obtain ⟨rfl, ⟨g', e1⟩, e2'⟩ := hz
      refine ⟨rfl, g', .inr (.inl ⟨by omega, b0, ?_, ?_⟩)⟩
      · rw [hj', j'1, Nat.pow_one]; exact e1
      · rw [hj', j'1, Nat.pow_one]; exact e2'
    · have bz : b = 0 := by omega
      have hg := np_a4 n i b 1 g
      rw [ei] at hg
      have run := goesT_runsW (s0 := s) tabQ hg (okCons (decide_eq_true (.inr (by rw [tb, bz, nw_zero]))) (okCons hbt (okCons hiF (okCons (rMul r1 r1) (okCons (rX r1) (okCons (rX r1) (okCons z1 (okL1 (decide_eq_true hi0)))))))))
      refine run.mono fun e z hz => ?_
      obtain ⟨rfl, ⟨g', e1⟩, e2'⟩ := hz
      exact ⟨rfl, g', .inr (.inr ⟨by rw [hj']; omega, bz, _, _, e1, e2'⟩)⟩
  · simp only at ht' hh
    rw [← hi] at ht'
    have hm : pM b j = pM b j := rfl
    obtain ⟨m, em⟩ : ∃ m, m = pM b j := ⟨_, rfl⟩
    obtain ⟨V, eV⟩ : ∃ V, V = b ^ j := ⟨_, rfl⟩
    rw [← em, ← eV] at ht' hh
    obtain ⟨p1, p2⟩ := pM_ok hb b0 (show j ≤ 300 by omega) j1
    rw [← em, ← eV] at p1
    rw [← em] at p2
    subst ht' hh
    have V0 : 0 < V := by rw [eV]; exact Nat.pow_pos b0
    have tV := tn_nw p1 p2
    have pV := nw_pos V0
    have lV : nw V ≤ j + 1 := by rw [eV]; exact nw_pow hb
    have r1 := isRd (H := Q3 b m V) (b := 2) (V := V) (m := m) rfl p1 p2
    have z1 := nz_ok2 (x := trimN (dg m (V : Int))) (y := trimN (dg m (V : Int))) (by omega) (by omega) (by omega)
    have eS : V * V = b ^ (2 * j) := by rw [eV, ← Nat.pow_add]; congr 1; omega
    by_cases hbit : j' % 2 = 1
    · have hbt : (bitE (n : Int) i == 1) = true := by rw [eb, hbit]; rfl
      have j'e : j' = 2 * j + 1 := by omega
      have pb := nw_pos b0
      obtain ⟨S, hS⟩ : ∃ S, S = V * V := ⟨_, rfl⟩
      have sB : S < 4294967296 ^ (trimN (dg m (V : Int)) + trimN (dg m (V : Int))) := by
        rw [hS, Nat.pow_add, tV]
        exact Nat.mul_lt_mul'' (nw_lt V) (nw_lt V)
      have sm : trimN (dg m (V : Int)) + trimN (dg m (V : Int)) ≤ 1000 := by omega
      have tS := tn_nw sB sm
      have S0 : 0 < S := by rw [hS]; exact Nat.mul_pos V0 V0
      have pS := nw_pos S0
      have lS : nw S ≤ 2 * j + 1 := by rw [hS, eS]; exact nw_pow hb
      have r2 := isRd (H := Q4 b m V (trimN (dg m (V : Int)) + trimN (dg m (V : Int))) S) (b := 3) (V := S) (m := trimN (dg m (V : Int)) + trimN (dg m (V : Int))) rfl sB sm
      have r3 := isRd (H := Q4 b m V (trimN (dg m (V : Int)) + trimN (dg m (V : Int))) S) (b := 1) (V := b) (m := 2) rfl bN (by omega)
      have z2 := nz_ok2 (x := trimN (dg (trimN (dg m (V : Int)) + trimN (dg m (V : Int))) (S : Int))) (y := trimN (dg 2 (b : Int))) (by omega) (by omega) (by omega)
      have rm := rMul r1 r1
      rw [← hS] at rm
      have hg := np_a2 n i b m V S (S * b) g
      rw [ei] at hg
      have hp : pM b j' = trimN (dg (trimN (dg m (V : Int)) + trimN (dg m (V : Int))) (S : Int)) + trimN (dg 2 (b : Int)) := by
        rw [tS, tb]
        unfold pM
        rw [if_neg (by omega), if_pos hbit, hS, eS, j'e, Nat.add_sub_cancel]
      have run := goesT_runsW (s0 := s) tabQ hg (okCons (rMul r2 r3) (okCons (rX r2) (okCons (rX r3) (okCons z2 (okCons hbt (okCons hiF (okCons rm (okCons (rX r1) (okCons (rX r1) (okCons z1 (okL1 (decide_eq_true hi0))))))))))))
      have hW : S * b = b ^ j' := by rw [hS, eS, j'e, Nat.pow_succ]
      rw [← hp, hW] at run
      have := run.kept (k := 2) (b := 4) (base := [w32 2 b, w32 2 1]) (y := w32 (pM b j') (b ^ j')) (front' := qF b n (s32 2 (pM b j') (b ^ j')) (s32 1 2 b) ((k : Int) - 1)) rfl (by kernel_rfl) (base2 b rfl rfl) rfl (by omega) (wU_still _) (qF_lt _ _ _ rfl rfl)
      refine this.mono fun e z hz => ?_
      obtain ⟨rfl, ⟨g', e1⟩, e2'⟩ := hz
      refine ⟨rfl, g', .inr (.inl ⟨by omega, b0, ?_, ?_⟩)⟩
      · rw [hj']; exact e1
      · rw [hj']; exact e2'
    · have hbt : (bitE (n : Int) i == 1) = false := by rw [eb, show j' % 2 = 0 by omega]; rfl
      have j'e : j' = 2 * j := by omega
      have hg := np_a1 n i b m V (V * V) g
      rw [ei] at hg
      have hp : pM b j' = trimN (dg m (V : Int)) + trimN (dg m (V : Int)) := by
        rw [tV, eV]
        unfold pM
        rw [if_neg (by omega), if_neg hbit, j'e, Nat.mul_div_cancel_left _ (by omega)]
      have run := goesT_runsW (s0 := s) tabQ hg (okCons hbt (okCons hiF (okCons (rMul r1 r1) (okCons (rX r1) (okCons (rX r1) (okCons z1 (okL1 (decide_eq_true hi0))))))))
      have hW : V * V = b ^ j' := by rw [eS, j'e]
      rw [← hp, hW] at run
      have := run.kept (k := 2) (b := 3) (base := [w32 2 b, w32 2 1]) (y := w32 (pM b j') (b ^ j')) (front' := qF b n (s32 2 (pM b j') (b ^ j')) (s32 1 2 b) ((k : Int) - 1)) rfl (by kernel_rfl) (base2 b rfl rfl) rfl (by omega) (wU_still _) (qF_lt _ _ _ rfl rfl)
      refine this.mono fun e z hz => ?_
      obtain ⟨rfl, ⟨g', e1⟩, e2'⟩ := hz
      refine ⟨rfl, g', .inr (.inl ⟨by omega, b0, ?_, ?_⟩)⟩
      · rw [hj']; exact e1
      · rw [hj']; exact e2'
  · simp only at ht' hh
    rw [← hi] at ht'
    subst ht' hh
    by_cases hbit : j' % 2 = 1
    · have hbt : (bitE (n : Int) i == 1) = true := by rw [eb, hbit]; rfl
      have hg := np_a6 n i b m V g
      rw [ei] at hg
      refine (goesT_runsW (s0 := s) tabQ hg (okCons (decide_eq_true (.inl rfl)) (okCons hbt (okCons hiF (okCons (by decide) (okL1 (decide_eq_true hi0))))))).mono fun e z hz => ?_
      obtain ⟨rfl, ⟨g', e1⟩, e2'⟩ := hz
      exact ⟨rfl, g', .inr (.inr ⟨by rw [hj']; omega, b0, m, V, e1, e2'⟩)⟩
    · have hbt : (bitE (n : Int) i == 1) = false := by rw [eb, show j' % 2 = 0 by omega]; rfl
      have hg := np_a5 n i b m V g
      rw [ei] at hg
      refine (goesT_runsW (s0 := s) tabQ hg (okCons hbt (okCons hiF (okCons (by decide) (okL1 (decide_eq_true hi0)))))).mono fun e z hz => ?_
      obtain ⟨rfl, ⟨g', e1⟩, e2'⟩ := hz
      exact ⟨rfl, g', .inr (.inr ⟨by rw [hj']; omega, b0, m, V, e1, e2'⟩)⟩
end Go.Proofs.YtecemjilmlagdaaDoor

/-
  nat.Shl, as a call with a row or nothing.
-/
namespace Go.Proofs.YtecemjilmlagdaaDoor
open Go.KRun Go.Nt
set_option maxRecDepth 100000

def fN (k : Int) (e : Value) : List Value := [nilS, i6' k, undef, undef, nilS, e]
theorem shlN_neg (k : Int) : GoesT (evC (tabH Tryd.prog extY conN hcS) 200 false (cBody Tryd.f27) ([nilS, i6' k] ++ List.replicate 45 undef, ⟨0, []⟩, [cmp true]) ⟨[], [], []⟩) 6 41 (some none) (fN k (errV 1)) ⟨0, []⟩ [(decide (k < 0), true)] := ⟨by kernel_rfl, by kernel_rfl, by kernel_rfl⟩
theorem shlN_nil (k : Int) : GoesT (evC (tabH Tryd.prog extY conN hcS) 200 false (cBody Tryd.f27) ([nilS, i6' k] ++ List.replicate 45 undef, ⟨0, []⟩, [cmp false]) ⟨[], [], []⟩) 6 41 (some none) (fN k .nilIface) ⟨0, []⟩ [(decide (k < 0), false)] := ⟨by kernel_rfl, by kernel_rfl, by kernel_rfl⟩
def shlE (d : Bool) : Value := match d with | true => errV 1 | false => .nilIface
theorem shlN_runs (k : Int) (d : Bool) (hd : decide (k < 0) = d) : Runs (tabH Tryd.prog extY conN hcS) (cBody Tryd.f27) ([nilS, i6' k] ++ List.replicate 45 undef, ⟨0, []⟩, []) fun e' y => (e' = none ∨ e' = some none) ∧ resS Tryd.prog Tryd.f27 y.1 y.2.1 = some (.tuple #[nilS, shlE d]) := by
  cases d with
  | true =>
    refine (goesT_runs (tabH_ok conN_ok hcS_ok) (shlN_neg k) (okOne hd)).mono fun e' y he => ?_
    obtain ⟨rfl, ⟨g, e2⟩, e3⟩ := he
    refine ⟨.inr rfl, ?_⟩
    rw [e2, e3]
    rfl
  | false =>
    refine (goesT_runs (tabH_ok conN_ok hcS_ok) (shlN_nil k) (okOne hd)).mono fun e' y he => ?_
    obtain ⟨rfl, ⟨g, e2⟩, e3⟩ := he
    refine ⟨.inr rfl, ?_⟩
    rw [e2, e3]
    rfl
def gShlX : AnsH := fun vals h s =>
  match vals with
  | [.slice none 0 0, .int .i64 k] =>
    match s with
    | .inr (.inr (.inr (.inl d))) :: s' => some (.tuple #[nilS, shlE d], h, s', [(decide (k < 0), d)])
    | _ => none
  | _ => gShl vals h s
theorem gShlX_ok : AnsHOk 27 gShlX := by
  intro vals h s v h' s' lg hg hl m B w E hv
  unfold gShlX at hg
  split at hg
  · rename_i k
    split at hg
    · rename_i d s2
      cases hg
      have hd := hl _ (List.mem_singleton.2 rfl)
      have e0 : rn (fun b => b) (.tuple #[nilS, shlE d]) = .tuple #[nilS, shlE d] := by cases d <;> exact rn_still (by rfl)
      have := row_calls (T := tabH Tryd.prog extY conN hcS) Tryd.func27 shl_body (h0 := ⟨0, []⟩) ⟨rfl, fun b x hb => absurd (Hp.blk_lt hb) (Nat.not_lt_zero _)⟩ (vals := [nilS, i6' k]) (fun v hv => by
        simp only [List.mem_cons, List.not_mem_nil, or_false] at hv
        rcases hv with rfl | rfl <;> rfl) (by cases d <;> rfl) (shlN_runs k d hd) E (s := fun b => b) (fun i hi => absurd hi (Nat.not_lt_zero _)) (fun i x hi => absurd (Hp.blk_lt hi) (Nat.not_lt_zero _))
      rw [e0] at this
      exact this.mono fun e w' he => ⟨m, he.1, he.2⟩
    · cases hg
  · exact gShl_ok _ _ _ _ _ _ _ hg hl m B w E hv
end Go.Proofs.YtecemjilmlagdaaDoor
