/-
  The document's Pow (tillerref02), as a contract.
-/
import Derived.Test.YtbjgkhbhabdjgaaDoorG30
import Derived.Test.YtbjgkhbhabdjgaaDoorG29
import Derived.Test.YtbjgkhbhabdjgaaDoorG27
namespace Go.Proofs.YtbjgkhbhabdjgaaDoor
open Go.KRun Go.Nt
set_option maxRecDepth 100000
set_option linter.unusedVariables false

def pwP (F : Func) : List Code := [cFst (cBody F), cFst (cSnd (cBody F))]
def pwI (F : Func) : Code := cFst (cFst (cSnd (cSnd (cBody F))))
def pwL (F : Func) : Code := cIn (cIn (cSnd (cFst (cSnd (cSnd (cBody F))))))
def pwE (F : Func) : Code := cSnd (cSnd (cSnd (cBody F)))
theorem pw_body : Tryd.f30.body = some (seqs (pwP Tryd.f30) (.seq (.seq (pwI Tryd.f30) (.block 0 (.loop (pwL Tryd.f30)))) (pwE Tryd.f30))) := by kernel_rfl
def wq (V : Nat) : List Value × TypeId := (wU (d16 V), tU)
def sq0 (V : Nat) : Value := sl 0 0 (d16 V).length (d16 V).length
def pwF (b n : Int) (out : Value) (i : Int) : List Value := [.int .u32 b, .int .i64 n, .tuple #[], .tuple #[], nilS, out, .int .i64 i]
theorem pw_pre (b n : Int) : GoesT (evL (tabH Tryd.prog extY conN hcPw) 100 (pwP Tryd.f30) ([.int .u32 b, .int .i64 n] ++ List.replicate 15 undef, ⟨0, []⟩, []) ⟨[], [], []⟩) 6 11 none [.int .u32 b, .int .i64 n, .tuple #[], .tuple #[], nilS, sq0 1] ⟨1, [wq 1]⟩ [] := ⟨by kernel_rfl, by kernel_rfl, by kernel_rfl⟩
theorem pw_i (v0 v1 v2 v3 v4 v5 : Value) (g : Nat → Value) (h : Hp) : GoesT (evC (tabH Tryd.prog extY conN hcPw) 100 false (pwI Tryd.f30) ([v0, v1, v2, v3, v4, v5] ++ tl 11 g, h, []) ⟨[], [], []⟩) 7 10 none [v0, v1, v2, v3, v4, v5, .int .i64 0] h [] := ⟨by kernel_rfl, by kernel_rfl, by kernel_rfl⟩
def pA (V : Nat) : Hp := ⟨1, [wq V]⟩
theorem pw_r1 (b n i : Int) (V W : Nat) (g : Nat → Value) : GoesT (evC (tabH Tryd.prog extY conN hcPw) 100 false (pwL Tryd.f30) (pwF b n (sq0 V) i ++ tl 10 g, pA V, [cmp true, cmp true, num W]) ⟨[], [], []⟩) 7 10 none (pwF b n (sl 1 0 (d16 W).length (d16 W).length) (IntKind.i64.wrap (i + 1))) ⟨2, [wq W, wq V]⟩ [(decide (vO (pA V) (some ⟨0, 0, none⟩) (d16 V).length * b.toNat + (0 : Int).toNat = W), true), (okSml (pA V) (some ⟨0, 0, none⟩) (d16 V).length (d16 V).length b 0, true), (decide (0 < (d16 V).length ∨ 0 < (0 : Int)), true), (decide (i < n), true)] := ⟨by kernel_rfl, by kernel_rfl, by kernel_rfl⟩
theorem pw_r2 (b n i : Int) (V : Nat) (g : Nat → Value) : GoesT (evC (tabH Tryd.prog extY conN hcPw) 100 false (pwL Tryd.f30) (pwF b n (sq0 V) i ++ tl 10 g, pA V, [cmp true, cmp false]) ⟨[], [], []⟩) 7 10 none (pwF b n nilS (IntKind.i64.wrap (i + 1))) (pA V) [(okSml (pA V) (some ⟨0, 0, none⟩) (d16 V).length (d16 V).length b 0, true), (decide (0 < (d16 V).length ∨ 0 < (0 : Int)), false), (decide (i < n), true)] := ⟨by kernel_rfl, by kernel_rfl, by kernel_rfl⟩
theorem pw_r3 (b n i : Int) (V : Nat) (g : Nat → Value) : GoesT (evC (tabH Tryd.prog extY conN hcPw) 100 false (pwL Tryd.f30) (pwF b n nilS i ++ tl 10 g, pA V, [cmp true, cmp false]) ⟨[], [], []⟩) 7 10 none (pwF b n nilS (IntKind.i64.wrap (i + 1))) (pA V) [(okSml (pA V) none 0 0 b 0, true), (decide (0 < 0 ∨ 0 < (0 : Int)), false), (decide (i < n), true)] := ⟨by kernel_rfl, by kernel_rfl, by kernel_rfl⟩
theorem pw_x (b n i : Int) (v : Value) (h : Hp) (g : Nat → Value) : GoesT (evC (tabH Tryd.prog extY conN hcPw) 100 false (pwL Tryd.f30) (pwF b n v i ++ tl 10 g, h, [cmp false]) ⟨[], [], []⟩) 7 10 (some (some 0)) (pwF b n v i) h [(decide (i < n), false)] := ⟨by kernel_rfl, by kernel_rfl, by kernel_rfl⟩
theorem pw_e (b n i : Int) (v : Value) (h : Hp) (g : Nat → Value) : GoesT (evC (tabH Tryd.prog extY conN hcPw) 100 false (pwE Tryd.f30) (pwF b n v i ++ tl 10 g, h, []) ⟨[], [], []⟩) 5 12 (some none) [.int .u32 b, .int .i64 n, .tuple #[], .tuple #[], v] h [] := ⟨by kernel_rfl, by kernel_rfl, by kernel_rfl⟩
/-- what there is behind i rounds -/
def pwS (b n i : Nat) (y : Lf) : Prop := (¬ (b = 0 ∧ 2 ≤ i) ∧ ∃ g, y.1 = pwF b n (sq0 (b ^ i)) i ++ tl 10 g ∧ y.2.1 = pA (b ^ i)) ∨ ((b = 0 ∧ 2 ≤ i) ∧ ∃ g V, y.1 = pwF b n nilS i ++ tl 10 g ∧ y.2.1 = pA V)
theorem tabPw : TabOk (tabH Tryd.prog extY conN hcPw) := tabH_ok conN_ok hcPw_ok
theorem pow_lt {b i k : Nat} (hb : b < 4294967296) (hi : 2 * i < k) : b ^ i < 2 ^ (16 * k) := by
  have h1 : b ^ i ≤ (2 ^ 32) ^ i := Nat.pow_le_pow_left (by have : (2 : Nat) ^ 32 = 4294967296 := rfl; omega) i
  rw [← Nat.pow_mul] at h1
  exact Nat.lt_of_le_of_lt h1 (Nat.pow_lt_pow_right (by omega) (by omega))
theorem pwF_lt (b n : Int) {s : Value} (i : Int) (hs : lt 1 s = true) : ∀ v ∈ pwF b n s i, lt 1 v = true := by
  intro v hv
  unfold pwF at hv
  simp only [List.mem_cons, List.not_mem_nil, or_false] at hv
  rcases hv with rfl | rfl | rfl | rfl | rfl | rfl | rfl <;> first | rfl | exact hs
theorem pw_round {b n i : Nat} (hb : b < 4294967296) (hn : n ≤ 300) (hi : i < n) {y : Lf} (h : pwS b n i y) : RunsW (tabH Tryd.prog extY conN hcPw) (pwL Tryd.f30) y fun e z => e = none ∧ pwS b n (i + 1) z := by
  obtain ⟨t, h', s⟩ := y
  have ei : IntKind.i64.wrap ((i : Int) + 1) = ((i + 1 : Nat) : Int) := by rw [wrapI (by omega) (by omega)]; omega
  have hlt : decide ((i : Int) < (n : Int)) = true := decide_eq_true (by omega)
  rcases h with ⟨hA, g, ht, hh⟩ | ⟨hB, g, V, ht, hh⟩
  · simp only at ht hh
    subst ht hh
    have lV := d16_len (pow_lt (b := b) (i := i) (k := 2 * i + 1) hb (by omega))
    have hk : okSml (pA (b ^ i)) (some ⟨0, 0, none⟩) (d16 (b ^ i)).length (d16 (b ^ i)).length (b : Int) 0 = true := by
      unfold okSml
      rw [rowP_d16 (h := pA (b ^ i)) (b := 0) (A := b ^ i) rfl (by omega), dgB_d16 (h := pA (b ^ i)) (b := 0) (A := b ^ i) (ty := tU) rfl, blt_iff.2 (by omega), decide_eq_true ⟨⟨by omega, by omega⟩, by omega, by omega⟩]
      rfl
    by_cases hz : b ^ i = 0
    · have h1 : ¬ 0 < (d16 (b ^ i)).length := by rw [hz, show d16 0 = [] from db_zero 65536]; decide
      have hg := pw_r2 b n i (b ^ i) g
      rw [ei] at hg
      refine (goesT_runsW (s0 := s) tabPw hg (okCons hk (okCons (decide_eq_false (by omega)) (okL1 hlt)))).mono fun e z hz' => ?_
      obtain ⟨rfl, ⟨g', e1⟩, e2⟩ := hz'
      have b0 : b = 0 := by
        rcases Nat.eq_zero_or_pos b with h0 | h0
        · exact h0
        · have := Nat.pow_pos (n := i) h0; omega
      have i1 : 1 ≤ i := by
        rcases Nat.eq_zero_or_pos i with h0 | h0
        · subst h0; rw [Nat.pow_zero] at hz; omega
        · exact h0
      exact ⟨rfl, .inr ⟨⟨b0, by omega⟩, g', _, e1, e2⟩⟩
    · have h1 : 0 < (d16 (b ^ i)).length := by
        unfold d16
        rw [List.length_pos_iff, ne_eq, db_nil (by omega)]
        exact hz
      have hg := pw_r1 b n i (b ^ i) (b ^ (i + 1)) g
      rw [ei] at hg
      have := (goesT_runsW (s0 := s) tabPw hg (okCons (decide_eq_true (by rw [vO_d16 (h := pA (b ^ i)) (b := 0) (A := b ^ i) (ty := tU) rfl, Nat.pow_succ]; rfl)) (okCons hk (okCons (decide_eq_true (.inl h1)) (okL1 hlt))))).kept (k := 0) (b := 1) (base := []) (y := wq (b ^ (i + 1))) (front' := pwF b n (sq0 (b ^ (i + 1))) ((i + 1 : Nat) : Int)) rfl (by kernel_rfl) (fun j x hx => by have : j < 0 := Hp.blk_lt hx; omega) rfl (by omega) (wU_still _) (pwF_lt _ _ _ rfl)
      refine this.mono fun e z hz' => ?_
      obtain ⟨rfl, ⟨g', e1⟩, e2⟩ := hz'
      refine ⟨rfl, .inl ⟨fun hc => ?_, g', e1, e2⟩⟩
      obtain ⟨b0, i2⟩ := hc
      apply hz
      rw [b0, Nat.zero_pow (by omega)]
  · simp only at ht hh
    subst ht hh
    have hk : okSml (pA V) none 0 0 (b : Int) 0 = true := by
      unfold okSml
      rw [show rowP (pA V) none 0 0 = true from rfl, show dgB (rowOf (pA V) none 0) = true from rfl, blt_iff.2 (by omega), decide_eq_true ⟨⟨by omega, by omega⟩, by omega, by omega⟩]
      rfl
    have hg := pw_r3 b n i V g
    rw [ei] at hg
    refine (goesT_runsW (s0 := s) tabPw hg (okCons hk (okCons (by decide) (okL1 hlt)))).mono fun e z hz' => ?_
    obtain ⟨rfl, ⟨g', e1⟩, e2⟩ := hz'
    exact ⟨rfl, .inr ⟨⟨hB.1, by omega⟩, g', V, e1, e2⟩⟩
theorem pw_runs {b n : Nat} (hb : b < 4294967296) (hn : n ≤ 300) : RunsW (tabH Tryd.prog extY conN hcPw) (seqs (pwP Tryd.f30) (.seq (.seq (pwI Tryd.f30) (.block 0 (.loop (pwL Tryd.f30)))) (pwE Tryd.f30))) ([.int .u32 (b : Int), .int .i64 (n : Int)] ++ List.replicate 15 undef, ⟨0, []⟩, []) fun e z => (e = none ∨ e = some none) ∧ ((¬ (b = 0 ∧ 2 ≤ n) ∧ resS Tryd.prog Tryd.f30 z.1 z.2.1 = some (sq0 (b ^ n)) ∧ ∃ r, z.2.1.blk? 0 = some (wU (d16 (b ^ n)) ++ r, tU)) ∨ ((b = 0 ∧ 2 ≤ n) ∧ resS Tryd.prog Tryd.f30 z.1 z.2.1 = some nilS)) := by
  refine goesT_listW tabPw (pw_pre b n) (fun x hx => by cases hx) fun g => ?_
  refine RunsW.seq (P1 := fun e y => e = none ∧ pwS b n n y) ?_ ?_ (fun e y hy => by cases hy.1)
  · refine RunsW.seq (goesT_runsW tabPw (pw_i _ _ _ _ _ _ g _) (fun x hx => by cases hx)) ?_ (fun e y hy => by cases hy.1)
    rintro ⟨t, h', s⟩ ⟨_, ⟨g', ht⟩, hh⟩
    simp only at ht hh
    subst ht hh
    have lp := RunsW.forLoop (T := tabH Tryd.prog extY conN hcPw) (c := pwL Tryd.f30) (id := 0) (P := pwS b n n) (R := fun _ => False) (fun k y => ∃ i, k = n - i ∧ i ≤ n ∧ pwS b n i y) (x := (pwF b n (sq0 1) 0 ++ tl 10 g', pA 1, s)) ?_ (n := n) ⟨0, by omega, by omega, .inl ⟨by omega, g', by rw [Nat.pow_zero]; rfl, by rw [Nat.pow_zero]⟩⟩
    · refine lp.mono fun e z hz => ?_
      match e, hz with
      | none, hz => exact ⟨rfl, hz⟩
      | some none, hz => exact hz.elim
      | some (some _), hz => exact hz.elim
    · rintro k y ⟨i, hk, hi, hy⟩
      by_cases hlt : i < n
      · refine (pw_round hb hn hlt hy).mono fun e z hz => ?_
        obtain ⟨rfl, hz⟩ := hz
        exact ⟨n - (i + 1), by omega, i + 1, rfl, by omega, hz⟩
      · have e : i = n := by omega
        subst e
        obtain ⟨t, h', s⟩ := y
        rcases hy with ⟨hA, g, ht, hh⟩ | ⟨hB, g, V, ht, hh⟩
        · simp only at ht hh
          subst ht hh
          refine (goesT_runsW tabPw (pw_x b i i _ _ g) (okL1 (decide_eq_false (by omega)))).mono fun e z hz => ?_
          obtain ⟨rfl, ⟨g', e1⟩, e2⟩ := hz
          exact ⟨rfl, .inl ⟨hA, g', e1, e2⟩⟩
        · simp only at ht hh
          subst ht hh
          refine (goesT_runsW tabPw (pw_x b i i _ _ g) (okL1 (decide_eq_false (by omega)))).mono fun e z hz => ?_
          obtain ⟨rfl, ⟨g', e1⟩, e2⟩ := hz
          exact ⟨rfl, .inr ⟨hB, g', V, e1, e2⟩⟩
  · rintro ⟨t, h', s⟩ ⟨_, hy⟩
    rcases hy with ⟨hA, g, ht, hh⟩ | ⟨hB, g, V, ht, hh⟩
    · simp only at ht hh
      subst ht hh
      refine (goesT_runsW tabPw (pw_e b n n _ _ g) (fun x hx => by cases hx)).mono fun e z hz => ?_
      obtain ⟨rfl, ⟨g', e1⟩, e2⟩ := hz
      exact ⟨.inr rfl, .inl ⟨hA, by rw [e1, e2]; rfl, [], by rw [e2, List.append_nil]; rfl⟩⟩
    · simp only at ht hh
      subst ht hh
      refine (goesT_runsW tabPw (pw_e b n n _ _ g) (fun x hx => by cases hx)).mono fun e z hz => ?_
      obtain ⟨rfl, ⟨g', e1⟩, e2⟩ := hz
      exact ⟨.inr rfl, .inr ⟨hB, by rw [e1, e2]; rfl⟩⟩
def okPw (b n : Int) : Bool := decide (0 ≤ b ∧ b < 4294967296 ∧ 0 ≤ n ∧ n ≤ 300)
/-- the power, told ahead; 'cmp false': nothing -/
def gUpow : AnsH := fun vals h s =>
  match vals, s with
  | [.int .u32 b, .int .i64 n], .inr (.inr (.inr (.inl d))) :: s' =>
    match d, s' with
    | true, .inr (.inl V) :: s2 => mk16 V.toNat h s2 [(decide (b.toNat ^ n.toNat = V.toNat), true), (okPw b n, true), (decide (b = 0 ∧ 2 ≤ n), false)]
    | false, _ => some (nilS, h, s', [(okPw b n, true), (decide (b = 0 ∧ 2 ≤ n), true)])
    | _, _ => none
  | _, _ => none
theorem gUpow_ok : AnsHOk 30 gUpow := by
  intro vals h s v h' s' lg hg hl m B w E hv
  have hr0 : (⟨0, []⟩ : Hp).rows := ⟨rfl, fun b x hx => by have : b < 0 := Hp.blk_lt hx; omega⟩
  unfold gUpow at hg
  split at hg
  · rename_i b n d s2
    split at hg
    · rename_i V s3
      unfold mk16 at hg
      cases hg
      have l1 := of_decide_eq_true (hl _ List.mem_cons_self)
      have l2 := of_decide_eq_true (hl _ (List.mem_cons_of_mem _ List.mem_cons_self))
      have l3 := hl _ (List.mem_cons_of_mem _ (List.mem_cons_of_mem _ (List.mem_singleton.2 rfl)))
      have l3 := of_decide_eq_false l3
      obtain ⟨b', rfl⟩ := Int.eq_ofNat_of_zero_le l2.1
      obtain ⟨n', rfl⟩ := Int.eq_ofNat_of_zero_le l2.2.2.1
      rw [Int.toNat_natCast, Int.toNat_natCast] at l1
      rw [← l1]
      have r := (pw_runs (b := b') (n := n') (by omega) (by omega)).mono (P' := fun e z => (e = none ∨ e = some none) ∧ resS Tryd.prog Tryd.f30 z.1 z.2.1 = some (sq0 (b' ^ n')) ∧ ∃ r, z.2.1.blk? 0 = some (wU (d16 (b' ^ n')) ++ r, tU)) fun e z hz => ⟨hz.1, by
        rcases hz.2 with ⟨_, q⟩ | ⟨q, _⟩
        · exact q
        · exact absurd q (by omega)⟩
      have := row_calls1 (T := tabH Tryd.prog extY conN hcPw) Tryd.func30 pw_body hr0 (vals := [.int .u32 (b' : Int), .int .i64 (n' : Int)]) (fun v hv => by
        simp only [List.mem_cons, List.not_mem_nil, or_false] at hv
        rcases hv with rfl | rfl <;> rfl) (k := 0) (cs := wU (d16 (b' ^ n'))) (ty := tU) (wU_lt _) (by kernel_rfl) r (by simp [oc, oc2, oc1, sq0, sl]) E (s := fun i => i) (fun i x hx _ => by have : i < 0 := Hp.blk_lt hx; omega)
      exact this
    · cases hg
      have l2 := of_decide_eq_true (hl _ List.mem_cons_self)
      have l3 := of_decide_eq_true (hl _ (List.mem_cons_of_mem _ (List.mem_singleton.2 rfl)))
      obtain ⟨b', rfl⟩ := Int.eq_ofNat_of_zero_le l2.1
      obtain ⟨n', rfl⟩ := Int.eq_ofNat_of_zero_le l2.2.2.1
      have r := (pw_runs (b := b') (n := n') (by omega) (by omega)).mono (P' := fun e z => (e = none ∨ e = some none) ∧ resS Tryd.prog Tryd.f30 z.1 z.2.1 = some nilS) fun e z hz => ⟨hz.1, by
        rcases hz.2 with ⟨q, _⟩ | ⟨_, q⟩
        · exact absurd (show b' = 0 ∧ 2 ≤ n' by omega) q
        · exact q⟩
      have := row_calls0 (T := tabH Tryd.prog extY conN hcPw) Tryd.func30 pw_body hr0 (vals := [.int .u32 (b' : Int), .int .i64 (n' : Int)]) (fun v hv => by
        simp only [List.mem_cons, List.not_mem_nil, or_false] at hv
        rcases hv with rfl | rfl <;> rfl) (v := nilS) (by rfl) r E (s := fun i => i) (fun i x hx _ => by have : i < 0 := Hp.blk_lt hx; omega)
      exact this
    · cases hg
  · cases hg
end Go.Proofs.YtbjgkhbhabdjgaaDoor

/-
  The document's Parse (tillerref02), as a contract.
-/
namespace Go.Proofs.YtbjgkhbhabdjgaaDoor
open Go.KRun Go.Nt
set_option maxRecDepth 100000

def rpP (F : Func) : List Code := [cFst (cBody F), cFst (cSnd (cBody F))]
def rpI (F : Func) : Code := cFst (cFst (cSnd (cSnd (cBody F))))
def rpL (F : Func) : Code := cIn (cIn (cSnd (cFst (cSnd (cSnd (cBody F))))))
def rpE (F : Func) : Code := cSnd (cSnd (cSnd (cBody F)))
theorem rp_body : Tryd.f34.body = some (seqs (rpP Tryd.f34) (.seq (.seq (rpI Tryd.f34) (.block 0 (.loop (rpL Tryd.f34)))) (rpE Tryd.f34))) := by kernel_rfl
def rpF (s : ByteArray) (out : Value) (i : Int) : List Value := [.string s, undef, nilS, .bool false, out, .int .i64 i]
def byI9 (s : ByteArray) (i : Int) : Int := ((s.data.toList.getD i.toNat 0).toNat : Nat)
theorem rp_pre (s : ByteArray) : GoesT (evL (tabH Tryd.prog extY conN hcPw) 100 (rpP Tryd.f34) ([.string s] ++ List.replicate 32 undef, ⟨0, []⟩, []) ⟨[], [], []⟩) 5 28 none [.string s, undef, nilS, .bool false, nilS] ⟨0, []⟩ [] := ⟨by kernel_rfl, by kernel_rfl, by kernel_rfl⟩
theorem rp_i (s : ByteArray) (h : Hp) (g : Nat → Value) : GoesT (evC (tabH Tryd.prog extY conN hcPw) 100 false (rpI Tryd.f34) ([.string s, undef, nilS, .bool false, nilS] ++ tl 28 g, h, []) ⟨[], [], []⟩) 6 27 none (rpF s nilS 0) h [] := ⟨by kernel_rfl, by kernel_rfl, by kernel_rfl⟩
theorem rp_x (s : ByteArray) (out : Value) (i : Int) (h : Hp) (g : Nat → Value) : GoesT (evC (tabH Tryd.prog extY conN hcPw) 100 false (rpL Tryd.f34) (rpF s out i ++ tl 27 g, h, [cmp false]) ⟨[], [], []⟩) 6 27 (some (some 0)) (rpF s out i) h [(decide (i < s.size), false)] := ⟨by kernel_rfl, by kernel_rfl, by kernel_rfl⟩
theorem rp_b1 (s : ByteArray) (out : Value) (i : Int) (h : Hp) (g : Nat → Value) : GoesT (evC (tabH Tryd.prog extY conN hcPw) 100 false (rpL Tryd.f34) (rpF s out i ++ tl 27 g, h, [cmp true, cmp true]) ⟨[], [], []⟩) 4 29 (some none) [.string s, undef, nilS, .bool false] h [(decide ((byI9 s i) < 48), true), (decide (0 ≤ i ∧ i.toNat < s.data.toList.length), true), (decide (i < s.size), true)] := ⟨by kernel_rfl, by kernel_rfl, by kernel_rfl⟩
theorem rp_b2 (s : ByteArray) (out : Value) (i : Int) (h : Hp) (g : Nat → Value) : GoesT (evC (tabH Tryd.prog extY conN hcPw) 100 false (rpL Tryd.f34) (rpF s out i ++ tl 27 g, h, [cmp true, cmp false, cmp true]) ⟨[], [], []⟩) 4 29 (some none) [.string s, undef, nilS, .bool false] h [(decide ((byI9 s i) > 57), true), (decide (0 ≤ i ∧ i.toNat < s.data.toList.length), true), (decide ((byI9 s i) < 48), false), (decide (0 ≤ i ∧ i.toNat < s.data.toList.length), true), (decide (i < s.size), true)] := ⟨by kernel_rfl, by kernel_rfl, by kernel_rfl⟩
def dgI9 (s : ByteArray) (i : Int) : Int := IntKind.u32.wrap (IntKind.u8.wrap ((byI9 s i) - 48))
theorem rp_r0 (s : ByteArray) (i : Int) (g : Nat → Value) : GoesT (evC (tabH Tryd.prog extY conN hcPw) 100 false (rpL Tryd.f34) (rpF s nilS i ++ tl 27 g, ⟨0, []⟩, [cmp true, cmp false, cmp false, cmp false]) ⟨[], [], []⟩) 6 27 none (rpF s nilS (IntKind.i64.wrap (i + 1))) ⟨0, []⟩ [(okSml ⟨0, []⟩ none 0 0 10 (dgI9 s i), true), (decide (0 < 0 ∨ 0 < dgI9 s i), false), (decide (0 ≤ i ∧ i.toNat < s.data.toList.length), true), (decide ((byI9 s i) > 57), false), (decide (0 ≤ i ∧ i.toNat < s.data.toList.length), true), (decide ((byI9 s i) < 48), false), (decide (0 ≤ i ∧ i.toNat < s.data.toList.length), true), (decide (i < s.size), true)] := ⟨by kernel_rfl, by kernel_rfl, by kernel_rfl⟩
theorem rp_r1 (s : ByteArray) (i : Int) (W : Nat) (g : Nat → Value) : GoesT (evC (tabH Tryd.prog extY conN hcPw) 100 false (rpL Tryd.f34) (rpF s nilS i ++ tl 27 g, ⟨0, []⟩, [cmp true, cmp false, cmp false, cmp true, num W]) ⟨[], [], []⟩) 6 27 none (rpF s (sq0 W) (IntKind.i64.wrap (i + 1))) (pA W) [(decide (vO ⟨0, []⟩ none 0 * (10 : Int).toNat + (dgI9 s i).toNat = W), true), (okSml ⟨0, []⟩ none 0 0 10 (dgI9 s i), true), (decide (0 < 0 ∨ 0 < dgI9 s i), true), (decide (0 ≤ i ∧ i.toNat < s.data.toList.length), true), (decide ((byI9 s i) > 57), false), (decide (0 ≤ i ∧ i.toNat < s.data.toList.length), true), (decide ((byI9 s i) < 48), false), (decide (0 ≤ i ∧ i.toNat < s.data.toList.length), true), (decide (i < s.size), true)] := ⟨by kernel_rfl, by kernel_rfl, by kernel_rfl⟩
theorem rp_r2 (s : ByteArray) (i : Int) (V : Nat) (W : Nat) (g : Nat → Value) : GoesT (evC (tabH Tryd.prog extY conN hcPw) 100 false (rpL Tryd.f34) (rpF s (sq0 V) i ++ tl 27 g, pA V, [cmp true, cmp false, cmp false, cmp true, num W]) ⟨[], [], []⟩) 6 27 none (rpF s (sl 1 0 (d16 W).length (d16 W).length) (IntKind.i64.wrap (i + 1))) ⟨2, [wq W, wq V]⟩ [(decide (vO (pA V) (some ⟨0, 0, none⟩) (d16 V).length * (10 : Int).toNat + (dgI9 s i).toNat = W), true), (okSml (pA V) (some ⟨0, 0, none⟩) (d16 V).length (d16 V).length 10 (dgI9 s i), true), (decide (0 < (d16 V).length ∨ 0 < dgI9 s i), true), (decide (0 ≤ i ∧ i.toNat < s.data.toList.length), true), (decide ((byI9 s i) > 57), false), (decide (0 ≤ i ∧ i.toNat < s.data.toList.length), true), (decide ((byI9 s i) < 48), false), (decide (0 ≤ i ∧ i.toNat < s.data.toList.length), true), (decide (i < s.size), true)] := ⟨by kernel_rfl, by kernel_rfl, by kernel_rfl⟩
theorem rp_e (s : ByteArray) (out : Value) (d : Bool) (i : Int) (h : Hp) (g : Nat → Value) : GoesT (evC (tabH Tryd.prog extY conN hcPw) 100 false (rpE Tryd.f34) (rpF s out i ++ tl 27 g, h, [cmp d]) ⟨[], [], []⟩) 4 29 (some none) [.string s, undef, out, .bool d] h [(decide ((s.size : Int) > 0), d)] := ⟨by kernel_rfl, by kernel_rfl, by kernel_rfl⟩
/-- what there is behind i letters -/
def rpS (s : ByteArray) (i : Nat) (y : Lf) : Prop := (∀ j, j < i → oddI (byT s j) = false) ∧ ((rdV10 (dgF s) i = 0 ∧ ∃ g, y.1 = rpF s nilS i ++ tl 27 g ∧ y.2.1 = ⟨0, []⟩) ∨ (0 < rdV10 (dgF s) i ∧ ∃ g, y.1 = rpF s (sq0 (rdV10 (dgF s) i)) i ++ tl 27 g ∧ y.2.1 = pA (rdV10 (dgF s) i)))
def rpO (s : ByteArray) (y : Lf) : Prop := rpS s s.size y
def rpB (s : ByteArray) (y : Lf) : Prop := ¬ allD s ∧ ∃ h g, y.1 = [.string s, undef, nilS, .bool false] ++ tl 29 g ∧ y.2.1 = h
theorem odd_no {c : Int} (h : oddI c = false) : 48 ≤ c ∧ c ≤ 57 := by
  unfold oddI at h
  simp only [Bool.or_eq_false_iff, decide_eq_false_iff_not] at h
  omega
theorem len10 {s : ByteArray} {i : Nat} (hd : ∀ j, j < i → oddI (byT s j) = false) : (d16 (rdV10 (dgF s) i)).length ≤ i + 1 := by
  have h := rdV10_lt (f := dgF s) i (fun j hj => by have := odd_no (hd j hj); unfold dgF; omega)
  refine d16_len (Nat.lt_of_lt_of_le h ?_)
  have h1 : (10 : Nat) ^ i ≤ 16 ^ i := Nat.pow_le_pow_left (by omega) i
  have h2 : (16 : Nat) ^ i = 2 ^ (4 * i) := by rw [Nat.pow_mul]
  have h3 : (2 : Nat) ^ (4 * i) ≤ 2 ^ (16 * (i + 1)) := Nat.pow_le_pow_right (by omega) (by omega)
  omega
theorem rp_round {s : ByteArray} (h2 : s.size ≤ 20000) (r : Nat) (y : Lf) (h : ∃ i, i ≤ s.size ∧ r = s.size - i ∧ rpS s i y) :
    RunsW (tabH Tryd.prog extY conN hcPw) (rpL Tryd.f34) y fun e z => match e with | none => ∃ r', r' < r ∧ ∃ i, i ≤ s.size ∧ r' = s.size - i ∧ rpS s i z | some none => rpB s z | some (some id') => id' = 0 ∧ rpO s z := by
  obtain ⟨i, hi, hr, hd, hS⟩ := h
  obtain ⟨t, h', sc⟩ := y
  by_cases hc : i < s.size
  · have lA : decide (((i : Nat) : Int) < s.size) = true := decide_eq_true (by omega)
    have lI : decide ((0 : Int) ≤ (i : Nat) ∧ ((i : Nat) : Int).toNat < s.data.toList.length) = true := decide_eq_true ⟨by omega, by rw [Int.toNat_natCast]; exact hc⟩
    have eB : byI9 s (i : Nat) = byT s i := by unfold byI9 byT; rw [Int.toNat_natCast]
    have ew : IntKind.i64.wrap (((i : Nat) : Int) + 1) = ((i + 1 : Nat) : Int) := by rw [wrapI (by omega) (by omega)]; omega
    -- the state, whatever out is
    have bad : oddI (byT s i) = true → ∀ (out : Value) (g : Nat → Value), RunsW (tabH Tryd.prog extY conN hcPw) (rpL Tryd.f34) (rpF s out i ++ tl 27 g, h', sc) fun e z => match e with | none => ∃ r', r' < r ∧ ∃ i, i ≤ s.size ∧ r' = s.size - i ∧ rpS s i z | some none => rpB s z | some (some id') => id' = 0 ∧ rpO s z := fun ho out g => by
      have hna : ¬ allD s := fun ha => by rw [ha i hc] at ho; cases ho
      by_cases h1 : byT s i < 48
      · refine (goesT_runsW (s0 := sc) tabPw (rp_b1 s out (i : Nat) h' g) (okCons (decide_eq_true (by rw [eB]; exact h1)) (okCons lI (okL1 lA)))).mono fun e z he => ?_
        obtain ⟨rfl, ⟨g', z1⟩, z2⟩ := he
        exact ⟨hna, h', g', z1, z2⟩
      · have h3 : byT s i > 57 := by
          unfold oddI at ho
          simp only [Bool.or_eq_true, decide_eq_true_eq] at ho
          omega
        refine (goesT_runsW (s0 := sc) tabPw (rp_b2 s out (i : Nat) h' g) (okCons (decide_eq_true (by rw [eB]; exact h3)) (okCons lI (okCons (decide_eq_false (by rw [eB]; exact h1)) (okCons lI (okL1 lA)))))).mono fun e z he => ?_
        obtain ⟨rfl, ⟨g', z1⟩, z2⟩ := he
        exact ⟨hna, h', g', z1, z2⟩
    cases ho : oddI (byT s i) with
    | true =>
      rcases hS with ⟨_, g, ht, _⟩ | ⟨_, g, ht, _⟩
      · simp only at ht
        subst ht
        exact bad ho _ g
      · simp only at ht
        subst ht
        exact bad ho _ g
    | false =>
      have hb := odd_no ho
      have hd' : ∀ j, j < i + 1 → oddI (byT s j) = false := fun j hj => by
        by_cases h3 : j = i
        · rw [h3]; exact ho
        · exact hd j (by omega)
      have eD : dgI9 s (i : Nat) = dgF s i := by
        unfold dgI9 dgF
        rw [eB]
        simp [IntKind.wrap, IntKind.bits, IntKind.signed]
        omega
      have bD : 0 ≤ dgF s i ∧ dgF s i < 10 := by unfold dgF; omega
      have f1 : decide (byI9 s (i : Nat) < 48) = false := decide_eq_false (by rw [eB]; omega)
      have f2 : decide (byI9 s (i : Nat) > 57) = false := decide_eq_false (by rw [eB]; omega)
      have eV : rdV10 (dgF s) (i + 1) = 10 * rdV10 (dgF s) i + (dgF s i).toNat := rfl
      have k0 : okSml ⟨0, []⟩ none 0 0 10 (dgI9 s (i : Nat)) = true := by
        unfold okSml
        rw [eD, decide_eq_true ⟨⟨by omega, by omega⟩, by omega, by omega⟩]
        rfl
      rcases hS with ⟨hz, g, ht, hh⟩ | ⟨hz, g, ht, hh⟩
      · simp only at ht hh
        subst ht hh
        rw [hz] at eV
        by_cases hd0 : dgF s i = 0
        · have hg := rp_r0 s (i : Nat) g
          rw [ew] at hg
          refine (goesT_runsW (s0 := sc) tabPw hg (okCons k0 (okCons (decide_eq_false (by rw [eD]; omega)) (okCons lI (okCons f2 (okCons lI (okCons f1 (okCons lI (okL1 lA))))))))).mono fun e z he => ?_
          obtain ⟨rfl, ⟨g', z1⟩, z2⟩ := he
          exact ⟨s.size - (i + 1), by omega, i + 1, by omega, rfl, hd', .inl ⟨by rw [eV, hd0]; rfl, g', z1, z2⟩⟩
        · have hg := rp_r1 s (i : Nat) (rdV10 (dgF s) (i + 1)) g
          rw [ew] at hg
          have q1 : decide (vO ⟨0, []⟩ none 0 * (10 : Int).toNat + (dgI9 s (i : Nat)).toNat = rdV10 (dgF s) (i + 1)) = true := decide_eq_true (by rw [eD, eV, show vO ⟨0, []⟩ none 0 = 0 from rfl]; omega)
          refine (goesT_runsW (s0 := sc) tabPw hg (okCons q1 (okCons k0 (okCons (decide_eq_true (by rw [eD]; omega)) (okCons lI (okCons f2 (okCons lI (okCons f1 (okCons lI (okL1 lA)))))))))).mono fun e z he => ?_
          obtain ⟨rfl, ⟨g', z1⟩, z2⟩ := he
          exact ⟨s.size - (i + 1), by omega, i + 1, by omega, rfl, hd', .inr ⟨by rw [eV]; omega, g', z1, z2⟩⟩
      · simp only at ht hh
        subst ht hh
        have lV := len10 hd
        obtain ⟨V, hV⟩ : ∃ V, V = rdV10 (dgF s) i := ⟨_, rfl⟩
        rw [← hV] at eV lV hz
        have h1 : 0 < (d16 V).length := by
          unfold d16
          rw [List.length_pos_iff, ne_eq, db_nil (by omega)]
          omega
        have k1 : okSml (pA V) (some ⟨0, 0, none⟩) (d16 V).length (d16 V).length 10 (dgI9 s (i : Nat)) = true := by
          unfold okSml
          rw [rowP_d16 (h := pA V) (b := 0) (A := V) rfl (by omega), dgB_d16 (h := pA V) (b := 0) (A := V) (ty := tU) rfl, blt_iff.2 (by omega), eD, decide_eq_true ⟨⟨by omega, by omega⟩, by omega, by omega⟩]
          rfl
        have q1 : decide (vO (pA V) (some ⟨0, 0, none⟩) (d16 V).length * (10 : Int).toNat + (dgI9 s (i : Nat)).toNat = rdV10 (dgF s) (i + 1)) = true := decide_eq_true (by rw [vO_d16 (h := pA V) (b := 0) (A := V) (ty := tU) rfl, eD, eV, show (10 : Int).toNat = 10 from rfl]; omega)
        have hg := rp_r2 s (i : Nat) V (rdV10 (dgF s) (i + 1)) g
        rw [ew] at hg
        rw [← hV]
        refine ((goesT_runsW (s0 := sc) tabPw hg (okCons q1 (okCons k1 (okCons (decide_eq_true (.inl h1)) (okCons lI (okCons f2 (okCons lI (okCons f1 (okCons lI (okL1 lA)))))))))).kept (k := 0) (b := 1) (base := []) (y := wq (rdV10 (dgF s) (i + 1))) (front' := rpF s (sq0 (rdV10 (dgF s) (i + 1))) ((i + 1 : Nat) : Int)) rfl (by kernel_rfl) (fun j x hx => by have : j < 0 := Hp.blk_lt hx; omega) rfl (by omega) (List.all_eq_true.1 (wU_allS _)) (by
          intro v hv
          simp only [rpF, List.mem_cons, List.not_mem_nil, or_false] at hv
          rcases hv with rfl | rfl | rfl | rfl | rfl | rfl <;> rfl)).mono fun e z he => ?_
        obtain ⟨rfl, ⟨g', z1⟩, z2⟩ := he
        exact ⟨s.size - (i + 1), by omega, i + 1, by omega, rfl, hd', .inr ⟨by rw [eV]; omega, g', z1, z2⟩⟩
  · have his : i = s.size := by omega
    have out : ∀ (o : Value) (g : Nat → Value), RunsW (tabH Tryd.prog extY conN hcPw) (rpL Tryd.f34) (rpF s o i ++ tl 27 g, h', sc) fun e z => e = some (some 0) ∧ (∃ g, z.1 = rpF s o i ++ tl 27 g) ∧ z.2.1 = h' := fun o g => goesT_runsW (s0 := sc) tabPw (rp_x s o (i : Nat) h' g) (okL1 (decide_eq_false (by omega)))
    rcases hS with ⟨hz, g, ht, hh⟩ | ⟨hz, g, ht, hh⟩
    · simp only at ht hh
      subst ht
      refine (out _ g).mono fun e z he => ?_
      obtain ⟨rfl, ⟨g', z1⟩, z2⟩ := he
      refine ⟨rfl, ?_⟩
      unfold rpO
      rw [← his]
      exact ⟨hd, .inl ⟨hz, g', z1, z2.trans hh⟩⟩
    · simp only at ht hh
      subst ht
      refine (out _ g).mono fun e z he => ?_
      obtain ⟨rfl, ⟨g', z1⟩, z2⟩ := he
      refine ⟨rfl, ?_⟩
      unfold rpO
      rw [← his]
      exact ⟨hd, .inr ⟨hz, g', z1, z2.trans hh⟩⟩
/-- what the document's Parse answers -/
def rpV (s : ByteArray) (k : Nat) : Value := if okP s = true then (if psV s = 0 then .tuple #[nilS, .bool true] else .tuple #[sl k 0 (d16 (psV s)).length (d16 (psV s)).length, .bool true]) else .tuple #[nilS, .bool false]
theorem rparse_runs {s : ByteArray} (h2 : s.size ≤ 20000) : RunsW (tabH Tryd.prog extY conN hcPw) (seqs (rpP Tryd.f34) (.seq (.seq (rpI Tryd.f34) (.block 0 (.loop (rpL Tryd.f34)))) (rpE Tryd.f34))) ([.string s] ++ List.replicate 32 undef, ⟨0, []⟩, []) fun e z => (e = none ∨ e = some none) ∧ resS Tryd.prog Tryd.f34 z.1 z.2.1 = some (rpV s 0) ∧ (okP s = true → 0 < psV s → ∃ r, z.2.1.blk? 0 = some (wU (d16 (psV s)) ++ r, tU)) := by
  refine goesT_listW tabPw (rp_pre s) okN9 fun g => ?_
  refine RunsW.seq (P1 := fun e y => match e with | none => rpO s y | some none => rpB s y | some (some _) => False) ?_ ?_ ?_
  · refine RunsW.seq (goesT_runsW tabPw (rp_i s _ g) okN9) ?_ (fun e y he => by cases he.1)
    rintro ⟨t, hh, sc⟩ ⟨_, ⟨g', e1⟩, e2⟩
    refine RunsW.forLoop (R := rpB s) (P := rpO s) (fun r y => ∃ i, i ≤ s.size ∧ r = s.size - i ∧ rpS s i y) (rp_round h2) (n := s.size) ⟨0, by omega, rfl, fun j hj => by omega, .inl ⟨rfl, g', e1, e2⟩⟩
  · rintro ⟨t, hh, sc⟩ ⟨hd, hS⟩
    have hall : allD s := hd
    by_cases h0 : 0 < s.size
    · have ok : okP s = true := (okP_iff s).2 ⟨h0, hall⟩
      have lc : decide (((s.size : Nat) : Int) > 0) = true := decide_eq_true (by omega)
      rcases hS with ⟨hz, g', e1, e2⟩ | ⟨hz, g', e1, e2⟩
      · simp only at e1 e2
        subst e1 e2
        refine (goesT_runsW (s0 := sc) tabPw (rp_e s _ true _ _ g') (okL1 lc)).mono fun e z he => ?_
        obtain ⟨rfl, ⟨g2, z1⟩, z2⟩ := he
        have hz' : psV s = 0 := hz
        refine ⟨.inr rfl, ?_, fun _ h3 => by omega⟩
        unfold rpV
        rw [if_pos ok, if_pos hz', z1, z2]
        rfl
      · simp only at e1 e2
        subst e1 e2
        refine (goesT_runsW (s0 := sc) tabPw (rp_e s _ true _ _ g') (okL1 lc)).mono fun e z he => ?_
        obtain ⟨rfl, ⟨g2, z1⟩, z2⟩ := he
        have hz' : ¬ psV s = 0 := fun h => by unfold psV at h; omega
        refine ⟨.inr rfl, ?_, fun _ _ => ⟨[], by rw [z2, List.append_nil]; rfl⟩⟩
        unfold rpV
        rw [if_pos ok, if_neg hz', z1, z2]
        rfl
    · have ok : okP s = false := by
        cases h3 : okP s
        · rfl
        · exact absurd ((okP_iff s).1 h3).1 h0
      have hs0 : s.size = 0 := by omega
      have lc : decide (((s.size : Nat) : Int) > 0) = false := decide_eq_false (by omega)
      rcases hS with ⟨hz, g', e1, e2⟩ | ⟨hz, _⟩
      · simp only at e1 e2
        subst e1 e2
        refine (goesT_runsW (s0 := sc) tabPw (rp_e s _ false _ _ g') (okL1 lc)).mono fun e z he => ?_
        obtain ⟨rfl, ⟨g2, z1⟩, z2⟩ := he
        refine ⟨.inr rfl, ?_, fun h3 => by rw [ok] at h3; cases h3⟩
        unfold rpV
        rw [if_neg (by rw [ok]; decide), z1, z2]
        rfl
      · rw [hs0] at hz
        exact absurd hz (Nat.lt_irrefl 0)
  · rintro e ⟨t, hh, sc⟩ hc
    match e, hc with
    | none, hc =>
      obtain ⟨hna, h3, g', e1, e2⟩ := hc
      have ok : okP s = false := by
        cases h4 : okP s
        · rfl
        · exact absurd ((okP_iff s).1 h4).2 hna
      simp only at e1 e2
      subst e1
      refine ⟨.inr rfl, ?_, fun h5 => by rw [ok] at h5; cases h5⟩
      unfold rpV
      rw [if_neg (by rw [ok]; decide)]
      rfl
/-- the document's Parse: told ahead whether there are digits, whether the number is not 0, and it -/
def gRp : AnsH := fun vals h s =>
  match vals, s with
  | [.string b], .inr (.inr (.inr (.inl false))) :: s' => some (.tuple #[nilS, .bool false], h, s', [(okP b, false), (Nat.ble b.size 20000, true)])
  | [.string b], .inr (.inr (.inr (.inl true))) :: .inr (.inr (.inr (.inl false))) :: s' => some (.tuple #[nilS, .bool true], h, s', [(okP b, true), (decide (psV b = 0), true), (Nat.ble b.size 20000, true)])
  | [.string b], .inr (.inr (.inr (.inl true))) :: .inr (.inr (.inr (.inl true))) :: .inr (.inl V) :: s' => some (.tuple #[sl h.n 0 (d16 V.toNat).length (d16 V.toNat).length, .bool true], h.push (wU (d16 V.toNat)) tU, s', [(decide (psV b = V.toNat), true), (okP b, true), (decide (0 < psV b), true), (Nat.ble b.size 20000, true)])
  | _, _ => none
theorem gRp_ok : AnsHOk 34 gRp := by
  intro vals h s v h' s' lg hg hl m B w E hv
  unfold gRp at hg
  split at hg
  · rename_i b s2
    cases hg
    obtain ⟨l1, q⟩ := logB hl
    obtain ⟨l2, _⟩ := logB q
    have r := rparse_runs (s := b) (Nat.le_of_ble_eq_true l2)
    have l1 : okP b = false := l1
    have ev : rpV b 0 = .tuple #[nilS, .bool false] := by unfold rpV; rw [if_neg (by rw [l1]; decide)]
    rw [ev] at r
    exact row_calls0 (T := (tabH Tryd.prog extY conN hcPw)) Tryd.func34 rp_body (h0 := ⟨0, []⟩) rows0 (vals := [.string b]) (fun v hv => by rw [List.mem_singleton.1 hv]; rfl) (by rfl) (r.mono fun e z he => ⟨he.1, he.2.1⟩) E (s := fun i => i) (fun i x hx => by have : i < 0 := Hp.blk_lt hx; omega)
  · rename_i b s2
    cases hg
    obtain ⟨l1, q⟩ := logB hl
    obtain ⟨l3, q⟩ := logB q
    obtain ⟨l2, _⟩ := logB q
    have r := rparse_runs (s := b) (Nat.le_of_ble_eq_true l2)
    have ev : rpV b 0 = .tuple #[nilS, .bool true] := by unfold rpV; rw [if_pos l1, if_pos (of_decide_eq_true l3)]
    rw [ev] at r
    exact row_calls0 (T := (tabH Tryd.prog extY conN hcPw)) Tryd.func34 rp_body (h0 := ⟨0, []⟩) rows0 (vals := [.string b]) (fun v hv => by rw [List.mem_singleton.1 hv]; rfl) (by rfl) (r.mono fun e z he => ⟨he.1, he.2.1⟩) E (s := fun i => i) (fun i x hx => by have : i < 0 := Hp.blk_lt hx; omega)
  · rename_i b V s2
    cases hg
    obtain ⟨l0, q⟩ := logB hl
    obtain ⟨l1, q⟩ := logB q
    obtain ⟨l3, q⟩ := logB q
    obtain ⟨l2, _⟩ := logB q
    have l0 := of_decide_eq_true l0
    have l3 := of_decide_eq_true l3
    rw [← l0]
    have r := rparse_runs (s := b) (Nat.le_of_ble_eq_true l2)
    have ev : rpV b 0 = .tuple #[sl 0 0 (d16 (psV b)).length (d16 (psV b)).length, .bool true] := by unfold rpV; rw [if_pos l1, if_neg (by omega)]
    rw [ev] at r
    have e : rn (fun _ => h.n) (Value.tuple #[sl 0 0 (d16 (psV b)).length (d16 (psV b)).length, .bool true]) = .tuple #[sl h.n 0 (d16 (psV b)).length (d16 (psV b)).length, .bool true] := by kernel_rfl
    have := row_calls1 (T := (tabH Tryd.prog extY conN hcPw)) Tryd.func34 rp_body (h0 := ⟨0, []⟩) rows0 (vals := [.string b]) (fun v hv => by rw [List.mem_singleton.1 hv]; rfl) (k := 0) (cs := wU (d16 (psV b))) (ty := tU) (wU_lt _) (by kernel_rfl) (r.mono fun e z he => ⟨he.1, he.2.1, he.2.2 l1 l3⟩) (by rfl) E (s := fun i => i) (fun i x hx => by have : i < 0 := Hp.blk_lt hx; omega)
    rw [e] at this
    exact this
  · cases hg
end Go.Proofs.YtbjgkhbhabdjgaaDoor

/-
  nat.Decimal, as a contract: its loop.
-/
namespace Go.Proofs.YtbjgkhbhabdjgaaDoor
open Go.KRun Go.Nt
set_option maxRecDepth 100000

def dOut (a : Value) (la : List Value) (V : Nat) (y : Lf) : Prop := ∃ (D : List Int) (r w : Value) (Y : List Value × TypeId) (g : Nat → Value), y.1 = dF a r (.slice (some ⟨2, 0, none⟩) D.length grown) w ++ tl 38 g ∧ y.2.1 = hB2 (wB (D.map asc)) Y la ∧ D.length < 100000 ∧ (∀ x ∈ D, Dg 10 x) ∧ vb 10 D = V ∧ (Y.1.all still) = true
theorem d_round {o n c : Nat} {la : List Value} {N V : Nat} (hla : la.all still = true) (hN : N ≤ 8192) (hV0 : 0 < V) {e : Nat} (he : e = 262144) (hV : V < 2 ^ e) (r : Nat) (y : Lf) (h : dInv (sl 0 o n c) la N V r y) :
    RunsW (tabH Tryd.prog extY conDc hcDc) (dL Tryd.f32) y fun e z => match e with | none => ∃ r', r' < r ∧ dInv (sl 0 o n c) la N V r' z | some none => False | some (some id') => id' = 0 ∧ dOut (sl 0 o n c) la V z := by
  obtain ⟨k, D, W, Z, w, g, ht, hh, hD, hDg, hwz, hW, hlen, hv, hr, hk9⟩ := h
  obtain ⟨t, h', sc⟩ := y
  simp only at ht hh
  subst ht hh
  have hWw : wds W := fun x hx => hwz x (List.mem_append_left _ hx)
  have hWl : W.length ≤ N := by rw [← hlen, List.length_append]; omega
  have hpos := vb_pos10 hWw hW
  have hsm : smallC N = true := blt_iff.2 (by unfold dead; omega)
  by_cases h0 : 0 < W.length
  · have lc : decide (((W.length : Nat) : Int) > 0) = true := decide_eq_true (by omega)
    have hR := hpos.2 h0
    have hk : k < 9040 := pw_29 (k := k) (V := V) (by
      have := Nat.mul_le_mul_left (10 ^ (9 * k)) (show 1 ≤ vb 4294967296 W by omega)
      omega) he hV
    obtain ⟨q1, Z', q2, q3, q4, q5⟩ := tp_words hwz
    have hp : vb 4294967296 W % 1000000000 < 4294967296 := by omega
    have l1 : rowOk tU (wU (W ++ Z)) 0 W.length N = true := wU_rowAt hwz (by rw [List.length_append]; omega) hWl hsm
    have l2 : rowOk tU (tpS (wU (W ++ Z)) W.length) 0 W.length N = true := by
      rw [q2]
      exact wU_rowAt q4 (by rw [q5, List.length_append]; omega) hWl hsm
    have stS : ∀ v ∈ (tpS (wU (W ++ Z)) W.length), still v = true := by
      rw [q2]
      exact List.all_eq_true.1 (wU_allS _)
    have ep : ∀ (D : List Int) (j : Nat), apB (wB (D.map asc)) (tpP (wU (W ++ Z)) W.length) j = wB ((D ++ ld j (vb 4294967296 W % 1000000000)).map asc) := fun D j => by rw [q1]; exact apB_eq hp D j
    have dec : vb 4294967296 W / 1000000000 < vb 4294967296 W := Nat.div_lt_self hR (by omega)
    have next : ∀ (D : List Int), D.length = 9 * k → vb 10 D + 10 ^ (9 * k) * vb 4294967296 W = V → (∀ x ∈ D, Dg 10 x) → ∀ (z : Lf) (w' : Value), (∃ g, z.1 = dF (sl 0 o n c) (sl 1 0 (trS (wU (W ++ Z)) W.length) N) (.slice (some ⟨2, 0, none⟩) (D.length + 9) grown) w' ++ tl 38 g) → z.2.1 = ⟨3, [(wB ((D ++ ld 9 (vb 4294967296 W % 1000000000)).map asc), tBy), (tpS (wU (W ++ Z)) W.length, tU), (la, tR)]⟩ → ∃ r', r' < r ∧ dInv (sl 0 o n c) la N V r' z := fun D hD hv hDg z w' hz1 hz2 => by
      obtain ⟨g', hz1⟩ := hz1
      refine ⟨_, by rw [hr]; exact dec, k + 1, D ++ ld 9 (vb 4294967296 W % 1000000000), db 4294967296 (vb 4294967296 W / 1000000000), Z', w', g', ?_, ?_, ?_, ?_, q4, ?_, by rw [q5]; exact hlen, ?_, ?_⟩
      · rw [hz1, q3]
        unfold dS
        rw [if_neg (by omega), List.length_append, ld_len]
      · rw [hz2, q2]
        unfold dX
        rw [if_neg (by omega)]
        rfl
      · rw [List.length_append, ld_len, hD]; omega
      · intro x hx
        rcases List.mem_append.1 hx with hx | hx
        · exact hDg x hx
        · exact ld_dg _ _ x hx
      · exact (can_db (by omega) _).2
      · rw [vb_db (by omega)]
        exact piece_step hD hv
      · exact ⟨by rw [vb_db (by omega)], by omega⟩
    by_cases hk0 : k = 0
    · have hDn : D = [] := List.length_eq_zero_iff.1 (by omega)
      have ap : ∀ (m j : Nat), m = j → m < 1073741824 → (apL [] (tpP (wU (W ++ Z)) W.length) m j).1 = (apL [] (tpP (wU (W ++ Z)) W.length) m j).2 := fun m j hm hb => by
        rw [q1]
        exact apL_ok hp [] (m := m) (j := j) (by simpa using hm) hb
      have e0 : dS k D = nilS := by unfold dS; rw [if_pos hk0]
      have e1 : dX k D = [] := by unfold dX; rw [if_pos hk0]
      rw [e0, e1]
      have stY : ∀ v ∈ ((apB [] (tpP (wU (W ++ Z)) W.length) 9, tBy) : List Value × TypeId).1, still v = true := by
        have := ep [] 9
        rw [show wB (List.map asc []) = [] from rfl] at this
        simp only [this]
        exact List.all_eq_true.1 (wB_still _)
      refine ((goesT_runsW (s0 := sc) tabDc (dc_go0 W.length N (sl 0 o n c) w (wU (W ++ Z)) la g) (okCons l2 (okCons rfl (okCons (ap 8 8 (by simp) (by omega)) (okCons rfl (okCons (ap 7 7 (by simp) (by omega)) (okCons rfl (okCons (ap 6 6 (by simp) (by omega)) (okCons rfl (okCons (ap 5 5 (by simp) (by omega)) (okCons rfl (okCons (ap 4 4 (by simp) (by omega)) (okCons rfl (okCons (ap 3 3 (by simp) (by omega)) (okCons rfl (okCons (ap 2 2 (by simp) (by omega)) (okCons rfl (okCons (ap 1 1 (by simp) (by omega)) (okCons rfl (okCons rfl (okCons rfl (okCons rfl (okCons rfl (okCons l1 (okCons hla (okCons rfl (okL1 lc))))))))))))))))))))))))))).kept (k := 2) (b := 19) (base := [(tpS (wU (W ++ Z)) W.length, tU), (la, tR)]) (y := (apB [] (tpP (wU (W ++ Z)) W.length) 9, tBy)) (front' := dF (sl 0 o n c) (sl 1 0 (trS (wU (W ++ Z)) W.length) N) (.slice (some ⟨2, 0, none⟩) 9 grown) (uu (pNx (tpP (wU (W ++ Z)) W.length) 9))) rfl (by kernel_rfl) (fun i x hi => by
        have hi2 : i < 2 := Hp.blk_lt hi
        have h01 : i = 0 ∨ i = 1 := by omega
        rcases h01 with rfl | rfl
        · obtain rfl := (Option.some.inj hi).symm
          exact ⟨rfl, List.all_eq_true.1 hla⟩
        · obtain rfl := (Option.some.inj hi).symm
          exact ⟨rfl, stS⟩) rfl (by omega) stY (by
        intro v hv
        simp only [dF, List.mem_cons, List.not_mem_nil, or_false] at hv
        rcases hv with rfl | rfl | rfl | rfl | rfl | rfl | rfl | rfl <;> rfl)).mono fun e z hz => ?_
      obtain ⟨rfl, hz1, hz2⟩ := hz
      have e9 := ep [] 9
      rw [show wB (List.map asc []) = [] from rfl] at e9
      rw [e9] at hz2
      refine next [] (by rw [hk0]; rfl) (by rw [← hDn]; exact hv) (fun x hx => by cases hx) z (uu (pNx (tpP (wU (W ++ Z)) W.length) 9)) hz1 hz2
    · have e0 : dS k D = .slice (some ⟨2, 0, none⟩) D.length grown := by unfold dS; rw [if_neg hk0]
      have e1 : dX k D = [(wB (D.map asc), tBy)] := by unfold dX; rw [if_neg hk0]
      rw [e0, e1]
      have ap : ∀ (m j : Nat), m = D.length + j → m < 1073741824 → (apL (wB (D.map asc)) (tpP (wU (W ++ Z)) W.length) m j).1 = (apL (wB (D.map asc)) (tpP (wU (W ++ Z)) W.length) m j).2 := fun m j hm hb => by
        rw [q1]
        exact apL_ok hp D hm hb
      have lX : (([(wB (D.map asc), tBy)] : List (List Value × TypeId)).all fun x => x.1.all still) = true := by
        rw [List.all_cons, wB_still]
        rfl
      have stY : ∀ v ∈ ((apB (wB (D.map asc)) (tpP (wU (W ++ Z)) W.length) 9, tBy) : List Value × TypeId).1, still v = true := by
        simp only [ep D 9]
        exact List.all_eq_true.1 (wB_still _)
      refine ((goesT_runsW (s0 := sc) tabDc (dc_go1 W.length N D.length (sl 0 o n c) w (wB (D.map asc)) (wU (W ++ Z)) la g) (okCons l2 (okCons rfl (okCons (ap (D.length + 8) 8 rfl (by omega)) (okCons rfl (okCons (ap (D.length + 7) 7 rfl (by omega)) (okCons rfl (okCons (ap (D.length + 6) 6 rfl (by omega)) (okCons rfl (okCons (ap (D.length + 5) 5 rfl (by omega)) (okCons rfl (okCons (ap (D.length + 4) 4 rfl (by omega)) (okCons rfl (okCons (ap (D.length + 3) 3 rfl (by omega)) (okCons rfl (okCons (ap (D.length + 2) 2 rfl (by omega)) (okCons rfl (okCons (ap (D.length + 1) 1 rfl (by omega)) (okCons rfl (okCons (ap D.length 0 rfl (by omega)) (okCons rfl (okCons rfl (okCons rfl (okCons l1 (okCons hla (okCons lX (okL1 lc))))))))))))))))))))))))))).kept (k := 2) (b := 20) (base := [(tpS (wU (W ++ Z)) W.length, tU), (la, tR)]) (y := (apB (wB (D.map asc)) (tpP (wU (W ++ Z)) W.length) 9, tBy)) (front' := dF (sl 0 o n c) (sl 1 0 (trS (wU (W ++ Z)) W.length) N) (.slice (some ⟨2, 0, none⟩) (D.length + 9) grown) (uu (pNx (tpP (wU (W ++ Z)) W.length) 9))) rfl (by kernel_rfl) (fun i x hi => by
        have hi2 : i < 2 := Hp.blk_lt hi
        have h01 : i = 0 ∨ i = 1 := by omega
        rcases h01 with rfl | rfl
        · obtain rfl := (Option.some.inj hi).symm
          exact ⟨rfl, List.all_eq_true.1 hla⟩
        · obtain rfl := (Option.some.inj hi).symm
          exact ⟨rfl, stS⟩) rfl (by omega) stY (by
        intro v hv
        simp only [dF, List.mem_cons, List.not_mem_nil, or_false] at hv
        rcases hv with rfl | rfl | rfl | rfl | rfl | rfl | rfl | rfl <;> rfl)).mono fun e z hz => ?_
      obtain ⟨rfl, hz1, hz2⟩ := hz
      rw [ep D 9] at hz2
      exact next D hD hv hDg z _ hz1 hz2
  · have hR : vb 4294967296 W = 0 := by
      rcases Nat.eq_zero_or_pos (vb 4294967296 W) with h1 | h1
      · exact h1
      · exact absurd (hpos.1 h1) h0
    rw [hR, Nat.mul_zero, Nat.add_zero] at hv
    have hk0 : k ≠ 0 := fun hk => by
      have : D = [] := List.length_eq_zero_iff.1 (by omega)
      rw [this] at hv
      simp [vb] at hv
      omega
    refine (goesT_runsW (s0 := sc) tabDc (dc_out W.length N (sl 0 o n c) (dS k D) w _ g) (okL1 (decide_eq_false (by omega)))).mono fun e z hz => ?_
    obtain ⟨rfl, ⟨g', hz1⟩, hz2⟩ := hz
    have e0 : dS k D = .slice (some ⟨2, 0, none⟩) D.length grown := by unfold dS; rw [if_neg hk0]
    have e1 : dX k D = [(wB (D.map asc), tBy)] := by unfold dX; rw [if_neg hk0]
    rw [e0] at hz1
    rw [e1] at hz2
    exact ⟨rfl, D, _, w, (wU (W ++ Z), tU), g', hz1, hz2, by omega, hDg, hv, wU_allS _⟩
/-- the letters, the highest first, without noughts ahead -/
theorem dec_text {D : List Int} {V : Nat} (hV : 0 < V) (hD : ∀ x ∈ D, Dg 10 x) (hv : vb 10 D = V) : trL 48 ((D.map asc).reverse.map fun n => UInt8.ofNat n.toNat) = decS V := by
  have h1 := dropZ_rev hD
  rw [hv] at h1
  unfold decS decL
  rw [if_neg (by omega), ← h1]
  have key : ∀ L : List Int, (∀ x ∈ L, Dg 10 x) → trL 48 ((L.map asc).map fun n => UInt8.ofNat n.toNat) = (dropZ L).map fun x => UInt8.ofNat (asc x).toNat := by
    intro L
    induction L with
    | nil => intro _; rfl
    | cons x L ih =>
      intro hL
      have hx := hL x List.mem_cons_self
      have ih := ih fun y hy => hL y (List.mem_cons_of_mem _ hy)
      have hx0 := hx.1
      have hx1 : x < 10 := by have := hx.2; omega
      have ev : (((UInt8.ofNat (asc x).toNat).toNat : Nat) : Int) = 48 + x := by
        unfold asc
        simp
        omega
      by_cases h0 : x = 0
      · subst h0
        unfold trL dropZ at *
        rw [List.map_cons, List.map_cons, List.dropWhile_cons_of_pos (by rfl), List.dropWhile_cons_of_pos (by rfl)]
        exact ih
      · unfold trL dropZ at *
        rw [List.map_cons, List.map_cons, List.dropWhile_cons_of_neg (by rw [ev]; simp; omega), List.dropWhile_cons_of_neg (by simpa using h0)]
        simp
  rw [← List.map_reverse]
  exact key D.reverse fun x hx => hD x (List.mem_reverse.1 hx)
theorem bytesL_wB : ∀ L : List Int, bytesL (wB L) = some L
  | [] => rfl
  | x :: L => by
    show bytesL (ub x :: wB L) = _
    simp [bytesL, ub, bytesL_wB L]
theorem d_end {a r w : Value} {D : List Int} {Y : List Value × TypeId} {la : List Value} {V : Nat} (hla : la.all still = true) (hV : 0 < V) (hl : D.length < 100000) (hD : ∀ x ∈ D, Dg 10 x) (hv : vb 10 D = V) (hY : Y.1.all still = true) (g : Nat → Value) (sc : List Dec) :
    RunsW (tabH Tryd.prog extY conDc hcDc) (dE Tryd.f32) (dF a r (.slice (some ⟨2, 0, none⟩) D.length grown) w ++ tl 38 g, hB2 (wB (D.map asc)) Y la, sc) fun e z => (e = none ∨ e = some none) ∧ resS Tryd.prog Tryd.f32 z.1 z.2.1 = some (.tuple #[bS (decS V), .nilIface]) := by
  have l1 : txtChk ((wB (D.map asc)).reverse, tBy) 0 D.length ⟨⟨(D.map asc).reverse.map fun n => UInt8.ofNat n.toNat⟩⟩ = true := by
    unfold txtChk
    have e : (wB (D.map asc)).reverse = wB (D.map asc).reverse := by simp [wB]
    have e2 : ((wB (D.map asc).reverse).drop 0).take D.length = wB (D.map asc).reverse := by
      rw [List.drop_zero]
      exact List.take_of_length_le (by simp [wB])
    simp only [e, e2, bytesL_wB]
    rw [show tomb tBy = false from by kernel_rfl, Nat.ble_eq_true_of_le (by simp [wB])]
    simp
  refine (goesT_runsW (s0 := sc) tabDc (dc_end D.length a r w ⟨⟨(D.map asc).reverse.map fun n => UInt8.ofNat n.toNat⟩⟩ (wB (D.map asc)) Y la g) (okCons rfl (okCons l1 (okCons hY (okCons rfl (okCons rfl (okCons (by rw [wB_len, List.length_map]; exact Nat.beq_refl _) (okCons (isB_wB _) (okCons rfl (okCons hla (okL1 (blt_iff.2 (by omega))))))))))))).mono fun e z hz => ?_
  obtain ⟨rfl, ⟨g', hz1⟩, hz2⟩ := hz
  refine ⟨.inr rfl, ?_⟩
  have et := dec_text hV hD hv
  have : bS (trL 48 (⟨⟨(D.map asc).reverse.map fun n => UInt8.ofNat n.toNat⟩⟩ : ByteArray).data.toList) = bS (decS V) := by rw [← et]
  rw [this] at hz1
  rw [hz1, hz2]
  rfl
end Go.Proofs.YtbjgkhbhabdjgaaDoor
