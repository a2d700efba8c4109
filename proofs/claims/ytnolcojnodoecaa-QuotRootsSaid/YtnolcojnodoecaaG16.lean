/-
  The document's product (tillerref02.Mul), also of nothing; its number told ahead.
-/
import Derived.Test.YtnolcojnodoecaaG12
import Derived.Test.YtnolcojnodoecaaG15
import Derived.Test.YtnolcojnodoecaaG14
import Derived.Test.YtnolcojnodoecaaG10
namespace Go.Proofs.Ytnolcojnodoecaa
open Go.KRun Go.Nt
set_option maxRecDepth 100000
set_option linter.unusedVariables false

def hN2 (lo la : List Value) : Hp := ⟨2, [(lo, tU), (la, tR)]⟩
def mNr (o n c z : Nat) (i v7 v8 : Value) : List Value := [sl 0 o n c, nilS, undef, undef, nilS, sl 1 0 z z, i, v7, v8]
def zU (n : Nat) : List Value := List.replicate n (.int .u32 0)
theorem zU_eq (n : Nat) : zU n = wU (List.replicate n 0) := by unfold zU wU; simp
theorem trim_rep : ∀ n : Nat, trimN (List.replicate n 0) = 0
  | 0 => rfl
  | n + 1 => by
    rw [List.replicate_succ]
    simp only [trimN]
    rw [trim_rep n]
    rfl
theorem zU_cut (n : Nat) : trimN (cutI (zU n) 0 n) = 0 := by
  have h := cut_wU (List.replicate n 0)
  rw [List.length_replicate] at h
  rw [zU_eq, h, trim_rep]
theorem zU_row {n : Nat} (h : n < 1000000) : rowC tU (zU n) 0 n n = true := by
  have := rowC_wU (L := List.replicate n 0) (fun x hx => by rw [List.eq_of_mem_replicate hx]; omega) (by simp; omega) (c := n) (by simp only [List.length_replicate]; exact capS (by omega))
  rw [List.length_replicate] at this
  rw [zU_eq]
  exact this
def zL (n : Nat) : Int := IntKind.i64.wrap ((n : Int) + ((0 : Nat) : Int))
def zR (n : Nat) : Int := IntKind.i64.wrap (((0 : Nat) : Int) + (n : Int))
theorem zL_eq {n : Nat} (h : n < 1000000) : zL n = (n : Int) := by unfold zL; rw [wrapI (by omega) (by omega)]; omega
theorem zR_eq {n : Nat} (h : n < 1000000) : zR n = (n : Int) := by unfold zR; rw [wrapI (by omega) (by omega)]; omega
theorem mn_pre (o n c : Nat) (la : List Value) : GoesT (evL (tabH Try.prog extY conN hcV) 200 (muPr Try.f34) ([sl 0 o n c, nilS] ++ List.replicate 66 undef, ⟨1, [(la, tR)]⟩, [at_]) ⟨[], [], []⟩) 6 62 none [sl 0 o n c, nilS, undef, undef, nilS, sl 1 0 (zL n).toNat (zL n).toNat] (hN2 (zU (zL n).toNat) la) [(okMakeB 4 (zL n) (zL n), true)] := ⟨by kernel_rfl, by kernel_rfl, by kernel_rfl⟩
theorem mn_go (o n c z : Nat) (i : Int) (v7 v8 : Value) (lo la : List Value) (g : Nat → Value) : GoesT (evC (tabH Try.prog extY conN hcV) 200 false (muO Try.f34) (mNr o n c z (.int .i64 i) v7 v8 ++ tl 59 g, hN2 lo la, [cmp true, cmp false, at_, at_]) ⟨[], [], []⟩) 9 59 none (mNr o n c z (.int .i64 (IntKind.i64.wrap (i + 1))) (.int .u64 0) (.int .i64 0)) (hN2 (lo.set (0 + (ijM i (0 : Nat)).toNat * 1) (.int .u32 0)) la) [stM lo (ijM i (0 : Nat)), inM (ijM i (0 : Nat)) z, (decide ((0 : Int) < ((0 : Nat) : Int)), false), (decide (i < (n : Int)), true)] := ⟨by kernel_rfl, by kernel_rfl, by kernel_rfl⟩
theorem mn_out (o n c z : Nat) (i : Int) (v7 v8 : Value) (lo la : List Value) (g : Nat → Value) : GoesT (evC (tabH Try.prog extY conN hcV) 200 false (muO Try.f34) (mNr o n c z (.int .i64 i) v7 v8 ++ tl 59 g, hN2 lo la, [cmp false]) ⟨[], [], []⟩) 9 59 (some (some 0)) (mNr o n c z (.int .i64 i) v7 v8) (hN2 lo la) [(decide (i < (n : Int)), false)] := ⟨by kernel_rfl, by kernel_rfl, by kernel_rfl⟩
theorem mn_end (o n c z : Nat) (i v7 v8 : Value) (lo la : List Value) (g : Nat → Value) : GoesT (evC (tabH Try.prog extY conN hcV) 200 false (muE Try.f34) (mNr o n c z i v7 v8 ++ tl 59 g, hN2 lo la, []) ⟨[], [], []⟩) 5 63 (some none) [sl 0 o n c, nilS, undef, undef, sl 1 0 (trimN (cutI lo 0 z)) (trimN (cutI lo 0 z))] (hN2 lo la) [(rowC tU lo 0 z z, true)] := ⟨by kernel_rfl, by kernel_rfl, by kernel_rfl⟩
theorem mn_n (o n c : Nat) (la : List Value) : GoesT (evC (tabH Try.prog extY conN hcV) 200 false (cBody Try.f34) ([nilS, sl 0 o n c] ++ List.replicate 66 undef, ⟨1, [(la, tR)]⟩, [at_, cmp false]) ⟨[], [], []⟩) 5 63 (some none) [nilS, sl 0 o n c, undef, undef, sl 1 0 (trimN (cutI (zU (zR n).toNat) 0 (zR n).toNat)) (trimN (cutI (zU (zR n).toNat) 0 (zR n).toNat))] (hN2 (zU (zR n).toNat) la) [(rowC tU (zU (zR n).toNat) 0 (zR n).toNat (zR n).toNat, true), (decide ((0 : Int) < ((0 : Nat) : Int)), false), (okMakeB 4 (zR n) (zR n), true)] := ⟨by kernel_rfl, by kernel_rfl, by kernel_rfl⟩
theorem mn_nn : GoesT (evC (tabH Try.prog extY conN hcV) 200 false (cBody Try.f34) ([nilS, nilS] ++ List.replicate 66 undef, ⟨0, []⟩, [at_, cmp false]) ⟨[], [], []⟩) 5 63 (some none) [nilS, nilS, undef, undef, sl 0 0 0 0] ⟨1, [([], tU)]⟩ [(rowC tU [] 0 0 0, true), (decide ((0 : Int) < ((0 : Nat) : Int)), false), (true, true)] := ⟨by kernel_rfl, by kernel_rfl, by kernel_rfl⟩
theorem umul_cbody : Try.f34.body = some (cBody Try.f34) := by kernel_rfl
theorem mn_runs {la : List Value} {o n c : Nat} (hn : n < 1000000) :
    Runs (tabH Try.prog extY conN hcV) (seqs (muPr Try.f34) (.seq (.seq (cFst (muB Try.f34)) (.block 0 (.loop (muO Try.f34)))) (muE Try.f34))) ([sl 0 o n c, nilS] ++ List.replicate 66 undef, ⟨1, [(la, tR)]⟩, []) fun e y => (e = none ∨ e = some none) ∧ resS Try.prog Try.f34 y.1 y.2.1 = some (sl 1 0 0 0) ∧ y.2.1.blk? 1 = some (zU n, tU) := by
  have hT := tabH_ok conN_ok hcV_ok
  have g0 := mn_pre o n c la
  rw [zL_eq hn, Int.toNat_natCast] at g0
  refine goesT_list hT g0 (okOne (by unfold okMakeB; exact decide_eq_true (by omega))) fun g => ?_
  refine Runs.seq (P1 := fun e' y => e' = none ∧ ∃ (i v7 v8 : Value) (g : Nat → Value), y.1 = mNr o n c n i v7 v8 ++ tl 59 g ∧ y.2.1 = hN2 (zU n) la) ?_ ?_ (fun e y he => by cases he.1)
  · refine Runs.next (goesT_runs hT (mu_r2 (sl 0 o n c) nilS (sl 1 0 n n) _ g) (fun _ h => by cases h)) fun g s => ?_
    refine (Runs.forLoop (R := fun _ => False) (P := fun y => ∃ (i v7 v8 : Value) (g : Nat → Value), y.1 = mNr o n c n i v7 v8 ++ tl 59 g ∧ y.2.1 = hN2 (zU n) la)
      (fun r y => ∃ (k : Nat) (v7 v8 : Value) (g : Nat → Value), k + r = n ∧ y.1 = mNr o n c n (.int .i64 (k : Int)) v7 v8 ++ tl 59 g ∧ y.2.1 = hN2 (zU n) la)
      ?_ (n := n) ⟨0, _, _, g, by omega, rfl, rfl⟩).mono fun e' y he => ?_
    · rintro r ⟨t, h', s'⟩ ⟨k, v7, v8, g, hk, ht, hh⟩
      simp only at ht hh
      subst ht hh
      cases r with
      | zero =>
        refine (goesT_runs hT (mn_out o n c n k v7 v8 _ la g) (okOne (decide_eq_false (by omega)))).mono fun e' y he => ?_
        obtain ⟨rfl, ⟨g1, e2⟩, e3⟩ := he
        exact ⟨rfl, _, _, _, g1, e2, e3⟩
      | succ r =>
        have ei : ijM (k : Int) (0 : Nat) = (k : Int) := by unfold ijM; rw [wrapI (by omega) (by omega)]; omega
        have g1 := mn_go o n c n k v7 v8 (zU n) la g
        rw [ei] at g1
        have es : (zU n).set (0 + ((k : Int)).toNat * 1) (.int .u32 0) = zU n := by
          unfold zU
          rw [Int.toNat_natCast, Nat.zero_add, Nat.mul_one, List.set_replicate_self]
        rw [es] at g1
        refine (goesT_runs hT g1 (okTwo (by unfold stM zU; exact decide_eq_true (by simp; omega)) (okTwo (by unfold inM; exact decide_eq_true (by omega)) (okTwo (by decide) (okOne (decide_eq_true (by omega))))))).mono fun e' y he => ?_
        obtain ⟨rfl, ⟨g2, e2⟩, e3⟩ := he
        refine ⟨r, by omega, k + 1, .int .u64 0, .int .i64 0, g2, by omega, ?_, e3⟩
        rw [e2, wrapI (by omega) (by omega)]
        rfl
    · match e', he with
      | none, he => exact ⟨rfl, he⟩
      | some none, he => exact he.elim
      | some (some _), he => exact he.elim
  · rintro ⟨t, h', s'⟩ ⟨_, i, v7, v8, g, ht, hh⟩
    simp only at ht hh
    subst ht hh
    have g1 := mn_end o n c n i v7 v8 (zU n) la g
    rw [zU_cut] at g1
    refine (goesT_runs hT g1 (okOne (zU_row hn))).mono fun e' y he => ?_
    obtain ⟨rfl, ⟨g2, e2⟩, e3⟩ := he
    refine ⟨.inr rfl, ?_, ?_⟩
    · rw [e2, e3]; rfl
    · rw [e3]; rfl
def gUmulN : AnsH := fun vals h s =>
  match vals, s with
  | [.slice p n c, .slice q n' c'], .inr (.inl V) :: s' => mk16 V.toNat h s' [(decide (vO h p n * vO h q n' = V.toNat), true), (okMu h p q n c n' c', true)]
  | _, _ => none
theorem d16_0 : d16 0 = [] := db_zero 65536
theorem gUmulN_ok : AnsHOk 34 gUmulN := by
  intro vals h s v h' s' lg hg hl m B w E hv
  unfold gUmulN at hg
  split at hg
  · rename_i p n c q n' c' V s2
    unfold mk16 at hg
    cases hg
    have l1 := of_decide_eq_true (hl _ List.mem_cons_self)
    have l3 := hl _ (List.mem_cons_of_mem _ (List.mem_singleton.2 rfl))
    have l3' := l3
    simp only [okMu, Bool.and_eq_true] at l3
    obtain ⟨⟨⟨q1, q2⟩, ⟨p1, p2⟩⟩, q4⟩ := l3
    have q4 := blt_iff.1 q4
    rcases rowP_cases q1 with ⟨rfl, rfl, rfl, e0⟩ | ⟨b, o, x, rfl, hx, r1, rs, e0⟩
    · have hV : V.toNat = 0 := by
        rw [← l1]
        unfold vO
        rw [e0]
        simp [vb]
      rw [hV, d16_0]
      rcases rowP_cases p1 with ⟨rfl, rfl, rfl, f0⟩ | ⟨b', o', y, rfl, hy, t1, ts, f0⟩
      · have r : Runs (tabH Try.prog extY conN hcV) (cBody Try.f34) ([nilS, nilS] ++ List.replicate 66 undef, ⟨0, []⟩, []) fun e z => (e = none ∨ e = some none) ∧ resS Try.prog Try.f34 z.1 z.2.1 = some (sl 0 0 0 0) ∧ ∃ r, z.2.1.blk? 0 = some (wU [] ++ r, tU) := by
          refine (goesT_runs (tabH_ok conN_ok hcV_ok) mn_nn (okTwo (by kernel_rfl) (okTwo (by decide) (okOne rfl)))).mono fun e z he => ?_
          obtain ⟨rfl, ⟨g, e1⟩, e2⟩ := he
          exact ⟨.inr rfl, by rw [e1, e2]; rfl, [], by rw [e2]; rfl⟩
        have := row_calls1 (T := tabH Try.prog extY conN hcV) Try.func34 umul_cbody (h0 := ⟨0, []⟩) ⟨rfl, fun b x hx => by have : b < 0 := Hp.blk_lt hx; omega⟩ (vals := [nilS, nilS]) (fun v hv => by
          simp only [List.mem_cons, List.not_mem_nil, or_false] at hv
          rcases hv with rfl | rfl <;> rfl) (k := 0) (cs := wU []) (ty := tU) (wU_lt _) (by kernel_rfl) r.w (by rfl) E (s := fun i => i) (fun i x hx _ => by have : i < 0 := Hp.blk_lt hx; omega)
        exact this
      · obtain ⟨b1, b2, b3, b4, b5, b6, b7⟩ := rowC_of t1
        have g0 := mn_n o' n' c' y.1
        rw [zR_eq (by omega), Int.toNat_natCast, zU_cut] at g0
        have r : Runs (tabH Try.prog extY conN hcV) (cBody Try.f34) ([nilS, sl 0 o' n' c'] ++ List.replicate 66 undef, ⟨1, [(y.1, tR)]⟩, []) fun e z => (e = none ∨ e = some none) ∧ resS Try.prog Try.f34 z.1 z.2.1 = some (sl 1 0 0 0) ∧ ∃ r, z.2.1.blk? 1 = some (wU [] ++ r, tU) := by
          refine (goesT_runs (tabH_ok conN_ok hcV_ok) g0 (okTwo (zU_row (by omega)) (okTwo (by decide) (okOne (by unfold okMakeB; exact decide_eq_true (by omega)))))).mono fun e z he => ?_
          obtain ⟨rfl, ⟨g, e1⟩, e2⟩ := he
          exact ⟨.inr rfl, by rw [e1, e2]; rfl, zU n', by rw [e2]; rfl⟩
        have evals : List.map (rn fun _ => b') [nilS, sl 0 o' n' c'] = [.slice none 0 0, .slice (some ⟨b', o', none⟩) n' c'] := by simp [rn, rn2, rn1, sl, nilS]
        have := row_calls1 (T := tabH Try.prog extY conN hcV) Try.func34 umul_cbody (rows1 b7) (vals := [nilS, sl 0 o' n' c']) (fun v hv => by
          simp only [List.mem_cons, List.not_mem_nil, or_false] at hv
          rcases hv with rfl | rfl <;> rfl) (k := 1) (cs := wU []) (ty := tU) (wU_lt _) (by kernel_rfl) r.w (by rfl) E (s := fun _ => b') (fitsR1 hy b5 b6 rfl)
        rw [evals] at this
        exact this
    · rcases rowP_cases p1 with ⟨rfl, rfl, rfl, f0⟩ | ⟨b', o', y, rfl, hy, t1, ts, f0⟩
      · have hV : V.toNat = 0 := by
          rw [← l1]
          unfold vO
          rw [f0]
          simp [vb]
        rw [hV, d16_0]
        obtain ⟨b1, b2, b3, b4, b5, b6, b7⟩ := rowC_of r1
        have r : Runs (tabH Try.prog extY conN hcV) (seqs (muPr Try.f34) (.seq (.seq (cFst (muB Try.f34)) (.block 0 (.loop (muO Try.f34)))) (muE Try.f34))) ([sl 0 o n c, nilS] ++ List.replicate 66 undef, ⟨1, [(x.1, tR)]⟩, []) fun e z => (e = none ∨ e = some none) ∧ resS Try.prog Try.f34 z.1 z.2.1 = some (sl 1 0 0 0) ∧ ∃ r, z.2.1.blk? 1 = some (wU [] ++ r, tU) :=
          (mn_runs (by omega)).mono fun e z he => ⟨he.1, he.2.1, zU n, he.2.2⟩
        have evals : List.map (rn fun _ => b) [sl 0 o n c, nilS] = [.slice (some ⟨b, o, none⟩) n c, .slice none 0 0] := by simp [rn, rn2, rn1, sl, nilS]
        have := row_calls1 (T := tabH Try.prog extY conN hcV) Try.func34 umul_body (rows1 b7) (vals := [sl 0 o n c, nilS]) (fun v hv => by
          simp only [List.mem_cons, List.not_mem_nil, or_false] at hv
          rcases hv with rfl | rfl <;> rfl) (k := 1) (cs := wU []) (ty := tU) (wU_lt _) (by kernel_rfl) r.w (by rfl) E (s := fun _ => b) (fitsR1 hx b5 b6 rfl)
        rw [evals] at this
        exact this
      · rw [← l1]
        exact gUmul_ok _ h [] _ _ [] [(okMu h (some ⟨b, o, none⟩) (some ⟨b', o', none⟩) n c n' c', true)] rfl (okL1 l3') m B w E hv
  · cases hg
end Go.Proofs.Ytnolcojnodoecaa

/-
  The document's rows of parts of 16 bits (tillerref02): Of, Low and Bit, as calls.
-/
namespace Go.Proofs.Ytnolcojnodoecaa
open Go.KRun Go.Nt
set_option maxRecDepth 100000

/-! ### Of -/
def f4 (n : Int) : List Int := [IntKind.u32.wrap (n.tmod 65536), IntKind.u32.wrap ((IntKind.u64.wrap (n.tdiv 65536)).tmod 65536), IntKind.u32.wrap ((IntKind.u64.wrap (n.tdiv 4294967296)).tmod 65536), IntKind.u32.wrap (IntKind.u64.wrap (n.tdiv 281474976710656))]
theorem uof_body : Try.f27.body = some (cBody Try.f27) := by kernel_rfl
theorem uof_go (n : Int) : GoesT (evC (tabH Try.prog extY conN hcV) 100 false (cBody Try.f27) ([.int .u64 n] ++ List.replicate 18 undef, ⟨0, []⟩, [cmp true, cmp true, cmp true]) ⟨[], [], []⟩) 3 16 (some none) [.int .u64 n, undef, sl 0 0 (trimN (cutI (wU (f4 n)) 0 4)) (trimN (cutI (wU (f4 n)) 0 4))] ⟨1, [(wU (f4 n), tU)]⟩ [(rowC tU (wU (f4 n)) 0 4 4, true), (decide ((65536 : Int) = 0), false), (decide ((65536 : Int) = 0), false), (decide ((65536 : Int) = 0), false)] := ⟨by kernel_rfl, by kernel_rfl, by kernel_rfl⟩
theorem wrap64 {n : Int} (h0 : 0 ≤ n) (h1 : n < 18446744073709551616) : IntKind.u64.wrap n = n := by simp [IntKind.wrap, IntKind.bits, IntKind.signed]; omega
theorem f4_eq {n : Int} (h0 : 0 ≤ n) (h1 : n < 18446744073709551616) : f4 n = [n % 65536, n / 65536 % 65536, n / 4294967296 % 65536, n / 281474976710656] := by
  unfold f4
  rw [Int.tmod_eq_emod_of_nonneg h0, Int.tdiv_eq_ediv_of_nonneg h0, Int.tdiv_eq_ediv_of_nonneg h0, Int.tdiv_eq_ediv_of_nonneg h0, wrap64 (n := n / 65536) (by omega) (by omega), wrap64 (n := n / 4294967296) (by omega) (by omega), wrap64 (n := n / 281474976710656) (by omega) (by omega), Int.tmod_eq_emod_of_nonneg (by omega), Int.tmod_eq_emod_of_nonneg (by omega), wrap32 (n := n % 65536) (by omega) (by omega), wrap32 (n := n / 65536 % 65536) (by omega) (by omega), wrap32 (n := n / 4294967296 % 65536) (by omega) (by omega), wrap32 (by omega) (by omega)]
theorem f4_dg {n : Int} (h0 : 0 ≤ n) (h1 : n < 18446744073709551616) : ∀ x ∈ f4 n, Dg 65536 x := by
  rw [f4_eq h0 h1]
  intro x hx
  simp only [List.mem_cons, List.not_mem_nil, or_false] at hx
  rcases hx with rfl | rfl | rfl | rfl <;> exact ⟨by omega, by omega⟩
theorem f4_val {n : Int} (h0 : 0 ≤ n) (h1 : n < 18446744073709551616) : vb 65536 (f4 n) = n.toNat := by
  rw [f4_eq h0 h1]
  simp only [vb]
  omega
def gUof : AnsH := fun vals h s =>
  match vals with
  | [.int .u64 n] => mk16 n.toNat h s [(decide (0 ≤ n ∧ n < 18446744073709551616), true)]
  | _ => none
theorem gUof_ok : AnsHOk 27 gUof := by
  intro vals h s v h' s' lg hg hl m B w E hv
  unfold gUof at hg
  split at hg
  · rename_i n
    unfold mk16 at hg
    cases hg
    have q := of_decide_eq_true (hl _ (List.mem_singleton.2 rfl))
    have hd := f4_dg q.1 q.2
    have hv4 := f4_val q.1 q.2
    have hl4 : (f4 n).length = 4 := rfl
    have ec : cutI (wU (f4 n)) 0 4 = f4 n := by
      have := cut_wU (f4 n)
      rw [hl4] at this
      exact this
    have et : trimN (f4 n) = (d16 n.toNat).length := by
      rw [trim_len (by omega) hd, hv4]
      rfl
    have hrow : rowC tU (wU (f4 n)) 0 4 4 = true := by
      have := rowC_wU (L := f4 n) (fun x hx => ⟨(hd x hx).1, by have := (hd x hx).2; omega⟩) (by rw [hl4]; omega) (c := 4) (by rw [hl4]; rfl)
      rw [hl4] at this
      exact this
    have hr : Runs (tabH Try.prog extY conN hcV) (cBody Try.f27) ([.int .u64 n] ++ List.replicate 18 undef, ⟨0, []⟩, []) fun e z => (e = none ∨ e = some none) ∧ resS Try.prog Try.f27 z.1 z.2.1 = some (sl 0 0 (d16 n.toNat).length (d16 n.toNat).length) ∧ ∃ r, z.2.1.blk? 0 = some (wU (d16 n.toNat) ++ r, tU) := by
      refine (goesT_runs (tabH_ok conN_ok hcV_ok) (uof_go n) (okTwo hrow (okTwo rfl (okTwo rfl (okOne rfl))))).mono fun e z he => ?_
      obtain ⟨rfl, ⟨g, e1⟩, e2⟩ := he
      refine ⟨.inr rfl, ?_, ?_⟩
      · rw [e1, e2, ec, et]
        rfl
      · rw [e2]
        refine ⟨wU ((f4 n).drop (trimN (f4 n))), ?_⟩
        have e3 : wU (d16 n.toNat) ++ wU ((f4 n).drop (trimN (f4 n))) = wU (f4 n) := by
          unfold d16
          rw [← hv4, ← take_trim (by omega) _ hd, ← wU_append, List.take_append_drop]
        rw [e3]
        rfl
    have := row_calls1 (T := tabH Try.prog extY conN hcV) Try.func27 uof_body (h0 := ⟨0, []⟩) ⟨rfl, fun b x hx => by have : b < 0 := Hp.blk_lt hx; omega⟩ (vals := [.int .u64 n]) (fun v hv => by rw [List.mem_singleton.1 hv]; rfl) (k := 0) (cs := wU (d16 n.toNat)) (ty := tU) (wU_lt _) (by kernel_rfl) hr.w (by rfl) E (s := fun i => i) (fun i x hx _ => by have : i < 0 := Hp.blk_lt hx; omega)
    exact this
  · cases hg

/-! ### Low -/
def wPre (F : Func) : List Code := [cFst (cBody F), cFst (cSnd (cBody F))]
def wR2 (F : Func) : Code := cFst (cFst (cSnd (cSnd (cBody F))))
def wLp (F : Func) : Code := cIn (cIn (cSnd (cFst (cSnd (cSnd (cBody F))))))
def wEn (F : Func) : Code := cSnd (cSnd (cSnd (cBody F)))
def m4 (n : Nat) : Int := IntKind.i64.wrap ((if (4 : Int) < (n : Int) then 4 else (n : Int)) - 1)
theorem ulow_body : Try.f60.body = some (seqs (wPre Try.f60) (.seq (.seq (wR2 Try.f60) (.block 0 (.loop (wLp Try.f60)))) (wEn Try.f60))) := by kernel_rfl
theorem ulow_pre (a : Value) (h : Hp) : GoesT (evL (tabH Try.prog extY conN hcV) 100 (wPre Try.f60) ([a] ++ List.replicate 21 undef, h, []) ⟨[], [], []⟩) 4 18 none [a, undef, .int .u64 0, .int .u64 0] h [] := ⟨by kernel_rfl, by kernel_rfl, by kernel_rfl⟩
theorem ulow_r2 (p : Option Addr) (n c : Nat) (h : Hp) (g : Nat → Value) : GoesT (evC (tabH Try.prog extY conN hcV) 100 false (wR2 Try.f60) ([.slice p n c, undef, .int .u64 0, .int .u64 0] ++ tl 18 g, h, []) ⟨[], [], []⟩) 5 17 none [.slice p n c, undef, .int .u64 0, .int .u64 0, .int .i64 (m4 n)] h [] := ⟨by kernel_rfl, by kernel_rfl, by kernel_rfl⟩
def lw (y x : Int) : Int := IntKind.u64.wrap (IntKind.u64.wrap (65536 * y) + IntKind.u64.wrap x)
theorem ulow_go (o n c : Nat) (x y k : Int) (l : List Value) (g : Nat → Value) : GoesT (evC (tabH Try.prog extY conN hcV) 100 false (wLp Try.f60) ([sl 0 o n c, undef, .int .u64 0, .int .u64 y, .int .i64 k] ++ tl 17 g, ⟨1, [(l, tR)]⟩, [cmp true, at_, val (.int .u32 x)]) ⟨[], [], []⟩) 5 17 none [sl 0 o n c, undef, .int .u64 0, .int .u64 (lw y x), .int .i64 (IntKind.i64.wrap (k - 1))] ⟨1, [(l, tR)]⟩ [(cellIs (l[o + k.toNat * 1]?) (.int .u32 x), true), (decide (0 ≤ k ∧ k < n), true), (decide (k ≥ 0), true)] := ⟨by kernel_rfl, by kernel_rfl, by kernel_rfl⟩
theorem ulow_out (a : Value) (y k : Int) (h : Hp) (g : Nat → Value) : GoesT (evC (tabH Try.prog extY conN hcV) 100 false (wLp Try.f60) ([a, undef, .int .u64 0, .int .u64 y, .int .i64 k] ++ tl 17 g, h, [cmp false]) ⟨[], [], []⟩) 5 17 (some (some 0)) [a, undef, .int .u64 0, .int .u64 y, .int .i64 k] h [(decide (k ≥ 0), false)] := ⟨by kernel_rfl, by kernel_rfl, by kernel_rfl⟩
theorem ulow_end (a : Value) (y k : Int) (h : Hp) (g : Nat → Value) : GoesT (evC (tabH Try.prog extY conN hcV) 100 false (wEn Try.f60) ([a, undef, .int .u64 0, .int .u64 y, .int .i64 k] ++ tl 17 g, h, []) ⟨[], [], []⟩) 3 19 (some none) [a, undef, .int .u64 y] h [] := ⟨by kernel_rfl, by kernel_rfl, by kernel_rfl⟩
/-- the digits from k on, of the first four -/
def hiV (L : List Int) (k : Nat) : Nat := vb 65536 ((L.take 4).drop k)
theorem hiV_step {L : List Int} {k : Nat} (hk : k < (L.take 4).length) : hiV L k = dgN L k + 65536 * hiV L (k + 1) := by
  unfold hiV dgN
  rw [List.drop_eq_getElem_cons hk]
  simp only [vb]
  congr 2
  rw [List.getElem_take]
  rw [List.length_take] at hk
  simp [List.getD, List.getElem?_eq_getElem (show k < L.length by omega)]
theorem hiV_lt {L : List Int} (hd : ∀ x ∈ L, Dg 65536 x) (k : Nat) : hiV L k < 65536 ^ (4 - k) := by
  have h := vb_lt (b := 65536) (by omega) ((L.take 4).drop k) (fun x hx => hd x (List.mem_of_mem_take (List.mem_of_mem_drop hx)))
  have hl : ((L.take 4).drop k).length ≤ 4 - k := by simp; omega
  exact Nat.lt_of_lt_of_le h (Nat.pow_le_pow_right (by omega) hl)
theorem hiV_zero {L : List Int} (hd : ∀ x ∈ L, Dg 65536 x) : hiV L 0 = vb 65536 L % 18446744073709551616 := by
  have e : L = L.take 4 ++ L.drop 4 := (List.take_append_drop 4 L).symm
  have h4 := hiV_lt hd 0
  unfold hiV at *
  rw [List.drop_zero] at *
  have ev : vb 65536 L = vb 65536 (L.take 4) + 65536 ^ (L.take 4).length * vb 65536 (L.drop 4) := by
    conv => lhs; rw [e]
    exact vb_append _ _ _
  rw [ev]
  have e4 : (65536 : Nat) ^ (4 - 0) = 18446744073709551616 := rfl
  by_cases hl : L.length ≤ 4
  · rw [List.drop_of_length_le hl]
    simp only [vb, Nat.mul_zero, Nat.add_zero]
    omega
  · have : (L.take 4).length = 4 := by simp; omega
    have e5 : (65536 : Nat) ^ 4 = 18446744073709551616 := rfl
    rw [this, e5]
    omega
theorem ulow_runs {l : List Value} {o c : Nat} {L : List Int} (hR : Row l o L) (hd : ∀ x ∈ L, Dg 65536 x) (hn : L.length < 1073741824) :
    Runs (tabH Try.prog extY conN hcV) (seqs (wPre Try.f60) (.seq (.seq (wR2 Try.f60) (.block 0 (.loop (wLp Try.f60)))) (wEn Try.f60))) ([sl 0 o L.length c] ++ List.replicate 21 undef, ⟨1, [(l, tR)]⟩, []) fun e z => (e = none ∨ e = some none) ∧ resS Try.prog Try.f60 z.1 z.2.1 = some (.int .u64 ((vb 65536 L % 18446744073709551616 : Nat) : Int)) := by
  have hm : m4 L.length = (((L.take 4).length : Nat) : Int) - 1 := by
    unfold m4
    rw [List.length_take]
    split
    · rw [wrapI (by omega) (by omega)]; omega
    · rw [wrapI (by omega) (by omega)]; omega
  have hz : hiV L (L.take 4).length = 0 := by unfold hiV; rw [List.drop_of_length_le (Nat.le_refl _)]; rfl
  refine goesT_list (tabH_ok conN_ok hcV_ok) (ulow_pre _ _) (fun x hx => by cases hx) fun g => ?_
  refine Runs.seq (P1 := fun e Y => match e with | none => (∃ g, Y.1 = [sl 0 o L.length c, undef, .int .u64 0, .int .u64 (hiV L 0 : Nat), .int .i64 (-1)] ++ tl 17 g) ∧ Y.2.1 = ⟨1, [(l, tR)]⟩ | some none => False | some (some _) => False) (Runs.seq (P1 := fun e Y => e = none ∧ (∃ g, Y.1 = [sl 0 o L.length c, undef, .int .u64 0, .int .u64 0, .int .i64 (m4 L.length)] ++ tl 17 g) ∧ Y.2.1 = ⟨1, [(l, tR)]⟩) (goesT_runs (tabH_ok conN_ok hcV_ok) (ulow_r2 _ L.length c _ g) (fun x hx => by cases hx)) ?_ (fun e y he => by cases he.1)) ?_ (fun e Y he => by match e, he with | none, he => exact he.elim | some id, he => exact he.elim)
  · rintro ⟨t, h', s⟩ ⟨_, ⟨g', ht⟩, hh⟩
    simp only at ht hh
    subst ht hh
    refine Runs.script (s := []) (Runs.forLoop (P := fun Y => (∃ g, Y.1 = [sl 0 o L.length c, undef, .int .u64 0, .int .u64 (hiV L 0 : Nat), .int .i64 (-1)] ++ tl 17 g) ∧ Y.2.1 = ⟨1, [(l, tR)]⟩) (R := fun _ => False)
      (fun k Y => k ≤ (L.take 4).length ∧ (∃ g, Y.1 = [sl 0 o L.length c, undef, .int .u64 0, .int .u64 (hiV L k : Nat), .int .i64 ((k : Int) - 1)] ++ tl 17 g) ∧ Y.2.1 = ⟨1, [(l, tR)]⟩) ?_ (n := (L.take 4).length) ⟨Nat.le_refl _, ⟨g', by rw [hz, hm]; rfl⟩, rfl⟩)
    rintro k ⟨t, h', s⟩ ⟨hk, ⟨g, ht⟩, hh⟩
    simp only at ht hh
    subst ht hh
    have hl4 : (L.take 4).length ≤ L.length := by simp; omega
    have hl5 : (L.take 4).length ≤ 4 := by simp; omega
    cases k with
    | zero =>
      refine (goesT_runs (tabH_ok conN_ok hcV_ok) (ulow_out _ _ _ _ g) (okOne (decide_eq_false (by omega)))).mono fun e z hz => ?_
      obtain ⟨rfl, ⟨g', z1⟩, z2⟩ := hz
      exact ⟨rfl, ⟨g', z1⟩, z2⟩
    | succ k =>
      have hd1 := dgN_lt hd k
      have hlt := hiV_lt hd (k + 1)
      have hs := hiV_step (L := L) (k := k) (by omega)
      have ek : ((k + 1 : Nat) : Int) - 1 = (k : Int) := by omega
      have hp : hiV L (k + 1) < 281474976710656 := by
        have : 65536 ^ (4 - (k + 1)) ≤ 65536 ^ 3 := Nat.pow_le_pow_right (by omega) (by omega)
        have e3 : (65536 : Nat) ^ 3 = 281474976710656 := rfl
        omega
      rw [ek]
      refine (goesT_runs (tabH_ok conN_ok hcV_ok) (ulow_go o L.length c (L.getD k 0) _ k l g) (okTwo (by rw [Int.toNat_natCast, Nat.mul_one, hR.cell (by omega)]; simp [cellIs]) (okTwo (decide_eq_true (by omega)) (okOne (show decide ((k : Int) ≥ 0) = true from decide_eq_true (by omega)))))).mono fun e z hz => ?_
      obtain ⟨rfl, ⟨g', z1⟩, z2⟩ := hz
      have e1 : lw (hiV L (k + 1) : Nat) (L.getD k 0) = ((hiV L k : Nat) : Int) := by
        unfold lw
        rw [← hd1.2, wrap64 (n := 65536 * ((hiV L (k + 1) : Nat) : Int)) (by omega) (by omega), wrap64 (n := ((dgN L k : Nat) : Int)) (by omega) (by omega), wrap64 (by omega) (by omega)]
        omega
      have e2 : IntKind.i64.wrap ((k : Int) - 1) = (k : Int) - 1 := wrapI (by omega) (by omega)
      exact ⟨k, by omega, by omega, ⟨g', by rw [z1, e1, e2]⟩, z2⟩
  · rintro ⟨t, h', s⟩ ⟨⟨g', ht⟩, hh⟩
    simp only at ht hh
    subst ht hh
    refine (goesT_runs (tabH_ok conN_ok hcV_ok) (ulow_end _ _ _ _ g') (fun x hx => by cases hx)).mono fun e z hz => ?_
    obtain ⟨rfl, ⟨g2, z1⟩, z2⟩ := hz
    refine ⟨.inr rfl, ?_⟩
    rw [z1, z2, hiV_zero hd]
    rfl
theorem ulow_body1 : Try.f60.body = some (cBody Try.f60) := by kernel_rfl
theorem ulow_zero (p : Option Addr) (c : Nat) (h : Hp) : GoesT (evC (tabH Try.prog extY conN hcV) 100 false (cBody Try.f60) ([.slice p 0 c] ++ List.replicate 21 undef, h, [cmp false]) ⟨[], [], []⟩) 3 19 (some none) [.slice p 0 c, undef, .int .u64 0] h [(decide (m4 0 ≥ 0), false)] := ⟨by kernel_rfl, by kernel_rfl, by kernel_rfl⟩
theorem m4_zero : decide (m4 0 ≥ 0) = false := by decide
/-- a number's row, or nothing -/
def rowS (h : Hp) (p : Option Addr) (n c : Nat) : Bool := rowP h p n c && dgB (rowOf h p n) && Nat.blt n 1073741824
def gUlow : AnsH := fun vals h s =>
  match vals with
  | [.slice p n c] => some (.int .u64 ((vO h p n % 18446744073709551616 : Nat) : Int), h, s, [(rowS h p n c, true)])
  | _ => none
theorem gUlow_ok : AnsHOk 60 gUlow := by
  intro vals h s v h' s' lg hg hl m B w E hv
  unfold gUlow at hg
  split at hg
  · rename_i p n c
    cases hg
    have q := hl _ (List.mem_singleton.2 rfl)
    simp only [rowS, Bool.and_eq_true] at q
    obtain ⟨⟨q1, q2⟩, q3⟩ := q
    have q2 := dgB_of q2
    have q3 := blt_iff.1 q3
    have hlen := rowOf_len q1
    by_cases hn : n = 0
    · subst hn
      have e0 : rowOf h p 0 = [] := List.length_eq_zero_iff.1 hlen
      have ev : vO h p 0 = 0 := by unfold vO; rw [e0]; rfl
      obtain ⟨x, p', a, NA, eA, fA⟩ := nu_of 0 q1
      have hr : Runs (tabH Try.prog extY conN hcV) (cBody Try.f60) ([.slice p' 0 c] ++ List.replicate 21 undef, ⟨1, [x]⟩, []) fun e z => (e = none ∨ e = some none) ∧ resS Try.prog Try.f60 z.1 z.2.1 = some (.int .u64 ((vO h p 0 % 18446744073709551616 : Nat) : Int)) := by
        refine (goesT_runs (tabH_ok conN_ok hcV_ok) (ulow_zero p' c _) (okOne m4_zero)).mono fun e z he => ?_
        obtain ⟨rfl, ⟨g, e2⟩, e3⟩ := he
        refine ⟨.inr rfl, ?_⟩
        rw [e2, e3, ev]
        rfl
      have b1 : ∀ {i : Nat} {z : List Value × TypeId}, (⟨1, [x]⟩ : Hp).blk? i = some z → i = 0 ∧ z = x := fun {i z} hz => by
        have : i < 1 := Hp.blk_lt hz
        have hi : i = 0 := by omega
        subst hi
        exact ⟨rfl, (Option.some.inj hz).symm⟩
      have := row_calls0 (T := tabH Try.prog extY conN hcV) Try.func60 ulow_body1 (h0 := ⟨1, [x]⟩) ⟨rfl, fun b z hz => by obtain ⟨_, rfl⟩ := b1 hz; exact ⟨NA.ros.1, NA.lt0, NA.ros.2⟩⟩ (vals := [.slice p' 0 c]) (fun v hv => by rw [List.mem_singleton.1 hv]; exact NA.lt (by show 0 < 1; omega)) (by rfl) hr.w E (s := fun _ => a) (fun i z hz ht => by obtain ⟨_, rfl⟩ := b1 hz; exact fA ht)
      simp only [List.map_cons, List.map_nil] at this
      rw [eA _ rfl] at this
      exact this
    rcases rowP_cases q1 with ⟨rfl, rfl, rfl, e0⟩ | ⟨b, o, x, rfl, hx, r1, _, e0⟩
    · exact absurd rfl hn
    · rw [e0] at q2 hlen
      obtain ⟨h1, h2, h3, h4, h5, h6, h7⟩ := rowC_of r1
      have r := ulow_runs (c := c) h1 q2 (by rw [h2]; exact q3)
      rw [h2] at r
      have ev : vO h (some ⟨b, o, none⟩) n = vb 65536 (cutI x.1 o n) := by unfold vO; rw [e0]
      rw [ev]
      exact row_calls0 (T := tabH Try.prog extY conN hcV) Try.func60 ulow_body (rows1 h7) (vals := [sl 0 o n c]) (fun v hv => by rw [List.mem_singleton.1 hv]; rfl) (by rfl) r.w E (s := fun _ => b) (fitsR1 hx h5 h6 rfl)
  · cases hg
end Go.Proofs.Ytnolcojnodoecaa

/-
  The document's rows of parts of 16 bits (tillerref02): Bit, as a call; the pieces of Shr.
-/
namespace Go.Proofs.Ytnolcojnodoecaa
open Go.KRun Go.Nt
set_option maxRecDepth 100000

/-! ### Bit -/
theorem ubit_body : Try.f80.body = some (seqs (wPre Try.f80) (.seq (.seq (wR2 Try.f80) (.block 0 (.loop (wLp Try.f80)))) (wEn Try.f80))) := by kernel_rfl
theorem ubit_pre (p : Option Addr) (n c : Nat) (k : Int) (h : Hp) : GoesT (evL (tabH Try.prog extY conN hcV) 100 (wPre Try.f80) ([.slice p n c, .int .i64 k] ++ List.replicate 20 undef, h, []) ⟨[], [], []⟩) 6 16 none [.slice p n c, .int .i64 k, undef, undef, .int .i64 0, .int .u32 (atN (rowOf h p n) (k16 k))] h [(rowP h p n c, true)] := ⟨by kernel_rfl, by kernel_rfl, by kernel_rfl⟩
theorem ubit_r2 (a : Value) (k x : Int) (h : Hp) (g : Nat → Value) : GoesT (evC (tabH Try.prog extY conN hcV) 100 false (wR2 Try.f80) ([a, .int .i64 k, undef, undef, .int .i64 0, .int .u32 x] ++ tl 16 g, h, []) ⟨[], [], []⟩) 7 15 none [a, .int .i64 k, undef, undef, .int .i64 0, .int .u32 x, .int .i64 0] h [] := ⟨by kernel_rfl, by kernel_rfl, by kernel_rfl⟩
theorem ubit_go (a : Value) (k x i : Int) (h : Hp) (g : Nat → Value) : GoesT (evC (tabH Try.prog extY conN hcV) 100 false (wLp Try.f80) ([a, .int .i64 k, undef, undef, .int .i64 0, .int .u32 x, .int .i64 i] ++ tl 15 g, h, [cmp true, cmp true]) ⟨[], [], []⟩) 7 15 none [a, .int .i64 k, undef, undef, .int .i64 0, .int .u32 (IntKind.u32.wrap (x.tdiv 2)), .int .i64 (IntKind.i64.wrap (i + 1))] h [(decide (i < k.tmod 16), true), (decide ((16 : Int) = 0), false)] := ⟨by kernel_rfl, by kernel_rfl, by kernel_rfl⟩
theorem ubit_out (a : Value) (k x i : Int) (h : Hp) (g : Nat → Value) : GoesT (evC (tabH Try.prog extY conN hcV) 100 false (wLp Try.f80) ([a, .int .i64 k, undef, undef, .int .i64 0, .int .u32 x, .int .i64 i] ++ tl 15 g, h, [cmp true, cmp false]) ⟨[], [], []⟩) 7 15 (some (some 0)) [a, .int .i64 k, undef, undef, .int .i64 0, .int .u32 x, .int .i64 i] h [(decide (i < k.tmod 16), false), (decide ((16 : Int) = 0), false)] := ⟨by kernel_rfl, by kernel_rfl, by kernel_rfl⟩
theorem ubit_end (a : Value) (k x i : Int) (h : Hp) (g : Nat → Value) : GoesT (evC (tabH Try.prog extY conN hcV) 100 false (wEn Try.f80) ([a, .int .i64 k, undef, undef, .int .i64 0, .int .u32 x, .int .i64 i] ++ tl 15 g, h, [cmp true]) ⟨[], [], []⟩) 5 17 (some none) [a, .int .i64 k, undef, undef, .int .i64 (IntKind.i64.wrap (x.tmod 2))] h [(decide ((2 : Int) = 0), false)] := ⟨by kernel_rfl, by kernel_rfl, by kernel_rfl⟩
theorem ubit_loop (a : Value) (k x : Nat) (hx : x < 65536) (h : Hp) (g : Nat → Value) :
    Runs (tabH Try.prog extY conN hcV) (.block 0 (.loop (wLp Try.f80))) ([a, .int .i64 (k : Nat), undef, undef, .int .i64 0, .int .u32 (x : Nat), .int .i64 0] ++ tl 15 g, h, []) fun e Y => match e with | none => (∃ g i, Y.1 = [a, .int .i64 (k : Nat), undef, undef, .int .i64 0, .int .u32 ((x / 2 ^ (k % 16) : Nat) : Int), .int .i64 i] ++ tl 15 g) ∧ Y.2.1 = h | some none => False | some (some _) => False := by
  have em : (k : Int).tmod 16 = ((k % 16 : Nat) : Int) := by rw [Int.tmod_eq_emod_of_nonneg (by omega)]; omega
  refine Runs.forLoop (P := fun Y => (∃ g i, Y.1 = [a, .int .i64 (k : Nat), undef, undef, .int .i64 0, .int .u32 ((x / 2 ^ (k % 16) : Nat) : Int), .int .i64 i] ++ tl 15 g) ∧ Y.2.1 = h) (R := fun _ => False)
    (fun m Y => ∃ j : Nat, j ≤ k % 16 ∧ m = k % 16 - j ∧ (∃ g, Y.1 = [a, .int .i64 (k : Nat), undef, undef, .int .i64 0, .int .u32 ((x / 2 ^ j : Nat) : Int), .int .i64 (j : Nat)] ++ tl 15 g) ∧ Y.2.1 = h) ?_ (n := k % 16) ⟨0, by omega, by omega, ⟨g, by simp⟩, rfl⟩
  rintro m ⟨t, h', s⟩ ⟨j, hj, hm, ⟨g, ht⟩, hh⟩
  simp only at ht hh
  subst ht hh
  have hle : x / 2 ^ j ≤ x := Nat.div_le_self _ _
  by_cases hlt : j < k % 16
  · refine (goesT_runs (tabH_ok conN_ok hcV_ok) (ubit_go a k _ j h' g) (okTwo (by rw [em]; exact decide_eq_true (by omega)) (okOne rfl))).mono fun e z hz => ?_
    obtain ⟨rfl, ⟨g', z1⟩, z2⟩ := hz
    have e1 : IntKind.u32.wrap (((x / 2 ^ j : Nat) : Int).tdiv 2) = ((x / 2 ^ (j + 1) : Nat) : Int) := by
      rw [Nat.pow_succ, ← Nat.div_div_eq_div_mul]
      generalize x / 2 ^ j = y at hle ⊢
      rw [Int.tdiv_eq_ediv_of_nonneg (by omega), wrap32 (by omega) (by omega)]
      rfl
    have e2 : IntKind.i64.wrap ((j : Int) + 1) = ((j + 1 : Nat) : Int) := by rw [wrapI (by omega) (by omega)]; omega
    exact ⟨k % 16 - (j + 1), by omega, j + 1, by omega, rfl, ⟨g', by rw [z1, e1, e2]⟩, z2⟩
  · have hj' : j = k % 16 := by omega
    subst hj'
    refine (goesT_runs (tabH_ok conN_ok hcV_ok) (ubit_out a k _ _ h' g) (okTwo (by rw [em]; exact decide_eq_false (by omega)) (okOne rfl))).mono fun e z hz => ?_
    obtain ⟨rfl, ⟨g', z1⟩, z2⟩ := hz
    exact ⟨rfl, ⟨g', _, z1⟩, z2⟩
/-- a row or nothing: its digits -/
def rowD (h : Hp) (p : Option Addr) (n c : Nat) : Bool := rowP h p n c && dgB (rowOf h p n) && Nat.blt n 1073741824
def gUbit : AnsH := fun vals h s =>
  match vals with
  | [.slice p n c, .int .i64 k] => some (.int .i64 ((vO h p n / 2 ^ k.toNat % 2 : Nat) : Int), h, s, [(rowD h p n c, true), (decide (0 ≤ k ∧ k < 4611686018427387904), true)])
  | _ => none
theorem dg_dgN (L : List Int) (i : Nat) : dgS L i = dgN L i := rfl
theorem blkOne {x : List Value × TypeId} {i : Nat} {z : List Value × TypeId} (hz : (⟨1, [x]⟩ : Hp).blk? i = some z) : i = 0 ∧ z = x := by
  have : i < 1 := Hp.blk_lt hz
  have hi : i = 0 := by omega
  subst hi
  exact ⟨rfl, (Option.some.inj hz).symm⟩
theorem gUbit_ok : AnsHOk 80 gUbit := by
  intro vals h s v h' s' lg hg hl m B w E hv
  unfold gUbit at hg
  split at hg
  · rename_i p n c k
    cases hg
    have q := hl _ (List.mem_cons_self)
    have qk := of_decide_eq_true (hl _ (List.mem_cons_of_mem _ (List.mem_singleton.2 rfl)))
    simp only [rowD, Bool.and_eq_true] at q
    obtain ⟨⟨q1, q2⟩, q3⟩ := q
    have q2 := dgB_of q2
    obtain ⟨K, rfl⟩ := Int.eq_ofNat_of_zero_le qk.1
    obtain ⟨x, p', a, NA, eA, fA⟩ := nu_of 0 q1
    obtain ⟨rp, ro'⟩ := NA.row ⟨1, [x]⟩ rfl
    have ek : k16 (K : Int) = ((K / 16 : Nat) : Int) := by unfold k16; rw [Int.tdiv_eq_ediv_of_nonneg (by omega), wrapI (by omega) (by omega)]; omega
    have hd := dgN_lt q2 (K / 16)
    have hr : Runs (tabH Try.prog extY conN hcV) (seqs (wPre Try.f80) (.seq (.seq (wR2 Try.f80) (.block 0 (.loop (wLp Try.f80)))) (wEn Try.f80))) ([.slice p' n c, .int .i64 (K : Nat)] ++ List.replicate 20 undef, ⟨1, [x]⟩, []) fun e z => (e = none ∨ e = some none) ∧ resS Try.prog Try.f80 z.1 z.2.1 = some (.int .i64 ((vO h p n / 2 ^ K % 2 : Nat) : Int)) := by
      refine goesT_list (tabH_ok conN_ok hcV_ok) (ubit_pre p' n c K _) (okOne rp) fun g => ?_
      rw [ro', ek, atN_nat, ← hd.2]
      refine Runs.seq (P1 := fun e Y => match e with | none => (∃ g i, Y.1 = [.slice p' n c, .int .i64 (K : Nat), undef, undef, .int .i64 0, .int .u32 ((dgN (rowOf h p n) (K / 16) / 2 ^ (K % 16) : Nat) : Int), .int .i64 i] ++ tl 15 g) ∧ Y.2.1 = ⟨1, [x]⟩ | some none => False | some (some _) => False) (Runs.seq (P1 := fun e Y => e = none ∧ (∃ g, Y.1 = [.slice p' n c, .int .i64 (K : Nat), undef, undef, .int .i64 0, .int .u32 ((dgN (rowOf h p n) (K / 16) : Nat) : Int), .int .i64 0] ++ tl 15 g) ∧ Y.2.1 = ⟨1, [x]⟩) (goesT_runs (tabH_ok conN_ok hcV_ok) (ubit_r2 _ K _ _ g) (fun x hx => by cases hx)) ?_ (fun e y he => by cases he.1)) ?_ (fun e Y he => by match e, he with | none, he => exact he.elim | some id, he => exact he.elim)
      · rintro ⟨t, h', s⟩ ⟨_, ⟨g', ht⟩, hh⟩
        simp only at ht hh
        subst ht hh
        exact Runs.script (ubit_loop _ K _ hd.1 _ g')
      · rintro ⟨t, h', s⟩ ⟨⟨g', i, ht⟩, hh⟩
        simp only at ht hh
        subst ht hh
        refine (goesT_runs (tabH_ok conN_ok hcV_ok) (ubit_end _ _ _ _ _ g') (okOne rfl)).mono fun e z hz => ?_
        obtain ⟨rfl, ⟨g2, z1⟩, z2⟩ := hz
        refine ⟨.inr rfl, ?_⟩
        have e1 : IntKind.i64.wrap ((((dgN (rowOf h p n) (K / 16) / 2 ^ (K % 16) : Nat) : Int)).tmod 2) = ((vO h p n / 2 ^ K % 2 : Nat) : Int) := by
          unfold vO
          rw [bit_dg q2 K, dg_dgN]
          generalize dgN (rowOf h p n) (K / 16) / 2 ^ (K % 16) = y
          rw [Int.tmod_eq_emod_of_nonneg (by omega), wrapI (by omega) (by omega)]
          rfl
        rw [z1, z2, e1]
        rfl
    have := row_calls0 (T := tabH Try.prog extY conN hcV) Try.func80 ubit_body (h0 := ⟨1, [x]⟩) ⟨rfl, fun b z hz => by obtain ⟨_, rfl⟩ := blkOne hz; exact ⟨NA.ros.1, NA.lt0, NA.ros.2⟩⟩ (vals := [.slice p' n c, .int .i64 (K : Nat)]) (fun v hv => by
      simp only [List.mem_cons, List.not_mem_nil, or_false] at hv
      rcases hv with rfl | rfl
      · exact NA.lt (by show 0 < 1; omega)
      · rfl) (by rfl) hr.w E (s := fun _ => a) (fun i z hz ht => by obtain ⟨_, rfl⟩ := blkOne hz; exact fA ht)
    simp only [List.map_cons, List.map_nil] at this
    rw [eA _ rfl] at this
    exact this
  · cases hg
end Go.Proofs.Ytnolcojnodoecaa
