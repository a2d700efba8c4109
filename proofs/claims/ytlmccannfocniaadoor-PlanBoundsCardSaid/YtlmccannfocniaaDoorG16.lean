/-
  PlO
-/
import Derived.Test.YtlmccannfocniaaDoorG15
namespace Go.Proofs.YtlmccannfocniaaDoor
open Go.KRun Go.RowKit Go.Pl
set_option maxRecDepth 100000
/-- a call that begins with rows and a table; its answer holds addresses of these alone -/
theorem fits_rowA {T : Tab} (hT : TabOk T) {h0 : Hp} {n f : Nat} {vals : List Value} {sc : List Dec} {v : Value} {lg : Log} (hF : Fits (reckonAt T h0 n f vals sc) v lg) (hlg : okLog lg)
    (hvals : ∀ v ∈ vals, lt h0.n v = true) (hv0 : oc (List.range h0.n) v = true)
    {m : Mp} {B : Nat} {h : Hp} {w : World} (E : Emb m B h w) {s : Nat → Nat} (hs : ∀ i, i < h0.n → s i < h.n) (E0 : Emb (fun i => m (s i)) w.heap.size h0 w) :
    Calls T.P f ((vals.map (rn s)).map (mv m)).toArray w fun e w' => ∃ m', e = .returned (mv m' (rn s v)) ∧ Came m B h w (rn s v) h m' w' := by
  have ev : (vals.map (rn s)).map (mv m) = vals.map (mv fun i => m (s i)) := by
    rw [List.map_map]
    exact List.map_congr_left fun y _ => mv_rn m s y
  rw [ev]
  obtain ⟨f1, f2, f3, f4⟩ := hF
  cases hrr : reckonAt T h0 n f vals sc with
  | none => rw [hrr] at f1; cases f1
  | some r =>
    rw [hrr] at f1 f2 f3 f4
    obtain ⟨v', h', s', L⟩ := r
    simp only [Option.map_some, Option.some.injEq] at f1 f2 f3 f4
    subst f1
    obtain ⟨_, _, h5⟩ := callBy_ok hT (evC_ok hT n).1 _ _ _ _ _ _ _ _ _ hrr ⟨by rw [f2]; exact hlg, all_eq _ f3, all_eq _ f4⟩
    refine (h5 _ _ w E0 hvals).mono fun en w' he => ?_
    obtain ⟨m1, rfl, C⟩ := he
    have td : Tidy w w' := ⟨C.below, fun k h1 h2 => C.emb.ice k h1 h2⟩
    obtain ⟨E', hb⟩ := clean_emb E td
    have e1 : mv m1 v' = mv m (rn s v') := by
      rw [mv_rn]
      exact mv_on (fun b hb => C.agree b (by simpa using hb)) hv0
    exact ⟨m, by rw [e1], Agree.refl _ _, E', hb, Nat.le_refl _, oc_ren (fun b hb => hs b (by simpa using hb)) hv0⟩
def hcCo : Hc := altH 21 gPt hcN
theorem hcCo_ok : HcOk hcCo := altH_ok Tryd.func21 rfl gPt_ok hcN_ok
theorem T7_ok : TabOk (tabA (tabH Tryd.prog extY conN hcCo)) := tabA_ok (tabH_ok conN_ok hcCo_ok)
theorem co_a (x : List Value × TypeId) (p : Option Addr) (n c : Nat) (N P : Int) : Fits (reckonAt (tabA (tabH Tryd.prog extY conN hcCo)) (hTR x) 100 27 [plnV N p n c P] [cmp true]) (.tuple #[.int .i64 N, .slice p n c]) [(P == 0, true)] := ⟨by kernel_rfl, by kernel_rfl, by kernel_rfl, by kernel_rfl⟩
theorem co_b (x : List Value × TypeId) (p : Option Addr) (n c : Nat) (N P : Int) (w : Int) (l : List Value) : FitsB (reckonAt (tabA (tabH Tryd.prog extY conN hcCo)) (hTR x) 100 27 [plnV N p n c P] [cmp false, cmp true, num w, val (.agg ⟨l⟩)]) 3 (.tuple #[.int .i64 P, .slice (some ⟨3, 0, none⟩) l.length grown]) l tIn [(eqI19 l (plI P), true), (decide (((plW P.toNat : Nat) : Int) = w), true), (okPl P true, true), (P == 0, false)] := by unfold FitsB; kernel_rfl
theorem co_c (x : List Value × TypeId) (p : Option Addr) (n c : Nat) (N P : Int) (w : Int) : Fits (reckonAt (tabA (tabH Tryd.prog extY conN hcCo)) (hTR x) 100 27 [plnV N p n c P] [cmp false, cmp false, num w]) (.tuple #[.int .i64 P, .slice none 0 0]) [(decide (((plW P.toNat : Nat) : Int) = w), true), (okPl P false, true), (P == 0, false)] := ⟨by kernel_rfl, by kernel_rfl, by kernel_rfl, by kernel_rfl⟩
def gCo : AnsH := fun vals h s => match hasRd h, vals, s with
  | true, [.agg ⟨[.int .i64 N, .slice p n c, .int .i64 P]⟩], .inr (.inr (.inr (.inl true))) :: s' => some (.tuple #[.int .i64 N, .slice p n c], h, s', [(P == 0, true), (rowIP h p n, true)])
  | true, [.agg ⟨[.int .i64 _, .slice p n _, .int .i64 P]⟩], .inr (.inr (.inr (.inl false))) :: .inr (.inr (.inr (.inl true))) :: .inr (.inl w) :: .inr (.inr (.inr (.inr (.inr (.agg ⟨l⟩))))) :: s' => some (.tuple #[.int .i64 P, .slice (some ⟨h.n, 0, none⟩) l.length grown], h.push l tIn, s', [(eqI19 l (plI P), true), (decide (((plW P.toNat : Nat) : Int) = w), true), (okPl P true, true), (P == 0, false), (rowIP h p n, true)])
  | true, [.agg ⟨[.int .i64 _, .slice p n _, .int .i64 P]⟩], .inr (.inr (.inr (.inl false))) :: .inr (.inr (.inr (.inl false))) :: .inr (.inl w) :: s' => some (.tuple #[.int .i64 P, .slice none 0 0], h, s', [(decide (((plW P.toNat : Nat) : Int) = w), true), (okPl P false, true), (P == 0, false), (rowIP h p n, true)])
  | _, _, _ => none
theorem row_lt {m : Mp} {B : Nat} {h : Hp} {w : World} (E : Emb m B h w) {p : Option Addr} {n : Nat} (hr : rowIP h p n = true) (ht : hasRd h = true) :
    ∃ (x : List Value × TypeId) (p' : Option Addr) (s : Nat → Nat), Emb (fun i => m (s i)) w.heap.size ⟨2, [x, (rdV, rdT)]⟩ w ∧ RowAt 1 x p' n (rowO h p n) ∧ (∀ c, rn s (.slice p' n c) = .slice p n c) ∧ ∀ i, i < 2 → s i < h.n := by
  obtain ⟨bt, hbt⟩ := hasRd_is ht
  obtain ⟨x, p', b, R1, f1, t1⟩ := row_one hr 1
  have rdst : ∀ v ∈ rdV, still v = true := List.all_eq_true.1 (by kernel_rfl)
  have ltb := Hp.blk_lt hbt
  cases htx : tomb x.2 with
  | false =>
    obtain ⟨y, r, h1, h2⟩ := t1 htx
    have ltd := Hp.blk_lt h1
    refine ⟨x, p', fun i => if i = 0 then bt else b, ?_, R1, f1 _ rfl, fun i hi => ?_⟩
    · refine E.smallB rfl (fun k z hk => ?_) (fun k z hk hz => ?_) (fun k z hk hz => ?_) <;> rcases blkTwo hk with ⟨rfl, rfl⟩ | ⟨rfl, rfl⟩
      · exact ⟨by kernel_rfl, rdst⟩
      · exact ⟨R1.ros.1, R1.st⟩
      · rw [show tomb rdT = true from by kernel_rfl] at hz; cases hz
      · exact ⟨y, r, h1, h2⟩
      · exact ⟨by kernel_rfl, hbt⟩
      · rw [R1.ros.2] at hz; cases hz
    · by_cases c : i = 0
      · simpa [c] using ltb
      · simpa [c] using ltd
  | true =>
    have hp : p' = none := by
      rcases R1.pos with ⟨h0, _⟩ | ⟨o, _, hty, _⟩
      · exact h0
      · rw [hty, tIR_tomb] at htx; cases htx
    subst hp
    refine ⟨x, none, fun _ => bt, ?_, R1, fun c => f1 (fun _ => b) rfl c, fun i _ => ltb⟩
    refine E.smallB rfl (fun k z hk => ?_) (fun k z hk hz => ?_) (fun k z hk hz => ?_) <;> rcases blkTwo hk with ⟨rfl, rfl⟩ | ⟨rfl, rfl⟩
    · exact ⟨by kernel_rfl, rdst⟩
    · exact ⟨R1.ros.1, R1.st⟩
    · rw [show tomb rdT = true from by kernel_rfl] at hz; cases hz
    · rw [htx] at hz; cases hz
    · exact ⟨by kernel_rfl, hbt⟩
    · rw [R1.ros.2] at hz; cases hz
theorem gCo_ok : AnsHOk 27 gCo := by
  intro vals h s v h' s' lg hg hl m B w E hv
  unfold gCo at hg
  split at hg
  · rename_i N p n c P s2 ht
    cases hg
    have l1 : (P == 0) = true := hl _ (List.mem_cons_self ..)
    obtain ⟨x, p', f, E0, hR, hf, hlt⟩ := row_lt E (hl (rowIP h p n, true) (by simp)) ht
    have := fits_rowA T7_ok (co_a x p' n c N P) (okOne l1) (plnV_lt c N P hR) (by rcases hR.pos with ⟨rfl, _⟩ | ⟨o, rfl, _⟩ <;> rfl) E hlt E0
    have e : ∀ q, rn f (.tuple #[.int .i64 N, .slice q n c]) = .tuple #[.int .i64 N, rn f (.slice q n c)] := fun q => by cases q <;> kernel_rfl
    rw [e, hf c] at this
    simp only [List.map_cons, List.map_nil, plnV_rn (hf c)] at this
    exact this
  · rename_i N p n c P w1 l s2 ht
    cases hg
    have l1 : eqI19 l (plI P) = true := hl _ (List.mem_cons_self ..)
    have l2 : decide (((plW P.toNat : Nat) : Int) = w1) = true := hl (decide (((plW P.toNat : Nat) : Int) = w1), true) (by simp)
    have l3 : okPl P true = true := hl (okPl P true, true) (by simp)
    have l4 : (P == 0) = false := hl (P == 0, false) (by simp)
    obtain ⟨x, p', f, E0, hR, hf⟩ := row_in E (hl (rowIP h p n, true) (by simp)) ht
    have := fits_row1E T7_ok (co_b x p' n c N P w1 l) (okTwo l1 (okTwo l2 (okTwo l3 (okOne l4)))) (fun u hu => by
      rw [wN_plI l1] at hu
      obtain ⟨q, _, rfl⟩ := List.mem_map.1 hu
      rfl) (by kernel_rfl) (plnV_lt c N P hR) (by kernel_rfl) E E0
    have e1 : rn (fun _ => h.n) (.tuple #[.int .i64 P, .slice (some ⟨3, 0, none⟩) l.length grown]) = .tuple #[.int .i64 P, .slice (some ⟨h.n, 0, none⟩) l.length grown] := by kernel_rfl
    rw [e1] at this
    simp only [List.map_cons, List.map_nil, plnV_rn (hf c)] at this
    exact this
  · rename_i N p n c P w1 s2 ht
    cases hg
    have l2 : decide (((plW P.toNat : Nat) : Int) = w1) = true := hl _ (List.mem_cons_self ..)
    have l3 : okPl P false = true := hl (okPl P false, true) (by simp)
    have l4 : (P == 0) = false := hl (P == 0, false) (by simp)
    obtain ⟨x, p', f, E0, hR, hf⟩ := row_in E (hl (rowIP h p n, true) (by simp)) ht
    have := fits_row0E T7_ok (co_c x p' n c N P w1) (okTwo l2 (okTwo l3 (okOne l4))) (plnV_lt c N P hR) (by rfl) E E0
    simp only [List.map_cons, List.map_nil, plnV_rn (hf c)] at this
    exact this
  · cases hg
/-! ### Bound and Steps -/
def bdE (s b : Int) : Int := IntKind.i64.wrap (IntKind.i64.wrap (IntKind.i64.wrap (2 * s) * IntKind.i64.wrap (IntKind.i64.wrap (4 * b) + 12)) + 4)
/-- what they answer of a plan that may be -/
def bdV (N P : Int) (L : List Int) : Int := if P = 0 then sumF wrR L else bdE (rtK N.toNat : Nat) (sumF wrR (plI P))
def stV (N P : Int) (L : List Int) : Int := if P = 0 then sumF (litF N) L else IntKind.i64.wrap (sumF (litF P) (plI P) * 2)
theorem prG_all : ∀ (L : List Int) (k : Int), 0 < k → k ≤ 16777216 → prG k L ≠ 0 → (∀ x ∈ L, isR x = true) ∧ k + L.length ≤ 16777217
  | [], k, _, h1, _ => ⟨fun x hx => (by cases hx), by simp; omega⟩
  | r :: l, k, h0, h1, h => by
    have e : prG k (r :: l) = if isR r = true then (if k > Int.tdiv 16777216 r then 0 else prG (k * r) l) else 0 := rfl
    rw [e] at h
    by_cases hr : isR r = true
    · rw [if_pos hr] at h
      by_cases c : k > Int.tdiv 16777216 r
      · rw [if_pos c] at h; exact absurd rfl h
      · rw [if_neg c] at h
        obtain ⟨_, q2⟩ := tdiv_R hr
        obtain ⟨w1, w2, _⟩ := q2 k h0 (by omega)
        have hr2 : 2 ≤ r := by rcases isR_is hr with rfl | rfl | rfl | rfl | rfl | rfl | rfl <;> decide
        have hm : k * 2 ≤ k * r := Int.mul_le_mul_of_nonneg_left hr2 (by omega)
        obtain ⟨i1, i2⟩ := prG_all l (k * r) w1 w2 h
        refine ⟨fun x hx => ?_, by rw [List.length_cons]; omega⟩
        rcases List.mem_cons.1 hx with e | e
        · rw [e]; exact hr
        · exact i1 x e
    · rw [if_neg hr] at h; exact absurd rfl h
theorem ckB_of {N P : Int} {L : List Int} (h : ckB N P L = true) : (1 ≤ N ∧ N ≤ 16777216) ∧ ((P = 0 ∧ prG 1 L = N ∧ (∀ x ∈ L, isR x = true) ∧ L.length < 1073741824) ∨ (L = [] ∧ (∃ j, P = ((2 ^ j : Nat) : Int) ∧ j ≤ 26) ∧ 2 * N - 1 ≤ P)) := by
  unfold ckB at h
  simp only [Bool.and_eq_true, Bool.not_eq_true', decide_eq_false_iff_not, Bool.or_eq_true] at h
  obtain ⟨h1, h2, h3⟩ := h
  have hN : 1 ≤ N ∧ N ≤ 16777216 := ⟨by omega, by omega⟩
  refine ⟨hN, ?_⟩
  rcases h3 with h3 | h3
  · unfold gbB at h3
    rw [Bool.and_eq_true] at h3
    have e1 := eq_of_beq h3.1
    have e2 := eq_of_beq h3.2
    obtain ⟨a1, a2⟩ := prG_all L 1 (by decide) (by decide) (by omega)
    exact .inl ⟨e1, e2, a1, by omega⟩
  · unfold gpB at h3
    have w2 : IntKind.i64.wrap (IntKind.i64.wrap (2 * N) - 1) = 2 * N - 1 := by rw [wrapI (n := 2 * N) (by omega) (by omega), wrapI (by omega) (by omega)]
    rw [w2] at h3
    simp only [Bool.and_eq_true, decide_eq_true_eq] at h3
    obtain ⟨b1, b2, b3, b4⟩ := h3
    have e0 := eq_of_beq b2
    have hP : ((ppK P : Nat) : Int) = P := (pp_iff (by omega)).2 ⟨b1, b4⟩
    obtain ⟨i, i1, i2⟩ := ppN_pow 26 0 P rfl
    have i1' : ppK P = 2 ^ i := i1
    exact .inr ⟨List.length_eq_zero_iff.1 (by omega), ⟨i, by rw [← hP, i1'], i2⟩, by omega⟩
def hcBd : Hc := altH 11 gCk (altH 27 gCo (altH 28 gWr (altH 31 gLi (altH 29 gRt hcN))))
theorem hcBd_ok : HcOk hcBd := altH_ok Tryd.func11 rfl gCk_ok (altH_ok Tryd.func27 rfl gCo_ok (altH_ok Tryd.func28 rfl gWr_ok (altH_ok Tryd.func31 rfl gLi_ok (altH_ok Tryd.func29 rfl gRt_ok hcN_ok))))
theorem T8_ok : TabOk (tabH Tryd.prog extY conN hcBd) := tabH_ok conN_ok hcBd_ok
theorem bd_b0 (x : List Value × TypeId) (p : Option Addr) (n c : Nat) (N P : Int) : Fits (reckonAt (tabH Tryd.prog extY conN hcBd) (hTR x) 100 14 [plnV N p n c P] [cmp false]) (.tuple #[.int .i64 0, erV 10]) [(ckB N P (rowO (hTR3 ([.int .i64 N, .slice p n c, .int .i64 P], 24) x) p n), false), (rowIP (hTR3 ([.int .i64 N, .slice p n c, .int .i64 P], 24) x) p n, true)] := ⟨by kernel_rfl, by kernel_rfl, by kernel_rfl, by kernel_rfl⟩
theorem bd_t0 (x : List Value × TypeId) (p : Option Addr) (n c : Nat) (N P : Int) : Fits (reckonAt (tabH Tryd.prog extY conN hcBd) (hTR x) 100 16 [plnV N p n c P] [cmp false]) (.tuple #[.int .i64 0, erV 10]) [(ckB N P (rowO (hTR3 ([.int .i64 N, .slice p n c, .int .i64 P], 24) x) p n), false), (rowIP (hTR3 ([.int .i64 N, .slice p n c, .int .i64 P], 24) x) p n, true)] := ⟨by kernel_rfl, by kernel_rfl, by kernel_rfl, by kernel_rfl⟩
theorem bd_b1 (x : List Value × TypeId) (p : Option Addr) (n c : Nat) (N P : Int) : Fits (reckonAt (tabH Tryd.prog extY conN hcBd) (hTR x) 100 14 [plnV N p n c P] [cmp true, cmp true, cmp false]) (.tuple #[.int .i64 (sumF wrR (rowO (hTR3 ([.int .i64 N, .slice p n c, .int .i64 P], 24) x) p n)), .nilIface]) [(P != 0, false), (okRs (hTR3 ([.int .i64 N, .slice p n c, .int .i64 P], 24) x) p n, true), (P == 0, true), (rowIP (hTR3 ([.int .i64 N, .slice p n c, .int .i64 P], 24) x) p n, true), (ckB N P (rowO (hTR3 ([.int .i64 N, .slice p n c, .int .i64 P], 24) x) p n), true), (rowIP (hTR3 ([.int .i64 N, .slice p n c, .int .i64 P], 24) x) p n, true)] := ⟨by kernel_rfl, by kernel_rfl, by kernel_rfl, by kernel_rfl⟩
theorem bd_b2 (x : List Value × TypeId) (p : Option Addr) (n c : Nat) (N P : Int) (w S : Int) (l : List Value) : Fits (reckonAt (tabH Tryd.prog extY conN hcBd) (hTR x) 100 14 [plnV N p n c P] [cmp true, cmp false, cmp true, num w, val (.agg ⟨l⟩), cmp true, num S]) (.tuple #[.int .i64 (bdE S (sumF wrR (cutO l 0 l.length))), .nilIface]) [(decide (((rtK N.toNat : Nat) : Int) = S), true), (decide (0 < N ∧ N ≤ 16777216), true), (P != 0, true), (rowCO tIn l 0 l.length && ((cutO l 0 l.length).all isR && Nat.blt l.length 1073741824), true), (eqI19 l (plI P), true), (decide (((plW P.toNat : Nat) : Int) = w), true), (okPl P true, true), (P == 0, false), (rowIP (hTR3 ([.int .i64 N, .slice p n c, .int .i64 P], 24) x) p n, true), (ckB N P (rowO (hTR3 ([.int .i64 N, .slice p n c, .int .i64 P], 24) x) p n), true), (rowIP (hTR3 ([.int .i64 N, .slice p n c, .int .i64 P], 24) x) p n, true)] := ⟨by kernel_rfl, by kernel_rfl, by kernel_rfl, by kernel_rfl⟩
theorem bd_b3 (x : List Value × TypeId) (p : Option Addr) (n c : Nat) (N P : Int) (w S : Int) : Fits (reckonAt (tabH Tryd.prog extY conN hcBd) (hTR x) 100 14 [plnV N p n c P] [cmp true, cmp false, cmp false, num w, cmp true, num S]) (.tuple #[.int .i64 (bdE S 0), .nilIface]) [(decide (((rtK N.toNat : Nat) : Int) = S), true), (decide (0 < N ∧ N ≤ 16777216), true), (P != 0, true), (true, true), (decide (((plW P.toNat : Nat) : Int) = w), true), (okPl P false, true), (P == 0, false), (rowIP (hTR3 ([.int .i64 N, .slice p n c, .int .i64 P], 24) x) p n, true), (ckB N P (rowO (hTR3 ([.int .i64 N, .slice p n c, .int .i64 P], 24) x) p n), true), (rowIP (hTR3 ([.int .i64 N, .slice p n c, .int .i64 P], 24) x) p n, true)] := ⟨by kernel_rfl, by kernel_rfl, by kernel_rfl, by kernel_rfl⟩
theorem bd_t1 (x : List Value × TypeId) (p : Option Addr) (n c : Nat) (N P : Int) : Fits (reckonAt (tabH Tryd.prog extY conN hcBd) (hTR x) 100 16 [plnV N p n c P] [cmp true, cmp true, cmp false]) (.tuple #[.int .i64 (sumF (litF N) (rowO (hTR3 ([.int .i64 N, .slice p n c, .int .i64 P], 24) x) p n)), .nilIface]) [(P != 0, false), (decide (0 ≤ N ∧ N ≤ 67108864), true), (okRs (hTR3 ([.int .i64 N, .slice p n c, .int .i64 P], 24) x) p n, true), (P == 0, true), (rowIP (hTR3 ([.int .i64 N, .slice p n c, .int .i64 P], 24) x) p n, true), (ckB N P (rowO (hTR3 ([.int .i64 N, .slice p n c, .int .i64 P], 24) x) p n), true), (rowIP (hTR3 ([.int .i64 N, .slice p n c, .int .i64 P], 24) x) p n, true)] := ⟨by kernel_rfl, by kernel_rfl, by kernel_rfl, by kernel_rfl⟩
theorem bd_t2 (x : List Value × TypeId) (p : Option Addr) (n c : Nat) (N P : Int) (w : Int) (l : List Value) : Fits (reckonAt (tabH Tryd.prog extY conN hcBd) (hTR x) 100 16 [plnV N p n c P] [cmp true, cmp false, cmp true, num w, val (.agg ⟨l⟩), cmp true]) (.tuple #[.int .i64 (IntKind.i64.wrap (sumF (litF P) (cutO l 0 l.length) * 2)), .nilIface]) [(P != 0, true), (decide (0 ≤ P ∧ P ≤ 67108864), true), (rowCO tIn l 0 l.length && ((cutO l 0 l.length).all isR && Nat.blt l.length 1073741824), true), (eqI19 l (plI P), true), (decide (((plW P.toNat : Nat) : Int) = w), true), (okPl P true, true), (P == 0, false), (rowIP (hTR3 ([.int .i64 N, .slice p n c, .int .i64 P], 24) x) p n, true), (ckB N P (rowO (hTR3 ([.int .i64 N, .slice p n c, .int .i64 P], 24) x) p n), true), (rowIP (hTR3 ([.int .i64 N, .slice p n c, .int .i64 P], 24) x) p n, true)] := ⟨by kernel_rfl, by kernel_rfl, by kernel_rfl, by kernel_rfl⟩
theorem bd_t3 (x : List Value × TypeId) (p : Option Addr) (n c : Nat) (N P : Int) (w : Int) : Fits (reckonAt (tabH Tryd.prog extY conN hcBd) (hTR x) 100 16 [plnV N p n c P] [cmp true, cmp false, cmp false, num w, cmp true]) (.tuple #[.int .i64 (IntKind.i64.wrap (sumF (litF P) [] * 2)), .nilIface]) [(P != 0, true), (decide (0 ≤ P ∧ P ≤ 67108864), true), (true, true), (decide (((plW P.toNat : Nat) : Int) = w), true), (okPl P false, true), (P == 0, false), (rowIP (hTR3 ([.int .i64 N, .slice p n c, .int .i64 P], 24) x) p n, true), (ckB N P (rowO (hTR3 ([.int .i64 N, .slice p n c, .int .i64 P], 24) x) p n), true), (rowIP (hTR3 ([.int .i64 N, .slice p n c, .int .i64 P], 24) x) p n, true)] := ⟨by kernel_rfl, by kernel_rfl, by kernel_rfl, by kernel_rfl⟩
theorem Bd_fits {x : List Value × TypeId} {p : Option Addr} {n : Nat} {L : List Int} (hR : RowAt 1 x p n L) {N P : Int} (hck : ckB N P L = true) (c : Nat) {m : Mp} {B : Nat} {h : Hp} {w : World} (E : Emb m B h w) {s : Nat → Nat} (E0 : Emb (fun i => m (s i)) w.heap.size (hTR x) w) :
    Calls Tryd.prog 14 (([plnV N p n c P].map (rn s)).map (mv m)).toArray w fun e w' => ∃ m', e = .returned (mv m' (.tuple #[.int .i64 (bdV N P L), .nilIface])) ∧ Came m B h w (.tuple #[.int .i64 (bdV N P L), .nilIface]) h m' w' := by
  obtain ⟨e1, e2⟩ := rowO_x (y := ([.int .i64 N, .slice p n c, .int .i64 P], 24)) hR
  have hv := plnV_lt c N P hR
  have hlen := hR.len
  obtain ⟨hN, h2⟩ := ckB_of hck
  have k1 : ckB N P (rowO (hTR3 ([.int .i64 N, .slice p n c, .int .i64 P], 24) x) p n) = true := by rw [e1]; exact hck
  unfold bdV
  rcases h2 with ⟨h0, _, h4, h5⟩ | ⟨hL, ⟨j, hj, hj2⟩, _⟩
  · rw [if_pos h0]
    have k2 : (P == 0) = true := by rw [h0]; rfl
    have k3 : (P != 0) = false := by rw [h0]; rfl
    have k4 : okRs (hTR3 ([.int .i64 N, .slice p n c, .int .i64 P], 24) x) p n = true := by
      unfold okRs
      rw [e1, e2, List.all_eq_true.2 h4, blt_iff.2 (show n < 1073741824 by omega)]
      rfl
    have r := fits_row0E T8_ok (bd_b1 x p n c N P) (okTwo k3 (okTwo k4 (okTwo k2 (okTwo e2 (okTwo k1 (okOne e2)))))) hv (by rfl) E E0
    rw [e1] at r
    exact r
  · have hpos : 0 < 2 ^ j := Nat.two_pow_pos j
    have hle : 2 ^ j ≤ 67108864 := Nat.pow_le_pow_right (by decide) hj2
    have hP0 : P ≠ 0 := by omega
    rw [if_neg hP0]
    have k2 : (P == 0) = false := beq_eq_false_iff_ne.2 hP0
    have k3 : (P != 0) = true := bne_iff_ne.2 hP0
    have et : P.toNat = 2 ^ j := by omega
    have ok1 : decide (0 < P ∧ P ≤ 67108864) = true := decide_eq_true (by omega)
    have kp : decide (0 ≤ P ∧ P ≤ 67108864) = true := decide_eq_true (by omega)
    have kn : decide (0 < N ∧ N ≤ 16777216) = true := decide_eq_true (by omega)
    have hpl : plI P = (plL (2 ^ j)).map fun r => ((r : Nat) : Int) := by unfold plI; rw [et]
    have hw : decide (((plW P.toNat : Nat) : Int) = ((plW (2 ^ j) : Nat) : Int)) = true := by rw [et]; exact decide_eq_true rfl
    have hs : decide (((rtK N.toNat : Nat) : Int) = ((rtK N.toNat : Nat) : Int)) = true := decide_eq_true rfl
    cases hp : (plL (2 ^ j)).isEmpty with
    | true =>
      have e0 : plL (2 ^ j) = [] := by simpa using hp
      have o1 : okPl P false = true := by unfold okPl; rw [ok1, et]; simpa using hp
      have r := fits_row0E T8_ok (bd_b3 x p n c N P (plW (2 ^ j) : Nat) (rtK N.toNat : Nat)) (okTwo hs (okTwo kn (okTwo k3 (okTwo rfl (okTwo hw (okTwo o1 (okTwo k2 (okTwo e2 (okTwo k1 (okOne e2)))))))))) hv (by rfl) E E0
      rw [hpl, e0]
      exact r
    | false =>
      have o1 : okPl P true = true := by unfold okPl; rw [ok1, et]; simpa using hp
      have hl := pl_len hpos
      have q1 : eqI19 (wN (plL (2 ^ j))) (plI P) = true := by rw [hj]; exact eqI_wN (2 ^ j)
      have q2 := rowCO_wN (L := plL (2 ^ j)) (by omega)
      have q3 : (((plL (2 ^ j)).map fun r => ((r : Nat) : Int)).all isR) = true := by
        rw [List.all_map]
        exact List.all_eq_true.2 fun y hy => (isR_of (pl_mem hpos y hy)).1
      have q4 : (rowCO tIn (wN (plL (2 ^ j))) 0 (wN (plL (2 ^ j))).length && ((cutO (wN (plL (2 ^ j))) 0 (wN (plL (2 ^ j))).length).all isR && Nat.blt (wN (plL (2 ^ j))).length 1073741824)) = true := by
        rw [q2, cutO_wN, q3, blt_iff.2 (show (wN (plL (2 ^ j))).length < 1073741824 by rw [wN_len]; omega)]
        rfl
      have r := fits_row0E T8_ok (bd_b2 x p n c N P (plW (2 ^ j) : Nat) (rtK N.toNat : Nat) (wN (plL (2 ^ j)))) (okTwo hs (okTwo kn (okTwo k3 (okTwo q4 (okTwo q1 (okTwo hw (okTwo o1 (okTwo k2 (okTwo e2 (okTwo k1 (okOne e2))))))))))) hv (by rfl) E E0
      rw [cutO_wN, ← hpl] at r
      exact r
/-- Bound, told ahead -/
def gBd : AnsH := fun vals h s => match hasRd h, vals, s with
  | true, [.agg ⟨[.int .i64 N, .slice p n _, .int .i64 P]⟩], .inr (.inr (.inr (.inl true))) :: .inr (.inl v) :: s' => some (.tuple #[.int .i64 v, .nilIface], h, s', [(decide (bdV N P (rowO h p n) = v), true), (ckB N P (rowO h p n), true), (rowIP h p n, true)])
  | true, [.agg ⟨[.int .i64 N, .slice p n _, .int .i64 P]⟩], .inr (.inr (.inr (.inl false))) :: s' => some (.tuple #[.int .i64 0, erV 10], h, s', [(ckB N P (rowO h p n), false), (rowIP h p n, true)])
  | _, _, _ => none
theorem gBd_ok : AnsHOk 14 gBd := by
  intro vals h s v h' s' lg hg hl m B w E hv
  unfold gBd at hg
  split at hg
  · rename_i N p n c P v0 s2 ht
    cases hg
    have l1 := of_decide_eq_true (show decide (bdV N P (rowO h p n) = v0) = true from hl _ (List.mem_cons_self ..))
    have l2 : ckB N P (rowO h p n) = true := hl (ckB N P (rowO h p n), true) (by simp)
    obtain ⟨x, p', f, E0, hR, hf⟩ := row_in E (hl (rowIP h p n, true) (by simp)) ht
    subst l1
    have r := Bd_fits hR l2 c E E0
    simp only [List.map_cons, List.map_nil, plnV_rn (hf c)] at r
    exact r
  · rename_i N p n c P s2 ht
    cases hg
    have l2 : ckB N P (rowO h p n) = false := hl _ (List.mem_cons_self ..)
    obtain ⟨x, p', f, E0, hR, hf⟩ := row_in E (hl (rowIP h p n, true) (by simp)) ht
    obtain ⟨e1, e2⟩ := rowO_x (y := ([.int .i64 N, .slice p' n c, .int .i64 P], 24)) hR
    have r := fits_row0E T8_ok (bd_b0 x p' n c N P) (okTwo (by rw [e1]; exact l2) (okOne e2)) (plnV_lt c N P hR) (by rfl) E E0
    simp only [List.map_cons, List.map_nil, plnV_rn (hf c)] at r
    exact r
  · cases hg
theorem St_fits {x : List Value × TypeId} {p : Option Addr} {n : Nat} {L : List Int} (hR : RowAt 1 x p n L) {N P : Int} (hck : ckB N P L = true) (c : Nat) {m : Mp} {B : Nat} {h : Hp} {w : World} (E : Emb m B h w) {s : Nat → Nat} (E0 : Emb (fun i => m (s i)) w.heap.size (hTR x) w) :
    Calls Tryd.prog 16 (([plnV N p n c P].map (rn s)).map (mv m)).toArray w fun e w' => ∃ m', e = .returned (mv m' (.tuple #[.int .i64 (stV N P L), .nilIface])) ∧ Came m B h w (.tuple #[.int .i64 (stV N P L), .nilIface]) h m' w' := by
  obtain ⟨e1, e2⟩ := rowO_x (y := ([.int .i64 N, .slice p n c, .int .i64 P], 24)) hR
  have hv := plnV_lt c N P hR
  have hlen := hR.len
  obtain ⟨hN, h2⟩ := ckB_of hck
  have k1 : ckB N P (rowO (hTR3 ([.int .i64 N, .slice p n c, .int .i64 P], 24) x) p n) = true := by rw [e1]; exact hck
  unfold stV
  rcases h2 with ⟨h0, _, h4, h5⟩ | ⟨hL, ⟨j, hj, hj2⟩, _⟩
  · rw [if_pos h0]
    have k2 : (P == 0) = true := by rw [h0]; rfl
    have k3 : (P != 0) = false := by rw [h0]; rfl
    have k4 : okRs (hTR3 ([.int .i64 N, .slice p n c, .int .i64 P], 24) x) p n = true := by
      unfold okRs
      rw [e1, e2, List.all_eq_true.2 h4, blt_iff.2 (show n < 1073741824 by omega)]
      rfl
    have r := fits_row0E T8_ok (bd_t1 x p n c N P) (okTwo k3 (okTwo (decide_eq_true (by omega)) (okTwo k4 (okTwo k2 (okTwo e2 (okTwo k1 (okOne e2))))))) hv (by rfl) E E0
    rw [e1] at r
    exact r
  · have hpos : 0 < 2 ^ j := Nat.two_pow_pos j
    have hle : 2 ^ j ≤ 67108864 := Nat.pow_le_pow_right (by decide) hj2
    have hP0 : P ≠ 0 := by omega
    rw [if_neg hP0]
    have k2 : (P == 0) = false := beq_eq_false_iff_ne.2 hP0
    have k3 : (P != 0) = true := bne_iff_ne.2 hP0
    have et : P.toNat = 2 ^ j := by omega
    have ok1 : decide (0 < P ∧ P ≤ 67108864) = true := decide_eq_true (by omega)
    have kp : decide (0 ≤ P ∧ P ≤ 67108864) = true := decide_eq_true (by omega)
    have kn : decide (0 < N ∧ N ≤ 16777216) = true := decide_eq_true (by omega)
    have hpl : plI P = (plL (2 ^ j)).map fun r => ((r : Nat) : Int) := by unfold plI; rw [et]
    have hw : decide (((plW P.toNat : Nat) : Int) = ((plW (2 ^ j) : Nat) : Int)) = true := by rw [et]; exact decide_eq_true rfl
    have hs : decide (((rtK N.toNat : Nat) : Int) = ((rtK N.toNat : Nat) : Int)) = true := decide_eq_true rfl
    cases hp : (plL (2 ^ j)).isEmpty with
    | true =>
      have e0 : plL (2 ^ j) = [] := by simpa using hp
      have o1 : okPl P false = true := by unfold okPl; rw [ok1, et]; simpa using hp
      have r := fits_row0E T8_ok (bd_t3 x p n c N P (plW (2 ^ j) : Nat)) (okTwo k3 (okTwo kp (okTwo rfl (okTwo hw (okTwo o1 (okTwo k2 (okTwo e2 (okTwo k1 (okOne e2))))))))) hv (by rfl) E E0
      rw [hpl, e0]
      exact r
    | false =>
      have o1 : okPl P true = true := by unfold okPl; rw [ok1, et]; simpa using hp
      have hl := pl_len hpos
      have q1 : eqI19 (wN (plL (2 ^ j))) (plI P) = true := by rw [hj]; exact eqI_wN (2 ^ j)
      have q2 := rowCO_wN (L := plL (2 ^ j)) (by omega)
      have q3 : (((plL (2 ^ j)).map fun r => ((r : Nat) : Int)).all isR) = true := by
        rw [List.all_map]
        exact List.all_eq_true.2 fun y hy => (isR_of (pl_mem hpos y hy)).1
      have q4 : (rowCO tIn (wN (plL (2 ^ j))) 0 (wN (plL (2 ^ j))).length && ((cutO (wN (plL (2 ^ j))) 0 (wN (plL (2 ^ j))).length).all isR && Nat.blt (wN (plL (2 ^ j))).length 1073741824)) = true := by
        rw [q2, cutO_wN, q3, blt_iff.2 (show (wN (plL (2 ^ j))).length < 1073741824 by rw [wN_len]; omega)]
        rfl
      have r := fits_row0E T8_ok (bd_t2 x p n c N P (plW (2 ^ j) : Nat) (wN (plL (2 ^ j)))) (okTwo k3 (okTwo kp (okTwo q4 (okTwo q1 (okTwo hw (okTwo o1 (okTwo k2 (okTwo e2 (okTwo k1 (okOne e2)))))))))) hv (by rfl) E E0
      rw [cutO_wN, ← hpl] at r
      exact r
/-- Steps, told ahead -/
def gSt : AnsH := fun vals h s => match hasRd h, vals, s with
  | true, [.agg ⟨[.int .i64 N, .slice p n _, .int .i64 P]⟩], .inr (.inr (.inr (.inl true))) :: .inr (.inl v) :: s' => some (.tuple #[.int .i64 v, .nilIface], h, s', [(decide (stV N P (rowO h p n) = v), true), (ckB N P (rowO h p n), true), (rowIP h p n, true)])
  | true, [.agg ⟨[.int .i64 N, .slice p n _, .int .i64 P]⟩], .inr (.inr (.inr (.inl false))) :: s' => some (.tuple #[.int .i64 0, erV 10], h, s', [(ckB N P (rowO h p n), false), (rowIP h p n, true)])
  | _, _, _ => none
theorem gSt_ok : AnsHOk 16 gSt := by
  intro vals h s v h' s' lg hg hl m B w E hv
  unfold gSt at hg
  split at hg
  · rename_i N p n c P v0 s2 ht
    cases hg
    have l1 := of_decide_eq_true (show decide (stV N P (rowO h p n) = v0) = true from hl _ (List.mem_cons_self ..))
    have l2 : ckB N P (rowO h p n) = true := hl (ckB N P (rowO h p n), true) (by simp)
    obtain ⟨x, p', f, E0, hR, hf⟩ := row_in E (hl (rowIP h p n, true) (by simp)) ht
    subst l1
    have r := St_fits hR l2 c E E0
    simp only [List.map_cons, List.map_nil, plnV_rn (hf c)] at r
    exact r
  · rename_i N p n c P s2 ht
    cases hg
    have l2 : ckB N P (rowO h p n) = false := hl _ (List.mem_cons_self ..)
    obtain ⟨x, p', f, E0, hR, hf⟩ := row_in E (hl (rowIP h p n, true) (by simp)) ht
    obtain ⟨e1, e2⟩ := rowO_x (y := ([.int .i64 N, .slice p' n c, .int .i64 P], 24)) hR
    have r := fits_row0E T8_ok (bd_t0 x p' n c N P) (okTwo (by rw [e1]; exact l2) (okOne e2)) (plnV_lt c N P hR) (by rfl) E E0
    simp only [List.map_cons, List.map_nil, plnV_rn (hf c)] at r
    exact r
  · cases hg
end Go.Proofs.YtlmccannfocniaaDoor
