/-
  PlH, PlI, ShJn, PlJ, PlK
-/
import Derived.Test.YtlmccannfocniaaDoorG12
import Derived.Shelf.Strings.OnBuilder
namespace Go.Proofs.YtlmccannfocniaaDoor
open Go.KRun Go.RowKit Go.Pl
set_option maxRecDepth 100000
/-- a call that begins with rows and a table; no block of its own is kept, its answer holds no address -/
theorem fits_row0E {T : Tab} (hT : TabOk T) {h0 : Hp} {n f : Nat} {vals : List Value} {sc : List Dec} {v : Value} {lg : Log} (hF : Fits (reckonAt T h0 n f vals sc) v lg) (hlg : okLog lg)
    (hvals : ∀ v ∈ vals, lt h0.n v = true) (hv0 : lt 0 v = true)
    {m : Mp} {B : Nat} {h : Hp} {w : World} (E : Emb m B h w) {s : Nat → Nat} (E0 : Emb (fun i => m (s i)) w.heap.size h0 w) :
    Calls T.P f ((vals.map (rn s)).map (mv m)).toArray w fun e w' => ∃ m', e = .returned (mv m' v) ∧ Came m B h w v h m' w' := by
  have ev : (vals.map (rn s)).map (mv m) = vals.map (mv fun i => m (s i)) := by
    rw [List.map_map]
    exact List.map_congr_left fun y _ => mv_rn m s y
  rw [ev]
  refine (fitsAt_calls hT hF hlg (List.all_eq_true.2 hvals) hv0 E0).mono fun en w' he => ?_
  obtain ⟨E', hb⟩ := clean_emb E he.2
  exact ⟨m, by rw [mv_still hv0]; exact he.1, Agree.refl _ _, E', hb, Nat.le_refl _, lt_mono (Nat.zero_le _) hv0⟩
/-- a number and the one below it, bit by bit -/
def pwB (P : Int) : Int := IntKind.i64.wrap ((BitVec.ofInt 64 P &&& BitVec.ofInt 64 (IntKind.i64.wrap (P - 1))).toNat : Int)
def plnV (N : Int) (p : Option Addr) (n c : Nat) (P : Int) : Value := .agg #[.int .i64 N, .slice p n c, .int .i64 P]
def gbB (N P : Int) (L : List Int) : Bool := (P == 0) && (prG 1 L == N)
def gpB (N P : Int) (n : Nat) : Bool := (pwB P == 0) && (((n : Int) == 0) && (decide (P ≥ IntKind.i64.wrap (IntKind.i64.wrap (2 * N) - 1)) && decide (P ≤ 67108864)))
def ckB (N P : Int) (L : List Int) : Bool := !(decide (N < 1)) && (!(decide (N > 16777216)) && (gbB N P L || gpB N P L.length))
def hcPd : Hc := altH 38 gPd hcFd
theorem hcPd_ok : HcOk hcPd := altH_ok Tryd.func38 rfl gPd_ok hcFd_ok
theorem rowO_x {x y : List Value × TypeId} {p : Option Addr} {n : Nat} {L : List Int} (hR : RowAt 1 x p n L) : rowO (hTR3 y x) p n = L ∧ rowIP (hTR3 y x) p n = true := by
  have key : ∀ (o : Nat), (∀ i, i < n → x.1[o + i * 1]? = some (.int .i64 (L.getD i 0))) → 0 < n → cutO x.1 o n = L ∧ o + n ≤ x.1.length ∧ ((cutW x.1 o n).all isI) = true := by
    intro o hc h0
    have hl : o + n ≤ x.1.length := by
      have := hc (n - 1) (by omega)
      have := (List.getElem?_eq_some_iff.1 this).1
      omega
    have e : cutW x.1 o n = L.map (Value.int .i64) := by
      refine List.ext_getElem? fun i => ?_
      unfold cutW
      by_cases hi : i < n
      · rw [List.getElem?_take, if_pos hi, List.getElem?_drop, List.getElem?_map, ← Nat.mul_one i, hc i hi, Nat.mul_one, List.getElem?_eq_getElem (by rw [hR.len]; exact hi)]
        simp [List.getD, List.getElem?_eq_getElem (show i < L.length by rw [hR.len]; exact hi)]
      · rw [List.getElem?_take, if_neg hi, List.getElem?_map, List.getElem?_eq_none (by rw [hR.len]; omega)]
        rfl
    refine ⟨?_, hl, ?_⟩
    · unfold cutO
      rw [e, List.map_map]
      exact (List.map_congr_left fun v _ => rfl).trans (List.map_id' _)
    · rw [e, List.all_map]
      exact List.all_eq_true.2 fun v _ => rfl
  obtain ⟨l, ty⟩ := x
  rcases hR.pos with ⟨rfl, h0⟩ | ⟨o, rfl, hty, hc⟩
  · subst h0
    have := hR.len
    exact ⟨(List.length_eq_zero_iff.1 this).symm, rfl⟩
  · simp only at hty hc
    subst hty
    have eb : (hTR3 y (l, tIR)).blk? 1 = some (l, tIR) := rfl
    by_cases h0 : n = 0
    · subst h0
      have := hR.len
      refine ⟨?_, ?_⟩
      · show (match (hTR3 y (l, tIR)).blk? 1 with | some x => cutO x.1 o 0 | none => []) = L
        rw [eb, List.length_eq_zero_iff.1 this]
        show (cutW l o 0).map intO = []
        unfold cutW
        rw [List.take_zero]
        rfl
      · show (match (none : Option Nat), (hTR3 y (l, tIR)).blk? 1 with | none, some x => rowCO x.2 x.1 o 0 | _, _ => false) = true
        rw [eb]
        show rowCO tIR l o 0 = true
        unfold rowCO cutW
        rw [tIR_tomb, tIR_rt, List.all_eq_true.2 hR.st, Nat.ble_eq_true_of_le (hR.fit o rfl)]
        simp only [Nat.beq_refl, Bool.not_false, Bool.true_and, Bool.and_true, List.take_zero, List.all_nil]
        rfl
    · obtain ⟨k1, k2, k3⟩ := key o hc (by omega)
      refine ⟨?_, ?_⟩
      · show (match (hTR3 y (l, tIR)).blk? 1 with | some x => cutO x.1 o n | none => []) = L
        rw [eb]
        exact k1
      · show (match (none : Option Nat), (hTR3 y (l, tIR)).blk? 1 with | none, some x => rowCO x.2 x.1 o n | _, _ => false) = true
        rw [eb]
        show rowCO tIR l o n = true
        unfold rowCO
        rw [tIR_tomb, tIR_rt, k3, List.all_eq_true.2 hR.st, Nat.ble_eq_true_of_le k2]
        simp only [Nat.beq_refl, Bool.not_false, Bool.true_and, Bool.and_true]
        exact blt_iff.2 hR.big
theorem ck_bt (x : List Value × TypeId) (p : Option Addr) (n c : Nat) (N P : Int) : Fits (reckonAt (tabH Tryd.prog extY conN hcPd) (hTR x) 100 25 [plnV N p n c P] [cmp true, cmp true]) (.bool true) [(prG 1 (rowO (hTR3 ([.int .i64 N, .slice p n c, .int .i64 P], 24) x) p n) == N, true), (rowIP (hTR3 ([.int .i64 N, .slice p n c, .int .i64 P], 24) x) p n, true), (P == 0, true)] := ⟨by kernel_rfl, by kernel_rfl, by kernel_rfl, by kernel_rfl⟩
theorem ck_bf (x : List Value × TypeId) (p : Option Addr) (n c : Nat) (N P : Int) : Fits (reckonAt (tabH Tryd.prog extY conN hcPd) (hTR x) 100 25 [plnV N p n c P] [cmp true, cmp false]) (.bool false) [(prG 1 (rowO (hTR3 ([.int .i64 N, .slice p n c, .int .i64 P], 24) x) p n) == N, false), (rowIP (hTR3 ([.int .i64 N, .slice p n c, .int .i64 P], 24) x) p n, true), (P == 0, true)] := ⟨by kernel_rfl, by kernel_rfl, by kernel_rfl, by kernel_rfl⟩
theorem ck_bx (x : List Value × TypeId) (p : Option Addr) (n c : Nat) (N P : Int) : Fits (reckonAt (tabH Tryd.prog extY conN hcPd) (hTR x) 100 25 [plnV N p n c P] [cmp false]) (.bool false) [(P == 0, false)] := ⟨by kernel_rfl, by kernel_rfl, by kernel_rfl, by kernel_rfl⟩
theorem ck_p0t (x : List Value × TypeId) (p : Option Addr) (n c : Nat) (N P : Int) : Fits (reckonAt (tabH Tryd.prog extY conN hcPd) (hTR x) 100 26 [plnV N p n c P] [cmp true, cmp false]) (.bool false) [((n : Int) == 0, false), (pwB P == 0, true)] := ⟨by kernel_rfl, by kernel_rfl, by kernel_rfl, by kernel_rfl⟩
theorem ck_p0f (x : List Value × TypeId) (p : Option Addr) (n c : Nat) (N P : Int) : Fits (reckonAt (tabH Tryd.prog extY conN hcPd) (hTR x) 100 26 [plnV N p n c P] [cmp false, cmp false]) (.bool false) [((n : Int) == 0, false), (pwB P == 0, false)] := ⟨by kernel_rfl, by kernel_rfl, by kernel_rfl, by kernel_rfl⟩
theorem ck_p1 (x : List Value × TypeId) (p : Option Addr) (n c : Nat) (N P : Int) : Fits (reckonAt (tabH Tryd.prog extY conN hcPd) (hTR x) 100 26 [plnV N p n c P] [cmp false, cmp true]) (.bool false) [((n : Int) == 0, true), (pwB P == 0, false)] := ⟨by kernel_rfl, by kernel_rfl, by kernel_rfl, by kernel_rfl⟩
theorem ck_p2 (x : List Value × TypeId) (p : Option Addr) (n c : Nat) (N P : Int) : Fits (reckonAt (tabH Tryd.prog extY conN hcPd) (hTR x) 100 26 [plnV N p n c P] [cmp true, cmp true, cmp false]) (.bool false) [(decide (P ≥ IntKind.i64.wrap (IntKind.i64.wrap (2 * N) - 1)), false), ((n : Int) == 0, true), (pwB P == 0, true)] := ⟨by kernel_rfl, by kernel_rfl, by kernel_rfl, by kernel_rfl⟩
theorem ck_p3 (x : List Value × TypeId) (p : Option Addr) (n c : Nat) (N P : Int) : Fits (reckonAt (tabH Tryd.prog extY conN hcPd) (hTR x) 100 26 [plnV N p n c P] [cmp true, cmp true, cmp true, cmp false]) (.bool false) [(decide (P ≤ 67108864), false), (decide (P ≥ IntKind.i64.wrap (IntKind.i64.wrap (2 * N) - 1)), true), ((n : Int) == 0, true), (pwB P == 0, true)] := ⟨by kernel_rfl, by kernel_rfl, by kernel_rfl, by kernel_rfl⟩
theorem ck_p4 (x : List Value × TypeId) (p : Option Addr) (n c : Nat) (N P : Int) : Fits (reckonAt (tabH Tryd.prog extY conN hcPd) (hTR x) 100 26 [plnV N p n c P] [cmp true, cmp true, cmp true, cmp true]) (.bool true) [(decide (P ≤ 67108864), true), (decide (P ≥ IntKind.i64.wrap (IntKind.i64.wrap (2 * N) - 1)), true), ((n : Int) == 0, true), (pwB P == 0, true)] := ⟨by kernel_rfl, by kernel_rfl, by kernel_rfl, by kernel_rfl⟩
theorem T1_ok : TabOk (tabH Tryd.prog extY conN hcPd) := tabH_ok conN_ok hcPd_ok
section
variable {x : List Value × TypeId} {p : Option Addr} {n : Nat} {L : List Int} (hR : RowAt 1 x p n L) (c : Nat) (N P : Int)
theorem plnV_lt (h : RowAt 1 x p n L) : ∀ v ∈ [plnV N p n c P], lt (hTR x).n v = true := fun v hv => by
  rw [List.mem_singleton.1 hv]
  have := h.lt c (show 1 < 2 by decide)
  rcases h.pos with ⟨rfl, _⟩ | ⟨o, rfl, _⟩ <;> rfl
include hR in
theorem gb_fits {m : Mp} {B : Nat} {h : Hp} {w : World} (E : Emb m B h w) {s : Nat → Nat} (E0 : Emb (fun i => m (s i)) w.heap.size (hTR x) w) :
    Calls Tryd.prog 25 (([plnV N p n c P].map (rn s)).map (mv m)).toArray w fun e w' => ∃ m', e = .returned (mv m' (.bool (gbB N P L))) ∧ Came m B h w (.bool (gbB N P L)) h m' w' := by
  obtain ⟨e1, e2⟩ := rowO_x (y := ([.int .i64 N, .slice p n c, .int .i64 P], 24)) hR
  unfold gbB
  cases h0 : P == 0 with
  | false => exact fits_row0E T1_ok (ck_bx x p n c N P) (okOne h0) (plnV_lt c N P hR) (by rfl) E E0
  | true =>
    cases h1 : prG 1 L == N with
    | false => exact fits_row0E T1_ok (ck_bf x p n c N P) (okTwo (by rw [e1]; exact h1) (okTwo e2 (okOne h0))) (plnV_lt c N P hR) (by rfl) E E0
    | true => exact fits_row0E T1_ok (ck_bt x p n c N P) (okTwo (by rw [e1]; exact h1) (okTwo e2 (okOne h0))) (plnV_lt c N P hR) (by rfl) E E0
include hR in
theorem gp_fits {m : Mp} {B : Nat} {h : Hp} {w : World} (E : Emb m B h w) {s : Nat → Nat} (E0 : Emb (fun i => m (s i)) w.heap.size (hTR x) w) :
    Calls Tryd.prog 26 (([plnV N p n c P].map (rn s)).map (mv m)).toArray w fun e w' => ∃ m', e = .returned (mv m' (.bool (gpB N P n))) ∧ Came m B h w (.bool (gpB N P n)) h m' w' := by
  unfold gpB
  have hv := plnV_lt c N P hR
  cases h0 : pwB P == 0 with
  | false =>
    cases h1 : (n : Int) == 0 with
    | false => exact fits_row0E T1_ok (ck_p0f x p n c N P) (okTwo h1 (okOne h0)) hv (by rfl) E E0
    | true => exact fits_row0E T1_ok (ck_p1 x p n c N P) (okTwo h1 (okOne h0)) hv (by rfl) E E0
  | true =>
    cases h1 : (n : Int) == 0 with
    | false => exact fits_row0E T1_ok (ck_p0t x p n c N P) (okTwo h1 (okOne h0)) hv (by rfl) E E0
    | true =>
      cases h2 : decide (P ≥ IntKind.i64.wrap (IntKind.i64.wrap (2 * N) - 1)) with
      | false => exact fits_row0E T1_ok (ck_p2 x p n c N P) (okTwo h2 (okTwo h1 (okOne h0))) hv (by rfl) E E0
      | true =>
        cases h3 : decide (P ≤ 67108864) with
        | false => exact fits_row0E T1_ok (ck_p3 x p n c N P) (okTwo h3 (okTwo h2 (okTwo h1 (okOne h0)))) hv (by rfl) E E0
        | true => exact fits_row0E T1_ok (ck_p4 x p n c N P) (okTwo h3 (okTwo h2 (okTwo h1 (okOne h0)))) hv (by rfl) E E0
end
def gGb : AnsH := fun vals h s => match vals, s with
  | [.agg ⟨[.int .i64 N, .slice p n _, .int .i64 P]⟩], .inr (.inr (.inr (.inl d))) :: s' => match hasRd h with
    | true => some (.bool d, h, s', [(gbB N P (rowO h p n), d), (rowIP h p n, true)])
    | false => none
  | _, _ => none
def gGp : AnsH := fun vals h s => match vals, s with
  | [.agg ⟨[.int .i64 N, .slice p n _, .int .i64 P]⟩], .inr (.inr (.inr (.inl d))) :: s' => match hasRd h with
    | true => some (.bool d, h, s', [(gpB N P n, d), (rowIP h p n, true)])
    | false => none
  | _, _ => none
theorem plnV_rn {N P : Int} {p q : Option Addr} {n c : Nat} {s : Nat → Nat} (h : rn s (.slice p n c) = .slice q n c) : rn s (plnV N p n c P) = plnV N q n c P := by
  have e : ∀ p, rn s (plnV N p n c P) = .agg #[.int .i64 N, rn s (.slice p n c), .int .i64 P] := fun p => by cases p <;> kernel_rfl
  rw [e, h]
  rfl
theorem gGb_ok : AnsHOk 25 gGb := by
  intro vals h s v h' s' lg hg hl m B w E hv
  unfold gGb at hg
  split at hg
  · rename_i N p n c P d s2
    split at hg
    · rename_i ht
      cases hg
      obtain ⟨x, p', f, E0, hR, hf⟩ := row_in E (hl (rowIP h p n, true) (by simp)) ht
      have := gb_fits hR c N P E E0
      rw [show gbB N P (rowO h p n) = d from hl _ (List.mem_cons_self ..)] at this
      simp only [List.map_cons, List.map_nil, plnV_rn (hf c)] at this
      exact this
    · cases hg
  · cases hg
theorem gGp_ok : AnsHOk 26 gGp := by
  intro vals h s v h' s' lg hg hl m B w E hv
  unfold gGp at hg
  split at hg
  · rename_i N p n c P d s2
    split at hg
    · rename_i ht
      cases hg
      obtain ⟨x, p', f, E0, hR, hf⟩ := row_in E (hl (rowIP h p n, true) (by simp)) ht
      have := gp_fits hR c N P E E0
      rw [show gpB N P n = d from hl _ (List.mem_cons_self ..)] at this
      simp only [List.map_cons, List.map_nil, plnV_rn (hf c)] at this
      exact this
    · cases hg
  · cases hg
def hcCk : Hc := altH 25 gGb (altH 26 gGp hcN)
theorem hcCk_ok : HcOk hcCk := altH_ok Tryd.func25 rfl gGb_ok (altH_ok Tryd.func26 rfl gGp_ok hcN_ok)
theorem T2_ok : TabOk (tabH Tryd.prog extY conN hcCk) := tabH_ok conN_ok hcCk_ok
def erV (e : Int) : Value := .iface 49 (.int .i64 e)
theorem ck_a (x : List Value × TypeId) (p : Option Addr) (n c : Nat) (N P : Int) : Fits (reckonAt (tabH Tryd.prog extY conN hcCk) (hTR x) 100 11 [plnV N p n c P] [cmp true]) (erV 10) [(decide (N < 1), true)] := ⟨by kernel_rfl, by kernel_rfl, by kernel_rfl, by kernel_rfl⟩
theorem ck_b (x : List Value × TypeId) (p : Option Addr) (n c : Nat) (N P : Int) : Fits (reckonAt (tabH Tryd.prog extY conN hcCk) (hTR x) 100 11 [plnV N p n c P] [cmp false, cmp true]) (erV 10) [(decide (N > 16777216), true), (decide (N < 1), false)] := ⟨by kernel_rfl, by kernel_rfl, by kernel_rfl, by kernel_rfl⟩
theorem ck_c (x : List Value × TypeId) (p : Option Addr) (n c : Nat) (N P : Int) : Fits (reckonAt (tabH Tryd.prog extY conN hcCk) (hTR x) 100 11 [plnV N p n c P] [cmp false, cmp false, cmp true]) .nilIface [(gbB N P (rowO (hTR3 ([.int .i64 N, .slice p n c, .int .i64 P], 24) x) p n), true), (rowIP (hTR3 ([.int .i64 N, .slice p n c, .int .i64 P], 24) x) p n, true), (decide (N > 16777216), false), (decide (N < 1), false)] := ⟨by kernel_rfl, by kernel_rfl, by kernel_rfl, by kernel_rfl⟩
theorem ck_d (x : List Value × TypeId) (p : Option Addr) (n c : Nat) (N P : Int) : Fits (reckonAt (tabH Tryd.prog extY conN hcCk) (hTR x) 100 11 [plnV N p n c P] [cmp false, cmp false, cmp false, cmp true]) .nilIface [(gpB N P n, true), (rowIP (hTR3 ([.int .i64 N, .slice p n c, .int .i64 P], 24) x) p n, true), (gbB N P (rowO (hTR3 ([.int .i64 N, .slice p n c, .int .i64 P], 24) x) p n), false), (rowIP (hTR3 ([.int .i64 N, .slice p n c, .int .i64 P], 24) x) p n, true), (decide (N > 16777216), false), (decide (N < 1), false)] := ⟨by kernel_rfl, by kernel_rfl, by kernel_rfl, by kernel_rfl⟩
theorem ck_e (x : List Value × TypeId) (p : Option Addr) (n c : Nat) (N P : Int) : Fits (reckonAt (tabH Tryd.prog extY conN hcCk) (hTR x) 100 11 [plnV N p n c P] [cmp false, cmp false, cmp false, cmp false]) (erV 10) [(gpB N P n, false), (rowIP (hTR3 ([.int .i64 N, .slice p n c, .int .i64 P], 24) x) p n, true), (gbB N P (rowO (hTR3 ([.int .i64 N, .slice p n c, .int .i64 P], 24) x) p n), false), (rowIP (hTR3 ([.int .i64 N, .slice p n c, .int .i64 P], 24) x) p n, true), (decide (N > 16777216), false), (decide (N < 1), false)] := ⟨by kernel_rfl, by kernel_rfl, by kernel_rfl, by kernel_rfl⟩
/-- what Check answers -/
def ckV (d : Bool) : Value := match d with | true => .nilIface | false => erV 10
theorem ck_fits {x : List Value × TypeId} {p : Option Addr} {n : Nat} {L : List Int} (hR : RowAt 1 x p n L) (c : Nat) (N P : Int) {m : Mp} {B : Nat} {h : Hp} {w : World} (E : Emb m B h w) {s : Nat → Nat} (E0 : Emb (fun i => m (s i)) w.heap.size (hTR x) w) :
    Calls Tryd.prog 11 (([plnV N p n c P].map (rn s)).map (mv m)).toArray w fun e w' => ∃ m', e = .returned (mv m' (ckV (ckB N P L))) ∧ Came m B h w (ckV (ckB N P L)) h m' w' := by
  obtain ⟨e1, e2⟩ := rowO_x (y := ([.int .i64 N, .slice p n c, .int .i64 P], 24)) hR
  have hv := plnV_lt c N P hR
  unfold ckB
  rw [hR.len]
  cases h0 : decide (N < 1) with
  | true => exact fits_row0E T2_ok (ck_a x p n c N P) (okOne h0) hv (by rfl) E E0
  | false =>
    cases h1 : decide (N > 16777216) with
    | true => exact fits_row0E T2_ok (ck_b x p n c N P) (okTwo h1 (okOne h0)) hv (by rfl) E E0
    | false =>
      cases h2 : gbB N P L with
      | true => exact fits_row0E T2_ok (ck_c x p n c N P) (okTwo (by rw [e1]; exact h2) (okTwo e2 (okTwo h1 (okOne h0)))) hv (by rfl) E E0
      | false =>
        cases h3 : gpB N P n with
        | true => exact fits_row0E T2_ok (ck_d x p n c N P) (okTwo h3 (okTwo e2 (okTwo (by rw [e1]; exact h2) (okTwo e2 (okTwo h1 (okOne h0)))))) hv (by rfl) E E0
        | false => exact fits_row0E T2_ok (ck_e x p n c N P) (okTwo h3 (okTwo e2 (okTwo (by rw [e1]; exact h2) (okTwo e2 (okTwo h1 (okOne h0)))))) hv (by rfl) E E0
/-- whether a plan may be, told ahead -/
def gCk : AnsH := fun vals h s => match vals, s with
  | [.agg ⟨[.int .i64 N, .slice p n _, .int .i64 P]⟩], .inr (.inr (.inr (.inl d))) :: s' => match hasRd h with
    | true => some (ckV d, h, s', [(ckB N P (rowO h p n), d), (rowIP h p n, true)])
    | false => none
  | _, _ => none
theorem gCk_ok : AnsHOk 11 gCk := by
  intro vals h s v h' s' lg hg hl m B w E hv
  unfold gCk at hg
  split at hg
  · rename_i N p n c P d s2
    split at hg
    · rename_i ht
      cases hg
      obtain ⟨x, p', f, E0, hR, hf⟩ := row_in E (hl (rowIP h p n, true) (by simp)) ht
      have := ck_fits hR c N P E E0
      rw [show ckB N P (rowO h p n) = d from hl _ (List.mem_cons_self ..)] at this
      simp only [List.map_cons, List.map_nil, plnV_rn (hf c)] at this
      exact this
    · cases hg
  · cases hg
theorem fits_row1E {T : Tab} (hT : TabOk T) {h0 : Hp} {n f : Nat} {vals : List Value} {sc : List Dec} {v : Value} {k : Nat} {cs : List Value} {ty : TypeId} {lg : Log} (hF : FitsB (reckonAt T h0 n f vals sc) k v cs ty lg) (hlg : okLog lg)
    (hcs : ∀ u ∈ cs, lt1 0 u = true) (hty : ro ty = false) (hvals : ∀ v ∈ vals, lt h0.n v = true) (hv0 : oc [k] v = true)
    {m : Mp} {B : Nat} {h : Hp} {w : World} (E : Emb m B h w) {s : Nat → Nat} (E0 : Emb (fun i => m (s i)) w.heap.size h0 w) :
    Calls T.P f ((vals.map (rn s)).map (mv m)).toArray w fun e w' => ∃ m', e = .returned (mv m' (rn (fun _ => h.n) v)) ∧ Came m B h w (rn (fun _ => h.n) v) (h.push cs ty) m' w' := by
  have ev : (vals.map (rn s)).map (mv m) = vals.map (mv fun i => m (s i)) := by
    rw [List.map_map]
    exact List.map_congr_left fun y _ => mv_rn m s y
  rw [ev]
  unfold FitsB at hF
  cases hrr : reckonAt T h0 n f vals sc with
  | none => rw [hrr] at hF; cases hF
  | some r =>
    rw [hrr] at hF
    simp only [Option.map_some, Option.elim_some, Option.some.injEq, Prod.mk.injEq] at hF
    obtain ⟨v', h', s', L⟩ := r
    simp only at hF
    obtain ⟨rfl, hblk, h2, h3, h4⟩ := hF
    obtain ⟨_, _, h5⟩ := callBy_ok hT (evC_ok hT n).1 _ _ _ _ _ _ _ _ _ hrr ⟨by rw [h2]; exact hlg, all_eq _ h3, all_eq _ h4⟩
    refine (h5 _ _ w E0 hvals).mono fun en w' he => ?_
    obtain ⟨m1, rfl, C⟩ := he
    have td : Tidy w w' := ⟨C.below, fun k h1 h2 => C.emb.ice k h1 h2⟩
    obtain ⟨E', hb⟩ := clean_emb E td
    have hlow : w.heap.size ≤ (m1 k).1 := C.emb.low k _ hblk hty
    have hlie : lie w' (m1 k) (cs.map (mv1 m)) ty := by
      obtain ⟨r', z, l0, l1, l2⟩ := C.emb.lies k _ hblk (tomb_ro hty)
      have e : cs.map (mv1 m1) = cs.map (mv1 m) := KRun.map_still hcs
      simp only [e] at l0 l1
      exact ⟨r', z, l0, l1, l2⟩
    have Ea := E'.adopt cs ty hty (fun u hu => lt1_mono (Nat.zero_le _) (hcs u hu)) hlie (Nat.le_trans E.base hlow) (fun b x hbx hx heq => by
      have := E.here hbx (tomb_ro hx)
      omega) (fun b x hbx hx hf => by
      have := E.at_ hbx hx hf
      omega)
    have e1 : mv m1 v' = mv (upd m h.n (m1 k)) (rn (fun _ => h.n) v') := by
      rw [mv_rn]
      refine mv_on (fun b hb => ?_) hv0
      rw [List.mem_singleton.1 hb]
      simp [upd]
    exact ⟨upd m h.n (m1 k), by rw [e1], upd_agree _ _ _, Ea, hb, Nat.le_succ _, oc_ren (bs := [k]) (fun b hb => by show h.n < h.n + 1; omega) hv0⟩
def hcMp : Hc := altH 21 gPt (altH 22 gLp hcN)
theorem hcMp_ok : HcOk hcMp := altH_ok Tryd.func21 rfl gPt_ok (altH_ok Tryd.func22 rfl gLp_ok hcN_ok)
theorem T3_ok : TabOk (tabA (tabH Tryd.prog extY conN hcMp)) := tabA_ok (tabH_ok conN_ok hcMp_ok)
def mpV (n : Int) (v : Value) (p : Int) (e : Value) : Value := .tuple #[.agg #[.int .i64 n, v, .int .i64 p], e]
theorem mp_a (n : Int) : Fits (reckonAt (tabA (tabH Tryd.prog extY conN hcMp)) (hTR ([], 2 * dead)) 100 7 [.int .i64 n] [cmp true]) (mpV 0 (.slice none 0 0) 0 (erV 1)) [(decide (n < 1), true)] := ⟨by kernel_rfl, by kernel_rfl, by kernel_rfl, by kernel_rfl⟩
theorem mp_b (n : Int) : Fits (reckonAt (tabA (tabH Tryd.prog extY conN hcMp)) (hTR ([], 2 * dead)) 100 7 [.int .i64 n] [cmp false, cmp true]) (mpV 0 (.slice none 0 0) 0 (erV 1)) [(decide (n > 16777216), true), (decide (n < 1), false)] := ⟨by kernel_rfl, by kernel_rfl, by kernel_rfl, by kernel_rfl⟩
theorem mp_c (n : Int) (l : List Value) : FitsB (reckonAt (tabA (tabH Tryd.prog extY conN hcMp)) (hTR ([], 2 * dead)) 100 7 [.int .i64 n] [cmp false, cmp false, cmp true, num 1, val (.agg ⟨l⟩)]) 3 (mpV n (.slice (some ⟨3, 0, none⟩) l.length grown) 0 .nilIface) l tIn [(eqI19 l (plI n), true), (decide (((plW n.toNat : Nat) : Int) = 1), true), (okPl n true, true), (decide (n > 16777216), false), (decide (n < 1), false)] := by unfold FitsB; kernel_rfl
theorem mp_d (n : Int) : Fits (reckonAt (tabA (tabH Tryd.prog extY conN hcMp)) (hTR ([], 2 * dead)) 100 7 [.int .i64 n] [cmp false, cmp false, cmp false, num 1]) (mpV n (.slice none 0 0) 0 .nilIface) [(decide (((plW n.toNat : Nat) : Int) = 1), true), (okPl n false, true), (decide (n > 16777216), false), (decide (n < 1), false)] := ⟨by kernel_rfl, by kernel_rfl, by kernel_rfl, by kernel_rfl⟩
theorem mp_e (n w P : Int) (l : List Value) : Fits (reckonAt (tabA (tabH Tryd.prog extY conN hcMp)) (hTR ([], 2 * dead)) 100 7 [.int .i64 n] [cmp false, cmp false, cmp true, num w, val (.agg ⟨l⟩), cmp true, num P]) (mpV n (.slice none 0 0) P .nilIface) [(decide (((padK n.toNat : Nat) : Int) = P), true), (decide (0 < n ∧ n ≤ 16777216), true), (decide (w > 1), true), (eqI19 l (plI n), true), (decide (((plW n.toNat : Nat) : Int) = w), true), (okPl n true, true), (decide (n > 16777216), false), (decide (n < 1), false)] := ⟨by kernel_rfl, by kernel_rfl, by kernel_rfl, by kernel_rfl⟩
theorem mp_f (n w P : Int) : Fits (reckonAt (tabA (tabH Tryd.prog extY conN hcMp)) (hTR ([], 2 * dead)) 100 7 [.int .i64 n] [cmp false, cmp false, cmp false, num w, cmp true, num P]) (mpV n (.slice none 0 0) P .nilIface) [(decide (((padK n.toNat : Nat) : Int) = P), true), (decide (0 < n ∧ n ≤ 16777216), true), (decide (w > 1), true), (decide (((plW n.toNat : Nat) : Int) = w), true), (okPl n false, true), (decide (n > 16777216), false), (decide (n < 1), false)] := ⟨by kernel_rfl, by kernel_rfl, by kernel_rfl, by kernel_rfl⟩
/-- what is known of a call of plan.Make -/
def gMp : AnsH := fun vals h s => match hasRd h, vals, s with
  | true, [.int .i64 n], .inr (.inr (.inr (.inl true))) :: s' => some (mpV 0 (.slice none 0 0) 0 (erV 1), h, s', [(mkBad n, true)])
  | true, [.int .i64 n], .inr (.inr (.inr (.inl false))) :: .inr (.inr (.inr (.inl true))) :: .inr (.inr (.inr (.inl true))) :: .inr (.inr (.inr (.inr (.inr (.agg ⟨l⟩))))) :: s' => some (mpV n (.slice (some ⟨h.n, 0, none⟩) l.length grown) 0 .nilIface, h.push l tIn, s', [(eqI19 l (plI n), true), (decide (plW n.toNat = 1), true), (okPl n true, true), (mkBad n, false)])
  | true, [.int .i64 n], .inr (.inr (.inr (.inl false))) :: .inr (.inr (.inr (.inl true))) :: .inr (.inr (.inr (.inl false))) :: s' => some (mpV n (.slice none 0 0) 0 .nilIface, h, s', [(decide (plW n.toNat = 1), true), (okPl n false, true), (mkBad n, false)])
  | true, [.int .i64 n], .inr (.inr (.inr (.inl false))) :: .inr (.inr (.inr (.inl false))) :: .inr (.inl p) :: s' => some (mpV n (.slice none 0 0) p .nilIface, h, s', [(decide (((padK n.toNat : Nat) : Int) = p), true), (decide (plW n.toNat = 1), false), (mkBad n, false)])
  | _, _, _ => none
theorem one19 (n : Int) (h : Hp) : ∀ v ∈ [Value.int .i64 n], lt h.n v = true := fun v hv => by rw [List.mem_singleton.1 hv]; rfl
theorem eqI_wN (k : Nat) : eqI19 (wN (plL k)) (plI (k : Int)) = true := by
  unfold plI wN
  rw [Int.toNat_natCast]
  generalize plL k = L
  induction L with
  | nil => rfl
  | cons a r ih => show (decide ((a : Int) = a) && eqI19 _ _) = true; rw [decide_eq_true rfl, ih]; rfl
theorem gMp_ok : AnsHOk 7 gMp := by
  intro vals h s v h' s' lg hg hl m B w E hv
  unfold gMp at hg
  split at hg
  · rename_i n s2 ht
    cases hg
    obtain ⟨f, E0⟩ := emb_nil19 E ht
    have hb := of_decide_eq_true (hl _ (List.mem_singleton.2 rfl))
    by_cases c : n < 1
    · exact fits_row0E T3_ok (mp_a n) (okOne (decide_eq_true c)) (one19 n _) (by rfl) E E0
    · exact fits_row0E T3_ok (mp_b n) (okTwo (decide_eq_true (by omega)) (okOne (decide_eq_false c))) (one19 n _) (by rfl) E E0
  · rename_i n l s2 ht
    cases hg
    obtain ⟨f, E0⟩ := emb_nil19 E ht
    have l1 : eqI19 l (plI n) = true := hl _ (List.mem_cons_self ..)
    have l2 := of_decide_eq_true (show decide (plW n.toNat = 1) = true from hl (decide (plW n.toNat = 1), true) (by simp))
    have l3 : okPl n true = true := hl (okPl n true, true) (by simp)
    obtain ⟨k, rfl, k0, k1⟩ := mkBad_no (show mkBad n = false from hl (mkBad n, false) (by simp))
    have := fits_row1E T3_ok (mp_c (k : Int) l) (okTwo l1 (okTwo (decide_eq_true (by omega)) (okTwo l3 (okTwo (decide_eq_false (by omega)) (okOne (decide_eq_false (by omega))))))) (fun u hu => by
      rw [wN_plI l1] at hu
      obtain ⟨q, _, rfl⟩ := List.mem_map.1 hu
      rfl) (by kernel_rfl) (one19 k _) (by kernel_rfl) E E0
    have e1 : rn (fun _ => h.n) (mpV (k : Int) (.slice (some ⟨3, 0, none⟩) l.length grown) 0 .nilIface) = mpV (k : Int) (.slice (some ⟨h.n, 0, none⟩) l.length grown) 0 .nilIface := by kernel_rfl
    have e2 : [Value.int .i64 (k : Nat)].map (rn f) = [Value.int .i64 (k : Nat)] := rfl
    rw [e1, e2] at this
    exact this
  · rename_i n s2 ht
    cases hg
    obtain ⟨f, E0⟩ := emb_nil19 E ht
    have l2 := of_decide_eq_true (show decide (plW n.toNat = 1) = true from hl _ (List.mem_cons_self ..))
    have l3 : okPl n false = true := hl (okPl n false, true) (by simp)
    obtain ⟨k, rfl, k0, k1⟩ := mkBad_no (show mkBad n = false from hl (mkBad n, false) (by simp))
    exact fits_row0E T3_ok (mp_d (k : Int)) (okTwo (decide_eq_true (by omega)) (okTwo l3 (okTwo (decide_eq_false (by omega)) (okOne (decide_eq_false (by omega)))))) (one19 _ _) (by rfl) E E0
  · rename_i n p s2 ht
    cases hg
    obtain ⟨f, E0⟩ := emb_nil19 E ht
    have l1 : decide (((padK n.toNat : Nat) : Int) = p) = true := hl _ (List.mem_cons_self ..)
    have l2 := of_decide_eq_false (show decide (plW n.toNat = 1) = false from hl (decide (plW n.toNat = 1), false) (by simp))
    obtain ⟨k, rfl, k0, k1⟩ := mkBad_no (show mkBad n = false from hl (mkBad n, false) (by simp))
    have hw := plW_pos k0
    rw [Int.toNat_natCast] at l2
    have hw1 : decide (((plW k : Nat) : Int) > 1) = true := decide_eq_true (by omega)
    have r0 : decide (0 < (k : Int) ∧ (k : Int) ≤ 16777216) = true := decide_eq_true (by omega)
    have r1 : decide ((k : Int) > 16777216) = false := decide_eq_false (by omega)
    have r2 : decide ((k : Int) < 1) = false := decide_eq_false (by omega)
    have ek : ((k : Int)).toNat = k := Int.toNat_natCast k
    have ok1 : decide (0 < (k : Int) ∧ (k : Int) ≤ 67108864) = true := decide_eq_true (by omega)
    cases hp : (plL k).isEmpty with
    | true => exact fits_row0E T3_ok (mp_f (k : Int) (plW k : Nat) p) (okTwo l1 (okTwo r0 (okTwo hw1 (okTwo (decide_eq_true (by rw [ek])) (okTwo (by unfold okPl; rw [ok1, ek]; simpa using hp) (okTwo r1 (okOne r2))))))) (one19 _ _) (by rfl) E E0
    | false => exact fits_row0E T3_ok (mp_e (k : Int) (plW k : Nat) p (wN (plL k))) (okTwo l1 (okTwo r0 (okTwo hw1 (okTwo (eqI_wN k) (okTwo (decide_eq_true (by rw [ek])) (okTwo (by unfold okPl; rw [ok1, ek]; simpa using hp) (okTwo r1 (okOne r2)))))))) (one19 _ _) (by rfl) E E0
  · cases hg
/-! ### two plans compared -/
def hcSm : Hc := altH 23 gIs hcN
theorem hcSm_ok : HcOk hcSm := altH_ok Tryd.func23 rfl gIs_ok hcN_ok
theorem T4_ok : TabOk (tabH Tryd.prog extY conN hcSm) := tabH_ok conN_ok hcSm_ok
theorem sm_a (x y : List Value × TypeId) (p q : Option Addr) (n c n' c' : Nat) (N P N' P' : Int) : Fits (reckonAt (tabH Tryd.prog extY conN hcSm) ⟨2, [y, x]⟩ 100 9 [plnV N p n c P, plnV N' q n' c' P'] [cmp false]) (.bool false) [(N == N', false)] := ⟨by kernel_rfl, by kernel_rfl, by kernel_rfl, by kernel_rfl⟩
theorem sm_b (x y : List Value × TypeId) (p q : Option Addr) (n c n' c' : Nat) (N P N' P' : Int) : Fits (reckonAt (tabH Tryd.prog extY conN hcSm) ⟨2, [y, x]⟩ 100 9 [plnV N p n c P, plnV N' q n' c' P'] [cmp true, cmp false]) (.bool false) [(P == P', false), (N == N', true)] := ⟨by kernel_rfl, by kernel_rfl, by kernel_rfl, by kernel_rfl⟩
theorem sm_c (x y : List Value × TypeId) (p q : Option Addr) (n c n' c' : Nat) (N P N' P' : Int) : Fits (reckonAt (tabH Tryd.prog extY conN hcSm) ⟨2, [y, x]⟩ 100 9 [plnV N p n c P, plnV N' q n' c' P'] [cmp true, cmp true, cmp true]) (.bool true) [(decide (rowO ⟨4, [([.int .i64 N', .slice q n' c', .int .i64 P'], 29), ([.int .i64 N, .slice p n c, .int .i64 P], 24), y, x]⟩ p n = rowO ⟨4, [([.int .i64 N', .slice q n' c', .int .i64 P'], 29), ([.int .i64 N, .slice p n c, .int .i64 P], 24), y, x]⟩ q n'), true), (rowIP ⟨4, [([.int .i64 N', .slice q n' c', .int .i64 P'], 29), ([.int .i64 N, .slice p n c, .int .i64 P], 24), y, x]⟩ p n, true), (rowIP ⟨4, [([.int .i64 N', .slice q n' c', .int .i64 P'], 29), ([.int .i64 N, .slice p n c, .int .i64 P], 24), y, x]⟩ q n', true), (P == P', true), (N == N', true)] := ⟨by kernel_rfl, by kernel_rfl, by kernel_rfl, by kernel_rfl⟩
theorem sm_d (x y : List Value × TypeId) (p q : Option Addr) (n c n' c' : Nat) (N P N' P' : Int) : Fits (reckonAt (tabH Tryd.prog extY conN hcSm) ⟨2, [y, x]⟩ 100 9 [plnV N p n c P, plnV N' q n' c' P'] [cmp true, cmp true, cmp false]) (.bool false) [(decide (rowO ⟨4, [([.int .i64 N', .slice q n' c', .int .i64 P'], 29), ([.int .i64 N, .slice p n c, .int .i64 P], 24), y, x]⟩ p n = rowO ⟨4, [([.int .i64 N', .slice q n' c', .int .i64 P'], 29), ([.int .i64 N, .slice p n c, .int .i64 P], 24), y, x]⟩ q n'), false), (rowIP ⟨4, [([.int .i64 N', .slice q n' c', .int .i64 P'], 29), ([.int .i64 N, .slice p n c, .int .i64 P], 24), y, x]⟩ p n, true), (rowIP ⟨4, [([.int .i64 N', .slice q n' c', .int .i64 P'], 29), ([.int .i64 N, .slice p n c, .int .i64 P], 24), y, x]⟩ q n', true), (P == P', true), (N == N', true)] := ⟨by kernel_rfl, by kernel_rfl, by kernel_rfl, by kernel_rfl⟩
/-- a row in a memory that has it where it was -/
theorem rowO_at {k : Nat} {x : List Value × TypeId} {p : Option Addr} {n : Nat} {L : List Int} (hR : RowAt k x p n L) {h : Hp} (hb : h.blk? k = some x) : rowO h p n = L ∧ rowIP h p n = true := by
  have base := rowO_x (y := ([], 2 * dead)) (x := x) (p := p.map fun a => ⟨1, a.off, a.spot⟩) (n := n) (L := L) ⟨hR.len, hR.big, by
    rcases hR.pos with ⟨rfl, h0⟩ | ⟨o, rfl, h1, h2⟩
    · exact .inl ⟨rfl, h0⟩
    · exact .inr ⟨o, rfl, h1, h2⟩, hR.st, hR.ros, fun o ho => by
    rcases hR.pos with ⟨rfl, h0⟩ | ⟨o', rfl, h1, h2⟩
    · cases ho
    · have e : o' = o := by
        have := Option.some.inj ho
        exact congrArg Addr.off this
      subst e
      exact hR.fit o' rfl⟩
  rcases hR.pos with ⟨rfl, h0⟩ | ⟨o, rfl, h1, h2⟩
  · exact base
  · obtain ⟨b1, b2⟩ := base
    refine ⟨?_, ?_⟩
    · rw [← b1]
      show (match h.blk? k with | some x => cutO x.1 o n | none => []) = _
      rw [hb]
      rfl
    · rw [← b2]
      show (match (none : Option Nat), h.blk? k with | none, some x => rowCO x.2 x.1 o n | _, _ => false) = _
      rw [hb]
      rfl
def gSm19 : AnsH := fun vals h s => match vals, s with
  | [.agg ⟨[.int .i64 N, .slice p n _, .int .i64 P]⟩, .agg ⟨[.int .i64 N', .slice q n' _, .int .i64 P']⟩], .inr (.inr (.inr (.inl d))) :: s' => some (.bool d, h, s', [((N == N') && ((P == P') && decide (rowO h p n = rowO h q n')), d), (rowIP h p n, true), (rowIP h q n', true)])
  | _, _ => none
theorem gSm19_ok : AnsHOk 9 gSm19 := by
  intro vals h s v h' s' lg hg hl m B w E hv
  unfold gSm19 at hg
  split at hg
  · rename_i N p n c P N' q n' c' P' d s2
    cases hg
    have l1 : ((N == N') && ((P == P') && decide (rowO h p n = rowO h q n'))) = d := hl _ (List.mem_cons_self ..)
    have l2 : rowIP h p n = true := hl (rowIP h p n, true) (by simp)
    have l3 : rowIP h q n' = true := hl (rowIP h q n', true) (by simp)
    obtain ⟨x, y, p', q', f, E0, R1, R2, f1, f2⟩ := rows_in2 E l2 l3
    obtain ⟨u1, u2⟩ := rowO_at R1 (h := ⟨4, [([.int .i64 N', .slice q' n' c', .int .i64 P'], 29), ([.int .i64 N, .slice p' n c, .int .i64 P], 24), y, x]⟩) rfl
    obtain ⟨u3, u4⟩ := rowO_at R2 (h := ⟨4, [([.int .i64 N', .slice q' n' c', .int .i64 P'], 29), ([.int .i64 N, .slice p' n c, .int .i64 P], 24), y, x]⟩) rfl
    have hv : ∀ v ∈ [plnV N p' n c P, plnV N' q' n' c' P'], lt (⟨2, [y, x]⟩ : Hp).n v = true := fun v hv => by
      rcases List.mem_cons.1 hv with rfl | hv
      · rcases R1.pos with ⟨rfl, _⟩ | ⟨o, rfl, _⟩ <;> rfl
      · rw [List.mem_singleton.1 hv]
        rcases R2.pos with ⟨rfl, _⟩ | ⟨o, rfl, _⟩ <;> rfl
    have fin : ∀ {d : Bool} {sc : List Dec} {lg : Log}, Fits (reckonAt (tabH Tryd.prog extY conN hcSm) ⟨2, [y, x]⟩ 100 9 [plnV N p' n c P, plnV N' q' n' c' P'] sc) (.bool d) lg → okLog lg → Calls Tryd.prog 9 ([plnV N p n c P, plnV N' q n' c' P'].map (mv m)).toArray w fun e w' => ∃ m', e = .returned (mv m' (.bool d)) ∧ Came m B h w (.bool d) h m' w' := fun hF ho => by
      have := fits_row0E T4_ok hF ho hv (by rfl) E E0
      simp only [List.map_cons, List.map_nil, plnV_rn (f1 c), plnV_rn (f2 c')] at this
      exact this
    cases h0 : N == N' with
    | false =>
      rw [h0] at l1
      cases l1
      exact fin (sm_a x y p' q' n c n' c' N P N' P') (okOne h0)
    | true =>
      cases h1 : P == P' with
      | false =>
        rw [h0, h1] at l1
        cases l1
        exact fin (sm_b x y p' q' n c n' c' N P N' P') (okTwo h1 (okOne h0))
      | true =>
        rw [h0, h1, Bool.true_and, Bool.true_and] at l1
        cases d with
        | true => exact fin (sm_c x y p' q' n c n' c' N P N' P') (okTwo (by rw [u1, u3]; exact l1) (okTwo u2 (okTwo u4 (okTwo h1 (okOne h0)))))
        | false => exact fin (sm_d x y p' q' n c n' c' N P N' P') (okTwo (by rw [u1, u3]; exact l1) (okTwo u2 (okTwo u4 (okTwo h1 (okOne h0)))))
  · cases hg
end Go.Proofs.YtlmccannfocniaaDoor
namespace Go.Proofs.YtlmccannfocniaaDoor
open Go.Shelf
def lays156_ren : Go.Shelf.Ren := ⟨fun | 156 => 41 | 165 => 49 | 166 => 50 | 169 => 51 | 240 => 56 | 241 => 57 | 276 => 68 | 277 => 69 | n => n, fun | 31 => 81 | 9 => 9 | 3 => 3 | 4 => 4 | 0 => 0 | 20 => 20 | 72 => 106 | 76 => 38 | 70 => 103 | 37 => 104 | 75 => 26 | 127 => 112 | 164 => 66 | 5 => 5 | 80 => 109 | n => n, fun | n => n⟩
theorem lays156 : Go.Proofs.Lays.n156 Tryd.prog lays156_ren := {
  mixed := by kernel_rfl
  f156 := Tryd.func41.trans (congrArg some (by kernel_rfl))
  f165 := Tryd.func49.trans (congrArg some (by kernel_rfl))
  f166 := Tryd.func50.trans (congrArg some (by kernel_rfl))
  f169 := Tryd.func51.trans (congrArg some (by kernel_rfl))
  f240 := Tryd.func56.trans (congrArg some (by kernel_rfl))
  f241 := Tryd.func57.trans (congrArg some (by kernel_rfl))
  f276 := Tryd.func68.trans (congrArg some (by kernel_rfl))
  f277 := Tryd.func69.trans (congrArg some (by kernel_rfl))
  t0 := Tryd.underlying0
  a0 := Tryd.isAgg0
  z0 := Tryd.sizeOf0
  v0 := Tryd.zeroValue0
  t3 := Tryd.underlying3
  a3 := Tryd.isAgg3
  z3 := Tryd.sizeOf3
  v3 := Tryd.zeroValue3
  t4 := Tryd.underlying4
  a4 := Tryd.isAgg4
  z4 := Tryd.sizeOf4
  v4 := Tryd.zeroValue4
  t9 := Tryd.underlying9
  a9 := Tryd.isAgg9
  z9 := Tryd.sizeOf9
  v9 := Tryd.zeroValue9
  t20 := Tryd.underlying20
  a20 := Tryd.isAgg20
  z20 := Tryd.sizeOf20
  v20 := Tryd.zeroValue20
  t31 := Tryd.underlying81
  a31 := Tryd.isAgg81
  z31 := Tryd.sizeOf81
  v31 := Tryd.zeroValue81
  t37 := Tryd.underlying104
  a37 := Tryd.isAgg104
  z37 := Tryd.sizeOf104
  v37 := Tryd.zeroValue104
  t70 := Tryd.underlying103
  a70 := Tryd.isAgg103
  z70 := Tryd.sizeOf103
  v70 := Tryd.zeroValue103
  t72 := Tryd.underlying106
  a72 := Tryd.isAgg106
  z72 := Tryd.sizeOf106
  v72 := Tryd.zeroValue106
  t75 := Tryd.underlying26
  a75 := Tryd.isAgg26
  z75 := Tryd.sizeOf26
  v75 := Tryd.zeroValue26
  t76 := Tryd.underlying38
  a76 := Tryd.isAgg38
  z76 := Tryd.sizeOf38
  v76 := Tryd.zeroValue38
  t127 := Tryd.underlying112
  a127 := Tryd.isAgg112
  z127 := Tryd.sizeOf112
  v127 := Tryd.zeroValue112
  t164 := Tryd.underlying66
  a164 := Tryd.isAgg66
  z164 := Tryd.sizeOf66
  v164 := Tryd.zeroValue66 }
theorem Builder_Extra_156 : Builder.Extra Tryd.prog lays156_ren := {
  sizeBuilder := by kernel_rfl
  liesBuilder := by kernel_rfl
  t5 := Tryd.underlying5
  a5 := Tryd.isAgg5
  z5 := Tryd.sizeOf5
  v5 := Tryd.zeroValue5
  infoByte := by kernel_rfl
  cellsByte := by kernel_rfl
  sizeByte := by kernel_rfl
  neB5 := by decide }
end Go.Proofs.YtlmccannfocniaaDoor
namespace Go.Proofs.YtlmccannfocniaaDoor
open Go.KRun Go.RowKit Go.Pl
set_option maxRecDepth 100000
/-- the strings of a row -/
def strsL : List Value → Option (List ByteArray)
  | [] => some []
  | .string s :: r => match strsL r with | some q => some (s :: q) | none => none
  | _ :: _ => none
theorem strsL_at : ∀ {l : List Value} {xs : List ByteArray}, strsL l = some xs → l.length = xs.length ∧ ∀ (j : Nat) y, xs[j]? = some y → l[j]? = some (.string y)
  | [], xs, h => by
    cases h
    exact ⟨rfl, fun j y hy => by simp at hy⟩
  | v :: r, xs, h => by
    unfold strsL at h
    split at h
    · cases h
      rename_i hh
      cases hh
    · rename_i s r' e
      cases e
      split at h
      · rename_i q hq
        cases h
        obtain ⟨h1, h2⟩ := strsL_at hq
        refine ⟨by simp [h1], fun j y hy => ?_⟩
        cases j with
        | zero => simp at hy; simp [hy]
        | succ j => simp at hy; simpa using h2 j y hy
      · cases h
    · cases h
def jnL (xs : List ByteArray) (sep : ByteArray) : List UInt8 := Lib.join (xs.map (·.data.toList)) sep.data.toList
def gJn : AnsH := fun vals h s => match vals with
  | [.slice (some ⟨b, 0, none⟩) n c, .string sep] =>
    match h.blk? b with
    | some x =>
      match strsL (x.1.take n) with
      | some xs => some (.string ⟨(jnL xs sep).toArray⟩, h, s, [(!(tomb x.2) && (Nat.beq c grown && (Nat.beq xs.length n && (Nat.ble n 1000000 && Nat.ble (jnL xs sep).length 1000000))), true)])
      | none => none
    | none => none
  | _ => none
theorem tidy_b19 {w w' : World} (h : Below w.heap.size w w') : Tidy w w' := ⟨h, fun _ _ _ => trivial⟩
theorem gJn_ok : AnsHOk 41 gJn := by
  intro vals h s v h' s' lg hg hl m B w E hv
  unfold gJn at hg
  split at hg
  · rename_i b n c sep
    split at hg
    · rename_i x hx
      split at hg
      · rename_i xs hs
        cases hg
        have l1 := hl _ (List.mem_singleton.2 rfl)
        simp only [Bool.and_eq_true, Bool.not_eq_true'] at l1
        obtain ⟨t1, t2, t3, t4, t5⟩ := l1
        have t2 := Nat.eq_of_beq_eq_true t2
        have t3 := Nat.eq_of_beq_eq_true t3
        have t4 := Nat.le_of_ble_eq_true t4
        have t5 := Nat.le_of_ble_eq_true t5
        subst t2
        obtain ⟨s1, s2⟩ := strsL_at hs
        have L := E.lies _ x hx t1
        obtain ⟨r, z, l0, _, _⟩ := L
        have hcap : xs.length ≤ cap (m b).2 grown := by
          have e : cap (m b).2 grown = (m b).2 / 1 := cap_Q (k := 1) (by unfold dead; omega)
          have : (x.1.take n).length ≤ x.1.length := List.length_take_le' ..
          rw [e, Nat.div_one]
          simp at l0
          omega
        have := Any.strings_Join lays156 Builder_Extra_156 (m b).1 0 (cap (m b).2 grown) xs sep w (fun j y hy => by
          have hc := s2 j y hy
          have hlt : j < (x.1.take n).length := (List.getElem?_eq_some_iff.1 hc).1
          have hx1 : x.1[j]? = some (.string y) := by
            rw [List.getElem?_take] at hc
            split at hc
            · exact hc
            · cases hc
          rw [Nat.zero_add]
          exact cell_lies (E.lies _ x hx t1) hx1) (E.here hx t1) (by omega) hcap (by show (jnL xs sep).length ≤ _; omega)
        rw [t3] at this
        refine this.mono fun e w' he => ?_
        obtain ⟨E', hb'⟩ := clean_emb E (tidy_b19 he.2)
        exact ⟨m, he.1, ⟨Agree.refl _ _, E', hb', Nat.le_refl _, rfl⟩⟩
      · cases hg
    · cases hg
  · cases hg
def hcJn : Hc := altH 41 gJn hcN
theorem hcJn_ok : HcOk hcJn := altH_ok Tryd.func41 rfl gJn_ok hcN_ok
theorem su_fits : Fits (reckonAt (tabH Tryd.prog extY conN hcJn) hR0 800 12 [] []) (.bool true) [(true, true)] := ⟨by kernel_rfl, by kernel_rfl, by kernel_rfl, by kernel_rfl⟩
def gSu19 : Ans := fun vals s => match vals with | [] => some (.bool true, s, []) | _ => none
theorem gSu19_ok : AnsRdOk 12 gSu19 := by
  intro vals s v s' lg h hl w hk
  unfold gSu19 at h
  split at h
  · cases h
    exact fitsRd (tabH_ok conN_ok hcJn_ok) su_fits (okOne rfl) (by rfl) (by rfl) hk
  · cases h
theorem numz_fits : Fits (reckon (tabOf Tryd.prog extY conN true) 100 10 [.nilIface] []) (.int .i64 0) [] := ⟨by kernel_rfl, by kernel_rfl, by kernel_rfl, by kernel_rfl⟩
def gNumZ : Ans := fun vals s => match vals with | [.nilIface] => some (.int .i64 0, s, []) | _ => none
theorem gNumZ_ok : AnsOk 10 gNumZ := by
  intro vals s v s' lg h hl w
  unfold gNumZ at h
  split at h
  · cases h
    exact fits_calls (tabY_ok conN_ok) numz_fits ok19 (by rfl) (by rfl) w
  · cases h
def conZ : Con := alt 10 gNumZ conN
theorem conZ_ok : ConOk conZ := alt_ok Tryd.func10 rfl gNumZ_ok conN_ok
def hcLm : Hc := altH 7 gMp (altH 11 gCk (altH 9 gSm19 (altH 12 (gTb gSu19) hcN)))
theorem hcLm_ok : HcOk hcLm := altH_ok Tryd.func7 rfl gMp_ok (altH_ok Tryd.func11 rfl gCk_ok (altH_ok Tryd.func9 rfl gSm19_ok (altH_ok Tryd.func12 rfl (gTb_ok gSu19_ok) hcN_ok)))
def hcLk : Hc := altH 8 gMk (altH 10 gNum hcLm)
theorem hcLk_ok : HcOk hcLk := altH_ok Tryd.func8 rfl gMk_ok (altH_ok Tryd.func10 rfl gNum_ok hcLm_ok)
/-! ### plain facts -/
theorem isR_of {x : Nat} (h : x ∈ rad7) : isR (x : Int) = true ∧ 0 < x := by
  have : x = 4 ∨ x = 2 ∨ x = 3 ∨ x = 5 ∨ x = 7 ∨ x = 11 ∨ x = 13 := by simpa [rad7] using h
  rcases this with rfl | rfl | rfl | rfl | rfl | rfl | rfl <;> exact ⟨by decide, by decide⟩
theorem pw_27 : ∀ j : Fin 27, (pwB ((2 ^ j.val : Nat) : Int) == 0) = true := by decide +kernel
theorem pw_of {p : Nat} (h : ∃ j, p = 2 ^ j) (hp : p ≤ 67108864) : (pwB (p : Int) == 0) = true := by
  obtain ⟨j, rfl⟩ := h
  have hj : j < 27 := (Nat.pow_lt_pow_iff_right (by decide : 1 < 2)).1 (show 2 ^ j < 2 ^ 27 by omega)
  exact pw_27 ⟨j, hj⟩
theorem cutO_wN (L : List Nat) : cutO (wN L) 0 (wN L).length = L.map fun r => ((r : Nat) : Int) := by
  unfold cutO cutW wN
  rw [List.drop_zero, List.take_length, List.map_map]
  rfl
theorem rowCO_wN {L : List Nat} (h : L.length < 1073741824) : rowCO tIn (wN L) 0 (wN L).length = true := by
  unfold rowCO cutW
  have e1 : ((wN L).all isI) = true := List.all_eq_true.2 fun v hv => by
    obtain ⟨r, _, rfl⟩ := List.mem_map.1 hv
    rfl
  have e2 : Nat.blt (wN L).length 4611686018427387904 = true := blt_iff.2 (by rw [wN_len]; omega)
  rw [List.drop_zero, List.take_length, e1, List.all_eq_true.2 (wN_still L), e2, Nat.zero_add, Nat.ble_eq_true_of_le (Nat.le_refl _)]
  rfl
theorem pl_len {k : Nat} (h0 : 0 < k) : (plL k).length ≤ k := by
  have key : ∀ (rs : List Nat), (∀ r ∈ rs, 2 ≤ r) → ∀ m, 0 < m → (parL rs m).length + parW rs m ≤ m := fun rs => by
    induction rs with
    | nil => intro _ m _; simp [parL, parW]
    | cons r rs ih =>
      intro hr m hm
      have h2 := hr r (List.mem_cons_self ..)
      have := ih (fun x hx => hr x (List.mem_cons_of_mem _ hx)) (lefR r m) (lef_pos h2 hm)
      have := cut_size h2 hm
      show (cutR r m ++ parL rs (lefR r m)).length + parW rs (lefR r m) ≤ m
      rw [List.length_append]
      omega
  have := key rad7 rad7_two k h0
  show (parL rad7 k).length ≤ k
  omega
end Go.Proofs.YtlmccannfocniaaDoor
