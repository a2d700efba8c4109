/-
  FiT, FiU, FiV, FiW, FiX, FiY
-/
import Derived.Test.YtdlpffgekmidnaaDoorG18
namespace Go.Proofs.YtdlpffgekmidnaaDoor
open Go.KRun Go.Nt Go.Wd
set_option maxRecDepth 100000
/-- the terms that are added, and those that are taken off -/
def plD (t : Nat → Nat) : Nat → Nat
  | 0 => 0
  | k + 1 => if k % 2 = 0 then plD t k + t k else plD t k
def miD (t : Nat → Nat) : Nat → Nat
  | 0 => 0
  | k + 1 => if k % 2 = 0 then miD t k else miD t k + t k
theorem plD_stop {t : Nat → Nat} (hz : ∀ j, t j = 0 → t (j + 1) = 0) {k : Nat} (h : t k = 0) : ∀ d, t (k + d) = 0 ∧ plD t (k + d) = plD t k ∧ miD t (k + d) = miD t k
  | 0 => ⟨h, rfl, rfl⟩
  | d + 1 => by
    obtain ⟨h1, h2, h3⟩ := plD_stop hz h d
    refine ⟨hz _ h1, ?_, ?_⟩
    · show (if (k + d) % 2 = 0 then plD t (k + d) + t (k + d) else plD t (k + d)) = _
      rw [h1, h2]
      split <;> rfl
    · show (if (k + d) % 2 = 0 then miD t (k + d) else miD t (k + d) + t (k + d)) = _
      rw [h1, h3]
      split <;> rfl
theorem plD_le {t : Nat → Nat} {B : Nat} (hB : ∀ j, t j ≤ B) : ∀ k, plD t k ≤ k * B ∧ miD t k ≤ k * B
  | 0 => ⟨Nat.zero_le _, Nat.zero_le _⟩
  | k + 1 => by
    obtain ⟨h1, h2⟩ := plD_le hB k
    have h3 := hB k
    rw [Nat.add_mul, Nat.one_mul]
    constructor
    · show (if k % 2 = 0 then plD t k + t k else plD t k) ≤ _
      split <;> omega
    · show (if k % 2 = 0 then miD t k else miD t k + t k) ≤ _
      split <;> omega
theorem sr_pm (U s f n0 : Nat) : ∀ k, Go.Fx.sr U s f n0 k = (plD (Go.Fx.tm U s f n0) k : Int) - (miD (Go.Fx.tm U s f n0) k : Int)
  | 0 => rfl
  | k + 1 => by
    have h := sr_pm U s f n0 k
    simp only [Go.Fx.sr, plD, miD]
    split <;> omega
theorem plD_ge {t : Nat → Nat} : ∀ k, t 0 ≤ plD t (k + 1)
  | 0 => by show t 0 ≤ 0 + t 0; omega
  | k + 1 => by
    have h := plD_ge (t := t) k
    show t 0 ≤ (if (k + 1) % 2 = 0 then plD t (k + 1) + t (k + 1) else plD t (k + 1))
    split <;> omega
/-- what is behind the loop -/
def SeO (x0 : List Value × TypeId) (t : Nat → Nat) (y : Lf) : Prop := ∃ (tv qv : Value) (fr i : Int) (g : Nat → Value), (y.1 = seF tv qv nilS nilS fr i ++ tl 31 g ∧ t 0 = 0) ∨ (0 < t 0 ∧ y.2.1.blk? 0 = some x0 ∧ ∃ bP, 1 < bP ∧ y.1 = seF tv qv (s16b bP (plD t 100)) nilS fr i ++ tl 31 g ∧ y.2.1.blk? bP = some (w16 (plD t 100)) ∧ miD t 100 = 0) ∨ (0 < t 0 ∧ ∃ bP bM, bP ≠ bM ∧ y.1 = seF tv qv (s16b bP (plD t 100)) (s16b bM (miD t 100)) fr i ++ tl 31 g ∧ y.2.1.blk? bP = some (w16 (plD t 100)) ∧ y.2.1.blk? bM = some (w16 (miD t 100)))
/-- what is at its head, behind k rounds -/
def SeI (x0 : List Value × TypeId) (qv : Value) (f : Nat) (t : Nat → Nat) (k : Nat) (y : Lf) : Prop := ∃ (tv : Value) (g : Nat → Value), Tv y.2.1 tv (t k) ∧ y.2.1.blk? 0 = some x0 ∧
  ((k = 1 ∧ y.1 = seF tv qv (s16b 2 (plD t k)) nilS ((f + 2 * k : Nat) : Int) ((k : Nat) : Int) ++ tl 31 g ∧ y.2.1.blk? 2 = some (w16 (plD t k))) ∨
   (2 ≤ k ∧ ∃ bP bM, (1 < bP ∧ bP < 5) ∧ (1 < bM ∧ bM < 5) ∧ bP ≠ bM ∧ y.1 = seF tv qv (s16b bP (plD t k)) (s16b bM (miD t k)) ((f + 2 * k : Nat) : Int) ((k : Nat) : Int) ++ tl 31 g ∧ y.2.1.blk? bP = some (w16 (plD t k)) ∧ y.2.1.blk? bM = some (w16 (miD t k))))
theorem still_rn {l : List Value} (h : ∀ v ∈ l, still v = true) (f : Nat → Nat) {k : Nat} (hk : 0 < k) : (l.all (lt1 k)) = true ∧ l.map (rn1 f) = l := by
  refine ⟨List.all_eq_true.2 fun v hv => still_lt hk (h v hv), ?_⟩
  refine (List.map_congr_left fun v hv => ?_).trans (List.map_id' _)
  have := h v hv
  cases v with
  | pointer a => cases a <;> simp_all [still, rn1]
  | slice a l c => cases a <;> simp_all [still, rn1]
  | _ => rfl
section
variable {x0 : List Value × TypeId} {q : Option Addr} {m e SQ f : Nat} {t : Nat → Nat} {A : List Int}
  (NQ : Nu 0 x0 q m e A) (hA : A = d16 SQ) (hm : m < 100000) (hf : 1 ≤ f ∧ f ≤ 2)
  (ht : ∀ k, t (k + 1) = t k * SQ / Go.Fx.uD / ((f + 2 * k) * (f + 2 * k + 1)))
  (hB : ∀ j, t j ≤ Go.Fx.uD) (hS : SQ ≤ Go.Fx.uD)
theorem sh33D {V : Nat} (h : V ≤ 100 * Go.Fx.uD) : (d16 V).length < 100000 := by
  refine sh33 (Nat.lt_of_le_of_lt h ?_)
  have : 100 * Go.Fx.uD < 65536 * (115792089237316195423570985008687907853269984665640564039457584007913129639936 * 115792089237316195423570985008687907853269984665640564039457584007913129639936) := by decide +kernel
  exact this
theorem sh41 {V : Nat} (h : V ≤ Go.Fx.uD * Go.Fx.uD) : (d16 V).length < 100000 := by
  obtain ⟨j, hj⟩ : ∃ j, j = 41 := ⟨_, rfl⟩
  obtain ⟨i, hi⟩ : ∃ i, i = 248 + 72 := ⟨_, rfl⟩
  have e : Go.Fx.uD = 2 ^ i := (pow320 hi).symm
  rw [e, ← Nat.pow_add] at h
  have := d16_len (A := V) (k := j) (Nat.lt_of_le_of_lt h (Nat.pow_lt_pow_right (by omega) (by omega)))
  omega
include ht in
theorem t_zero : ∀ j, t j = 0 → t (j + 1) = 0 := fun j h => by rw [ht, h, Nat.zero_mul, Nat.zero_div, Nat.zero_div]
include NQ hA hm in
theorem hq_of : ∀ h : Hp, h.blk? 0 = some x0 → N6 h q m e SQ := fun h hb => ⟨(NQ.row h hb).1, (NQ.row h hb).2.trans hA, hm⟩
include ht in
/-- it ends where the term is 0 -/
theorem se_stop {k : Nat} (hk9 : k ≤ 100) (h0 : t k = 0 ∨ k = 100) (hp : 0 < t 0) {y z : Lf} (hx : y.2.1.blk? 0 = some x0) (hz2 : z.2.1 = y.2.1) (hz1 : ∃ g tv, (k = 1 ∧ z.1 = seF tv (.slice q m e) (s16b 2 (plD t k)) nilS ((f + 2 * k : Nat) : Int) ((k : Nat) : Int) ++ tl 31 g ∧ y.2.1.blk? 2 = some (w16 (plD t k))) ∨ (2 ≤ k ∧ ∃ bP bM, bP ≠ bM ∧ z.1 = seF tv (.slice q m e) (s16b bP (plD t k)) (s16b bM (miD t k)) ((f + 2 * k : Nat) : Int) ((k : Nat) : Int) ++ tl 31 g ∧ y.2.1.blk? bP = some (w16 (plD t k)) ∧ y.2.1.blk? bM = some (w16 (miD t k)))) : SeO x0 t z := by
  have hs : plD t 100 = plD t k ∧ miD t 100 = miD t k := by
    rcases h0 with h0 | h0
    · have := plD_stop (t_zero ht) h0 (100 - k)
      rw [show k + (100 - k) = 100 by omega] at this
      exact this.2
    · subst h0
      exact ⟨rfl, rfl⟩
  obtain ⟨g, tv, ⟨h1, e1, e2⟩ | ⟨_, bP, bM, hne, e1, e2, e3⟩⟩ := hz1
  · refine ⟨tv, _, _, _, g, .inr (.inl ⟨hp, by rw [hz2]; exact hx, 2, by omega, by rw [hs.1]; exact e1, by rw [hz2, hs.1]; exact e2, by rw [hs.2, h1]; rfl⟩)⟩
  · exact ⟨tv, _, _, _, g, .inr (.inr ⟨hp, bP, bM, hne, by rw [hs.1, hs.2]; exact e1, by rw [hz2, hs.1]; exact e2, by rw [hz2, hs.2]; exact e3⟩)⟩
end
theorem nd4 {a b c : Nat} (h1 : 4 < a) (h2 : 1 < b ∧ b < 5) (h3 : 1 < c ∧ c < 5) (h4 : b ≠ c) : [0, a, b, c].Nodup := by
  simp only [List.nodup_cons, List.mem_cons, List.not_mem_nil, or_false, not_or, List.nodup_nil, and_true, not_false_eq_true]
  omega
theorem nd3 {a : Nat} (h1 : 4 < a) : [0, a, 2].Nodup := by
  simp only [List.nodup_cons, List.mem_cons, List.not_mem_nil, or_false, not_or, List.nodup_nil, and_true, not_false_eq_true]
  omega
theorem kept_w {h : Hp} {b V : Nat} (hb : h.blk? b = some (w16 V)) (f : Nat → Nat) {k : Nat} (hk : 0 < k) : ((w16 V).1.all (lt1 k)) = true ∧ h.blk? b = some ((w16 V).1.map (rn1 f), (w16 V).2) := by
  obtain ⟨h1, h2⟩ := still_rn (l := (w16 V).1) (wU_still _) f hk
  exact ⟨h1, by rw [h2]; exact hb⟩
theorem kept_x {h : Hp} {b : Nat} {x : List Value × TypeId} (hs : ∀ v ∈ x.1, still v = true) (hb : h.blk? b = some x) (f : Nat → Nat) {k : Nat} (hk : 0 < k) : (x.1.all (lt1 k)) = true ∧ h.blk? b = some (x.1.map (rn1 f), x.2) := by
  obtain ⟨h1, h2⟩ := still_rn hs f hk
  exact ⟨h1, by rw [h2]; exact hb⟩
section
variable {x0 : List Value × TypeId} {q : Option Addr} {m e SQ f : Nat} {t : Nat → Nat} {A : List Int}
  (NQ : Nu 0 x0 q m e A) (hA : A = d16 SQ) (hm : m < 100000) (hf : 1 ≤ f ∧ f ≤ 2)
  (ht : ∀ k, t (k + 1) = t k * SQ / Go.Fx.uD / ((f + 2 * k) * (f + 2 * k + 1)))
  (hB : ∀ j, t j ≤ Go.Fx.uD) (hS : SQ ≤ Go.Fx.uD)
include NQ hA hm hf ht hB hS in
theorem se_round (hp0 : 0 < t 0) {k : Nat} (hk : 1 ≤ k) (hk9 : k ≤ 100) {y : Lf} (h : SeI x0 (.slice q m e) f t k y) :
    RunsW (tabH Tryd.prog extY conN hcSe) (seL Tryd.f44) y fun ex z => match ex with | none => k < 100 ∧ SeI x0 (.slice q m e) f t (k + 1) z | some none => False | some (some id') => id' = 0 ∧ SeO x0 t z := by
  have TT := tabH_ok conN_ok hcSe_ok
  obtain ⟨tt, h', s⟩ := y
  obtain ⟨tv, g, hT, h0, hc⟩ := h
  simp only at hT h0 hc
  have lT : (d16 (t k)).length < 100000 := sh33D (by have := hB k; omega)
  have lP : (d16 (plD t k)).length < 100000 := sh33D (Nat.le_trans (plD_le hB k).1 (Nat.mul_le_mul_right _ hk9))
  have lM : (d16 (miD t k)).length < 100000 := sh33D (Nat.le_trans (plD_le hB k).2 (Nat.mul_le_mul_right _ hk9))
  have bTS : t k * SQ ≤ Go.Fx.uD * Go.Fx.uD := Nat.mul_le_mul (hB k) hS
  have HQ := hq_of NQ hA hm
  -- how it ends
  have stop : ∀ (pv mv : Value) (g' : Nat → Value) (z : Lf), (t k = 0 ∨ k = 100) → z.2.1 = h' → z.1 = seF tv (.slice q m e) pv mv ((f + 2 * k : Nat) : Int) ((k : Nat) : Int) ++ tl 31 g' → ((k = 1 ∧ pv = s16b 2 (plD t k) ∧ mv = nilS ∧ h'.blk? 2 = some (w16 (plD t k))) ∨ (2 ≤ k ∧ ∃ bP bM, bP ≠ bM ∧ pv = s16b bP (plD t k) ∧ mv = s16b bM (miD t k) ∧ h'.blk? bP = some (w16 (plD t k)) ∧ h'.blk? bM = some (w16 (miD t k)))) → SeO x0 t z := by
    intro pv mv g' z hend z2 z1 hh
    refine se_stop (q := q) (m := m) (e := e) ht hk9 hend hp0 (y := (tt, h', s)) h0 z2 ?_
    rcases hh with ⟨k1, rfl, rfl, e2⟩ | ⟨k2, bP, bM, hne, rfl, rfl, e2, e3⟩
    · exact ⟨g', tv, .inl ⟨k1, z1, e2⟩⟩
    · exact ⟨g', tv, .inr ⟨k2, bP, bM, hne, z1, e2, e3⟩⟩
  -- the same front, whichever kind
  obtain ⟨pv, mv, hfr, hpm⟩ : ∃ pv mv, tt = seF tv (.slice q m e) pv mv ((f + 2 * k : Nat) : Int) ((k : Nat) : Int) ++ tl 31 g ∧ ((k = 1 ∧ pv = s16b 2 (plD t k) ∧ mv = nilS ∧ h'.blk? 2 = some (w16 (plD t k))) ∨ (2 ≤ k ∧ ∃ bP bM, bP ≠ bM ∧ pv = s16b bP (plD t k) ∧ mv = s16b bM (miD t k) ∧ h'.blk? bP = some (w16 (plD t k)) ∧ h'.blk? bM = some (w16 (miD t k)))) := by
    rcases hc with ⟨k1, e1, e2⟩ | ⟨k2, bP, bM, _, _, hne, e1, e2, e3⟩
    · exact ⟨_, _, e1, .inl ⟨k1, rfl, rfl, e2⟩⟩
    · exact ⟨_, _, e1, .inr ⟨k2, bP, bM, hne, rfl, rfl, e2, e3⟩⟩
  by_cases c100 : k = 100
  · subst hfr
    refine (goesT_runsW (s0 := s) TT (se_o1 tv (.slice q m e) pv mv _ ((k : Nat) : Int) h' g) (okP1 (decide_eq_false (by omega)))).mono fun ex z hz => ?_
    obtain ⟨rfl, ⟨g2, z1⟩, z2⟩ := hz
    exact ⟨rfl, stop pv mv g2 z (.inr c100) z2 z1 hpm⟩
  have hi : decide (((k : Nat) : Int) < 100) = true := decide_eq_true (by omega)
  rcases hT with ⟨rfl, hT0⟩ | ⟨b, hb4, rfl, hbT⟩
  · subst hfr
    refine (goesT_runsW (s0 := s) TT (se_o2 (.slice q m e) pv mv none 0 0 _ ((k : Nat) : Int) h' g) (okPC rfl (okP1 hi))).mono fun ex z hz => ?_
    obtain ⟨rfl, ⟨g2, z1⟩, z2⟩ := hz
    exact ⟨rfl, stop pv mv g2 z (.inl hT0) z2 z1 hpm⟩
  by_cases hn : 0 < (d16 (t k)).length
  · have HT : ∀ hh : Hp, hh.blk? 1 = some (w16 (t k)) → N6 hh (aP16 1) (d16 (t k)).length grown (t k) := fun hh hb => gN6 hb lT
    have ef : f + 2 * k + 2 = f + 2 * (k + 1) := by omega
    rcases hc with ⟨k1, e1, e2⟩ | ⟨k2, bP, bM, p1, p2, p3, e1, e2, e3⟩
    · subst e1
      refine RunsW.preP (s' := s) [some (g16b 1 (t k)), some (.slice q m e), some (.int .u32 ((f + 2 * k : Nat) : Int)), some undef, some undef, some undef, some nilS, some (s16b 2 (plD t k)), some nilS, some (.int .i64 ((k : Nat) : Int))] [0, b, 2] [x0, w16 (t k), w16 (plD t k)] (fun j g' => ?_) rfl (Nat.succ_pos 2) ⟨rfl, NQ.rn rfl, rfl, rn_undef _, rn_undef _, rn_undef _, rfl, rfl, rfl, rfl, trivial⟩ ?_ (nd3 hb4) ?_
      · refine (rnd_1 (x1 := w16 (t k)) (x0 := x0) (P := plD t k) (A := 0 + t k) (f := f + 2 * k) (i := k) HT HQ rfl (sh41 bTS) (fun V hV => sh41 (Nat.le_trans hV bTS)) hn (by omega) (by omega) (by omega) g' s).mono fun ex z hz => ?_
        obtain ⟨rfl, tv2, g2, z1, hTv, w0, w2, w3⟩ := hz
        refine ⟨by omega, tv2, g2, by rw [ht k]; exact hTv, w0, .inr ⟨by omega, 2, 3, by omega, by omega, by omega, ?_, ?_, ?_⟩⟩
        · rw [← ef]
          subst k1
          exact z1
        · subst k1
          exact w2
        · subst k1
          exact w3
      · intro qq hq
        simp only [List.zip_cons_cons, List.zip_nil_right, List.mem_cons, List.not_mem_nil, or_false] at hq
        rcases hq with rfl | rfl | rfl
        · exact kept_x NQ.st h0 _ (Nat.succ_pos 2)
        · exact kept_w hbT _ (Nat.succ_pos 2)
        · exact kept_w e2 _ (Nat.succ_pos 2)
      · have := NQ.lt (k := 3) (Nat.succ_pos 2)
        simp only [List.all_cons, List.all_nil, Option.all_some, List.length_cons, List.length_nil, Bool.and_true, Bool.and_eq_true]
        exact ⟨rfl, this, rfl, rfl, rfl, rfl, rfl, rfl, rfl, rfl⟩
    · subst e1
      refine RunsW.preP (s' := s) [some (g16b 1 (t k)), some (.slice q m e), some (.int .u32 ((f + 2 * k : Nat) : Int)), some undef, some undef, some undef, some nilS, some (s16b 2 (plD t k)), some (s16b 3 (miD t k)), some (.int .i64 ((k : Nat) : Int))] [0, b, bP, bM] [x0, w16 (t k), w16 (plD t k), w16 (miD t k)] (fun j g' => ?_) rfl (Nat.succ_pos 3) ⟨rfl, NQ.rn rfl, rfl, rn_undef _, rn_undef _, rn_undef _, rfl, rfl, rfl, rfl, trivial⟩ ?_ (nd4 hb4 p1 p2 p3) ?_
      · rcases Nat.mod_two_eq_zero_or_one k with c2 | c2
        · refine (rnd_e (x1 := w16 (t k)) (x0 := x0) (P := plD t k) (M := miD t k) (A := plD t k + t k) (f := f + 2 * k) (i := k) HT HQ lP rfl (sh41 bTS) (fun V hV => sh41 (Nat.le_trans hV bTS)) hn (by omega) c2 (by omega) g' s).mono fun ex z hz => ?_
          obtain ⟨rfl, tv2, g2, z1, hTv, w0, w2, w3, w4⟩ := hz
          have a1 : plD t (k + 1) = plD t k + t k := by simp only [plD, if_pos c2]
          have a2 : miD t (k + 1) = miD t k := by simp only [miD, if_pos c2]
          refine ⟨by omega, tv2, g2, by rw [ht k]; exact hTv, w0, .inr ⟨by omega, 4, 3, by omega, by omega, by omega, ?_, ?_, ?_⟩⟩
          · rw [← ef, a1, a2]
            exact z1
          · rw [a1]
            exact w4
          · rw [a2]
            exact w3
        · refine (rnd_u (x1 := w16 (t k)) (x0 := x0) (P := plD t k) (M := miD t k) (A := miD t k + t k) (f := f + 2 * k) (i := k) HT HQ lM rfl (sh41 bTS) (fun V hV => sh41 (Nat.le_trans hV bTS)) hn (by omega) c2 (by omega) g' s).mono fun ex z hz => ?_
          obtain ⟨rfl, tv2, g2, z1, hTv, w0, w2, w3, w4⟩ := hz
          have a1 : plD t (k + 1) = plD t k := by simp only [plD, if_neg (show ¬ k % 2 = 0 by omega)]
          have a2 : miD t (k + 1) = miD t k + t k := by simp only [miD, if_neg (show ¬ k % 2 = 0 by omega)]
          refine ⟨by omega, tv2, g2, by rw [ht k]; exact hTv, w0, .inr ⟨by omega, 2, 4, by omega, by omega, by omega, ?_, ?_, ?_⟩⟩
          · rw [← ef, a1, a2]
            exact z1
          · rw [a1]
            exact w2
          · rw [a2]
            exact w4
      · intro qq hq
        simp only [List.zip_cons_cons, List.zip_nil_right, List.mem_cons, List.not_mem_nil, or_false] at hq
        rcases hq with rfl | rfl | rfl | rfl
        · exact kept_x NQ.st h0 _ (Nat.succ_pos 3)
        · exact kept_w hbT _ (Nat.succ_pos 3)
        · exact kept_w e2 _ (Nat.succ_pos 3)
        · exact kept_w e3 _ (Nat.succ_pos 3)
      · have := NQ.lt (k := 4) (Nat.succ_pos 3)
        simp only [List.all_cons, List.all_nil, Option.all_some, List.length_cons, List.length_nil, Bool.and_true, Bool.and_eq_true]
        exact ⟨rfl, this, rfl, rfl, rfl, rfl, rfl, rfl, rfl, rfl⟩
  · subst hfr
    refine (goesT_runsW (s0 := s) TT (se_o2 (.slice q m e) pv mv (aP16 b) (d16 (t k)).length grown _ ((k : Nat) : Int) h' g) (okPC (decide_eq_false (by omega)) (okP1 hi))).mono fun ex z hz => ?_
    obtain ⟨rfl, ⟨g2, z1⟩, z2⟩ := hz
    exact ⟨rfl, stop pv mv g2 z (.inl (len_zero hn)) z2 z1 hpm⟩
end
theorem se_resT (t q : Value) (fr : Int) (v : Value) (h : Hp) (g : Nat → Value) : resS Tryd.prog Tryd.f44 ([t, q, .int .u32 fr, undef, undef, undef, v] ++ tl 34 g) h = some v := rfl
theorem blk2_push (h : Hp) (hn : h.n = 2) (hl : h.l.length = 2) (A : List Value) : (h.push A tU).blk? 2 = some (A, tU) := by
  rw [Hp.blk_push (by rw [hl, hn]), if_pos hn.symm]
section
variable {x1 x0 : List Value × TypeId} {p q : Option Addr} {n c m e T SQ f : Nat} {A A' : List Int}
  (NT : Nu 1 x1 p n c A') (hT : A' = d16 T) (hn : n < 100000)
  (NQ : Nu 0 x0 q m e A) (hA : A = d16 SQ) (hm : m < 100000) (hf : 1 ≤ f ∧ f ≤ 2) (hB : T ≤ Go.Fx.uD) (hS : SQ ≤ Go.Fx.uD)
include NT hT hn NQ hA hm hf hB hS in
theorem se_loop (g : Nat → Value) (s : List Dec) : RunsW (tabH Tryd.prog extY conN hcSe) (.block 0 (.loop (seL Tryd.f44))) (seF (.slice p n c) (.slice q m e) nilS nilS (f : Nat) 0 ++ tl 31 g, ⟨2, [x1, x0]⟩, s) fun ex z => ex = none ∧ SeO x0 (Go.Fx.tm Go.Fx.uD SQ T f) z := by
  have TT := tabH_ok conN_ok hcSe_ok
  have hB' : ∀ j, Go.Fx.tm Go.Fx.uD SQ T f j ≤ Go.Fx.uD := fun j => Nat.le_trans (Go.Fx.tm_le Go.Fx.uD_pos hS j) hB
  have HT : ∀ h : Hp, h.blk? 1 = some x1 → N6 h p n c T := fun h hb => ⟨(NT.row h hb).1, (NT.row h hb).2.trans hT, hn⟩
  have HQ := hq_of NQ hA hm
  have bTS : T * SQ ≤ Go.Fx.uD * Go.Fx.uD := Nat.mul_le_mul hB hS
  have ht : ∀ k, Go.Fx.tm Go.Fx.uD SQ T f (k + 1) = Go.Fx.tm Go.Fx.uD SQ T f k * SQ / Go.Fx.uD / ((f + 2 * k) * (f + 2 * k + 1)) := fun k => rfl
  have nl := (HT ⟨2, [x1, x0]⟩ rfl).len
  refine (RunsW.forLoop (R := fun _ => False) (P := SeO x0 (Go.Fx.tm Go.Fx.uD SQ T f)) (fun j y => (j = 100 ∧ (∃ g, y.1 = seF (.slice p n c) (.slice q m e) nilS nilS (f : Nat) 0 ++ tl 31 g) ∧ y.2.1 = ⟨2, [x1, x0]⟩) ∨ ∃ k, 0 < T ∧ 1 ≤ k ∧ k ≤ 100 ∧ j = 100 - k ∧ SeI x0 (.slice q m e) f (Go.Fx.tm Go.Fx.uD SQ T f) k y) ?_ (n := 100) (.inl ⟨rfl, ⟨g, rfl⟩, rfl⟩)).mono fun ex z hz => ?_
  · rintro j y (⟨rfl, ⟨g', ht0⟩, hh⟩ | ⟨k, hT0, hk, hk9, rfl, hI⟩)
    · obtain ⟨tt, h', s'⟩ := y
      simp only at ht0 hh
      subst ht0 hh
      by_cases h0 : 0 < n
      · have hT1 : 0 < T := Nat.pos_of_ne_zero fun c => by
          rw [c] at nl
          have := d16_len (A := 0) (k := 0) (by decide)
          omega
        refine (rnd_0 (x1 := x1) (x0 := x0) (A := 0 + T) (f := f) (i := 0) HT HQ rfl (sh41 bTS) (fun V hV => sh41 (Nat.le_trans hV bTS)) h0 (by omega) rfl (by omega) g' s').mono fun ex z hz => ?_
        obtain ⟨rfl, tv2, g2, z1, hTv, w0, w2⟩ := hz
        exact ⟨99, by omega, .inr ⟨1, hT1, by omega, by omega, by omega, tv2, g2, hTv, w0, .inl ⟨rfl, z1, w2⟩⟩⟩
      · have hn0 : n = 0 := by omega
        have hT0 : T = 0 := len_zero (by omega)
        refine (goesT_runsW (s0 := s') TT (se_o2 (.slice q m e) nilS nilS p n c _ 0 ⟨2, [x1, x0]⟩ g') (okPC (decide_eq_false (by omega)) (okP1 (by decide)))).mono fun ex z hz => ?_
        obtain ⟨rfl, ⟨g2, z1⟩, z2⟩ := hz
        exact ⟨rfl, _, _, _, _, g2, .inl ⟨z1, hT0⟩⟩
    · refine (se_round NQ hA hm hf ht hB' hS hT0 hk hk9 hI).mono fun ex z hz => ?_
      match ex, hz with
      | none, hz => exact ⟨100 - (k + 1), by omega, .inr ⟨k + 1, hT0, by omega, by omega, rfl, hz.2⟩⟩
      | some none, hz => exact hz.elim
      | some (some _), hz => exact hz
  · match ex, hz with
    | none, hz => exact ⟨rfl, hz⟩
def seN (SQ T f : Nat) : Nat := (Go.Fx.sr Go.Fx.uD SQ T f 100).toNat
include hB hS in
theorem seN_is : miD (Go.Fx.tm Go.Fx.uD SQ T f) 100 ≤ plD (Go.Fx.tm Go.Fx.uD SQ T f) 100 ∧ plD (Go.Fx.tm Go.Fx.uD SQ T f) 100 - miD (Go.Fx.tm Go.Fx.uD SQ T f) 100 = seN SQ T f ∧ plD (Go.Fx.tm Go.Fx.uD SQ T f) 100 ≤ 100 * Go.Fx.uD ∧ miD (Go.Fx.tm Go.Fx.uD SQ T f) 100 ≤ 100 * Go.Fx.uD ∧ seN SQ T f ≤ Go.Fx.uD := by
  have h1 := sr_pm Go.Fx.uD SQ T f 100
  have h2 := Go.Fx.sr_bd (f := T) (n0 := f) Go.Fx.uD_pos hS 100
  have h3 := plD_le (t := Go.Fx.tm Go.Fx.uD SQ T f) (fun j => Nat.le_trans (Go.Fx.tm_le Go.Fx.uD_pos hS j) hB) 100
  unfold seN
  refine ⟨by omega, by omega, h3.1, h3.2, by omega⟩
include NT hT hn NQ hA hm hf hB hS in
theorem se_runs : RunsW (tabH Tryd.prog extY conN hcSe) (seqs (seP Tryd.f44) (.seq (.seq (seI Tryd.f44) (.block 0 (.loop (seL Tryd.f44)))) (seE Tryd.f44))) ([.slice p n c, .slice q m e, .int .u32 (f : Nat)] ++ List.replicate 38 undef, ⟨2, [x1, x0]⟩, []) fun ex z => (ex = none ∨ ex = some none) ∧ ((T = 0 ∧ resS Tryd.prog Tryd.f44 z.1 z.2.1 = some nilS) ∨ (0 < T ∧ resS Tryd.prog Tryd.f44 z.1 z.2.1 = some (sl 2 0 (d16 (seN SQ T f)).length (d16 (seN SQ T f)).length) ∧ ∃ r, z.2.1.blk? 2 = some (wU (d16 (seN SQ T f)) ++ r, tU))) := by
  have TT := tabH_ok conN_ok hcSe_ok
  have hB' : ∀ j, Go.Fx.tm Go.Fx.uD SQ T f j ≤ Go.Fx.uD := fun j => Nat.le_trans (Go.Fx.tm_le Go.Fx.uD_pos hS j) hB
  obtain ⟨s1, s2, s3, s4, s5⟩ := seN_is (f := f) hB hS
  have lP := sh33D s3
  have lM := sh33D s4
  refine goesT_listW TT (se_pre _ _ _ _) okNil fun g => ?_
  refine RunsW.seq (P1 := fun ex y => ex = none ∧ SeO x0 (Go.Fx.tm Go.Fx.uD SQ T f) y) ?_ ?_ (fun ex y he => by cases he.1)
  · refine RunsW.seq (goesT_runsW TT (se_i _ _ _ _ g) okNil) ?_ (fun ex y he => by cases he.1)
    rintro ⟨tt, hh, s⟩ ⟨_, ⟨g', e1⟩, e2⟩
    simp only at e1 e2
    subst e1 e2
    exact se_loop NT hT hn NQ hA hm hf hB hS g' s
  · rintro ⟨tt, hh, s⟩ ⟨_, tv, qv, fr, i, g', ho⟩
    simp only at ho
    generalize hPl : plD (Go.Fx.tm Go.Fx.uD SQ T f) 100 = P at *
    generalize hMi : miD (Go.Fx.tm Go.Fx.uD SQ T f) 100 = M at *
    have hTP : T ≤ P := by
      have := plD_ge (t := Go.Fx.tm Go.Fx.uD SQ T f) 99
      rw [hPl] at this
      exact this
    have fin : ∀ (pv mv : Value) (h2 : Hp) (g2 : Nat → Value) (tv qv : Value) (r : Option Addr) (mm ee Mv : Nat) (s : List Dec), h2.n = 2 → h2.l.length = 2 → 0 < T → P - Mv = seN SQ T f → Mv ≤ P → N6 h2 (aP16 1) (d16 P).length (d16 P).length P → N6 h2 r mm ee Mv → RunsW (tabH Tryd.prog extY conN hcSe) (seE Tryd.f44) (seF tv qv (s16b 1 P) (.slice r mm ee) fr i ++ tl 31 g2, h2, s) fun ex z => (ex = none ∨ ex = some none) ∧ ((T = 0 ∧ resS Tryd.prog Tryd.f44 z.1 z.2.1 = some nilS) ∨ (0 < T ∧ resS Tryd.prog Tryd.f44 z.1 z.2.1 = some (sl 2 0 (d16 (seN SQ T f)).length (d16 (seN SQ T f)).length) ∧ ∃ r, z.2.1.blk? 2 = some (wU (d16 (seN SQ T f)) ++ r, tU))) := by
      intro pv mv h2 g2 tv qv r mm ee Mv s n2 l2 hT0 hV hle NP NM
      refine (goesT_runsW (s0 := s) TT (se_end tv qv (aP16 1) r (d16 P).length (d16 P).length mm ee (seN SQ T f) fr i h2 g2) (okPC (NP.subV NM hV) (okPC (NP.sb NM hle) (okP1 (decide_eq_true (len_pos16 (by omega))))))).mono fun ex z hz => ?_
      obtain ⟨rfl, ⟨g3, z1⟩, z2⟩ := hz
      refine ⟨.inr rfl, .inr ⟨hT0, ?_, [], ?_⟩⟩
      · rw [z1, n2]
        exact se_resT _ _ _ _ _ g3
      · rw [z2, List.append_nil]
        exact blk2_push h2 n2 l2 _
    rcases ho with ⟨e1, t0⟩ | ⟨hT0, e0, bP, hb, e1, e2, e3⟩ | ⟨hT0, bP, bM, hne, e1, e2, e3⟩
    · subst e1
      refine (goesT_runsW (s0 := s) TT (se_endN tv qv fr i hh g') (okPC rfl (okP1 rfl))).mono fun ex z hz => ?_
      obtain ⟨rfl, ⟨g3, z1⟩, z2⟩ := hz
      refine ⟨.inr rfl, .inl ⟨t0, ?_⟩⟩
      rw [z1]
      exact se_resT _ _ _ _ _ g3
    · subst e1
      refine RunsW.preP (s' := s) [none, none, some (.int .u32 fr), some undef, some undef, some undef, some nilS, some (s16b 1 P), some nilS, some (.int .i64 i)] [0, bP] [x0, w16 P] (fun j g2 => ?_) rfl (Nat.succ_pos 1) ⟨rfl, rn_undef _, rn_undef _, rn_undef _, rfl, rfl, rfl, rfl, trivial⟩ ?_ (by simp only [List.nodup_cons, List.mem_cons, List.not_mem_nil, or_false, List.nodup_nil, and_true, not_false_eq_true]; omega) (by rfl)
      · exact fin nilS nilS ⟨2, [w16 P, x0]⟩ g2 _ _ none 0 0 0 s rfl rfl hT0 (by rw [← s2, e3]) (Nat.zero_le _) (bN6 (V := P) rfl lP) (nN6 _)
      · intro qq hq
        simp only [List.zip_cons_cons, List.zip_nil_right, List.mem_cons, List.not_mem_nil, or_false] at hq
        rcases hq with rfl | rfl
        · exact kept_x NQ.st e0 _ (Nat.succ_pos 1)
        · exact kept_w e2 _ (Nat.succ_pos 1)
    · subst e1
      refine RunsW.preP (s' := s) [none, none, some (.int .u32 fr), some undef, some undef, some undef, some nilS, some (s16b 1 P), some (s16b 0 M), some (.int .i64 i)] [bM, bP] [w16 M, w16 P] (fun j g2 => ?_) rfl (Nat.succ_pos 1) ⟨rfl, rn_undef _, rn_undef _, rn_undef _, rfl, rfl, rfl, rfl, trivial⟩ ?_ (by simp only [List.nodup_cons, List.mem_cons, List.not_mem_nil, or_false, List.nodup_nil, and_true, not_false_eq_true]; omega) (by rfl)
      · exact fin nilS nilS ⟨2, [w16 P, w16 M]⟩ g2 _ _ (aP16 0) (d16 M).length (d16 M).length M s rfl rfl hT0 s2 s1 (bN6 (V := P) rfl lP) (bN6 (V := M) rfl lM)
      · intro qq hq
        simp only [List.zip_cons_cons, List.zip_nil_right, List.mem_cons, List.not_mem_nil, or_false] at hq
        rcases hq with rfl | rfl
        · exact kept_w e3 _ (Nat.succ_pos 1)
        · exact kept_w e2 _ (Nat.succ_pos 1)
end
def okSe (h : Hp) (p q : Option Addr) (n c m e : Nat) (f : Int) : Bool := (rowP h p n c && canB (rowOf h p n) && Nat.blt n 100000) && (rowP h q m e && canB (rowOf h q m) && Nat.blt m 100000) && decide (1 ≤ f ∧ f ≤ 2) && decide (vO h p n ≤ Go.Fx.uD ∧ vO h q m ≤ Go.Fx.uD)
/-- told ahead whether the first term is 0, and the sum -/
def gSe : AnsH := fun vals h s =>
  match vals, s with
  | [.slice p n c, .slice q m e, .int .u32 f], .inr (.inr (.inr (.inl d))) :: s' =>
    match d, s' with
    | true, .inr (.inl V) :: s2 => mk16 V.toNat h s2 [(decide (0 < vO h p n ∧ seN (vO h q m) (vO h p n) f.toNat = V.toNat), true), (okSe h p q n c m e f, true)]
    | false, _ => some (nilS, h, s', [(decide (0 < vO h p n), false), (okSe h p q n c m e f, true)])
    | _, _ => none
  | _, _ => none
theorem seN_nil (f : Nat) (x1 x0 : List Value × TypeId) {p q : Option Addr} {n c m e T SQ : Nat} {A A' : List Int} (NT : Nu 1 x1 p n c A') (hT : A' = d16 T) (hn : n < 100000) (NQ : Nu 0 x0 q m e A) (hA : A = d16 SQ) (hm : m < 100000) (hf : 1 ≤ f ∧ f ≤ 2) (hB : T ≤ Go.Fx.uD) (hS : SQ ≤ Go.Fx.uD) (hT0 : T = 0) : RunsW (tabH Tryd.prog extY conN hcSe) (seqs (seP Tryd.f44) (.seq (.seq (seI Tryd.f44) (.block 0 (.loop (seL Tryd.f44)))) (seE Tryd.f44))) ([.slice p n c, .slice q m e, .int .u32 (f : Nat)] ++ List.replicate 38 undef, hp2 x1 x0, []) fun ex z => (ex = none ∨ ex = some none) ∧ resS Tryd.prog Tryd.f44 z.1 z.2.1 = some nilS := by
  refine (se_runs NT hT hn NQ hA hm hf hB hS).mono fun ex z hz => ?_
  obtain ⟨h1, ⟨_, h2⟩ | ⟨h2, _⟩⟩ := hz
  · exact ⟨h1, h2⟩
  · omega
theorem seN_row (f : Nat) (x1 x0 : List Value × TypeId) {p q : Option Addr} {n c m e T SQ : Nat} {A A' : List Int} (NT : Nu 1 x1 p n c A') (hT : A' = d16 T) (hn : n < 100000) (NQ : Nu 0 x0 q m e A) (hA : A = d16 SQ) (hm : m < 100000) (hf : 1 ≤ f ∧ f ≤ 2) (hB : T ≤ Go.Fx.uD) (hS : SQ ≤ Go.Fx.uD) (hT0 : 0 < T) {V : Nat} (hV : seN SQ T f = V) : RunsW (tabH Tryd.prog extY conN hcSe) (seqs (seP Tryd.f44) (.seq (.seq (seI Tryd.f44) (.block 0 (.loop (seL Tryd.f44)))) (seE Tryd.f44))) ([.slice p n c, .slice q m e, .int .u32 (f : Nat)] ++ List.replicate 38 undef, hp2 x1 x0, []) fun ex z => (ex = none ∨ ex = some none) ∧ resS Tryd.prog Tryd.f44 z.1 z.2.1 = some (sl 2 0 (d16 V).length (d16 V).length) ∧ ∃ r, z.2.1.blk? 2 = some (wU (d16 V) ++ r, tU) := by
  refine (se_runs NT hT hn NQ hA hm hf hB hS).mono fun ex z hz => ?_
  obtain ⟨h1, ⟨h2, _⟩ | ⟨_, h2⟩⟩ := hz
  · omega
  · rw [hV] at h2
    exact ⟨h1, h2⟩
theorem d16_of_can {h : Hp} {p : Option Addr} {n : Nat} (hc : canB (rowOf h p n) = true) : rowOf h p n = d16 (vO h p n) := by
  unfold vO d16
  exact (db_can (by omega) (canB_of hc)).symm
theorem se_ok {h : Hp} {p q : Option Addr} {n c m e : Nat} {f : Int} (h0 : okSe h p q n c m e f = true) : (rowP h p n c = true ∧ rowOf h p n = d16 (vO h p n) ∧ n < 100000) ∧ (rowP h q m e = true ∧ rowOf h q m = d16 (vO h q m) ∧ m < 100000) ∧ (1 ≤ f ∧ f ≤ 2) ∧ vO h p n ≤ Go.Fx.uD ∧ vO h q m ≤ Go.Fx.uD := by
  simp only [okSe, Bool.and_eq_true, decide_eq_true_eq] at h0
  obtain ⟨⟨⟨⟨⟨a1, a2⟩, a3⟩, ⟨⟨b1, b2⟩, b3⟩⟩, c1⟩, d1⟩ := h0
  exact ⟨⟨a1, d16_of_can a2, blt_iff.1 a3⟩, ⟨b1, d16_of_can b2, blt_iff.1 b3⟩, c1, d1⟩
theorem gSe_ok : AnsHOk 44 gSe := by
  intro vals h s v h' s' lg hg hl m0 B w E hv
  unfold gSe at hg
  split at hg
  · rename_i p n c q m e f d s2
    split at hg
    · rename_i V s3
      unfold mk16 at hg
      cases hg
      have l1 := of_decide_eq_true (hl _ List.mem_cons_self)
      have l3 := hl _ (List.mem_cons_of_mem _ (List.mem_singleton.2 rfl))
      simp only at l3
      obtain ⟨⟨a1, a2, a3⟩, ⟨b1, b2, b3⟩, c1, d1, d2⟩ := se_ok l3
      obtain ⟨f', rfl⟩ := Int.eq_ofNat_of_zero_le (show 0 ≤ f by omega)
      rw [Int.toNat_natCast] at l1
      obtain ⟨x0, q', b, NB, eB, fB⟩ := nu_of 0 b1
      obtain ⟨x1, p', a, NA, eA, fA⟩ := nu_of 1 a1
      have r := seN_row f' x1 x0 NA a2 a3 NB b2 b3 (by omega) d1 d2 l1.1 l1.2
      generalize hL : (d16 V.toNat).length = L at r ⊢
      have hA : ∀ u ∈ wU (d16 V.toNat), lt1 0 u = true := wU_lt _
      generalize wU (d16 V.toNat) = A at r hA ⊢
      have := row_calls1 (T := tabH Tryd.prog extY conN hcSe) Tryd.func44 se_body (rows_hp2 NB NA) (vals := [.slice p' n c, .slice q' m e, .int .u32 (f' : Nat)]) (fun v hv => by
        simp only [List.mem_cons, List.not_mem_nil, or_false] at hv
        rcases hv with rfl | rfl | rfl
        · exact NA.lt (by show 1 < 2; omega)
        · exact NB.lt (by show 0 < 2; omega)
        · rfl) (k := 2) (cs := A) (ty := tU) hA (by kernel_rfl) r (by rfl) E (s := pair b a) (fits_hp2 fB fA)
      have e2 : rn (fun _ => h.n) (sl 2 0 L L) = sl h.n 0 L L := by simp [rn, rn2, rn1, sl]
      have e3 : rn (pair b a) (.int .u32 (f' : Nat)) = .int .u32 (f' : Nat) := by simp [rn, rn2, rn1]
      simp only [List.map_cons, List.map_nil] at this
      rw [eA _ rfl, eB _ rfl, e2, e3] at this
      exact this
    · cases hg
      have l2 := of_decide_eq_false (hl _ List.mem_cons_self)
      have l3 := hl _ (List.mem_cons_of_mem _ (List.mem_singleton.2 rfl))
      simp only at l3
      obtain ⟨⟨a1, a2, a3⟩, ⟨b1, b2, b3⟩, c1, d1, d2⟩ := se_ok l3
      obtain ⟨f', rfl⟩ := Int.eq_ofNat_of_zero_le (show 0 ≤ f by omega)
      obtain ⟨x0, q', b, NB, eB, fB⟩ := nu_of 0 b1
      obtain ⟨x1, p', a, NA, eA, fA⟩ := nu_of 1 a1
      have r := seN_nil f' x1 x0 NA a2 a3 NB b2 b3 (by omega) d1 d2 (by omega)
      have := row_calls0 (T := tabH Tryd.prog extY conN hcSe) Tryd.func44 se_body (rows_hp2 NB NA) (vals := [.slice p' n c, .slice q' m e, .int .u32 (f' : Nat)]) (fun v hv => by
        simp only [List.mem_cons, List.not_mem_nil, or_false] at hv
        rcases hv with rfl | rfl | rfl
        · exact NA.lt (by show 1 < 2; omega)
        · exact NB.lt (by show 0 < 2; omega)
        · rfl) (v := nilS) (by rfl) r E (s := pair b a) (fits_hp2 fB fA)
      have e3 : rn (pair b a) (.int .u32 (f' : Nat)) = .int .u32 (f' : Nat) := by simp [rn, rn2, rn1]
      simp only [List.map_cons, List.map_nil] at this
      rw [eA _ rfl, eB _ rfl, e3] at this
      exact this
    · cases hg
  · cases hg
def hcSi : Hc := altH 44 gSe (altH 45 gCut (altH 32 gUof (altH 20 gUshlT hcN)))
theorem hcSi_ok : HcOk hcSi := altH_ok Tryd.func44 rfl gSe_ok (altH_ok Tryd.func45 rfl gCut_ok (altH_ok Tryd.func32 rfl gUof_ok (altH_ok Tryd.func20 rfl gUshlT_ok hcN_ok)))
def aH1 (x : List Value × TypeId) : Hp := ⟨1, [x]⟩
def aH2 (A : Nat) (x : List Value × TypeId) : Hp := ⟨2, [w16 A, x]⟩
def aH3 (A B : Nat) (x : List Value × TypeId) : Hp := ⟨3, [w16 A, w16 B, x]⟩
def aH4 (A B C : Nat) (x : List Value × TypeId) : Hp := ⟨4, [w16 A, w16 B, w16 C, x]⟩
def aH5 (A B C D : Nat) (x : List Value × TypeId) : Hp := ⟨5, [w16 A, w16 B, w16 C, w16 D, x]⟩
theorem sin_rr (p : Option Addr) (n c Q V : Nat) (x : List Value × TypeId) : GoesT (evC (tabH Tryd.prog extY conN hcSi) 200 false (cBody Tryd.f24) ([.slice p n c] ++ List.replicate 7 undef, aH1 x, [cmp true, num Q, cmp true, num V]) ⟨[], [], []⟩) 3 5 (some none) [.slice p n c, undef, sl 2 0 (d16 V).length (d16 V).length] (aH3 V Q x)
    [(decide (0 < vO (aH2 Q x) p n ∧ seN (vO (aH2 Q x) (aP16 1) (d16 Q).length) (vO (aH2 Q x) p n) (2 : Int).toNat = V), true), (okSe (aH2 Q x) p (aP16 1) n c (d16 Q).length (d16 Q).length 2, true), (decide (vO (aH1 x) p n * vO (aH1 x) p n / Go.Fx.uD = Q), true), (decide (20 < (d16 (vO (aH1 x) p n * vO (aH1 x) p n)).length ∧ (d16 (vO (aH1 x) p n * vO (aH1 x) p n)).length < 100000), true), (okMu (aH1 x) p p n c n c, true)] := ⟨by kernel_rfl, by kernel_rfl, by kernel_rfl⟩
theorem sin_nr (p : Option Addr) (n c V : Nat) (x : List Value × TypeId) : GoesT (evC (tabH Tryd.prog extY conN hcSi) 200 false (cBody Tryd.f24) ([.slice p n c] ++ List.replicate 7 undef, aH1 x, [cmp false, cmp true, num V]) ⟨[], [], []⟩) 3 5 (some none) [.slice p n c, undef, sl 1 0 (d16 V).length (d16 V).length] (aH2 V x)
    [(decide (0 < vO (aH1 x) p n ∧ seN (vO (aH1 x) none 0) (vO (aH1 x) p n) (2 : Int).toNat = V), true), (okSe (aH1 x) p none n c 0 0 2, true), (decide (20 < (d16 (vO (aH1 x) p n * vO (aH1 x) p n)).length), false), (okMu (aH1 x) p p n c n c, true)] := ⟨by kernel_rfl, by kernel_rfl, by kernel_rfl⟩
theorem sin_nn (p : Option Addr) (n c : Nat) (x : List Value × TypeId) : GoesT (evC (tabH Tryd.prog extY conN hcSi) 200 false (cBody Tryd.f24) ([.slice p n c] ++ List.replicate 7 undef, aH1 x, [cmp false, cmp false]) ⟨[], [], []⟩) 3 5 (some none) [.slice p n c, undef, nilS] (aH1 x)
    [(decide (0 < vO (aH1 x) p n), false), (okSe (aH1 x) p none n c 0 0 2, true), (decide (20 < (d16 (vO (aH1 x) p n * vO (aH1 x) p n)).length), false), (okMu (aH1 x) p p n c n c, true)] := ⟨by kernel_rfl, by kernel_rfl, by kernel_rfl⟩
/-- what Shl of 1 is told to be -/
def oneL (x : List Value × TypeId) (D : Nat) : Bool := decide (vO (aH2 1 x) (aP16 1) (d16 1).length * 2 ^ (320 : Int).toNat = D)
theorem cos_r (p : Option Addr) (n c D Q V : Nat) (x : List Value × TypeId) : GoesT (evC (tabH Tryd.prog extY conN hcSi) 200 false (cBody Tryd.f25) ([.slice p n c] ++ List.replicate 8 undef, aH1 x, [cmp true, num D, cmp true, num Q, cmp true, num V]) ⟨[], [], []⟩) 3 6 (some none) [.slice p n c, undef, sl 4 0 (d16 V).length (d16 V).length] (aH5 V Q D 1 x)
    [(decide (0 < vO (aH4 Q D 1 x) (aP16 2) (d16 D).length ∧ seN (vO (aH4 Q D 1 x) (aP16 3) (d16 Q).length) (vO (aH4 Q D 1 x) (aP16 2) (d16 D).length) (1 : Int).toNat = V), true), (okSe (aH4 Q D 1 x) (aP16 2) (aP16 3) (d16 D).length (d16 D).length (d16 Q).length (d16 Q).length 1, true), (decide (vO (aH3 D 1 x) p n * vO (aH3 D 1 x) p n / Go.Fx.uD = Q), true), (decide (20 < (d16 (vO (aH3 D 1 x) p n * vO (aH3 D 1 x) p n)).length ∧ (d16 (vO (aH3 D 1 x) p n * vO (aH3 D 1 x) p n)).length < 100000), true), (okMu (aH3 D 1 x) p p n c n c, true), (oneL x D, true), (okSh (aH2 1 x) (aP16 1) (d16 1).length (d16 1).length 320, true), (decide (0 < (d16 1).length), true), (decide ((0 : Int) ≤ 1 ∧ (1 : Int) < 18446744073709551616), true)] := ⟨by kernel_rfl, by kernel_rfl, by kernel_rfl⟩
theorem cos_n (p : Option Addr) (n c D V : Nat) (x : List Value × TypeId) : GoesT (evC (tabH Tryd.prog extY conN hcSi) 200 false (cBody Tryd.f25) ([.slice p n c] ++ List.replicate 8 undef, aH1 x, [cmp true, num D, cmp false, cmp true, num V]) ⟨[], [], []⟩) 3 6 (some none) [.slice p n c, undef, sl 3 0 (d16 V).length (d16 V).length] (aH4 V D 1 x)
    [(decide (0 < vO (aH3 D 1 x) (aP16 2) (d16 D).length ∧ seN (vO (aH3 D 1 x) none 0) (vO (aH3 D 1 x) (aP16 2) (d16 D).length) (1 : Int).toNat = V), true), (okSe (aH3 D 1 x) (aP16 2) none (d16 D).length (d16 D).length 0 0 1, true), (decide (20 < (d16 (vO (aH3 D 1 x) p n * vO (aH3 D 1 x) p n)).length), false), (okMu (aH3 D 1 x) p p n c n c, true), (oneL x D, true), (okSh (aH2 1 x) (aP16 1) (d16 1).length (d16 1).length 320, true), (decide (0 < (d16 1).length), true), (decide ((0 : Int) ≤ 1 ∧ (1 : Int) < 18446744073709551616), true)] := ⟨by kernel_rfl, by kernel_rfl, by kernel_rfl⟩
theorem sin_body : Tryd.f24.body = some (cBody Tryd.f24) := by kernel_rfl
theorem cos_body : Tryd.f25.body = some (cBody Tryd.f25) := by kernel_rfl
theorem sin_res (a v : Value) (h : Hp) (g : Nat → Value) : resS Tryd.prog Tryd.f24 ([a, undef, v] ++ tl 5 g) h = some v := rfl
theorem cos_res (a v : Value) (h : Hp) (g : Nat → Value) : resS Tryd.prog Tryd.f25 ([a, undef, v] ++ tl 6 g) h = some v := rfl
theorem N6.can {h : Hp} {p : Option Addr} {n c V : Nat} (A : N6 h p n c V) : canB (rowOf h p n) = true := by
  rw [A.eq]
  exact canB_mk (can_db (by omega) V)
theorem N6.se {h : Hp} {p q : Option Addr} {n c m e T S : Nat} (A : N6 h p n c T) (B : N6 h q m e S) {f : Int} (hf : 1 ≤ f ∧ f ≤ 2) (hT : T ≤ Go.Fx.uD) (hS : S ≤ Go.Fx.uD) : okSe h p q n c m e f = true := by
  unfold okSe
  rw [A.row, A.can, B.row, B.can, blt_iff.2 A.lt, blt_iff.2 B.lt, A.vO, B.vO, decide_eq_true hf, decide_eq_true ⟨hT, hS⟩]
  rfl
theorem N6.seV {h : Hp} {p q : Option Addr} {n c m e T S V f : Nat} (A : N6 h p n c T) (B : N6 h q m e S) (hT : 0 < T) (hV : seN S T f = V) : decide (0 < Go.Proofs.YtdlpffgekmidnaaDoor.vO h p n ∧ seN (Go.Proofs.YtdlpffgekmidnaaDoor.vO h q m) (Go.Proofs.YtdlpffgekmidnaaDoor.vO h p n) f = V) = true := by
  rw [A.vO, B.vO]
  exact decide_eq_true ⟨hT, hV⟩
theorem sq_le {X : Nat} (h : X ≤ Go.Fx.uD) : X * X / Go.Fx.uD ≤ Go.Fx.uD := Nat.div_le_of_le_mul (Nat.mul_le_mul h h)
theorem N6.cut {h : Hp} {p : Option Addr} {n c X : Nat} (A : N6 h p n c X) (hX : X ≤ Go.Fx.uD) (h20 : 20 < (d16 (X * X)).length) {Q : Nat} (hQ : X * X / Go.Fx.uD = Q) : decide (Go.Proofs.YtdlpffgekmidnaaDoor.vO h p n * Go.Proofs.YtdlpffgekmidnaaDoor.vO h p n / Go.Fx.uD = Q) = true ∧ decide (20 < (d16 (Go.Proofs.YtdlpffgekmidnaaDoor.vO h p n * Go.Proofs.YtdlpffgekmidnaaDoor.vO h p n)).length ∧ (d16 (Go.Proofs.YtdlpffgekmidnaaDoor.vO h p n * Go.Proofs.YtdlpffgekmidnaaDoor.vO h p n)).length < 100000) = true := by
  rw [A.vO]
  exact ⟨decide_eq_true hQ, decide_eq_true ⟨h20, sh41 (Nat.mul_le_mul hX hX)⟩⟩
theorem N6.cut0 {h : Hp} {p : Option Addr} {n c X : Nat} (A : N6 h p n c X) (h20 : ¬ 20 < (d16 (X * X)).length) : decide (20 < (d16 (Go.Proofs.YtdlpffgekmidnaaDoor.vO h p n * Go.Proofs.YtdlpffgekmidnaaDoor.vO h p n)).length) = false := by
  rw [A.vO]
  exact decide_eq_false h20
section
variable {x : List Value × TypeId} {p : Option Addr} {n c X : Nat} {A : List Int} (NA : Nu 0 x p n c A) (hA : A = d16 X) (hn : n < 100000) (hX : X ≤ Go.Fx.uD)
include NA hA hn hX in
theorem sin_row (hp : 0 < X) {V : Nat} (hV : seN (X * X / Go.Fx.uD) X 2 = V) : ∃ k, (k = 1 ∨ k = 2) ∧ Runs (tabH Tryd.prog extY conN hcSi) (cBody Tryd.f24) ([.slice p n c] ++ List.replicate 7 undef, aH1 x, []) fun e z => (e = none ∨ e = some none) ∧ resS Tryd.prog Tryd.f24 z.1 z.2.1 = some (sl k 0 (d16 V).length (d16 V).length) ∧ ∃ r, z.2.1.blk? k = some (wU (d16 V) ++ r, tU) := by
  have TT := tabH_ok conN_ok hcSi_ok
  have N : ∀ h : Hp, h.blk? 0 = some x → N6 h p n c X := fun h hb => ⟨(NA.row h hb).1, (NA.row h hb).2.trans hA, hn⟩
  have N1 := N (aH1 x) rfl
  obtain ⟨Q, hQ⟩ : ∃ Q, X * X / Go.Fx.uD = Q := ⟨_, rfl⟩
  have lQ : Q ≤ Go.Fx.uD := by rw [← hQ]; exact sq_le hX
  by_cases h20 : 20 < (d16 (X * X)).length
  · refine ⟨2, .inr rfl, ?_⟩
    obtain ⟨c1, c2⟩ := N1.cut hX h20 hQ
    have NQ : N6 (aH2 Q x) (aP16 1) (d16 Q).length (d16 Q).length Q := bN6 (V := Q) rfl (sh33D (by omega))
    rw [hQ] at hV
    refine (goesT_runs TT (sin_rr p n c Q V x) (okPC ((N (aH2 Q x) rfl).seV NQ hp hV) (okPC ((N (aH2 Q x) rfl).se NQ (by decide) hX lQ) (okPC c1 (okPC c2 (okP1 (N1.mu N1))))))).mono fun e z he => ?_
    obtain ⟨rfl, ⟨g, e1⟩, e2⟩ := he
    refine ⟨.inr rfl, ?_, [], ?_⟩
    · rw [e1]
      exact sin_res _ _ _ g
    · rw [e2, List.append_nil]
      rfl
  · refine ⟨1, .inl rfl, ?_⟩
    have q0 : X * X / Go.Fx.uD = 0 := Nat.div_eq_of_lt (short20 h20)
    rw [q0] at hV
    refine (goesT_runs TT (sin_nr p n c V x) (okPC (N1.seV (nN6 _) hp hV) (okPC (N1.se (nN6 _) (by decide) hX (Nat.zero_le _)) (okPC (N1.cut0 h20) (okP1 (N1.mu N1)))))).mono fun e z he => ?_
    obtain ⟨rfl, ⟨g, e1⟩, e2⟩ := he
    refine ⟨.inr rfl, ?_, [], ?_⟩
    · rw [e1]
      exact sin_res _ _ _ g
    · rw [e2, List.append_nil]
      rfl
include NA hA hn hX in
theorem sin_nil (hp : X = 0) : Runs (tabH Tryd.prog extY conN hcSi) (cBody Tryd.f24) ([.slice p n c] ++ List.replicate 7 undef, aH1 x, []) fun e z => (e = none ∨ e = some none) ∧ resS Tryd.prog Tryd.f24 z.1 z.2.1 = some nilS := by
  have TT := tabH_ok conN_ok hcSi_ok
  have N1 : N6 (aH1 x) p n c X := ⟨(NA.row _ rfl).1, (NA.row _ rfl).2.trans hA, hn⟩
  have h20 : ¬ 20 < (d16 (X * X)).length := by
    have := d16_len (A := X * X) (k := 0) (by rw [hp]; decide)
    omega
  refine (goesT_runs TT (sin_nn p n c x) (okPC (by rw [N1.vO]; exact decide_eq_false (by omega)) (okPC (N1.se (nN6 _) (by decide) hX (Nat.zero_le _)) (okPC (N1.cut0 h20) (okP1 (N1.mu N1)))))).mono fun e z he => ?_
  obtain ⟨rfl, ⟨g, e1⟩, e2⟩ := he
  refine ⟨.inr rfl, ?_⟩
  rw [e1]
  exact sin_res _ _ _ g
theorem one_num {h : Hp} (hb : h.blk? 1 = some (w16 1)) : N6 h (aP16 1) (d16 1).length (d16 1).length 1 := bN6 (V := 1) hb (by
  have := d16_len (A := 1) (k := 1) (by decide)
  omega)
theorem one_ok {x : List Value × TypeId} : oneL x Go.Fx.uD = true ∧ okSh (aH2 1 x) (aP16 1) (d16 1).length (d16 1).length 320 = true ∧ decide (0 < (d16 1).length) = true := by
  have N := one_num (h := aH2 1 x) rfl
  refine ⟨?_, ?_, decide_eq_true (len_pos16 (by omega))⟩
  · unfold oneL
    rw [N.vO, Nat.one_mul]
    exact decide_eq_true (pow320 (k := (320 : Int).toNat) rfl)
  · have := N.lt
    unfold okSh
    rw [N.row, N.dg, blt_iff.2 (show (320 : Int).toNat / 16 + (d16 1).length + 3 < 1073741824 by have : (320 : Int).toNat / 16 = 20 := rfl; omega)]
    rfl
include NA hA hn hX in
theorem cos_row {V : Nat} (hV : seN (X * X / Go.Fx.uD) Go.Fx.uD 1 = V) : ∃ k, (k = 3 ∨ k = 4) ∧ Runs (tabH Tryd.prog extY conN hcSi) (cBody Tryd.f25) ([.slice p n c] ++ List.replicate 8 undef, aH1 x, []) fun e z => (e = none ∨ e = some none) ∧ resS Tryd.prog Tryd.f25 z.1 z.2.1 = some (sl k 0 (d16 V).length (d16 V).length) ∧ ∃ r, z.2.1.blk? k = some (wU (d16 V) ++ r, tU) := by
  have TT := tabH_ok conN_ok hcSi_ok
  have N : ∀ h : Hp, h.blk? 0 = some x → N6 h p n c X := fun h hb => ⟨(NA.row h hb).1, (NA.row h hb).2.trans hA, hn⟩
  obtain ⟨Q, hQ⟩ : ∃ Q, X * X / Go.Fx.uD = Q := ⟨_, rfl⟩
  have lQ : Q ≤ Go.Fx.uD := by rw [← hQ]; exact sq_le hX
  obtain ⟨o1, o2, o3⟩ := one_ok (x := x)
  have o4 : decide ((0 : Int) ≤ 1 ∧ (1 : Int) < 18446744073709551616) = true := by decide
  have hU := Go.Fx.uD_pos
  have lD : (d16 Go.Fx.uD).length < 100000 := sh33D (by omega)
  have hDD : Go.Fx.uD ≤ Go.Fx.uD := Nat.le_refl _
  generalize hD : Go.Fx.uD = D at o1 lD hU hDD
  have N3 := N (aH3 D 1 x) rfl
  by_cases h20 : 20 < (d16 (X * X)).length
  · refine ⟨4, .inr rfl, ?_⟩
    obtain ⟨c1, c2⟩ := N3.cut hX h20 hQ
    have NQ : N6 (aH4 Q D 1 x) (aP16 3) (d16 Q).length (d16 Q).length Q := bN6 (V := Q) rfl (sh33D (by omega))
    have ND : N6 (aH4 Q D 1 x) (aP16 2) (d16 D).length (d16 D).length D := bN6 (V := D) rfl lD
    rw [hQ, hD] at hV
    have g0 := cos_r p n c D Q V x
    generalize oneL x D = o at o1 g0
    refine (goesT_runs TT g0 (okPC (ND.seV NQ hU hV) (okPC (ND.se NQ (by decide) (Nat.le_of_eq hD.symm) lQ) (okPC c1 (okPC c2 (okPC (N3.mu N3) (okPC o1 (okPC o2 (okPC o3 (okP1 o4)))))))))).mono fun e z he => ?_
    obtain ⟨rfl, ⟨g, e1⟩, e2⟩ := he
    refine ⟨.inr rfl, ?_, [], ?_⟩
    · rw [e1]
      exact cos_res _ _ _ g
    · rw [e2, List.append_nil]
      rfl
  · refine ⟨3, .inl rfl, ?_⟩
    have q0 : X * X / Go.Fx.uD = 0 := Nat.div_eq_of_lt (short20 h20)
    rw [q0, hD] at hV
    have ND : N6 (aH3 D 1 x) (aP16 2) (d16 D).length (d16 D).length D := bN6 (V := D) rfl lD
    have g0 := cos_n p n c D V x
    generalize oneL x D = o at o1 g0
    refine (goesT_runs TT g0 (okPC (ND.seV (nN6 _) hU hV) (okPC (ND.se (nN6 _) (by decide) (Nat.le_of_eq hD.symm) (Nat.zero_le _)) (okPC (N3.cut0 h20) (okPC (N3.mu N3) (okPC o1 (okPC o2 (okPC o3 (okP1 o4))))))))).mono fun e z he => ?_
    obtain ⟨rfl, ⟨g, e1⟩, e2⟩ := he
    refine ⟨.inr rfl, ?_, [], ?_⟩
    · rw [e1]
      exact cos_res _ _ _ g
    · rw [e2, List.append_nil]
      rfl
end
def okAn (h : Hp) (p : Option Addr) (n c : Nat) : Bool := rowP h p n c && canB (rowOf h p n) && Nat.blt n 100000 && decide (vO h p n ≤ Go.Fx.uD)
theorem an_ok {h : Hp} {p : Option Addr} {n c : Nat} (h0 : okAn h p n c = true) : rowP h p n c = true ∧ rowOf h p n = d16 (vO h p n) ∧ n < 100000 ∧ vO h p n ≤ Go.Fx.uD := by
  simp only [okAn, Bool.and_eq_true, decide_eq_true_eq] at h0
  obtain ⟨⟨⟨a1, a2⟩, a3⟩, d1⟩ := h0
  exact ⟨a1, d16_of_can a2, blt_iff.1 a3, d1⟩
/-- told ahead whether the angle is 0, and the sine -/
def gSiD : AnsH := fun vals h s =>
  match vals, s with
  | [.slice p n c], .inr (.inr (.inr (.inl d))) :: s' =>
    match d, s' with
    | true, .inr (.inl V) :: s2 => mk16 V.toNat h s2 [(decide (0 < vO h p n ∧ seN (vO h p n * vO h p n / Go.Fx.uD) (vO h p n) 2 = V.toNat), true), (okAn h p n c, true)]
    | false, _ => some (nilS, h, s', [(decide (0 < vO h p n), false), (okAn h p n c, true)])
    | _, _ => none
  | _, _ => none
def gCoD : AnsH := fun vals h s =>
  match vals, s with
  | [.slice p n c], .inr (.inl V) :: s2 => mk16 V.toNat h s2 [(decide (seN (vO h p n * vO h p n / Go.Fx.uD) Go.Fx.uD 1 = V.toNat), true), (okAn h p n c, true)]
  | _, _ => none
theorem aH1_rows {x : List Value × TypeId} {p : Option Addr} {n c : Nat} {A : List Int} (NA : Nu 0 x p n c A) : (aH1 x).rows := ⟨rfl, fun b z hz => by
  have : b < 1 := Hp.blk_lt hz
  have hi : b = 0 := by omega
  subst hi
  obtain rfl := Option.some.inj hz
  exact ⟨NA.ros.1, NA.lt0, NA.ros.2⟩⟩
theorem aH1_fits {x : List Value × TypeId} {h : Hp} {a : Nat} (fA : tomb x.2 = false → ∃ z r, h.blk? a = some z ∧ tomb z.2 = false ∧ rt z.2 = rt x.2 ∧ z.1 = x.1 ++ r) : (aH1 x).fits (fun _ => a) h := fun i z hz ht => by
  have : i < 1 := Hp.blk_lt hz
  have hi : i = 0 := by omega
  subst hi
  obtain rfl := Option.some.inj hz
  exact fA ht
theorem gSiD_ok : AnsHOk 24 gSiD := by
  intro vals h s v h' s' lg hg hl m0 B w E hv
  unfold gSiD at hg
  split at hg
  · rename_i p n c d s2
    split at hg
    · rename_i V s3
      unfold mk16 at hg
      cases hg
      have l1 := of_decide_eq_true (hl _ List.mem_cons_self)
      have l3 := hl _ (List.mem_cons_of_mem _ (List.mem_singleton.2 rfl))
      simp only at l3
      obtain ⟨a1, a2, a3, a4⟩ := an_ok l3
      obtain ⟨x, p', a, NA, eA, fA⟩ := nu_of 0 a1
      obtain ⟨k, hk, r⟩ := sin_row NA a2 a3 a4 l1.1 l1.2
      generalize hL : (d16 V.toNat).length = L at r ⊢
      have hA : ∀ u ∈ wU (d16 V.toNat), lt1 0 u = true := wU_lt _
      generalize wU (d16 V.toNat) = A at r hA ⊢
      have e2 : rn (fun _ => h.n) (sl k 0 L L) = sl h.n 0 L L := by simp [rn, rn2, rn1, sl]
      have := row_calls1 (T := tabH Tryd.prog extY conN hcSi) Tryd.func24 sin_body (aH1_rows NA) (vals := [.slice p' n c]) (fun v hv => by
        obtain rfl := List.mem_singleton.1 hv
        exact NA.lt (by show 0 < 1; omega)) (k := k) (cs := A) (ty := tU) hA (by kernel_rfl) r.w (by rcases hk with rfl | rfl <;> rfl) E (s := fun _ => a) (aH1_fits fA)
      simp only [List.map_cons, List.map_nil] at this
      rw [eA _ rfl, e2] at this
      exact this
    · cases hg
      have l2 := of_decide_eq_false (hl _ List.mem_cons_self)
      have l3 := hl _ (List.mem_cons_of_mem _ (List.mem_singleton.2 rfl))
      simp only at l3
      obtain ⟨a1, a2, a3, a4⟩ := an_ok l3
      obtain ⟨x, p', a, NA, eA, fA⟩ := nu_of 0 a1
      have r := sin_nil NA a2 a3 a4 (by omega)
      have := row_calls0 (T := tabH Tryd.prog extY conN hcSi) Tryd.func24 sin_body (aH1_rows NA) (vals := [.slice p' n c]) (fun v hv => by
        obtain rfl := List.mem_singleton.1 hv
        exact NA.lt (by show 0 < 1; omega)) (v := nilS) (by rfl) r.w E (s := fun _ => a) (aH1_fits fA)
      simp only [List.map_cons, List.map_nil] at this
      rw [eA _ rfl] at this
      exact this
    · cases hg
  · cases hg
theorem gCoD_ok : AnsHOk 25 gCoD := by
  intro vals h s v h' s' lg hg hl m0 B w E hv
  unfold gCoD at hg
  split at hg
  · rename_i p n c V s3
    unfold mk16 at hg
    cases hg
    have l1 := of_decide_eq_true (hl _ List.mem_cons_self)
    have l3 := hl _ (List.mem_cons_of_mem _ (List.mem_singleton.2 rfl))
    simp only at l3
    obtain ⟨a1, a2, a3, a4⟩ := an_ok l3
    obtain ⟨x, p', a, NA, eA, fA⟩ := nu_of 0 a1
    obtain ⟨k, hk, r⟩ := cos_row NA a2 a3 a4 l1
    generalize hL : (d16 V.toNat).length = L at r ⊢
    have hA : ∀ u ∈ wU (d16 V.toNat), lt1 0 u = true := wU_lt _
    generalize wU (d16 V.toNat) = A at r hA ⊢
    have e2 : rn (fun _ => h.n) (sl k 0 L L) = sl h.n 0 L L := by simp [rn, rn2, rn1, sl]
    have := row_calls1 (T := tabH Tryd.prog extY conN hcSi) Tryd.func25 cos_body (aH1_rows NA) (vals := [.slice p' n c]) (fun v hv => by
      obtain rfl := List.mem_singleton.1 hv
      exact NA.lt (by show 0 < 1; omega)) (k := k) (cs := A) (ty := tU) hA (by kernel_rfl) r.w (by rcases hk with rfl | rfl <;> rfl) E (s := fun _ => a) (aH1_fits fA)
    simp only [List.map_cons, List.map_nil] at this
    rw [eA _ rfl, e2] at this
    exact this
  · cases hg
def hcBo : Hc := altH 32 gUof (altH 20 gUshlT (altH 43 gUaddT (altH 11 gUcmpT hcN)))
theorem hcBo_ok : HcOk hcBo := altH_ok Tryd.func32 rfl gUof_ok (altH_ok Tryd.func20 rfl gUshlT_ok (altH_ok Tryd.func43 rfl gUaddT_ok (altH_ok Tryd.func11 rfl gUcmpT_ok hcN_ok)))
/-- three rows of the caller's, and what was laid since -/
def bH (n : Nat) (L : List (List Value × TypeId)) (z y x : List Value × TypeId) : Hp := ⟨n, L ++ [z, y, x]⟩
theorem bo_r (p q r : Option Addr) (n c m e k l A B C D : Nat) (K X : Int) (x y z : List Value × TypeId) : GoesT (evC (tabH Tryd.prog extY conN hcBo) 200 false (cBody Tryd.f23) ([.slice p n c, .slice q m e, .slice r k l] ++ List.replicate 22 undef, bH 3 [] z y x, [cmp true, num A, cmp true, num B, num K, cmp true, cmp true, num C, cmp true, num D, num X, cmp true]) ⟨[], [], []⟩) 7 18 (some none) [.slice p n c, .slice q m e, .slice r k l, undef, undef, undef, .bool true] (bH 8 [w16 D, w16 C, w16 B, w16 A, w16 1000] z y x)
    [(decide (X ≤ 0), true), (decide (cmpZ (vO (bH 8 [w16 D, w16 C, w16 B, w16 A, w16 1000] z y x) p n) (vO (bH 8 [w16 D, w16 C, w16 B, w16 A, w16 1000] z y x) (aP16 7) (d16 D).length) = X), true), (two16 (bH 8 [w16 D, w16 C, w16 B, w16 A, w16 1000] z y x) p (aP16 7) n c (d16 D).length (d16 D).length, true), (decide (vO (bH 7 [w16 C, w16 B, w16 A, w16 1000] z y x) (aP16 6) (d16 C).length + vO (bH 7 [w16 C, w16 B, w16 A, w16 1000] z y x) (aP16 3) (d16 1000).length = D), true), (two16 (bH 7 [w16 C, w16 B, w16 A, w16 1000] z y x) (aP16 6) (aP16 3) (d16 C).length (d16 C).length (d16 1000).length (d16 1000).length, true), (decide (0 < (d16 C).length ∨ 0 < (d16 1000).length), true), (decide (vO (bH 6 [w16 B, w16 A, w16 1000] z y x) r k * 2 ^ (72 : Int).toNat = C), true), (okSh (bH 6 [w16 B, w16 A, w16 1000] z y x) r k l 72, true), (decide (0 < k), true), (decide (K ≤ 0), true), (decide (cmpZ (vO (bH 6 [w16 B, w16 A, w16 1000] z y x) (aP16 4) (d16 A).length) (vO (bH 6 [w16 B, w16 A, w16 1000] z y x) (aP16 5) (d16 B).length) = K), true), (two16 (bH 6 [w16 B, w16 A, w16 1000] z y x) (aP16 4) (aP16 5) (d16 A).length (d16 A).length (d16 B).length (d16 B).length, true), (decide (vO (bH 5 [w16 A, w16 1000] z y x) p n + vO (bH 5 [w16 A, w16 1000] z y x) (aP16 3) (d16 1000).length = B), true), (two16 (bH 5 [w16 A, w16 1000] z y x) p (aP16 3) n c (d16 1000).length (d16 1000).length, true), (decide (0 < n ∨ 0 < (d16 1000).length), true), (decide (vO (bH 4 [w16 1000] z y x) q m * 2 ^ (72 : Int).toNat = A), true), (okSh (bH 4 [w16 1000] z y x) q m e 72, true), (decide (0 < m), true), (decide ((0 : Int) ≤ 1000 ∧ (1000 : Int) < 18446744073709551616), true)] := ⟨by kernel_rfl, by kernel_rfl, by kernel_rfl⟩
theorem bo_n (p q r : Option Addr) (n c m e k l B C D : Nat) (K X : Int) (x y z : List Value × TypeId) : GoesT (evC (tabH Tryd.prog extY conN hcBo) 200 false (cBody Tryd.f23) ([.slice p n c, .slice q m e, .slice r k l] ++ List.replicate 22 undef, bH 3 [] z y x, [cmp false, cmp true, num B, num K, cmp true, cmp true, num C, cmp true, num D, num X, cmp true]) ⟨[], [], []⟩) 7 18 (some none) [.slice p n c, .slice q m e, .slice r k l, undef, undef, undef, .bool true] (bH 7 [w16 D, w16 C, w16 B, w16 1000] z y x)
    [(decide (X ≤ 0), true), (decide (cmpZ (vO (bH 7 [w16 D, w16 C, w16 B, w16 1000] z y x) p n) (vO (bH 7 [w16 D, w16 C, w16 B, w16 1000] z y x) (aP16 6) (d16 D).length) = X), true), (two16 (bH 7 [w16 D, w16 C, w16 B, w16 1000] z y x) p (aP16 6) n c (d16 D).length (d16 D).length, true), (decide (vO (bH 6 [w16 C, w16 B, w16 1000] z y x) (aP16 5) (d16 C).length + vO (bH 6 [w16 C, w16 B, w16 1000] z y x) (aP16 3) (d16 1000).length = D), true), (two16 (bH 6 [w16 C, w16 B, w16 1000] z y x) (aP16 5) (aP16 3) (d16 C).length (d16 C).length (d16 1000).length (d16 1000).length, true), (decide (0 < (d16 C).length ∨ 0 < (d16 1000).length), true), (decide (vO (bH 5 [w16 B, w16 1000] z y x) r k * 2 ^ (72 : Int).toNat = C), true), (okSh (bH 5 [w16 B, w16 1000] z y x) r k l 72, true), (decide (0 < k), true), (decide (K ≤ 0), true), (decide (cmpZ (vO (bH 5 [w16 B, w16 1000] z y x) none 0) (vO (bH 5 [w16 B, w16 1000] z y x) (aP16 4) (d16 B).length) = K), true), (two16 (bH 5 [w16 B, w16 1000] z y x) none (aP16 4) 0 0 (d16 B).length (d16 B).length, true), (decide (vO (bH 4 [w16 1000] z y x) p n + vO (bH 4 [w16 1000] z y x) (aP16 3) (d16 1000).length = B), true), (two16 (bH 4 [w16 1000] z y x) p (aP16 3) n c (d16 1000).length (d16 1000).length, true), (decide (0 < n ∨ 0 < (d16 1000).length), true), (rowP (bH 4 [w16 1000] z y x) q m e, true), (decide (0 < m), false), (decide ((0 : Int) ≤ 1000 ∧ (1000 : Int) < 18446744073709551616), true)] := ⟨by kernel_rfl, by kernel_rfl, by kernel_rfl⟩
end Go.Proofs.YtdlpffgekmidnaaDoor
