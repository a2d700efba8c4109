/-
  RfS, RfT, RfU, RfV
-/
import Derived.Test.YtjkgnbdeklploaaGreatDoorG21
namespace Go.Proofs.YtjkgnbdeklploaaGreatDoor
open Go.KRun Go.Nt Go.Wd Go.Rn
set_option maxRecDepth 100000
set_option linter.unusedVariables false
def nOf (t : Int) : Int := if -1074 > dif t 53 then -1074 else dif t 53
def sRw (k : Nat) (d : Bool) (V : Nat) : Value := match d with | true => sOf k V | false => nilS
def pRw (h : Hp) (d : Bool) (V : Nat) : Hp := match d with | true => h.push (wU (d16 V)) tU | false => h
def hB (L : List (List Value × TypeId)) (neg : Bool) (E : Int) (S : Value) (b0 : List Value × TypeId) : Hp := ⟨2 + L.length, L ++ [bOf neg E S, b0]⟩
def fr7 (x0 : Value) (m t : Int) : List Value := [x0, .int .i64 m, .pointer (some ⟨1, 0, none⟩), undef, .int .u64 0, .int .i64 0, .int .i64 t]
def fl (y : Bool) : Int := match y with | true => 24 | false => 16
def aB (b o : Nat) : Option Addr := some ⟨b, o, none⟩
def vF (h : Hp) (k : Nat) (d : Bool) (V : Nat) : Nat := match d with | true => vO h (aB k 0) (d16 V).length | false => vO h none 0
def okF (h : Hp) (k : Nat) (d : Bool) (V : Nat) : Bool := match d with | true => okLen h (aB k 0) (d16 V).length (d16 V).length | false => okLen h none 0 0
def qB (m : Int) (neg : Bool) (h : Hp) (b o n : Nat) (E N : Int) : Nat := toQ m neg (vO h (aB b o) n) E N
theorem ro_e0 (d : Bool) (L : List (List Value × TypeId)) (hL : L.length ≤ 1) (neg : Bool) (x0 : Value) (E m t : Int) (b o n c : Nat) (b0 : List Value × TypeId) (g : Nat → Value) :
    GoesT (evL (tabH Tryz.prog extY conQ hcQ) 200 (rS3 Tryz.f52) (fr7 x0 m t ++ tl 102 g, hB L neg E (sl b o n c) b0, [cmp d, cmp false]) ⟨[], [], []⟩) 11 98 none
      (fr7 x0 m t ++ [.int .i64 (nOf t), sRw (hB L neg E (sl b o n c) b0).n d (qB m neg (hB L neg E (sl b o n c) b0) b o n E (nOf t)), .bool false, .int .i64 0])
      (pRw (hB L neg E (sl b o n c) b0) d (qB m neg (hB L neg E (sl b o n c) b0) b o n E (nOf t)))
      [(toL (vO (hB L neg E (sl b o n c) b0) (aB b o) n) E (nOf t), false), (rowTo m neg (vO (hB L neg E (sl b o n c) b0) (aB b o) n) n E (nOf t), d), (okTo (hB L neg E (sl b o n c) b0) (aB b o) n c E (nOf t), true)] := by
  rcases L with _ | ⟨u, _ | ⟨u', L⟩⟩
  · cases d <;> exact ⟨by kernel_rfl, by kernel_rfl, by kernel_rfl⟩
  · cases d <;> exact ⟨by kernel_rfl, by kernel_rfl, by kernel_rfl⟩
  · exact absurd hL (by simp)
theorem ro_e1 (d d2 y e2 : Bool) (L : List (List Value × TypeId)) (hL : L.length ≤ 1) (neg : Bool) (x0 : Value) (E m t : Int) (b o n c : Nat) (b0 : List Value × TypeId) (g : Nat → Value) (Q Q2 : Nat) (hQ : Q = qB m neg (hB L neg E (sl b o n c) b0) b o n E (nOf t)) (hQ2 : Q2 = qB m neg (pRw (hB L neg E (sl b o n c) b0) d Q) b o n E (dif t 53)) :
    GoesT (evL (tabH Tryz.prog extY conQ hcQ) 200 (rS3 Tryz.f52) (fr7 x0 m t ++ tl 102 g, hB L neg E (sl b o n c) b0, [cmp d, cmp true, cmp d2, cmp e2, cmp y]) ⟨[], [], []⟩) 11 98 none
      (fr7 x0 m t ++ [.int .i64 (nOf t), sRw (hB L neg E (sl b o n c) b0).n d Q, .bool true, .int .i64 (fl y)])
      (pRw (pRw (hB L neg E (sl b o n c) b0) d Q) d2 Q2)
      [(decide (dif (sumI ((bl (vF (pRw (pRw (hB L neg E (sl b o n c) b0) d Q) d2 Q2) (pRw (hB L neg E (sl b o n c) b0) d Q).n d2 Q2) : Nat) : Int) t) 53 ≤ -1022), y), (okF (pRw (pRw (hB L neg E (sl b o n c) b0) d Q) d2 Q2) (pRw (hB L neg E (sl b o n c) b0) d Q).n d2 Q2, true),
       (toL (vO (pRw (hB L neg E (sl b o n c) b0) d Q) (aB b o) n) E (dif t 53), e2), (rowTo m neg (vO (pRw (hB L neg E (sl b o n c) b0) d Q) (aB b o) n) n E (dif t 53), d2), (okTo (pRw (hB L neg E (sl b o n c) b0) d Q) (aB b o) n c E (dif t 53), true),
       (toL (vO (hB L neg E (sl b o n c) b0) (aB b o) n) E (nOf t), true), (rowTo m neg (vO (hB L neg E (sl b o n c) b0) (aB b o) n) n E (nOf t), d), (okTo (hB L neg E (sl b o n c) b0) (aB b o) n c E (nOf t), true)] := by
  subst hQ2
  subst hQ
  rcases L with _ | ⟨u, _ | ⟨u', L⟩⟩
  · cases d <;> cases d2 <;> cases y <;> exact ⟨by kernel_rfl, by kernel_rfl, by kernel_rfl⟩
  · cases d <;> cases d2 <;> cases y <;> exact ⟨by kernel_rfl, by kernel_rfl, by kernel_rfl⟩
  · exact absurd hL (by simp)
def pk (N s : Int) : Int := IntKind.u64.wrap (IntKind.u64.wrap (IntKind.u64.wrap (IntKind.u64.wrap (IntKind.i64.wrap (N + 1075)) * 4503599627370496) + s) - 4503599627370496)
def lwR (h : Hp) (p : Option Addr) (n : Nat) : Int := ((vO h p n % 18446744073709551616 : Nat) : Int)
def fr6 (x0 : Value) (m r f : Int) : List Value := [x0, .int .i64 m, .pointer (some ⟨1, 0, none⟩), undef, .int .u64 r, .int .i64 f]
section
variable (L : List (List Value × TypeId)) (hL : L.length ≤ 3) (neg : Bool) (x0 : Value) (E m t N f : Int) (S : Value) (p : Option Addr) (nq cq : Nat) (e : Bool) (b0 : List Value × TypeId) (g : Nat → Value)
include hL
theorem ro_tO : GoesT (evC (tabH Tryz.prog extY conQ hcQ) 200 false (tC Tryz.f52 10) ((fr7 x0 m t ++ [.int .i64 N, .slice p nq cq, .bool e, .int .i64 f]) ++ tl 98 g, hB L neg E S b0, [cmp true]) ⟨[], [], []⟩) 6 103 (some none) (fr6 x0 m (sS neg (bey m neg)) 20) (hB L neg E S b0)
    [okP (bey m neg), (decide (sumI ((bl (vO (hB L neg E S b0) p nq) : Nat) : Int) N > 1024), true), (okLen (hB L neg E S b0) p nq cq, true)] := by
  rcases L with _ | ⟨u, _ | ⟨u', _ | ⟨u'', _ | ⟨u3, L⟩⟩⟩⟩
  iterate 4
    · exact ⟨by kernel_rfl, by kernel_rfl, by kernel_rfl⟩
  · exact absurd hL (by simp)
theorem ro_t1 : GoesT (evC (tabH Tryz.prog extY conQ hcQ) 200 false (tC Tryz.f52 10) ((fr7 x0 m t ++ [.int .i64 N, .slice p nq cq, .bool e, .int .i64 f]) ++ tl 98 g, hB L neg E S b0, [cmp false, cmp false, cmp false]) ⟨[], [], []⟩) 6 103 (some none) (fr6 x0 m (sS neg (lwR (hB L neg E S b0) p nq)) f) (hB L neg E S b0)
    [okP (lwR (hB L neg E S b0) p nq), (decide (lwR (hB L neg E S b0) p nq ≥ 4503599627370496), false), (lwR (hB L neg E S b0) p nq == 9007199254740992, false), (rowS (hB L neg E S b0) p nq cq, true), (decide (sumI ((bl (vO (hB L neg E S b0) p nq) : Nat) : Int) N > 1024), false), (okLen (hB L neg E S b0) p nq cq, true)] := by
  rcases L with _ | ⟨u, _ | ⟨u', _ | ⟨u'', _ | ⟨u3, L⟩⟩⟩⟩
  iterate 4
    · exact ⟨by kernel_rfl, by kernel_rfl, by kernel_rfl⟩
  · exact absurd hL (by simp)
theorem ro_t2 : GoesT (evC (tabH Tryz.prog extY conQ hcQ) 200 false (tC Tryz.f52 10) ((fr7 x0 m t ++ [.int .i64 N, .slice p nq cq, .bool e, .int .i64 f]) ++ tl 98 g, hB L neg E S b0, [cmp false, cmp false, cmp true]) ⟨[], [], []⟩) 6 103 (some none) (fr6 x0 m (sS neg (pk N (lwR (hB L neg E S b0) p nq))) f) (hB L neg E S b0)
    [okP (pk N (lwR (hB L neg E S b0) p nq)), (decide (lwR (hB L neg E S b0) p nq ≥ 4503599627370496), true), (lwR (hB L neg E S b0) p nq == 9007199254740992, false), (rowS (hB L neg E S b0) p nq cq, true), (decide (sumI ((bl (vO (hB L neg E S b0) p nq) : Nat) : Int) N > 1024), false), (okLen (hB L neg E S b0) p nq cq, true)] := by
  rcases L with _ | ⟨u, _ | ⟨u', _ | ⟨u'', _ | ⟨u3, L⟩⟩⟩⟩
  iterate 4
    · exact ⟨by kernel_rfl, by kernel_rfl, by kernel_rfl⟩
  · exact absurd hL (by simp)
theorem ro_t3 : GoesT (evC (tabH Tryz.prog extY conQ hcQ) 200 false (tC Tryz.f52 10) ((fr7 x0 m t ++ [.int .i64 N, .slice p nq cq, .bool e, .int .i64 f]) ++ tl 98 g, hB L neg E S b0, [cmp false, cmp true]) ⟨[], [], []⟩) 6 103 (some none) (fr6 x0 m (sS neg (pk (sumI N 1) 4503599627370496)) f) (hB L neg E S b0)
    [okP (pk (sumI N 1) 4503599627370496), (lwR (hB L neg E S b0) p nq == 9007199254740992, true), (rowS (hB L neg E S b0) p nq cq, true), (decide (sumI ((bl (vO (hB L neg E S b0) p nq) : Nat) : Int) N > 1024), false), (okLen (hB L neg E S b0) p nq cq, true)] := by
  rcases L with _ | ⟨u, _ | ⟨u', _ | ⟨u'', _ | ⟨u3, L⟩⟩⟩⟩
  iterate 4
    · exact ⟨by kernel_rfl, by kernel_rfl, by kernel_rfl⟩
  · exact absurd hL (by simp)
end
theorem row_zero {m : Int} {neg : Bool} {T n : Nat} {E N : Int} (hT : T < 65536 ^ n) (h : rowTo m neg T n E N = false) : toQ m neg T E N = 0 := by
  unfold rowTo at h
  unfold toQ
  split at h
  · rename_i hu
    rw [if_pos hu]
    have := of_decide_eq_false h
    have e : n = 0 := by omega
    rw [e, Nat.pow_zero] at hT
    have : T = 0 := by omega
    rw [this, Nat.zero_mul]
  · rename_i hu
    rw [if_neg hu]
    rw [Bool.or_eq_false_iff] at h
    have h1 := of_decide_eq_false h.1
    have hz : T / 2 ^ (N - E).toNat = 0 := by
      refine Nat.div_eq_of_lt (Nat.lt_of_lt_of_le hT ?_)
      rw [pow16]
      exact Nat.pow_le_pow_right (by omega) (by omega)
    by_cases hl : T % 2 ^ (N - E).toNat = 0
    · rw [rq_exact hl, hz]
    · have h2 := h.2
      rw [decide_eq_true hl, Bool.true_and] at h2
      unfold rq
      rw [h2, hz]
      rfl
def QOk (h : Hp) (v : Value) (Q : Nat) : Prop := ∃ p nq cq, v = .slice p nq cq ∧ vO h p nq = Q ∧ okLen h p nq cq = true ∧ rowS h p nq cq = true
theorem d16_53 {Q : Nat} (h : Q ≤ 9007199254740992) : (d16 Q).length ≤ 4 := d16_len (k := 4) (by omega)
theorem okLen_d16 {h : Hp} {k Q : Nat} (hb : h.blk? k = some (wU (d16 Q), tU)) (hQ : Q ≤ 9007199254740992) : okLen h (some ⟨k, 0, none⟩) (d16 Q).length (d16 Q).length = true := by
  have hl := d16_53 hQ
  unfold okLen
  rw [rowP_d16 hb (by omega), rowOf_d16 hb, show canB (d16 Q) = true from canB_mk (can_db (by omega) Q), blt_iff.2 (by omega)]
  rfl
theorem qok_of {h : Hp} {k Q : Nat} {d : Bool} (h1 : d = true → h.blk? k = some (wU (d16 Q), tU)) (h0 : d = false → Q = 0) (hQ : Q ≤ 9007199254740992) : QOk h (sRw k d Q) Q := by
  cases d
  · refine ⟨none, 0, 0, rfl, ?_, rfl, rfl⟩
    rw [h0 rfl]
    rfl
  · have hb := h1 rfl
    have hl := d16_53 hQ
    refine ⟨some ⟨k, 0, none⟩, _, _, rfl, vO_d16 hb, okLen_d16 hb hQ, ?_⟩
    unfold rowS
    rw [rowP_d16 hb (by omega), dgB_d16 hb, blt_iff.2 (by omega)]
    rfl
def rowL (d : Bool) (Q : Nat) : List (List Value × TypeId) := match d with | true => [(wU (d16 Q), tU)] | false => []
theorem rowL_len (d : Bool) (Q : Nat) : (rowL d Q).length ≤ 1 := by cases d <;> simp [rowL]
theorem pRw_hB (L : List (List Value × TypeId)) (neg : Bool) (E : Int) (S : Value) (b0 : List Value × TypeId) (d : Bool) (Q : Nat) : pRw (hB L neg E S b0) d Q = hB (rowL d Q ++ L) neg E S b0 := by cases d <;> rfl
theorem hB_len (L : List (List Value × TypeId)) (neg : Bool) (E : Int) (S : Value) (b0 : List Value × TypeId) : (hB L neg E S b0).l.length = (hB L neg E S b0).n := by
  simp [hB]; omega
theorem pRw_len {h : Hp} (hl : h.l.length = h.n) (d : Bool) (Q : Nat) : (pRw h d Q).l.length = (pRw h d Q).n := by
  cases d
  · exact hl
  · simp [pRw, Hp.push, hl]
theorem pRw_old {h : Hp} (hl : h.l.length = h.n) (d : Bool) (Q : Nat) {b : Nat} {x : List Value × TypeId} (hb : h.blk? b = some x) : (pRw h d Q).blk? b = some x := by
  cases d
  · exact hb
  · have := Hp.blk_lt hb
    show (h.push _ _).blk? b = _
    rw [Hp.blk_push hl, if_neg (by omega)]
    exact hb
theorem pRw_new {h : Hp} (hl : h.l.length = h.n) (d : Bool) (Q : Nat) (hd : d = true) : (pRw h d Q).blk? h.n = some (wU (d16 Q), tU) := by
  subst hd
  show (h.push _ _).blk? _ = _
  rw [Hp.blk_push hl, if_pos rfl]
theorem bey_rng (m : Int) (neg : Bool) : 0 ≤ bey m neg ∧ bey m neg ≤ 9218868437227405312 := by unfold bey; split <;> omega
theorem okP_ok {p : Int} (h : 0 ≤ p ∧ p ≤ 9218868437227405312) : decide (0 ≤ p ∧ p ≤ 9218868437227405312) = true := decide_eq_true h
theorem pk_eq {N s : Int} (h0 : -1074 ≤ N) (h1 : N ≤ 2000) (h2 : 4503599627370496 ≤ s) (h3 : s ≤ 9007199254740992) : pk N s = (N + 1074) * 4503599627370496 + s := by
  unfold pk
  have e1 : IntKind.u64.wrap (N + 1075) = N + 1075 := Go.Pt.wrapU' ⟨by omega, by omega⟩
  have e2 : IntKind.u64.wrap ((N + 1075) * 4503599627370496) = (N + 1075) * 4503599627370496 := Go.Pt.wrapU' ⟨by omega, by omega⟩
  have e3 : IntKind.u64.wrap ((N + 1075) * 4503599627370496 + s) = (N + 1075) * 4503599627370496 + s := Go.Pt.wrapU' ⟨by omega, by omega⟩
  rw [wrapI (by omega) (by omega), e1, e2, e3, Go.Pt.wrapU' ⟨by omega, by omega⟩]
  omega
def roOut (m : Int) (neg : Bool) (T : Nat) (E : Int) (ex : Ex) (z : Lf) : Prop := (ex = none ∨ ex = some none) ∧ resS Tryz.prog Tryz.f52 z.1 z.2.1 = some (.tuple #[.int .u64 (sS neg (rnP m neg T E)), .int .i64 (rnF m neg T E)])
theorem ro_out {x0 : Value} {m r f : Int} {neg : Bool} {T : Nat} {E : Int} {h : Hp} (h1 : r = sS neg (rnP m neg T E)) (h2 : f = rnF m neg T E) : ∀ ex z, (ex = some none ∧ (∃ g, z.1 = fr6 x0 m r f ++ tl 103 g) ∧ z.2.1 = h) → roOut m neg T E ex z := by
  rintro ex z ⟨rfl, ⟨g, z1⟩, z2⟩
  subst h1 h2
  refine ⟨.inr rfl, ?_⟩
  rw [z1]
  rfl
theorem ro_last {L : List (List Value × TypeId)} (hL : L.length ≤ 3) {neg : Bool} {x0 : Value} {E' E m t f : Int} {S q : Value} {e : Bool} {b0 : List Value × TypeId} {g : Nat → Value} {T : Nat} (hT : T ≠ 0) (hq : QOk (hB L neg E' S b0) q (toQ m neg T E (lowE T E))) (hlo : lowE T E ≤ 1100) (hf : ¬ 9218868437227405312 ≤ p0 m neg T E → f = rnF m neg T E) :
    RunsW (tabH Tryz.prog extY conQ hcQ) (tC Tryz.f52 10) ((fr7 x0 m t ++ [.int .i64 (lowE T E), q, .bool e, .int .i64 f]) ++ tl 98 g, hB L neg E' S b0, []) (roOut m neg T E) := by
  obtain ⟨p, nq, cq, rfl, hv, hok, hrs⟩ := hq
  have hge := lowE_ge T E
  have hhi := low_hi m neg T E
  have hover := over_doc (m := m) (neg := neg) (E := E) hT
  have hbl : bitLen (toQ m neg T E (lowE T E)) ≤ 54 := by
    have : toQ m neg T E (lowE T E) < 2 ^ 54 := by have e : (2 : Nat) ^ 54 = 18014398509481984 := rfl; omega
    exact len_le this
  have hsum : sumI ((bl (vO (hB L neg E' S b0) p nq) : Nat) : Int) (lowE T E) = (bitLen (toQ m neg T E (lowE T E)) : Int) + lowE T E := by
    rw [hv, bl_bitLen]
    unfold sumI
    exact wrapI (by omega) (by omega)
  have hlw : lwR (hB L neg E' S b0) p nq = ((toQ m neg T E (lowE T E) : Nat) : Int) := by
    unfold lwR
    rw [hv, Nat.mod_eq_of_lt (by omega)]
  by_cases ho : 9218868437227405312 ≤ p0 m neg T E
  · refine (goesT_runsW (tabH_ok conQ_ok hcQ_ok) (ro_tO L hL neg x0 E' m t (lowE T E) f S p nq cq e b0 g) (okCons (okP_ok (bey_rng m neg)) (okCons ?_ (okL1 hok)))).mono (ro_out ?_ ?_)
    · rw [hsum, hover]
      exact decide_eq_true ho
    · unfold rnP
      rw [if_neg hT, if_pos ho]
    · unfold rnF
      rw [if_neg hT, if_pos ho]
  · have hno : decide (sumI ((bl (vO (hB L neg E' S b0) p nq) : Nat) : Int) (lowE T E) > 1024) = false := by
      rw [hsum, hover]
      exact decide_eq_false ho
    have hr : rnP m neg T E = p0 m neg T E := by
      unfold rnP
      rw [if_neg hT, if_neg ho]
    have hp0 : p0 m neg T E = (lowE T E + 1074) * 4503599627370496 + (toQ m neg T E (lowE T E) : Nat) := rfl
    by_cases h53 : toQ m neg T E (lowE T E) = 9007199254740992
    · have es : sumI (lowE T E) 1 = lowE T E + 1 := by unfold sumI; exact wrapI (by omega) (by omega)
      have ep : pk (sumI (lowE T E) 1) 4503599627370496 = p0 m neg T E := by
        rw [es, pk_eq (by omega) (by omega) (by omega) (by omega), hp0, h53]
        omega
      refine (goesT_runsW (tabH_ok conQ_ok hcQ_ok) (ro_t3 L hL neg x0 E' m t (lowE T E) f S p nq cq e b0 g) (okCons (okP_ok ?_) (okCons ?_ (okCons hrs (okCons hno (okL1 hok)))))).mono (ro_out ?_ (hf ho))
      · rw [ep]
        omega
      · rw [hlw, h53]
        rfl
      · rw [ep, hr]
    · have n53 : (lwR (hB L neg E' S b0) p nq == 9007199254740992) = false := by
        rw [hlw]
        simp only [beq_eq_false_iff_ne, ne_eq]
        omega
      by_cases h52 : 4503599627370496 ≤ toQ m neg T E (lowE T E)
      · have ep : pk (lowE T E) (lwR (hB L neg E' S b0) p nq) = p0 m neg T E := by
          rw [hlw, pk_eq (by omega) (by omega) (by omega) (by omega), hp0]
        refine (goesT_runsW (tabH_ok conQ_ok hcQ_ok) (ro_t2 L hL neg x0 E' m t (lowE T E) f S p nq cq e b0 g) (okCons (okP_ok ?_) (okCons ?_ (okCons n53 (okCons hrs (okCons hno (okL1 hok))))))).mono (ro_out ?_ (hf ho))
        · rw [ep]
          omega
        · rw [hlw]
          exact decide_eq_true (by omega)
        · rw [ep, hr]
      · have hn : lowE T E = -1074 := by
          by_cases hc : -1074 ≤ lgN T E - 52
          · exact absurd (low_lo (m := m) (neg := neg) hT hc) h52
          · unfold lowE
            rw [if_pos (by omega)]
        have ep : lwR (hB L neg E' S b0) p nq = p0 m neg T E := by
          rw [hlw, hp0, hn]
          omega
        refine (goesT_runsW (tabH_ok conQ_ok hcQ_ok) (ro_t1 L hL neg x0 E' m t (lowE T E) f S p nq cq e b0 g) (okCons (okP_ok ?_) (okCons ?_ (okCons n53 (okCons hrs (okCons hno (okL1 hok))))))).mono (ro_out ?_ (hf ho))
        · rw [ep]
          omega
        · rw [hlw]
          exact decide_eq_false (by omega)
        · rw [ep, hr]
theorem ro_tail {L : List (List Value × TypeId)} (hL : L.length ≤ 1) {neg : Bool} {E t : Int} {b o n c : Nat} {b0 x : List Value × TypeId} {A : List Int} (hRow : ∀ h' : Hp, h'.blk? b = some x → rowP h' (aB b o) n c = true ∧ rowOf h' (aB b o) n = A) (hb : (hB L neg E (sl b o n c) b0).blk? b = some x) (hC : Canon 65536 A) (hn : A.length = n) (hn2 : n < 20000) (hE : -400000 ≤ E ∧ E ≤ 400000) (hT : vb 65536 A ≠ 0) (ht : t = E + (bitLen (vb 65536 A) : Nat)) (htr : -1300 ≤ t ∧ t ≤ 1100) (x0 : Value) (m : Int) (g : Nat → Value) :
    RunsW (tabH Tryz.prog extY conQ hcQ) (seqs (rS3 Tryz.f52) (tC Tryz.f52 10)) (fr7 x0 m t ++ tl 102 g, hB L neg E (sl b o n c) b0, []) (roOut m neg (vb 65536 A) E) := by
  have hlg : lgN (vb 65536 A) E = t - 1 := by unfold lgN; omega
  have hd : dif t 53 = lgN (vb 65536 A) E - 52 := by unfold dif; rw [wrapI (by omega) (by omega)]; omega
  have hN : nOf t = lowE (vb 65536 A) E := by
    unfold nOf lowE
    rw [hd]
    split <;> split <;> omega
  have hge := lowE_ge (vb 65536 A) E
  have hlo : lowE (vb 65536 A) E ≤ 1100 := by unfold lowE; split <;> omega
  have hTl : vb 65536 A < 65536 ^ n := by rw [← hn]; exact vb_lt (by omega) A hC.1
  have hv : ∀ h' : Hp, h'.blk? b = some x → vO h' (aB b o) n = vb 65536 A := fun h' hh => by
    unfold vO
    rw [(hRow h' hh).2]
  have hok : ∀ (h' : Hp) (N : Int), h'.blk? b = some x → (-400000 ≤ N ∧ N ≤ 400000) → okTo h' (aB b o) n c E N = true := fun h' N hh hN => by
    unfold okTo
    rw [(hRow h' hh).1, (hRow h' hh).2, canB_mk hC, blt_iff.2 (by omega), decide_eq_true ⟨hE, hN⟩]
    rfl
  have hl := hB_len L neg E (sl b o n c) b0
  have hQ53 := low_hi m neg (vb 65536 A) E
  have eQ : toQ m neg (vb 65536 A) E (lowE (vb 65536 A) E) = qB m neg (hB L neg E (sl b o n c) b0) b o n E (nOf t) := by
    unfold qB
    rw [hv _ hb, hN]
  -- the row or nothing
  obtain ⟨d, hdd⟩ : ∃ d, d = rowTo m neg (vb 65536 A) n E (lowE (vb 65536 A) E) := ⟨_, rfl⟩
  obtain ⟨Q, hQ⟩ : ∃ Q, Q = toQ m neg (vb 65536 A) E (lowE (vb 65536 A) E) := ⟨_, rfl⟩
  have hq0 : d = false → Q = 0 := fun h0 => by rw [hQ]; exact row_zero hTl (hdd.symm.trans h0)
  have hb1 := pRw_old hl d Q hb
  have hl1 := pRw_len hl d Q
  by_cases ho : toL (vb 65536 A) E (lowE (vb 65536 A) E) = true
  · have eQ2 : toQ m neg (vb 65536 A) E (lgN (vb 65536 A) E - 52) = qB m neg (pRw (hB L neg E (sl b o n c) b0) d Q) b o n E (dif t 53) := by
      unfold qB
      rw [hv _ hb1, hd]
    obtain ⟨d2, hdd2⟩ : ∃ d2, d2 = rowTo m neg (vb 65536 A) n E (lgN (vb 65536 A) E - 52) := ⟨_, rfl⟩
    obtain ⟨Q2, hQ2⟩ : ∃ Q2, Q2 = toQ m neg (vb 65536 A) E (lgN (vb 65536 A) E - 52) := ⟨_, rfl⟩
    have hq20 : d2 = false → Q2 = 0 := fun h0 => by rw [hQ2]; exact row_zero hTl (hdd2.symm.trans h0)
    have hQ253 : Q2 ≤ 9007199254740992 := by rw [hQ2]; exact toQ_le (n := 53) (by unfold lgN; omega)
    have hvF : vF (pRw (pRw (hB L neg E (sl b o n c) b0) d Q) d2 Q2) (pRw (hB L neg E (sl b o n c) b0) d Q).n d2 Q2 = Q2 := by
      cases d2
      · rw [hq20 rfl]; rfl
      · exact vO_d16 (pRw_new hl1 true Q2 rfl)
    have hokF : okF (pRw (pRw (hB L neg E (sl b o n c) b0) d Q) d2 Q2) (pRw (hB L neg E (sl b o n c) b0) d Q).n d2 Q2 = true := by
      cases d2
      · rfl
      · exact okLen_d16 (pRw_new hl1 true Q2 rfl) hQ253
    have hbl : bitLen Q2 ≤ 54 := len_le (by have e : (2 : Nat) ^ 54 = 18014398509481984 := rfl; omega)
    have hty := tiny_doc (m := m) (neg := neg) (E := E) hT
    refine goesT_listW (tabH_ok conQ_ok hcQ_ok) (ro_e1 d d2 (tiny m neg (vb 65536 A) E) (toL (vb 65536 A) E (lgN (vb 65536 A) E - 52)) L hL neg x0 E m t b o n c b0 g Q Q2 (hQ.trans eQ) (hQ2.trans eQ2)) ?_ fun g' => ?_
    · refine okCons ?_ (okCons hokF (okCons ?_ (okCons ?_ (okCons (hok _ _ hb1 (by omega)) (okCons ?_ (okCons ?_ (okL1 (hok _ _ hb (by omega)))))))))
      · rw [hvF, bl_bitLen, ← hty, ← hQ2]
        have e1 : sumI (bitLen Q2 : Nat) t = (bitLen Q2 : Nat) + t := by unfold sumI; exact wrapI (by omega) (by omega)
        have e2 : dif ((bitLen Q2 : Nat) + t) 53 = (bitLen Q2 : Nat) + t - 53 := by unfold dif; exact wrapI (by omega) (by omega)
        rw [e1, e2, hlg]
        congr 1
        simp only [eq_iff_iff]
        omega
      · rw [hv _ hb1, hd]
      · rw [hv _ hb1, hd, hdd2]
      · rw [hv _ hb, hN, ho]
      · rw [hv _ hb, hN, hdd]
    · have hq : QOk (pRw (pRw (hB L neg E (sl b o n c) b0) d Q) d2 Q2) (sRw (hB L neg E (sl b o n c) b0).n d Q) Q := qok_of (fun h1 => pRw_old hl1 d2 Q2 (pRw_new hl d Q h1)) hq0 (by omega)
      rw [pRw_hB, pRw_hB, hQ] at hq
      rw [pRw_hB, pRw_hB, hN, hQ]
      refine ro_last ?_ hT hq hlo fun hno => ?_
      · have h1 := rowL_len d (toQ m neg (vb 65536 A) E (lowE (vb 65536 A) E))
        have h2 := rowL_len d2 Q2
        simp only [List.length_append]
        omega
      · unfold rnF
        rw [if_neg hT, if_neg hno, if_pos ho]
        cases tiny m neg (vb 65536 A) E <;> rfl
  · have ho := (Bool.not_eq_true _).mp ho
    refine goesT_listW (tabH_ok conQ_ok hcQ_ok) (ro_e0 d L hL neg x0 E m t b o n c b0 g) ?_ fun g' => ?_
    · refine okCons ?_ (okCons ?_ (okL1 (hok _ _ hb (by omega))))
      · rw [hv _ hb, hN, ho]
      · rw [hv _ hb, hN, hdd]
    · rw [← eQ, ← hQ]
      have hq : QOk (pRw (hB L neg E (sl b o n c) b0) d Q) (sRw (hB L neg E (sl b o n c) b0).n d Q) Q := qok_of (fun h1 => pRw_new hl d Q h1) hq0 (by omega)
      rw [pRw_hB, hQ] at hq
      rw [pRw_hB, hN, hQ]
      refine ro_last ?_ hT hq hlo fun hno => ?_
      · have h1 := rowL_len d (toQ m neg (vb 65536 A) E (lowE (vb 65536 A) E))
        simp only [List.length_append]
        omega
      · unfold rnF
        rw [if_neg hT, if_neg hno, ho]
        rfl
theorem ro_code2 : tC Tryz.f52 2 = seqs (rS2 Tryz.f52) (seqs (rS3 Tryz.f52) (tC Tryz.f52 10)) := by kernel_rfl
theorem can_ne {A : List Int} (hC : Canon 65536 A) (h : A ≠ []) : vb 65536 A ≠ 0 := fun h0 => by
  have := db_can (by omega) hC
  rw [h0] at this
  apply h
  rw [← this]
  exact db_zero _
section
variable {l : List Value} {o c : Nat} {A : List Int}
theorem ro_from2 (hF : Fst l o c A) (hC : Canon 65536 A) (hn : A.length < 20000) {neg : Bool} {E : Int} (hE : -4000000 ≤ E ∧ E ≤ 4000000) (m : Int) (g : Nat → Value) :
    RunsW (tabH Tryz.prog extY conQ hcQ) (tC Tryz.f52 2) ([vRN neg E (sl 0 o A.length c), .int .i64 m, .pointer (some ⟨1, 0, none⟩), undef, .int .u64 0, .int .i64 0] ++ tl 103 g, hX neg E o A.length c l, []) (roOut m neg (vb 65536 A) E) := by
  have hb0 : (hX neg E o A.length c l).blk? 0 = some (l, tR) := rfl
  have hv := vO_fst hF hb0
  by_cases h0 : A.length = 0
  · have hz : vb 65536 A = 0 := by rw [List.eq_nil_of_length_eq_zero h0]; rfl
    refine (goesT_runsW (tabH_ok conQ_ok hcQ_ok) (ro_zero neg E m o A.length c l g) (okCons (by rfl) (okL1 ?_))).mono (ro_out ?_ ?_)
    · rw [h0]; rfl
    · rw [hz]; rfl
    · rw [hz]; rfl
  · have hT := can_ne hC (fun h => h0 (by rw [h]; rfl))
    have hTl : vb 65536 A < 2 ^ (16 * A.length) := by rw [← pow16]; exact vb_lt (by omega) A hC.1
    have hbl := len_le hTl
    have e0 : (((A.length : Nat) : Int) == 0) = false := by
      simp only [beq_eq_false_iff_ne, ne_eq]
      omega
    have hok : okLen (hX neg E o A.length c l) (aX o) A.length c = true := okLen_fst hF hC (by omega) hb0
    have es : sumI E ((bl (vO (hX neg E o A.length c l) (aX o) A.length) : Nat) : Int) = E + (bitLen (vb 65536 A) : Nat) := by
      rw [hv, bl_bitLen]
      unfold sumI
      exact wrapI (by omega) (by omega)
    have hlg : lgN (vb 65536 A) E = E + (bitLen (vb 65536 A) : Nat) - 1 := rfl
    by_cases hbig : E + (bitLen (vb 65536 A) : Nat) > 1100
    · have hr := big_eq (m := m) (neg := neg) hT (show 1024 ≤ lgN (vb 65536 A) E by omega)
      refine (goesT_runsW (tabH_ok conQ_ok hcQ_ok) (ro_big neg E m o A.length c l g) (okCons (okP_ok (bey_rng m neg)) (okCons ?_ (okCons hok (okL1 e0))))).mono (ro_out ?_ ?_)
      · rw [es]
        exact decide_eq_true hbig
      · rw [hr.1]
      · rw [hr.2]
    · have nb : decide (sumI E ((bl (vO (hX neg E o A.length c l) (aX o) A.length) : Nat) : Int) > 1100) = false := by
        rw [es]
        exact decide_eq_false hbig
      rw [ro_code2]
      by_cases hlow : E + (bitLen (vb 65536 A) : Nat) < -1200
      · have lb : decide (sumI E ((bl (vO (hX neg E o A.length c l) (aX o) A.length) : Nat) : Int) < -1200) = true := by
          rw [es]
          exact decide_eq_true hlow
        have e1 : vb 65536 (d16 1) = 1 := vb_db (by omega) 1
        have eb : bitLen 1 = 1 := len_uniq (k := 0) (by decide) (by decide)
        have r1 := low_eq (m := m) (neg := neg) hT (show lgN (vb 65536 A) E ≤ -1100 by omega)
        have r2 := low_eq (m := m) (neg := neg) (T := 1) (E := -1300) (by decide) (by unfold lgN; rw [eb]; decide)
        refine goesT_listW (tabH_ok conQ_ok hcQ_ok) (ro_low neg E m o A.length c l g) (okCons (by rfl) (okCons (by rfl) (okCons lb (okCons nb (okCons hok (okL1 e0)))))) fun g' => ?_
        refine (ro_tail (L := [(wU (d16 1), tU)]) (b := 2) (o := 0) (n := (d16 1).length) (c := (d16 1).length) (b0 := (l, tR)) (x := (wU (d16 1), tU)) (A := d16 1) (E := -1300) (t := -1299) (neg := neg) (by decide) (fun h' hh => ⟨rowP_d16 hh (by rw [d16_one]; omega), rowOf_d16 hh⟩) rfl (can_db (by omega) 1) rfl (by rw [d16_one]; omega) (by omega) (by rw [e1]; omega) (by rw [e1, eb]; omega) (by omega) (vRN neg E (sl 0 o A.length c)) m g').mono fun ex z hz => ?_
        unfold roOut at hz ⊢
        rw [e1, r2.1, r2.2] at hz
        rw [r1.1, r1.2]
        exact hz
      · have lb : decide (sumI E ((bl (vO (hX neg E o A.length c l) (aX o) A.length) : Nat) : Int) < -1200) = false := by
          rw [es]
          exact decide_eq_false hlow
        refine goesT_listW (tabH_ok conQ_ok hcQ_ok) (ro_mid neg E m o A.length c l g) (okCons lb (okCons nb (okCons hok (okL1 e0)))) fun g' => ?_
        exact ro_tail (L := []) (b := 0) (b0 := (l, tR)) (x := (l, tR)) (neg := neg) (by decide) (fun h' hh => hF h' hh) rfl hC rfl (by omega) (show -400000 ≤ E ∧ E ≤ 400000 by omega) hT es (by omega) (vRN neg E (sl 0 o A.length c)) m g'
theorem ro_runsL (hF : Fst l o c A) (hC : Canon 65536 A) (hn : A.length < 20000) {neg : Bool} {E : Int} (hE : -4000000 ≤ E ∧ E ≤ 4000000) (M : Int) :
    RunsW (tabH Tryz.prog extY conQ hcQ) (cBody Tryz.f52) ([vRN neg E (sl 0 o A.length c), .int .i64 M] ++ List.replicate 107 undef, ⟨1, [(l, tR)]⟩, []) (roOut M neg (vb 65536 A) E) := by
  have ecode : cBody Tryz.f52 = seqs (rS1 Tryz.f52) (tC Tryz.f52 2) := Option.some.inj (ro_body.symm.trans ro_body2)
  rw [ecode]
  have fin : ∀ m, m = mN M → ∀ g, RunsW (tabH Tryz.prog extY conQ hcQ) (tC Tryz.f52 2) ([vRN neg E (sl 0 o A.length c), .int .i64 m, .pointer (some ⟨1, 0, none⟩), undef, .int .u64 0, .int .i64 0] ++ tl 103 g, hX neg E o A.length c l, []) (roOut M neg (vb 65536 A) E) := fun m hm g => by
    have := ro_from2 (neg := neg) hF hC hn hE m g
    unfold roOut at this ⊢
    rw [hm, rnP_mN, rnF_mN] at this
    rw [hm]
    exact this
  by_cases h1 : M < 0
  · exact goesT_listW (tabH_ok conQ_ok hcQ_ok) (ro_m1 neg E M o A.length c l) (okL1 (decide_eq_true h1)) fun g => fin 0 (by unfold mN; rw [if_pos h1]) g
  · by_cases h2 : M > 4
    · exact goesT_listW (tabH_ok conQ_ok hcQ_ok) (ro_m2 neg E M o A.length c l) (okCons (decide_eq_true h2) (okL1 (decide_eq_false h1))) fun g => fin 0 (by unfold mN; rw [if_neg h1, if_pos h2]) g
    · exact goesT_listW (tabH_ok conQ_ok hcQ_ok) (ro_m3 neg E M o A.length c l) (okCons (decide_eq_false h2) (okL1 (decide_eq_false h1))) fun g => fin M (by unfold mN; rw [if_neg h1, if_neg h2]) g
theorem ro_runs (hF : Fst l o c A) (hC : Canon 65536 A) (hn : A.length < 20000) {neg : Bool} {E : Int} (hE : -400000 ≤ E ∧ E ≤ 400000) (M : Int) :
    RunsW (tabH Tryz.prog extY conQ hcQ) (cBody Tryz.f52) ([vRN neg E (sl 0 o A.length c), .int .i64 M] ++ List.replicate 107 undef, ⟨1, [(l, tR)]⟩, []) (roOut M neg (vb 65536 A) E) := ro_runsL hF hC hn ⟨by omega, by omega⟩ M
end
def okRo (h : Hp) (p : Option Addr) (n c : Nat) (E : Int) : Bool := rowP h p n c && canB (rowOf h p n) && Nat.blt n 20000 && decide (-400000 ≤ E ∧ E ≤ 400000)
def gRr : AnsH := fun vals h s =>
  match vals with
  | [.agg cs, .int .i64 M] =>
    match cs.toList with
    | [.bool neg, .int .i64 E, .slice (some ⟨b, o, none⟩) n c] => some (.tuple #[.int .u64 (sS neg (rnP M neg (vO h (some ⟨b, o, none⟩) n) E)), .int .i64 (rnF M neg (vO h (some ⟨b, o, none⟩) n) E)], h, s, [(okRo h (some ⟨b, o, none⟩) n c E, true)])
    | _ => none
  | _ => none
theorem gRr_ok : AnsHOk 52 gRr := by
  intro vals h s v h' s' lg hg hl m B w E0 hv
  unfold gRr at hg
  split at hg
  · rename_i cs M
    split at hg
    · rename_i neg E b o n c hcs
      have ecs : cs = #[.bool neg, .int .i64 E, sl b o n c] := by
        have := congrArg List.toArray hcs
        simpa [sl] using this
      cases hg
      have l3 := hl _ (List.mem_singleton.2 rfl)
      simp only [okRo, Bool.and_eq_true, decide_eq_true_eq] at l3
      obtain ⟨⟨⟨q1, q2⟩, q3⟩, q4⟩ := l3
      have q2 := canB_of q2
      have q3 := blt_iff.1 q3
      rcases rowP_cases q1 with ⟨h0, _⟩ | ⟨b', o', x, hp, hx, r1, rs, e0⟩
      · cases h0
      · cases hp
        rw [e0] at q2
        obtain ⟨h1, h2, h3, h4, h5, h6, h7⟩ := rowC_of r1
        have ev : vO h (some ⟨b, o, none⟩) n = vb 65536 (cutI x.1 o n) := by unfold vO; rw [e0]
        have r := ro_runs (fst_of r1 rs) q2 (by rw [h2]; exact q3) (neg := neg) q4 M
        rw [h2, ← ev] at r
        have evals : List.map (rn fun _ => b) [vRN neg E (sl 0 o n c), .int .i64 M] = [.agg cs, .int .i64 M] := by
          rw [ecs]
          simp [rn, rn2, rn1, vRN, sl]
        have fin := row_calls0 (T := tabH Tryz.prog extY conQ hcQ) Tryz.func52 ro_body (rows1 h7) (vals := [vRN neg E (sl 0 o n c), .int .i64 M]) (fun v hv => by
          simp only [List.mem_cons, List.not_mem_nil, or_false] at hv
          rcases hv with h1 | h1 <;> rw [h1] <;> rfl) (v := .tuple #[.int .u64 (sS neg (rnP M neg (vO h (some ⟨b, o, none⟩) n) E)), .int .i64 (rnF M neg (vO h (some ⟨b, o, none⟩) n) E)]) (by rfl) r E0 (fitsR1 hx h5 h6 rfl)
        rw [evals] at fin
        exact fin
    · cases hg
  · cases hg
end Go.Proofs.YtjkgnbdeklploaaGreatDoor
