/-
  ShO, ShP, PhA, PhE, PhF, ShA, RfN, RfD, ShD, ShE, ShQ
-/
import Derived.Test.YtgefjidphfdhdaaGreatDoorG20
import Derived.Laws.Closers25b
namespace Go.Proofs.YtgefjidphfdhdaaGreatDoor
open Go.KRun Go.Nt Go.Rd Go.Wd Go.Pt
set_option maxRecDepth 100000
set_option linter.unusedVariables false
def vSp5 : Value → Option (Int × Int × Int × Bool × Int)
  | .agg cs =>
    match cs.toList with
    | [.int .u64 l, .int .u64 h, .int .u64 a, .bool d, .int .i64 t] => some (l, h, a, d, t)
    | _ => none
  | _ => none
theorem vSp5_spec {v : Value} {l h a : Int} {d : Bool} {t : Int} (hv : vSp5 v = some (l, h, a, d, t)) : v = vSp l h a d t := by
  unfold vSp5 at hv
  split at hv
  · rename_i cs
    split at hv
    · rename_i hc
      cases hv
      obtain ⟨l⟩ := cs
      simp only at hc
      subst hc
      rfl
    · cases hv
  · cases hv
/-! ### the two numbers about the pattern -/
theorem ar14_g (l h a t u q : Int) (d : Bool) : Fits (reckon (tabOf Tryz.prog extY conN true) 200 61 [vSp l h a d t, .int .u64 u] [num q, cmp false, cmp true]) (.tuple #[.int .u64 (IntKind.u64.wrap (IntKind.u64.wrap (q + 1) * u)), .int .u64 (IntKind.u64.wrap (q * u))]) [(decide (a.tmod u > IntKind.u64.wrap (u.tdiv 2)), true), (decide (u = 0), false), (decide (u = 0), false), (decide (IntKind.u64.wrap (a.tdiv u) = q), true)] := ⟨by kernel_rfl, by kernel_rfl, by kernel_rfl, by kernel_rfl⟩
theorem ar14_m (l h a t u q : Int) : Fits (reckon (tabOf Tryz.prog extY conN true) 200 61 [vSp l h a true t, .int .u64 u] [num q, cmp false, cmp false, cmp true]) (.tuple #[.int .u64 (IntKind.u64.wrap (IntKind.u64.wrap (q + 1) * u)), .int .u64 (IntKind.u64.wrap (q * u))]) [(a.tmod u == IntKind.u64.wrap (u.tdiv 2), true), (decide (a.tmod u > IntKind.u64.wrap (u.tdiv 2)), false), (decide (u = 0), false), (decide (u = 0), false), (decide (IntKind.u64.wrap (a.tdiv u) = q), true)] := ⟨by kernel_rfl, by kernel_rfl, by kernel_rfl, by kernel_rfl⟩
theorem ar14_o (l h a t u q : Int) : Fits (reckon (tabOf Tryz.prog extY conN true) 200 61 [vSp l h a false t, .int .u64 u] [num q, cmp false, cmp false, cmp true, cmp false, cmp true]) (.tuple #[.int .u64 (IntKind.u64.wrap (IntKind.u64.wrap (q + 1) * u)), .int .u64 (IntKind.u64.wrap (q * u))]) [(q.tmod 2 == 1, true), (decide ((2 : Int) = 0), false), (a.tmod u == IntKind.u64.wrap (u.tdiv 2), true), (decide (a.tmod u > IntKind.u64.wrap (u.tdiv 2)), false), (decide (u = 0), false), (decide (u = 0), false), (decide (IntKind.u64.wrap (a.tdiv u) = q), true)] := ⟨by kernel_rfl, by kernel_rfl, by kernel_rfl, by kernel_rfl⟩
theorem ar14_e (l h a t u q : Int) : Fits (reckon (tabOf Tryz.prog extY conN true) 200 61 [vSp l h a false t, .int .u64 u] [num q, cmp false, cmp false, cmp true, cmp false, cmp false]) (.tuple #[.int .u64 (IntKind.u64.wrap (q * u)), .int .u64 (IntKind.u64.wrap (IntKind.u64.wrap (q + 1) * u))]) [(q.tmod 2 == 1, false), (decide ((2 : Int) = 0), false), (a.tmod u == IntKind.u64.wrap (u.tdiv 2), true), (decide (a.tmod u > IntKind.u64.wrap (u.tdiv 2)), false), (decide (u = 0), false), (decide (u = 0), false), (decide (IntKind.u64.wrap (a.tdiv u) = q), true)] := ⟨by kernel_rfl, by kernel_rfl, by kernel_rfl, by kernel_rfl⟩
theorem ar14_l (l h a t u q : Int) (d : Bool) : Fits (reckon (tabOf Tryz.prog extY conN true) 200 61 [vSp l h a d t, .int .u64 u] [num q, cmp false, cmp false, cmp false]) (.tuple #[.int .u64 (IntKind.u64.wrap (q * u)), .int .u64 (IntKind.u64.wrap (IntKind.u64.wrap (q + 1) * u))]) [(a.tmod u == IntKind.u64.wrap (u.tdiv 2), false), (decide (a.tmod u > IntKind.u64.wrap (u.tdiv 2)), false), (decide (u = 0), false), (decide (u = 0), false), (decide (IntKind.u64.wrap (a.tdiv u) = q), true)] := ⟨by kernel_rfl, by kernel_rfl, by kernel_rfl, by kernel_rfl⟩
def okAr (a u : Nat) : Bool := decide (2 ≤ u ∧ (a / u + 1) * u < 18446744073709551616)
def arV (d : Bool) (a u : Nat) : Value := if d = true then .tuple #[.int .u64 (((a / u + 1) * u : Nat) : Int), .int .u64 ((a / u * u : Nat) : Int)] else .tuple #[.int .u64 ((a / u * u : Nat) : Int), .int .u64 (((a / u + 1) * u : Nat) : Int)]
theorem ar_calls (l h t : Int) (d : Bool) (a u : Nat) (hk : okAr a u = true) (w : World) : Calls Tryz.prog 61 #[vSp l h a d t, .int .u64 u] w fun e w' => e = .returned (arV (nrU a d u) a u) ∧ Tidy w w' := by
  have hT := tabY_ok conN_ok
  obtain ⟨h1, h2⟩ := of_decide_eq_true hk
  have hdm := Nat.div_add_mod a u
  have hm := Nat.mod_lt a (show 0 < u by omega)
  have e1 : ((a : Nat) : Int).tdiv ((u : Nat) : Int) = ((a / u : Nat) : Int) := by rw [Int.tdiv_eq_ediv_of_nonneg (by omega)]; exact (Int.natCast_ediv a u).symm
  have e2 : ((a : Nat) : Int).tmod ((u : Nat) : Int) = ((a % u : Nat) : Int) := by rw [Int.tmod_eq_emod_of_nonneg (by omega)]; exact (Int.natCast_emod a u).symm
  obtain ⟨q, hq⟩ : ∃ q, q = a / u := ⟨_, rfl⟩
  have hqu : (q + 1) * u = q * u + u := by rw [Nat.add_mul, Nat.one_mul]
  rw [← hq] at h2 hdm e1
  rw [Nat.mul_comm] at hdm
  have q2 : q ≤ q * u := Nat.le_mul_of_pos_right _ (by omega)
  have e3 : IntKind.u64.wrap (((u : Nat) : Int).tdiv 2) = ((u / 2 : Nat) : Int) := by rw [Int.tdiv_eq_ediv_of_nonneg (by omega), u64w (by omega) (by omega)]; omega
  have w1 : IntKind.u64.wrap ((q : Nat) : Int) = ((q : Nat) : Int) := u64w (by omega) (by omega)
  have w2 : IntKind.u64.wrap (((q : Nat) : Int) * ((u : Nat) : Int)) = ((q * u : Nat) : Int) := by rw [← Int.natCast_mul, u64w (by omega) (by omega)]
  have w3 : IntKind.u64.wrap (IntKind.u64.wrap (((q : Nat) : Int) + 1) * ((u : Nat) : Int)) = (((q + 1) * u : Nat) : Int) := by
    rw [u64w (z := ((q : Nat) : Int) + 1) (by omega) (by omega), show ((q : Nat) : Int) + 1 = ((q + 1 : Nat) : Int) by omega, ← Int.natCast_mul, u64w (by omega) (by omega)]
  have eo : (((q : Nat) : Int).tmod 2 == 1) = decide (q % 2 = 1) := by
    rw [Int.tmod_eq_emod_of_nonneg (by omega)]
    have : ((((q : Nat) : Int) % 2 == 1) : Bool) = decide (((q : Nat) : Int) % 2 = 1) := rfl
    rw [this]
    exact decide_eq_decide.2 (by omega)
  have kb : okLog [(decide (((u : Nat) : Int) = 0), false), (decide (((u : Nat) : Int) = 0), false), (decide (IntKind.u64.wrap (((a : Nat) : Int).tdiv ((u : Nat) : Int)) = ((q : Nat) : Int)), true)] := okCons (decide_eq_false (by omega)) (okCons (decide_eq_false (by omega)) (okL1 (decide_eq_true (by rw [e1, w1]))))
  unfold arV nrU
  rw [← hq]
  have kgt : ∀ b, decide (u / 2 < a % u) = b → decide (((a : Nat) : Int).tmod ((u : Nat) : Int) > IntKind.u64.wrap (((u : Nat) : Int).tdiv 2)) = b := fun b hb => by rw [← hb, e2, e3]; exact decide_eq_decide.2 (by omega)
  have keq : ∀ b, decide (a % u = u / 2) = b → (((a : Nat) : Int).tmod ((u : Nat) : Int) == IntKind.u64.wrap (((u : Nat) : Int).tdiv 2)) = b := fun b hb => by
    rw [← hb, e2, e3]
    have : ((((a % u : Nat) : Int) == ((u / 2 : Nat) : Int)) : Bool) = decide (((a % u : Nat) : Int) = ((u / 2 : Nat) : Int)) := rfl
    rw [this]
    exact decide_eq_decide.2 (by omega)
  by_cases c1 : u / 2 < a % u
  · rw [decide_eq_true c1, Bool.true_or, if_pos rfl]
    have f := ar14_g l h a t u q d
    rw [w2, w3] at f
    exact fits_calls hT f (okCons (kgt true (decide_eq_true c1)) kb) (by rfl) (by rfl) w
  have kb := okCons (kgt false (decide_eq_false c1)) kb
  rw [decide_eq_false c1, Bool.false_or]
  by_cases c2 : a % u = u / 2
  · have kb := okCons (keq true (decide_eq_true c2)) kb
    rw [decide_eq_true c2, Bool.true_and]
    cases d with
    | true =>
      rw [Bool.true_or, if_pos rfl]
      have f := ar14_m l h a t u q
      rw [w2, w3] at f
      exact fits_calls hT f kb (by rfl) (by rfl) w
    | false =>
      rw [Bool.false_or]
      by_cases c3 : q % 2 = 1
      · rw [decide_eq_true c3, if_pos rfl]
        have f := ar14_o l h a t u q
        rw [w2, w3] at f
        exact fits_calls hT f (okCons (by rw [eo]; exact decide_eq_true c3) (okCons (show decide ((2 : Int) = 0) = false from rfl) kb)) (by rfl) (by rfl) w
      · rw [decide_eq_false c3, if_neg (by decide)]
        have f := ar14_e l h a t u q
        rw [w2, w3] at f
        exact fits_calls hT f (okCons (by rw [eo]; exact decide_eq_false c3) (okCons (show decide ((2 : Int) = 0) = false from rfl) kb)) (by rfl) (by rfl) w
  · rw [decide_eq_false c2, Bool.false_and, if_neg (by decide)]
    have f := ar14_l l h a t u q d
    rw [w2, w3] at f
    exact fits_calls hT f (okCons (keq false (decide_eq_false c2)) kb) (by rfl) (by rfl) w
/-- told ahead which is the nearer one -/
def gAro : Ans := fun vals s =>
  match vals, s with
  | [v, .int .u64 u], .inr (.inr (.inr (.inl true))) :: s' =>
    match vSp5 v with
    | some (_, _, a, d, _) => some (arV true a.toNat u.toNat, s', [(nrU a.toNat d u.toNat, true), (okAr a.toNat u.toNat, true), (decide (0 ≤ a ∧ 0 ≤ u), true)])
    | none => none
  | [v, .int .u64 u], .inr (.inr (.inr (.inl false))) :: s' =>
    match vSp5 v with
    | some (_, _, a, d, _) => some (arV false a.toNat u.toNat, s', [(nrU a.toNat d u.toNat, false), (okAr a.toNat u.toNat, true), (decide (0 ≤ a ∧ 0 ≤ u), true)])
    | none => none
  | _, _ => none
theorem gAro_ok : AnsOk 61 gAro := by
  intro vals s v s' lg h hl w
  unfold gAro at h
  split at h
  all_goals
    try
      split at h
      · rename_i u s2 o l hh a d t hv
        rw [vSp5_spec hv]
        cases h
        have l1 := hl _ List.mem_cons_self
        have l2 : okAr a.toNat u.toNat = true := hl _ (List.mem_cons_of_mem _ List.mem_cons_self)
        obtain ⟨l3, l4⟩ := of_decide_eq_true (hl _ (List.mem_cons_of_mem _ (List.mem_cons_of_mem _ (List.mem_singleton.2 rfl))))
        obtain ⟨A, rfl⟩ : ∃ A : Nat, a = A := ⟨a.toNat, by omega⟩
        obtain ⟨K, rfl⟩ : ∃ K : Nat, u = K := ⟨u.toNat, by omega⟩
        have := ar_calls l hh t d A K l2 w
        have l1 : nrU A d K = _ := l1
        rw [l1] at this
        exact this
      · cases h
  cases h
theorem ha14_t (l h a t n : Int) (d d' : Bool) : Fits (reckon (tabOf Tryz.prog extY conN true) 200 62 [vSp l h a d t, .int .u64 n] [cmp true, cmp d']) (.bool d') [(decide (n ≤ h), d'), (decide (l ≤ n), true)] := ⟨by kernel_rfl, by kernel_rfl, by kernel_rfl, by kernel_rfl⟩
theorem ha14_f (l h a t n : Int) (d : Bool) : Fits (reckon (tabOf Tryz.prog extY conN true) 200 62 [vSp l h a d t, .int .u64 n] [cmp false]) (.bool false) [(decide (l ≤ n), false)] := ⟨by kernel_rfl, by kernel_rfl, by kernel_rfl, by kernel_rfl⟩
/-- told ahead -/
def gHas : Ans := fun vals s =>
  match vals, s with
  | [v, .int .u64 n], .inr (.inr (.inr (.inl b))) :: s' =>
    match vSp5 v with
    | some (l, h, _, _, _) => some (.bool b, s', [(decide (l ≤ n) && decide (n ≤ h), b)])
    | none => none
  | _, _ => none
theorem gHas_ok : AnsOk 62 gHas := by
  intro vals s v s' lg h hl w
  unfold gHas at h
  split at h
  · split at h
    · rename_i n b s2 o l hh a d t hv
      rw [vSp5_spec hv]
      cases h
      have l1 : (decide (l ≤ n) && decide (n ≤ hh)) = b := hl _ (List.mem_singleton.2 rfl)
      rw [← l1]
      by_cases c : l ≤ n
      · rw [decide_eq_true c, Bool.true_and]
        exact fits_calls (tabY_ok conN_ok) (ha14_t l hh a t n d _) (okCons rfl (okL1 (decide_eq_true c))) (by rfl) (by rfl) w
      · rw [decide_eq_false c, Bool.false_and]
        exact fits_calls (tabY_ok conN_ok) (ha14_f l hh a t n d) (okL1 (decide_eq_false c)) (by rfl) (by rfl) w
    · cases h
  · cases h
/-! ### digits without noughts at their end -/
def hcWn14 : Hc := altH 118 (gT gFuT) hcN
theorem hcWn14_ok : HcOk hcWn14 := altH_ok Tryz.func118 rfl (gT_ok gFuT_ok) hcN_ok
def conWn14 : Con := alt 42 gTrA conN
theorem conWn14_ok : ConOk conWn14 := alt_ok Tryz.func42 rfl gTrA_ok conN_ok
theorem wn14 (n t : Int) : Fits (reckonAt (tabH Tryz.prog extY conWn14 hcWn14) hT0 200 63 [.int .u64 n, .int .i64 t] []) (vDc (trC 48 (dcL n.toNat)) (IntKind.i64.wrap (IntKind.i64.wrap (t + (((dcL n.toNat).length : Nat) : Int)) - 1))) [(true, true), (decide ((dcL n.toNat).length ≤ 100000), true), (decide (100 ≤ n ∧ n < 18446744073709551616 ∧ (10 : Int) = 10), true)] := ⟨by kernel_rfl, by kernel_rfl, by kernel_rfl, by kernel_rfl⟩
def gWnT : Ans := fun vals s =>
  match vals with
  | [.int .u64 n, .int .i64 t] => some (vDc (trR (dcL n.toNat)) (t + (((dcL n.toNat).length : Nat) : Int) - 1), s, [(decide (100 ≤ n ∧ n < 18446744073709551616 ∧ -100000 ≤ t ∧ t ≤ 100000), true)])
  | _ => none
theorem dcL_len20 (n : Nat) : (dcL n).length ≤ 20 := decF_len 20 n
theorem gWnT_ok : AnsTOk 63 gWnT := by
  intro vals s v s' lg h hl w hk
  unfold gWnT at h
  split at h
  · rename_i n t
    cases h
    obtain ⟨h1, h2, h3, h4⟩ := of_decide_eq_true (hl _ (List.mem_singleton.2 rfl))
    have f := wn14 n t
    have hlen := dcL_len20 n.toNat
    rw [wrapI (n := t + (((dcL n.toNat).length : Nat) : Int)) (by omega) (by omega), wrapI (by omega) (by omega)] at f
    exact fitsT (tabH_ok conWn14_ok hcWn14_ok) f (okCons rfl (okCons (decide_eq_true (by omega)) (okL1 (decide_eq_true ⟨h1, h2, rfl⟩)))) (by rfl) (by rfl) hk
  · cases h
/-! ### the search -/
def conSr : Con := alt 60 gSpn (alt 61 gAro (alt 62 gHas conN))
theorem conSr_ok : ConOk conSr := alt_ok Tryz.func60 rfl gSpn_ok (alt_ok Tryz.func61 rfl gAro_ok (alt_ok Tryz.func62 rfl gHas_ok conN_ok))
def hcSr : Hc := altH 63 (gT gWnT) hcN
theorem hcSr_ok : HcOk hcSr := altH_ok Tryz.func63 rfl (gT_ok gWnT_ok) hcN_ok
theorem tabSr : TabOk (tabH Tryz.prog extY conSr hcSr) := tabH_ok conSr_ok hcSr_ok
def srL1 (F : Func) : Code := cIn (cIn (sP F 3))
def srL2 (F : Func) : Code := cIn (cIn (sP F 5))
theorem sr_body : Tryz.f24.body = some (seqs [sP Tryz.f24 0, sP Tryz.f24 1, sP Tryz.f24 2] (.seq (.block 0 (.loop (srL1 Tryz.f24))) (.seq (sP Tryz.f24 4) (.seq (.block 2 (.loop (srL2 Tryz.f24))) (sK Tryz.f24 6))))) := by kernel_rfl
def zDc : List Value × TypeId := ([bR [], .int .i64 0], 49)
def srM (m : Bool) (c e q l h a : Int) (d : Bool) (t : Int) : Hp := ⟨4, [bSp l h a d t, zDc, bPa m c e q, (pwV, pwT)]⟩
def srF (m : Bool) (c e q u : Int) : List Value := [vP m c e q, pO 1, pO 2, pO 3, .int .u64 u]
def srG (m : Bool) (c e q u n f : Int) : List Value := [vP m c e q, pO 1, pO 2, pO 3, .int .u64 u, .int .u64 n, .int .u64 f]
theorem sr_pre (m : Bool) (c e q : Int) : GoesT (evL (tabH Tryz.prog extY conSr hcSr) 200 [sP Tryz.f24 0, sP Tryz.f24 1, sP Tryz.f24 2] ([vP m c e q] ++ List.replicate 48 undef, hT0, []) ⟨[], [], []⟩) 5 44 none (srF m c e q 1) (srM m c e q (sLo q.toNat e (lgS q.toNat e - 17)) (sHi q.toNat e (lgS q.toNat e - 17)) (sAt q.toNat e (lgS q.toNat e - 17)) (sMo q.toNat e (lgS q.toNat e - 17)) (lgS q.toNat e - 17)) [(okF14 e q, true)] := ⟨by kernel_rfl, by kernel_rfl, by kernel_rfl⟩
theorem sr_1g (m : Bool) (c e q l h a t u : Int) (d : Bool) (g : Nat → Value) : GoesT (evC (tabH Tryz.prog extY conSr hcSr) 200 false (srL1 Tryz.f24) (srF m c e q u ++ tl 44 g, (srM m c e q l h a d t), [cmp true]) ⟨[], [], []⟩) 5 44 none (srF m c e q (IntKind.u64.wrap (u * 10))) (srM m c e q l h a d t) [(decide (u ≤ IntKind.u64.wrap (a.tdiv 10)), true)] := ⟨by kernel_rfl, by kernel_rfl, by kernel_rfl⟩
theorem sr_1x (m : Bool) (c e q l h a t u : Int) (d : Bool) (g : Nat → Value) : GoesT (evC (tabH Tryz.prog extY conSr hcSr) 200 false (srL1 Tryz.f24) (srF m c e q u ++ tl 44 g, (srM m c e q l h a d t), [cmp false]) ⟨[], [], []⟩) 5 44 (some (some 0)) (srF m c e q u) (srM m c e q l h a d t) [(decide (u ≤ IntKind.u64.wrap (a.tdiv 10)), false)] := ⟨by kernel_rfl, by kernel_rfl, by kernel_rfl⟩
def arN (d : Bool) (a u : Nat) : Nat := if d = true then (a / u + 1) * u else a / u * u
def arX (d : Bool) (a u : Nat) : Nat := if d = true then a / u * u else (a / u + 1) * u
def lAr (a u : Int) (d b : Bool) (l : Log) : Log := (nrU a.toNat d u.toNat, b) :: (okAr a.toNat u.toNat, true) :: (decide (0 ≤ a ∧ 0 ≤ u), true) :: l
theorem sr_mt (m : Bool) (c e q l h a t u : Int) (d : Bool) (g : Nat → Value) : GoesT (evC (tabH Tryz.prog extY conSr hcSr) 200 false (sP Tryz.f24 4) (srF m c e q u ++ tl 44 g, (srM m c e q l h a d t), [cmp true]) ⟨[], [], []⟩) 7 42 none (srG m c e q u ((arN true a.toNat u.toNat : Nat) : Int) ((arX true a.toNat u.toNat : Nat) : Int)) (srM m c e q l h a d t) (lAr a u d true []) := ⟨by kernel_rfl, by kernel_rfl, by kernel_rfl⟩
theorem sr_mf (m : Bool) (c e q l h a t u : Int) (d : Bool) (g : Nat → Value) : GoesT (evC (tabH Tryz.prog extY conSr hcSr) 200 false (sP Tryz.f24 4) (srF m c e q u ++ tl 44 g, (srM m c e q l h a d t), [cmp false]) ⟨[], [], []⟩) 7 42 none (srG m c e q u ((arN false a.toNat u.toNat : Nat) : Int) ((arX false a.toNat u.toNat : Nat) : Int)) (srM m c e q l h a d t) (lAr a u d false []) := ⟨by kernel_rfl, by kernel_rfl, by kernel_rfl⟩
theorem sr_2x1 (m : Bool) (c e q l h a t u n f : Int) (d : Bool) (g : Nat → Value) : GoesT (evC (tabH Tryz.prog extY conSr hcSr) 200 false (srL2 Tryz.f24) (srG m c e q u n f ++ tl 42 g, (srM m c e q l h a d t), [cmp true]) ⟨[], [], []⟩) 7 42 (some (some 2)) (srG m c e q u n f) (srM m c e q l h a d t) [(decide (l ≤ n) && decide (n ≤ h), true)] := ⟨by kernel_rfl, by kernel_rfl, by kernel_rfl⟩
theorem sr_2x2 (m : Bool) (c e q l h a t u n f : Int) (d : Bool) (g : Nat → Value) : GoesT (evC (tabH Tryz.prog extY conSr hcSr) 200 false (srL2 Tryz.f24) (srG m c e q u n f ++ tl 42 g, (srM m c e q l h a d t), [cmp false, cmp true]) ⟨[], [], []⟩) 7 42 (some (some 2)) (srG m c e q u n f) (srM m c e q l h a d t) [(decide (l ≤ f) && decide (f ≤ h), true), (decide (l ≤ n) && decide (n ≤ h), false)] := ⟨by kernel_rfl, by kernel_rfl, by kernel_rfl⟩
theorem sr_2gt (m : Bool) (c e q l h a t u n f : Int) (d : Bool) (g : Nat → Value) : GoesT (evC (tabH Tryz.prog extY conSr hcSr) 200 false (srL2 Tryz.f24) (srG m c e q u n f ++ tl 42 g, (srM m c e q l h a d t), [cmp false, cmp false, cmp true]) ⟨[], [], []⟩) 7 42 none (srG m c e q (IntKind.u64.wrap (u.tdiv 10)) ((arN true a.toNat (IntKind.u64.wrap (u.tdiv 10)).toNat : Nat) : Int) ((arX true a.toNat (IntKind.u64.wrap (u.tdiv 10)).toNat : Nat) : Int)) (srM m c e q l h a d t) (lAr a (IntKind.u64.wrap (u.tdiv 10)) d true [(decide (l ≤ f) && decide (f ≤ h), false), (decide (l ≤ n) && decide (n ≤ h), false)]) := ⟨by kernel_rfl, by kernel_rfl, by kernel_rfl⟩
theorem sr_2gf (m : Bool) (c e q l h a t u n f : Int) (d : Bool) (g : Nat → Value) : GoesT (evC (tabH Tryz.prog extY conSr hcSr) 200 false (srL2 Tryz.f24) (srG m c e q u n f ++ tl 42 g, (srM m c e q l h a d t), [cmp false, cmp false, cmp false]) ⟨[], [], []⟩) 7 42 none (srG m c e q (IntKind.u64.wrap (u.tdiv 10)) ((arN false a.toNat (IntKind.u64.wrap (u.tdiv 10)).toNat : Nat) : Int) ((arX false a.toNat (IntKind.u64.wrap (u.tdiv 10)).toNat : Nat) : Int)) (srM m c e q l h a d t) (lAr a (IntKind.u64.wrap (u.tdiv 10)) d false [(decide (l ≤ f) && decide (f ≤ h), false), (decide (l ≤ n) && decide (n ≤ h), false)]) := ⟨by kernel_rfl, by kernel_rfl, by kernel_rfl⟩
theorem sr_e1 (m : Bool) (c e q l h a t u n f : Int) (d : Bool) (g : Nat → Value) : GoesT (evC (tabH Tryz.prog extY conSr hcSr) 200 false (sK Tryz.f24 6) (srG m c e q u n f ++ tl 42 g, (srM m c e q l h a d t), [cmp true]) ⟨[], [], []⟩) 4 45 (some none) [vP m c e q, pO 1, pO 2, pO 3] ⟨4, [bSp l h a d t, ([bR (trR (dcL n.toNat)), .int .i64 (t + (((dcL n.toNat).length : Nat) : Int) - 1)], 49), bPa m c e q, (pwV, pwT)]⟩ [(decide (100 ≤ n ∧ n < 18446744073709551616 ∧ -100000 ≤ t ∧ t ≤ 100000), true), (decide (l ≤ n) && decide (n ≤ h), true)] := ⟨by kernel_rfl, by kernel_rfl, by kernel_rfl⟩
theorem sr_e2 (m : Bool) (c e q l h a t u n f : Int) (d : Bool) (g : Nat → Value) : GoesT (evC (tabH Tryz.prog extY conSr hcSr) 200 false (sK Tryz.f24 6) (srG m c e q u n f ++ tl 42 g, (srM m c e q l h a d t), [cmp false]) ⟨[], [], []⟩) 4 45 (some none) [vP m c e q, pO 1, pO 2, pO 3] ⟨4, [bSp l h a d t, ([bR (trR (dcL f.toNat)), .int .i64 (t + (((dcL f.toNat).length : Nat) : Int) - 1)], 49), bPa m c e q, (pwV, pwT)]⟩ [(decide (100 ≤ f ∧ f < 18446744073709551616 ∧ -100000 ≤ t ∧ t ≤ 100000), true), (decide (l ≤ n) && decide (n ≤ h), false)] := ⟨by kernel_rfl, by kernel_rfl, by kernel_rfl⟩
end Go.Proofs.YtgefjidphfdhdaaGreatDoor
namespace Go.Proofs.YtgefjidphfdhdaaGreatDoor
open Go.KRun Go.Nt Go.Rd Go.Wd Go.Pt
set_option maxRecDepth 100000
/-- the two numbers, the nearer one first -/
def nrV (p : Int) (n : Nat) : Nat := arN (nrU (sp14A p (lsP p)) (sp14M p (lsP p)) (10 ^ (atL p - n))) (sp14A p (lsP p)) (10 ^ (atL p - n))
def frV (p : Int) (n : Nat) : Nat := arX (nrU (sp14A p (lsP p)) (sp14M p (lsP p)) (10 ^ (atL p - n))) (sp14A p (lsP p)) (10 ^ (atL p - n))
theorem nr_is (p : Int) (n : Nat) : (nrV p n = hi14V p n ∧ frV p n = lo14V p n ∧ nrU (sp14A p (lsP p)) (sp14M p (lsP p)) (10 ^ (atL p - n)) = true) ∨ (nrV p n = lo14V p n ∧ frV p n = hi14V p n ∧ nrU (sp14A p (lsP p)) (sp14M p (lsP p)) (10 ^ (atL p - n)) = false) := by
  unfold nrV frV arN arX
  cases nrU (sp14A p (lsP p)) (sp14M p (lsP p)) (10 ^ (atL p - n)) with
  | true => exact .inl ⟨if_pos rfl, if_pos rfl, rfl⟩
  | false => exact .inr ⟨if_neg (by decide), if_neg (by decide), rfl⟩
section
variable {p : Int}
theorem hasI (h : Fin14 p) (x : Nat) : (decide (((sp14L p (lsP p) : Nat) : Int) ≤ ((x : Nat) : Int)) && decide (((x : Nat) : Int) ≤ ((sp14H p (lsP p) : Nat) : Int))) = inSp p (lsP p) x := by
  rw [sp_has h, decide_eq_decide.2 (show ((sp14L p (lsP p) : Nat) : Int) ≤ ((x : Nat) : Int) ↔ sp14L p (lsP p) ≤ x by omega), decide_eq_decide.2 (show ((x : Nat) : Int) ≤ ((sp14H p (lsP p) : Nat) : Int) ↔ x ≤ sp14H p (lsP p) by omega)]
theorem ten_le19 (h : Fin14 p) : 10 ^ atL p ≤ 10000000000000000000 := Nat.pow_le_pow_right (n := 10) (by omega) (atL_bd h).1.2
theorem two_bd (h : Fin14 p) {n : Nat} (h1 : 1 ≤ n) (h2 : n ≤ 17) : 10 ^ (atL p - 1) ≤ lo14V p n ∧ hi14V p n ≤ 10 ^ atL p ∧ lo14V p n ≤ hi14V p n := by
  obtain ⟨⟨l1, l2⟩, a, b⟩ := atL_bd h
  have hu : 0 < 10 ^ (atL p - n) := Nat.pow_pos (by omega)
  have e1 : 10 ^ atL p = 10 ^ n * 10 ^ (atL p - n) := by rw [← Nat.pow_add]; congr 1; omega
  have e2 : 10 ^ (atL p - 1) = 10 ^ (n - 1) * 10 ^ (atL p - n) := by rw [← Nat.pow_add]; congr 1; omega
  have q1 : 10 ^ (n - 1) ≤ sp14A p (lsP p) / 10 ^ (atL p - n) := (Nat.le_div_iff_mul_le hu).2 (by rw [← e2]; exact a)
  have q2 : sp14A p (lsP p) / 10 ^ (atL p - n) < 10 ^ n := (Nat.div_lt_iff_lt_mul hu).2 (by rw [← e1]; exact b)
  unfold lo14V hi14V
  refine ⟨?_, ?_, Nat.mul_le_mul_right _ (by omega)⟩
  · rw [e2]; exact Nat.mul_le_mul_right _ q1
  · rw [e1]; exact Nat.mul_le_mul_right _ q2
theorem okAr_ok (h : Fin14 p) {n : Nat} (h1 : 1 ≤ n) (h2 : n ≤ 17) : okAr (sp14A p (lsP p)) (10 ^ (atL p - n)) = true := by
  obtain ⟨⟨l1, l2⟩, _⟩ := atL_bd h
  obtain ⟨_, b, _⟩ := two_bd h h1 h2
  have := ten_le19 h
  refine decide_eq_true ⟨?_, ?_⟩
  · have : 10 ^ 1 ≤ 10 ^ (atL p - n) := Nat.pow_le_pow_right (by omega) (by omega)
    omega
  · have e : hi14V p n = (sp14A p (lsP p) / 10 ^ (atL p - n) + 1) * 10 ^ (atL p - n) := rfl
    rw [← e]
    omega
end
/-- what lies in memory -/
def srK (p : Int) : Hp := srM (sgn p) (cl p) (xp p) (sg p) ((sp14L p (lsP p) : Nat) : Int) ((sp14H p (lsP p) : Nat) : Int) ((sp14A p (lsP p) : Nat) : Int) (sp14M p (lsP p)) (lsP p)
def srA (p u : Int) : List Value := srF (sgn p) (cl p) (xp p) (sg p) u
def srB (p u n f : Int) : List Value := srG (sgn p) (cl p) (xp p) (sg p) u n f
def srS1 (p : Int) (i : Nat) (y : Lf) : Prop := i ≤ atL p - 1 ∧ ∃ g, y.1 = srA p ((10 ^ i : Nat) : Int) ++ tl 44 g ∧ y.2.1 = srK p
def srS2 (p : Int) (n : Nat) (y : Lf) : Prop := (1 ≤ n ∧ n ≤ nP p) ∧ ∃ g, y.1 = srB p ((10 ^ (atL p - n) : Nat) : Int) ((nrV p n : Nat) : Int) ((frV p n : Nat) : Int) ++ tl 42 g ∧ y.2.1 = srK p
theorem sr_r1 {p : Int} (h : Fin14 p) (r : Nat) (y : Lf) (hy : ∃ i, r = atL p - 1 - i ∧ srS1 p i y) :
    Runs (tabH Tryz.prog extY conSr hcSr) (srL1 Tryz.f24) y fun e z => match e with | none => ∃ r', r' < r ∧ ∃ i, r' = atL p - 1 - i ∧ srS1 p i z | some none => False | some (some id') => id' = 0 ∧ srS1 p (atL p - 1) z := by
  obtain ⟨i, hr, hi, g, ht, hh⟩ := hy
  obtain ⟨t, h', sc⟩ := y
  simp only at ht hh
  subst ht hh
  obtain ⟨⟨l1, l2⟩, a, b⟩ := atL_bd h
  have t19 := ten_le19 h
  have ew : IntKind.u64.wrap (((sp14A p (lsP p) : Nat) : Int).tdiv 10) = ((sp14A p (lsP p) / 10 : Nat) : Int) := by
    rw [Int.tdiv_eq_ediv_of_nonneg (by omega), u64w (by omega) (by omega)]
    omega
  by_cases hc : i < atL p - 1
  · have hp : 10 ^ (i + 1) ≤ sp14A p (lsP p) := Nat.le_trans (Nat.pow_le_pow_right (by omega) (by omega)) a
    rw [Nat.pow_succ] at hp
    have hg := sr_1g (sgn p) (cl p) (xp p) (sg p) ((sp14L p (lsP p) : Nat) : Int) ((sp14H p (lsP p) : Nat) : Int) ((sp14A p (lsP p) : Nat) : Int) (lsP p) ((10 ^ i : Nat) : Int) (sp14M p (lsP p)) g
    have em : IntKind.u64.wrap (((10 ^ i : Nat) : Int) * 10) = ((10 ^ (i + 1) : Nat) : Int) := by
      rw [Nat.pow_succ, u64w (by omega) (by omega)]
      omega
    rw [em] at hg
    refine (goesT_runs (s0 := sc) tabSr hg (okL1 (decide_eq_true (by rw [ew]; omega)))).mono fun e z he => ?_
    obtain ⟨rfl, ⟨g', z1⟩, z2⟩ := he
    exact ⟨atL p - 1 - (i + 1), by omega, i + 1, rfl, by omega, g', z1, z2⟩
  · have ei : i = atL p - 1 := by omega
    have hn : ¬ 10 ^ i ≤ sp14A p (lsP p) / 10 := by
      intro c
      have : 10 ^ atL p = 10 ^ i * 10 := by rw [← Nat.pow_succ]; congr 1; omega
      omega
    refine (goesT_runs (s0 := sc) tabSr (sr_1x (sgn p) (cl p) (xp p) (sg p) ((sp14L p (lsP p) : Nat) : Int) ((sp14H p (lsP p) : Nat) : Int) ((sp14A p (lsP p) : Nat) : Int) (lsP p) ((10 ^ i : Nat) : Int) (sp14M p (lsP p)) g) (okL1 (decide_eq_false (by rw [ew]; omega)))).mono fun e z he => ?_
    obtain ⟨rfl, ⟨g', z1⟩, z2⟩ := he
    rw [ei] at z1
    exact ⟨rfl, Nat.le_refl _, g', z1, z2⟩
theorem lAr_ok {p : Int} (h : Fin14 p) {n : Nat} (h1 : 1 ≤ n) (h2 : n ≤ 17) {b : Bool} (hb : nrU (sp14A p (lsP p)) (sp14M p (lsP p)) (10 ^ (atL p - n)) = b) {l : Log} (hl : okLog l) : okLog (lAr ((sp14A p (lsP p) : Nat) : Int) ((10 ^ (atL p - n) : Nat) : Int) (sp14M p (lsP p)) b l) := by
  unfold lAr
  rw [Int.toNat_natCast, Int.toNat_natCast]
  exact okCons hb (okCons (okAr_ok h h1 h2) (okCons (decide_eq_true ⟨Int.natCast_nonneg _, Int.natCast_nonneg _⟩) hl))
theorem sr_r2 {p : Int} (h : Fin14 p) (r : Nat) (y : Lf) (hy : ∃ n, r = nP p - n ∧ srS2 p n y) :
    Runs (tabH Tryz.prog extY conSr hcSr) (srL2 Tryz.f24) y fun e z => match e with | none => ∃ r', r' < r ∧ ∃ n, r' = nP p - n ∧ srS2 p n z | some none => False | some (some id') => id' = 2 ∧ srS2 p (nP p) z := by
  obtain ⟨n, hr, ⟨n1, n2⟩, g, ht, hh⟩ := hy
  obtain ⟨t, h', sc⟩ := y
  simp only at ht hh
  subst ht hh
  obtain ⟨⟨l1, l2⟩, _⟩ := atL_bd h
  obtain ⟨_, ⟨_, n17⟩, _⟩ := short_is h
  have se := srch_end h n1 n2
  have orE : (inSp p (lsP p) (nrV p n) = true ∨ inSp p (lsP p) (frV p n) = true) ↔ n = nP p := by
    rw [← se]
    rcases nr_is p n with ⟨e1, e2, _⟩ | ⟨e1, e2, _⟩ <;> rw [e1, e2]
    exact or_comm
  have hN := hasI h (nrV p n)
  have hF := hasI h (frV p n)
  cases c1 : inSp p (lsP p) (nrV p n) with
  | true =>
    have en := orE.1 (.inl c1)
    refine (goesT_runs (s0 := sc) tabSr (sr_2x1 (sgn p) (cl p) (xp p) (sg p) ((sp14L p (lsP p) : Nat) : Int) ((sp14H p (lsP p) : Nat) : Int) ((sp14A p (lsP p) : Nat) : Int) (lsP p) ((10 ^ (atL p - n) : Nat) : Int) ((nrV p n : Nat) : Int) ((frV p n : Nat) : Int) (sp14M p (lsP p)) g) (okL1 (by rw [hN]; exact c1))).mono fun e z he => ?_
    obtain ⟨rfl, ⟨g', z1⟩, z2⟩ := he
    rw [← en]
    exact ⟨rfl, ⟨n1, n2⟩, g', z1, z2⟩
  | false =>
    cases c2 : inSp p (lsP p) (frV p n) with
    | true =>
      have en := orE.1 (.inr c2)
      refine (goesT_runs (s0 := sc) tabSr (sr_2x2 (sgn p) (cl p) (xp p) (sg p) ((sp14L p (lsP p) : Nat) : Int) ((sp14H p (lsP p) : Nat) : Int) ((sp14A p (lsP p) : Nat) : Int) (lsP p) ((10 ^ (atL p - n) : Nat) : Int) ((nrV p n : Nat) : Int) ((frV p n : Nat) : Int) (sp14M p (lsP p)) g) (okCons (by rw [hF]; exact c2) (okL1 (by rw [hN]; exact c1)))).mono fun e z he => ?_
      obtain ⟨rfl, ⟨g', z1⟩, z2⟩ := he
      rw [← en]
      exact ⟨rfl, ⟨n1, n2⟩, g', z1, z2⟩
    | false =>
      have hne : n ≠ nP p := fun c => by
        rcases orE.2 c with c3 | c3
        · rw [c1] at c3; cases c3
        · rw [c2] at c3; cases c3
      have eu : IntKind.u64.wrap (((10 ^ (atL p - n) : Nat) : Int).tdiv 10) = ((10 ^ (atL p - (n + 1)) : Nat) : Int) := by
        have e : 10 ^ (atL p - n) = 10 ^ (atL p - (n + 1)) * 10 := by rw [← Nat.pow_succ]; congr 1; omega
        have b : 10 ^ (atL p - (n + 1)) ≤ 10 ^ atL p := Nat.pow_le_pow_right (by omega) (by omega)
        have := ten_le19 h
        rw [e, Int.tdiv_eq_ediv_of_nonneg (by omega), u64w (by omega) (by omega)]
        omega
      have fin : ∀ b, nrU (sp14A p (lsP p)) (sp14M p (lsP p)) (10 ^ (atL p - (n + 1))) = b → ((arN b (sp14A p (lsP p)) (10 ^ (atL p - (n + 1))) = nrV p (n + 1)) ∧ (arX b (sp14A p (lsP p)) (10 ^ (atL p - (n + 1))) = frV p (n + 1))) := fun b hb => by
        unfold nrV frV
        rw [hb]
        exact ⟨rfl, rfl⟩
      have lg : ∀ b, nrU (sp14A p (lsP p)) (sp14M p (lsP p)) (10 ^ (atL p - (n + 1))) = b → okLog (lAr ((sp14A p (lsP p) : Nat) : Int) ((10 ^ (atL p - (n + 1)) : Nat) : Int) (sp14M p (lsP p)) b [(decide (((sp14L p (lsP p) : Nat) : Int) ≤ ((frV p n : Nat) : Int)) && decide (((frV p n : Nat) : Int) ≤ ((sp14H p (lsP p) : Nat) : Int)), false), (decide (((sp14L p (lsP p) : Nat) : Int) ≤ ((nrV p n : Nat) : Int)) && decide (((nrV p n : Nat) : Int) ≤ ((sp14H p (lsP p) : Nat) : Int)), false)]) := fun b hb => lAr_ok h (by omega) (by omega) hb (okCons (by rw [hF]; exact c2) (okL1 (by rw [hN]; exact c1)))
      cases c3 : nrU (sp14A p (lsP p)) (sp14M p (lsP p)) (10 ^ (atL p - (n + 1))) with
      | true =>
        have hg := sr_2gt (sgn p) (cl p) (xp p) (sg p) ((sp14L p (lsP p) : Nat) : Int) ((sp14H p (lsP p) : Nat) : Int) ((sp14A p (lsP p) : Nat) : Int) (lsP p) ((10 ^ (atL p - n) : Nat) : Int) ((nrV p n : Nat) : Int) ((frV p n : Nat) : Int) (sp14M p (lsP p)) g
        rw [eu, Int.toNat_natCast, Int.toNat_natCast, (fin true c3).1, (fin true c3).2] at hg
        refine (goesT_runs (s0 := sc) tabSr hg (lg true c3)).mono fun e z he => ?_
        obtain ⟨rfl, ⟨g', z1⟩, z2⟩ := he
        exact ⟨nP p - (n + 1), by omega, n + 1, rfl, ⟨by omega, by omega⟩, g', z1, z2⟩
      | false =>
        have hg := sr_2gf (sgn p) (cl p) (xp p) (sg p) ((sp14L p (lsP p) : Nat) : Int) ((sp14H p (lsP p) : Nat) : Int) ((sp14A p (lsP p) : Nat) : Int) (lsP p) ((10 ^ (atL p - n) : Nat) : Int) ((nrV p n : Nat) : Int) ((frV p n : Nat) : Int) (sp14M p (lsP p)) g
        rw [eu, Int.toNat_natCast, Int.toNat_natCast, (fin false c3).1, (fin false c3).2] at hg
        refine (goesT_runs (s0 := sc) tabSr hg (lg false c3)).mono fun e z he => ?_
        obtain ⟨rfl, ⟨g', z1⟩, z2⟩ := he
        exact ⟨nP p - (n + 1), by omega, n + 1, rfl, ⟨by omega, by omega⟩, g', z1, z2⟩
/-- its digits and its power -/
def sdD (p : Int) : List UInt8 := trR (dcL (shV p))
def sdE (p : Int) : Int := lsP p + (((dcL (shV p)).length : Nat) : Int) - 1
theorem sr_calls {p : Int} (h : Fin14 p) (w : World) (hk : knT w) : Calls Tryz.prog 24 #[vT p] w fun r w' => r = .returned (vDc (sdD p) (sdE p)) ∧ Tidy w w' := by
  have ev : ∀ m : Mp, [vT p].map (mv m) = [vT p] := fun m => (List.map_congr_left fun y hy => mv_still (by rw [List.mem_singleton.1 hy]; rfl)).trans (List.map_id' _)
  have q0 : 0 ≤ sg p := by
    have := fr_lt p
    unfold sg
    split
    · omega
    · split <;> omega
  have f1 := h.ne
  have f2 := h.e0
  have f3 := h.e1
  have f4 := h.s1
  have main := calls_of_start (T := tabH Tryz.prog extY conSr hcSr) Tryz.func24 sr_body (h0 := hT0) (vals := [vT p]) (fun v hv => by rw [List.mem_singleton.1 hv]; rfl) (v := vDc (sdD p) (sdE p)) (by rfl) (m := fun b => (b, 0)) (w := w) ?_ (startT hk)
  · rw [ev] at main
    exact main
  obtain ⟨⟨l1, l2⟩, a, b⟩ := atL_bd h
  obtain ⟨_, ⟨p1, p17⟩, _⟩ := short_is h
  obtain ⟨_, _, j1, j2⟩ := at_bd h
  refine goesT_list tabSr (sr_pre (sgn p) (cl p) (xp p) (sg p)) (okL1 (decide_eq_true (by omega))) fun g => ?_
  -- the first loop
  refine Runs.seq (P1 := fun e y => match e with | none => srS1 p (atL p - 1) y | some none => False | some (some _) => False) (Runs.forLoop (R := fun _ => False) (P := srS1 p (atL p - 1)) (fun r y => ∃ i, r = atL p - 1 - i ∧ srS1 p i y) (sr_r1 h) (n := atL p - 1 - 0) ⟨0, rfl, Nat.zero_le _, g, rfl, rfl⟩) ?_ (fun e y he => by match e, he with | none, he => exact he.elim | some _, he => exact he.elim)
  rintro ⟨t, hh, sc⟩ ⟨_, g1, e1, e2⟩
  simp only at e1 e2
  subst e1 e2
  -- the first two numbers
  have mid : Runs (tabH Tryz.prog extY conSr hcSr) (sP Tryz.f24 4) (srA p ((10 ^ (atL p - 1) : Nat) : Int) ++ tl 44 g1, srK p, sc) fun e y => e = none ∧ srS2 p 1 y := by
    have fin : ∀ b, nrU (sp14A p (lsP p)) (sp14M p (lsP p)) (10 ^ (atL p - 1)) = b → ((arN b (sp14A p (lsP p)) (10 ^ (atL p - 1)) = nrV p 1) ∧ (arX b (sp14A p (lsP p)) (10 ^ (atL p - 1)) = frV p 1)) := fun b hb => by
      unfold nrV frV
      rw [hb]
      exact ⟨rfl, rfl⟩
    cases c3 : nrU (sp14A p (lsP p)) (sp14M p (lsP p)) (10 ^ (atL p - 1)) with
    | true =>
      have hg := sr_mt (sgn p) (cl p) (xp p) (sg p) ((sp14L p (lsP p) : Nat) : Int) ((sp14H p (lsP p) : Nat) : Int) ((sp14A p (lsP p) : Nat) : Int) (lsP p) ((10 ^ (atL p - 1) : Nat) : Int) (sp14M p (lsP p)) g1
      rw [Int.toNat_natCast, Int.toNat_natCast, (fin true c3).1, (fin true c3).2] at hg
      refine (goesT_runs (s0 := sc) tabSr hg (lAr_ok h (by omega) (by omega) c3 okN9R)).mono fun e z he => ?_
      obtain ⟨rfl, ⟨g', z1⟩, z2⟩ := he
      exact ⟨rfl, ⟨by omega, p1⟩, g', z1, z2⟩
    | false =>
      have hg := sr_mf (sgn p) (cl p) (xp p) (sg p) ((sp14L p (lsP p) : Nat) : Int) ((sp14H p (lsP p) : Nat) : Int) ((sp14A p (lsP p) : Nat) : Int) (lsP p) ((10 ^ (atL p - 1) : Nat) : Int) (sp14M p (lsP p)) g1
      rw [Int.toNat_natCast, Int.toNat_natCast, (fin false c3).1, (fin false c3).2] at hg
      refine (goesT_runs (s0 := sc) tabSr hg (lAr_ok h (by omega) (by omega) c3 okN9R)).mono fun e z he => ?_
      obtain ⟨rfl, ⟨g', z1⟩, z2⟩ := he
      exact ⟨rfl, ⟨by omega, p1⟩, g', z1, z2⟩
  refine Runs.seq mid ?_ (fun e y he => by cases he.1)
  rintro ⟨t, hh, sc2⟩ ⟨_, hs2⟩
  -- the second loop
  refine Runs.seq (P1 := fun e y => match e with | none => srS2 p (nP p) y | some none => False | some (some _) => False) (Runs.forLoop (R := fun _ => False) (P := srS2 p (nP p)) (fun r y => ∃ n, r = nP p - n ∧ srS2 p n y) (sr_r2 h) (n := nP p - 1) ⟨1, rfl, hs2⟩) ?_ (fun e y he => by match e, he with | none, he => exact he.elim | some _, he => exact he.elim)
  rintro ⟨t3, hh3, sc3⟩ ⟨_, g3, e1, e2⟩
  simp only at e1 e2
  subst e1 e2
  -- the end
  have sv := shV_is h
  have bd := two_bd h p1 p17
  have t19 := ten_le19 h
  have t17 : 10 ^ 17 ≤ 10 ^ (atL p - 1) := Nat.pow_le_pow_right (by omega) (by omega)
  have e17 : (10 : Nat) ^ 17 = 100000000000000000 := rfl
  have hN := hasI h (nrV p (nP p))
  have bds : ∀ x, x = lo14V p (nP p) ∨ x = hi14V p (nP p) → (100 : Int) ≤ ((x : Nat) : Int) ∧ ((x : Nat) : Int) < 18446744073709551616 ∧ -100000 ≤ lsP p ∧ lsP p ≤ 100000 := fun x hx => by
    rcases hx with rfl | rfl <;> omega
  have isN : nrV p (nP p) = lo14V p (nP p) ∨ nrV p (nP p) = hi14V p (nP p) := by rcases nr_is p (nP p) with ⟨c, _⟩ | ⟨c, _⟩ <;> simp [c]
  have isF : frV p (nP p) = lo14V p (nP p) ∨ frV p (nP p) = hi14V p (nP p) := by rcases nr_is p (nP p) with ⟨_, c, _⟩ | ⟨_, c, _⟩ <;> simp [c]
  cases c1 : inSp p (lsP p) (nrV p (nP p)) with
  | true =>
    have ex : shV p = nrV p (nP p) := by
      rw [sv]
      rcases nr_is p (nP p) with ⟨c, _, d⟩ | ⟨c, _, d⟩
      · rw [d, if_pos rfl, ← c, if_pos c1]
      · rw [d, if_neg (by decide), ← c, if_pos c1]
    refine (goesT_runs (s0 := sc3) tabSr (sr_e1 (sgn p) (cl p) (xp p) (sg p) ((sp14L p (lsP p) : Nat) : Int) ((sp14H p (lsP p) : Nat) : Int) ((sp14A p (lsP p) : Nat) : Int) (lsP p) ((10 ^ (atL p - nP p) : Nat) : Int) ((nrV p (nP p) : Nat) : Int) ((frV p (nP p) : Nat) : Int) (sp14M p (lsP p)) g3) (okCons (decide_eq_true (bds _ isN)) (okL1 (by rw [hN]; exact c1)))).mono fun e z he => ?_
    obtain ⟨rfl, ⟨g', z1⟩, z2⟩ := he
    refine ⟨.inr rfl, ?_⟩
    rw [z1, z2]
    unfold sdD sdE
    rw [ex]
    rfl
  | false =>
    have ex : shV p = frV p (nP p) := by
      rw [sv]
      rcases nr_is p (nP p) with ⟨c, c', d⟩ | ⟨c, c', d⟩
      · rw [d, if_pos rfl, ← c, if_neg (by rw [c1]; decide), c']
      · rw [d, if_neg (by decide), ← c, if_neg (by rw [c1]; decide), c']
    refine (goesT_runs (s0 := sc3) tabSr (sr_e2 (sgn p) (cl p) (xp p) (sg p) ((sp14L p (lsP p) : Nat) : Int) ((sp14H p (lsP p) : Nat) : Int) ((sp14A p (lsP p) : Nat) : Int) (lsP p) ((10 ^ (atL p - nP p) : Nat) : Int) ((nrV p (nP p) : Nat) : Int) ((frV p (nP p) : Nat) : Int) (sp14M p (lsP p)) g3) (okCons (decide_eq_true (bds _ isF)) (okL1 (by rw [hN]; exact c1)))).mono fun e z he => ?_
    obtain ⟨rfl, ⟨g', z1⟩, z2⟩ := he
    refine ⟨.inr rfl, ?_⟩
    rw [z1, z2]
    unfold sdD sdE
    rw [ex]
    rfl
end Go.Proofs.YtgefjidphfdhdaaGreatDoor
namespace Go.Proofs.YtgefjidphfdhdaaGreatDoor
open Go.KRun
set_option maxRecDepth 100000
set_option linter.unusedVariables false
/-- what a digit of base 16 stands for -/
def hxV (c : Int) : Int := if 48 ≤ c ∧ c ≤ 57 then c - 48 else if 97 ≤ c ∧ c ≤ 102 then c - 87 else 0
def hxOk (c : Int) : Bool := decide ((48 ≤ c ∧ c ≤ 57) ∨ (97 ≤ c ∧ c ≤ 102))
/-! ### the pieces of Parse -/
end Go.Proofs.YtgefjidphfdhdaaGreatDoor
namespace Go.Proofs.YtgefjidphfdhdaaGreatDoor
open Go.KRun Go.Pt
set_option maxRecDepth 100000
set_option linter.unusedVariables false
def hxT : List UInt8 := [48, 49, 50, 51, 52, 53, 54, 55, 56, 57, 97, 98, 99, 100, 101, 102]
def hSx (q : Int) : Int := q.fdiv (2 ^ min (Int.toNat 4) 64)
def hC (q : Int) : Int := ((hxT.getD (bAnd q 15).toNat 0).toNat : Nat)
def hBx (q : Int) : UInt8 := UInt8.ofNat (hC q).toNat
def hSn (p : Int) : Nat → Int
  | 0 => p
  | n + 1 => hSx (hSn p n)
def inX (q : Int) : Bool := decide (0 ≤ bAnd q 15 ∧ (bAnd q 15).toNat < hxT.length)
def hxW (p : Int) : ByteArray := ⟨#[hBx (hSn p 15), hBx (hSn p 14), hBx (hSn p 13), hBx (hSn p 12), hBx (hSn p 11), hBx (hSn p 10), hBx (hSn p 9), hBx (hSn p 8), hBx (hSn p 7), hBx (hSn p 6), hBx (hSn p 5), hBx (hSn p 4), hBx (hSn p 3), hBx (hSn p 2), hBx (hSn p 1), hBx (hSn p 0)]⟩
def hxL (p : Int) : Nat → Log
  | 0 => []
  | n + 1 => (false, false) :: (inX (hSn p n), true) :: hxL p n
theorem hex_fits (p : Int) : Fits (reckon (tabOf Tryz.prog extY conN true) 3000 43 [.int .u64 p] []) (.string (hxW p)) (hxL p 16) := ⟨by kernel_rfl, by kernel_rfl, by kernel_rfl, by kernel_rfl⟩
def rPx (q : Int) : List UInt8 := (hxT.drop (q.tmod 16).toNat).take ((IntKind.u64.wrap (q.tmod 16 + 1)).toNat - (q.tmod 16).toNat)
theorem nib_cases (q : Int) : q % 16 = 0 ∨ q % 16 = 1 ∨ q % 16 = 2 ∨ q % 16 = 3 ∨ q % 16 = 4 ∨ q % 16 = 5 ∨ q % 16 = 6 ∨ q % 16 = 7 ∨ q % 16 = 8 ∨ q % 16 = 9 ∨ q % 16 = 10 ∨ q % 16 = 11 ∨ q % 16 = 12 ∨ q % 16 = 13 ∨ q % 16 = 14 ∨ q % 16 = 15 := by omega
theorem tmod16 {q : Int} (h : 0 ≤ q) : q.tmod 16 = q % 16 := Int.tmod_eq_emod_of_nonneg h
theorem hS_eq {q : Int} (h : 0 ≤ q) : hSx q = q / 16 := by
  have e : ((2 : Int) ^ min (Int.toNat 4) 64) = 16 := rfl
  unfold hSx
  rw [e, Int.fdiv_eq_ediv_of_nonneg _ (by omega)]
theorem U_div {q : Int} (h : U q) : U (q / 16) := by
  have h0 := h.1
  have h1 := h.2
  exact ⟨by omega, by omega⟩
theorem hSn_U {p : Int} (h : U p) : ∀ n, U (hSn p n)
  | 0 => h
  | n + 1 => by
    show U (hSx (hSn p n))
    rw [hS_eq (hSn_U h n).1]
    exact U_div (hSn_U h n)
theorem hB_is {q : Int} (h : U q) : inX q = true ∧ rPx q = [hBx q] ∧ hxV (((hBx q).toNat : Nat) : Int) = q % 16 ∧ hxOk (((hBx q).toNat : Nat) : Int) = true ∧ decide (0 ≤ q.tmod 16 ∧ q.tmod 16 ≤ IntKind.u64.wrap (q.tmod 16 + 1) ∧ IntKind.u64.wrap (q.tmod 16 + 1) ≤ (hxT.length : Int)) = true := by
  unfold inX rPx hBx hC
  rw [tmod16 h.1, bAnd_nib h]
  rcases nib_cases q with e | e | e | e | e | e | e | e | e | e | e | e | e | e | e | e <;> rw [e] <;> exact ⟨by rfl, by rfl, by rfl, by rfl, by rfl⟩
theorem hxL_ok {p : Int} (h : U p) : ∀ n, okLog (hxL p n)
  | 0 => fun x hx => by cases hx
  | n + 1 => okCons rfl (okCons (hB_is (hSn_U h n)).1 (hxL_ok h n))
theorem hex_calls (p : Int) (hp : U p) (w : World) : Calls Tryz.prog 43 #[.int .u64 p] w fun e w' => e = .returned (.string (hxW p)) ∧ Tidy w w' :=
  fits_calls (tabY_ok conN_ok) (hex_fits p) (hxL_ok hp 16) (by rfl) (by rfl) w
end Go.Proofs.YtgefjidphfdhdaaGreatDoor
namespace Go.Proofs.YtgefjidphfdhdaaGreatDoor
open Go.KRun Go.Nt Go.Rd
set_option maxRecDepth 100000
/-- of what is no finite number: 0: a finite one, 1: none, 2, 3: endless -/
def spK (p : Int) : Int := if 3 < Go.Pt.cl p then 1 else if p = 9218868437227405312 then 2 else if p = 18442240474082181120 then 3 else 0
def spL (k : Int) : List UInt8 := if k = 1 then [110, 97, 110] else if k = 2 then [105, 110, 102] else if k = 3 then [45, 105, 110, 102] else []
end Go.Proofs.YtgefjidphfdhdaaGreatDoor
namespace Go.Proofs.YtgefjidphfdhdaaGreatDoor
open Go.KRun Go.Nt
def vRN (m : Bool) (e : Int) (v : Value) : Value := .agg #[.bool m, .int .i64 e, v]
end Go.Proofs.YtgefjidphfdhdaaGreatDoor
namespace Go.Proofs.YtgefjidphfdhdaaGreatDoor
open Go.KRun Go.Nt Go.Wd
set_option maxRecDepth 100000
set_option linter.unusedVariables false
abbrev pX9 (neg : Bool) (E N M : Int) (o n c : Nat) (r : List Value) : List Value := vRN neg E (sl 0 o n c) :: .int .i64 N :: .int .i64 M :: .pointer (some ⟨1, 0, none⟩) :: undef :: undef :: r
end Go.Proofs.YtgefjidphfdhdaaGreatDoor
namespace Go.Proofs.YtgefjidphfdhdaaGreatDoor
open Go.KRun Go.Nt Go.Rd Go.Pt
set_option maxRecDepth 100000
def fr14 (p : Int) : Int := (sg p).tmod 4503599627370496
def hd14 (p : Int) : List UInt8 := (hxW (fr14 p)).data.toList.drop 3
end Go.Proofs.YtgefjidphfdhdaaGreatDoor
namespace Go.Proofs.YtgefjidphfdhdaaGreatDoor
open Go.KRun Go.Nt Go.Rd Go.Pt
set_option maxRecDepth 100000
set_option linter.unusedSimpArgs false
/-- the text of base 16 -/
def hx14 (p : Int) : List UInt8 := if spK p ≠ 0 then spL (spK p) else if cl p = 0 then (if sgn p = true then [45] else []) ++ [48, 120, 48, 112, 48] else if cl p = 1 then hexT (sgn p) 48 (trR (hd14 p)) (-1022) else hexT (sgn p) 49 (trR (hd14 p)) (xp p + 52)
end Go.Proofs.YtgefjidphfdhdaaGreatDoor
namespace Go.Proofs.YtgefjidphfdhdaaGreatDoor
open Go.KRun Go.Nt Go.Rd Go.Wd Go.Pt
set_option maxRecDepth 100000
/-! ### digits as a text -/
def conDt : Con := alt 44 gSgn (alt 45 gPtd conN)
theorem conDt_ok : ConOk conDt := alt_ok Tryz.func44 rfl gSgn_ok (alt_ok Tryz.func45 rfl gPtd_ok conN_ok)
def hcDt : Hc := altH 46 (gT gIto) hcN
theorem hcDt_ok : HcOk hcDt := altH_ok Tryz.func46 rfl (gT_ok gIto_ok) hcN_ok
theorem dt14 (b : Bool) (D : List UInt8) (e : Int) : Fits (reckonAt (tabH Tryz.prog extY conDt hcDt) hT0 200 23 [.bool b, vDc D e] [sam true, sam true, sam true]) (bR (((mnL b ++ ptL D) ++ [101]) ++ expL e)) [(decide (((mnL b ++ ptL D) ++ [101]).length + (expL e).length ≤ 9223372036854775807), true), (decide (e.natAbs ≤ 2000000), true), (decide ((mnL b ++ ptL D).length + 1 ≤ 9223372036854775807), true), (decide ((mnL b).length + (ptL D).length ≤ 9223372036854775807), true), (decide (1 ≤ D.length ∧ D.length ≤ 100000), true)] := ⟨by kernel_rfl, by kernel_rfl, by kernel_rfl, by kernel_rfl⟩
theorem ptL_len (l : List UInt8) : (ptL l).length ≤ l.length + 1 := by
  unfold ptL
  split
  · simp
  · simp
  · simp only [List.length_cons]; omega
theorem tx_is (b : Bool) (D : List UInt8) (e : Int) : ((mnL b ++ ptL D) ++ [101]) ++ expL e = txL b D e := by
  unfold txL mnL ptL
  simp only [List.append_assoc, List.singleton_append]
  rfl
def gDtT : Ans := fun vals s =>
  match vals with
  | [.bool b, v] =>
    match dc2 v with
    | some (D, e) => some (bR (txL b D.data.toList e), s, [(decide (1 ≤ D.data.toList.length ∧ D.data.toList.length ≤ 100000 ∧ e.natAbs ≤ 2000000), true)])
    | none => none
  | _ => none
theorem gDtT_ok : AnsTOk 23 gDtT := by
  intro vals s v s' lg h hl w hk
  unfold gDtT at h
  split at h
  · split at h
    · rename_i b v0 o D e hv
      rw [dc2_spec hv]
      cases h
      obtain ⟨h1, h2, h3⟩ := of_decide_eq_true (hl _ (List.mem_singleton.2 rfl))
      have f := dt14 b D.data.toList e
      rw [tx_is] at f
      have l1 := mnL_len b
      have l2 := ptL_len D.data.toList
      have l3 := expL_len e
      exact fitsT (tabH_ok conDt_ok hcDt_ok) f (okCons (decide_eq_true (by rw [List.length_append, List.length_append, List.length_singleton]; omega)) (okCons (decide_eq_true h3) (okCons (decide_eq_true (by rw [List.length_append]; omega)) (okCons (decide_eq_true (by omega)) (okL1 (decide_eq_true ⟨h1, h2⟩)))))) (by rfl) (by rfl) hk
    · cases h
  · cases h
/-! ### the shortest digits, the pattern told ahead -/
def finB (p : Int) : Bool := decide (ex p ≠ 2047 ∧ (sg p).toNat ≠ 0)
theorem fin14_B {p : Int} (h : finB p = true) : Fin14 p := by
  obtain ⟨h1, h2⟩ := of_decide_eq_true h
  have a := Go.Rn.xp_bd p
  have b := Go.Rn.sg_lt p
  exact ⟨h1, h2, a.1, a.2, by omega⟩
def gSrT : Ans := fun vals s =>
  match vals, s with
  | [v], .inr (.inl p) :: s' =>
    match vP4 v with
    | some (m, c, e, q) => some (vDc (sdD p) (sdE p), s', [(m == sgn p, true), (decide (c = cl p ∧ e = xp p ∧ q = sg p), true), (finB p, true)])
    | none => none
  | _, _ => none
theorem gSrT_ok : AnsTOk 24 gSrT := by
  intro vals s v s' lg h hl w hk
  unfold gSrT at h
  split at h
  · split at h
    · rename_i v0 p s2 o m c e q hv
      rw [vP4_spec hv]
      cases h
      have l1 : (m == sgn p) = true := hl _ List.mem_cons_self
      obtain ⟨l2, l3, l4⟩ := of_decide_eq_true (hl _ (List.mem_cons_of_mem _ List.mem_cons_self))
      have l5 : finB p = true := hl _ (List.mem_cons_of_mem _ (List.mem_cons_of_mem _ (List.mem_singleton.2 rfl)))
      rw [eq_of_beq l1, l2, l3, l4]
      exact sr_calls (fin14_B l5) w hk
    · cases h
  · cases h
theorem take14_ok : AnsOk 20 (gU vT) := gU_ok take_calls
def conSS : Con := alt 20 (gU vT) (alt 58 (gU fun p => .int .i64 (cl p)) (alt 22 gNam (alt 40 gEx14 (alt 39 gRnd14 (alt 72 gRep conN)))))
theorem conSS_ok : ConOk conSS := alt_ok Tryz.func20 rfl take14_ok (alt_ok Tryz.func58 rfl cls_ok (alt_ok Tryz.func22 rfl gNam_ok (alt_ok Tryz.func40 rfl gEx14_ok (alt_ok Tryz.func39 rfl gRnd14_ok (alt_ok Tryz.func72 rfl gRep_ok conN_ok)))))
def hcSS : Hc := altH 23 (gT gDtT) (altH 24 (gT gSrT) hcN)
theorem hcSS_ok : HcOk hcSS := altH_ok Tryz.func23 rfl (gT_ok gDtT_ok) (altH_ok Tryz.func24 rfl (gT_ok gSrT_ok) hcN_ok)
theorem tabSS : TabOk (tabH Tryz.prog extY conSS hcSS) := tabH_ok conSS_ok hcSS_ok
/-! ### Short -/
/-- the shortest text of any pattern -/
def shT (p : Int) : List UInt8 := if spK p ≠ 0 then spL (spK p) else if cl p = 0 then txL (sgn p) [48] 0 else shS p
theorem so14_n (p : Int) : Fits (reckonAt (tabH Tryz.prog extY conSS hcSS) hT0 200 9 [.int .u64 p] [cmp false]) (bR (nmL (sgn p) (cl p))) [(decide (cl p ≤ 2), false), (decide (U p), true), (decide (U p), true)] := ⟨by kernel_rfl, by kernel_rfl, by kernel_rfl, by kernel_rfl⟩
theorem so14_z (p : Int) : Fits (reckonAt (tabH Tryz.prog extY conSS hcSS) hT0 200 9 [.int .u64 p] [cmp true, cmp true]) (bR (txL (sgn p) [48] 0)) [(true, true), (cl p == 0, true), (decide (cl p ≤ 2), true), (decide (U p), true), (decide (U p), true)] := ⟨by kernel_rfl, by kernel_rfl, by kernel_rfl, by kernel_rfl⟩
theorem so14_f (p : Int) : Fits (reckonAt (tabH Tryz.prog extY conSS hcSS) hT0 200 9 [.int .u64 p] [cmp true, cmp false, num p]) (bR (txL (sgn p) (sdD p) (sdE p))) [(decide (1 ≤ (sdD p).length ∧ (sdD p).length ≤ 100000 ∧ (sdE p).natAbs ≤ 2000000), true), (sgn p == sgn p, true), (decide (cl p = cl p ∧ xp p = xp p ∧ sg p = sg p), true), (finB p, true), (cl p == 0, false), (decide (cl p ≤ 2), true), (decide (U p), true), (decide (U p), true)] := ⟨by kernel_rfl, by kernel_rfl, by kernel_rfl, by kernel_rfl⟩
theorem nm_sp {p : Int} (hp : U p) (h : ¬ cl p ≤ 2) : spK p ≠ 0 ∧ nmL (sgn p) (cl p) = spL (spK p) := by
  have e := of_parts hp
  have h1 := ex_lt p
  have h2 := fr_lt p
  unfold spK nmL
  by_cases h3 : 3 < cl p
  · rw [if_pos h3, if_neg (by omega)]
    exact ⟨by decide, rfl⟩
  · have hc : cl p = 3 := by omega
    have hx : ex p = 2047 ∧ fr p = 0 := by
      unfold cl at hc
      split at hc
      · split at hc <;> omega
      · split at hc
        · split at hc
          · constructor <;> assumption
          · split at hc <;> omega
        · omega
    rw [if_neg h3, if_pos hc]
    rw [hx.1, hx.2] at e
    cases hs : sgn p with
    | true =>
      rw [hs, if_pos rfl] at e
      rw [if_neg (by omega), if_pos (by omega)]
      exact ⟨by decide, rfl⟩
    | false =>
      rw [hs, if_neg (by decide)] at e
      rw [if_pos (by omega)]
      exact ⟨by decide, rfl⟩
theorem fin_sp {p : Int} (h : cl p ≤ 2) : spK p = 0 := by
  have : ∀ q : Int, (q = 9218868437227405312 ∨ q = 18442240474082181120) → cl q = 3 := by
    rintro q (rfl | rfl) <;> decide
  unfold spK
  rw [if_neg (by omega), if_neg (fun c => by have := this p (.inl c); omega), if_neg (fun c => by have := this p (.inr c); omega)]
theorem fin_of {p : Int} (h : cl p ≤ 2) (h0 : cl p ≠ 0) : finB p = true := by
  have h1 := fr_lt p
  refine decide_eq_true ?_
  unfold cl at h h0
  unfold sg
  by_cases c1 : ex p = 0
  · rw [if_pos c1] at h h0 ⊢
    by_cases c2 : fr p = 0
    · rw [if_pos c2] at h0; exact absurd rfl h0
    · omega
  · rw [if_neg c1] at h h0 ⊢
    by_cases c2 : ex p = 2047
    · rw [if_pos c2] at h
      split at h
      · omega
      · split at h <;> omega
    · rw [if_neg c2]
      omega
theorem sd_bd {p : Int} (h : Fin14 p) : 1 ≤ (sdD p).length ∧ (sdD p).length ≤ 100000 ∧ (sdE p).natAbs ≤ 2000000 := by
  obtain ⟨_, _, j1, j2⟩ := at_bd h
  have l1 := dcL_len20 (shV p)
  have l2 := trR_len (dcL (shV p))
  refine ⟨?_, by unfold sdD; omega, by unfold sdE; omega⟩
  obtain ⟨_, b, _⟩ := short_is h
  obtain ⟨b1, b2, b3⟩ := two_bd h b.1 b.2
  have t19 := ten_le19 h
  have hp : 0 < 10 ^ (atL p - 1) := Nat.pow_pos (by omega)
  have hv : 0 < shV p ∧ shV p < 18446744073709551616 := by unfold shV; split <;> omega
  rcases Nat.eq_zero_or_pos (sdD p).length with c | c
  · exfalso
    have c' : trR (dcL (shV p)) = [] := List.length_eq_zero_iff.1 c
    have e := nmB_trR (b := 10) (dcL (shV p))
    rw [c'] at e
    have e2 : nmB 10 (dcL (shV p)) = shV p := decF_num (dcL_lt hv.2)
    rw [e2] at e
    have e3 : nmB 10 [] = 0 := rfl
    rw [e3, Nat.zero_mul] at e
    omega
  · exact c
theorem so_calls (p : Int) (hp : U p) (w : World) (hk : knT w) : Calls Tryz.prog 9 #[.int .u64 p] w fun e w' => e = .returned (bR (shT p)) ∧ Tidy w w' := by
  have hu : decide (U p) = true := decide_eq_true hp
  unfold shT
  by_cases h2 : cl p ≤ 2
  · rw [if_neg (fun c => c (fin_sp h2))]
    by_cases h0 : cl p = 0
    · rw [if_pos h0]
      exact fitsT tabSS (so14_z p) (okCons rfl (okCons (beqR_t h0) (okCons (decide_eq_true h2) (okCons hu (okL1 hu))))) (by rfl) (by rfl) hk
    · rw [if_neg h0]
      have hf := fin_of h2 h0
      have ht := shV_text (fin14_B hf)
      have f := so14_f p
      have et : txL (sgn p) (sdD p) (sdE p) = shS p := ht
      rw [et] at f
      exact fitsT tabSS f (okCons (decide_eq_true (sd_bd (fin14_B hf))) (okCons (by simp) (okCons (decide_eq_true ⟨rfl, rfl, rfl⟩) (okCons hf (okCons (beqR_f h0) (okCons (decide_eq_true h2) (okCons hu (okL1 hu)))))))) (by rfl) (by rfl) hk
  · obtain ⟨a, b⟩ := nm_sp hp h2
    rw [if_pos a, ← b]
    exact fitsT tabSS (so14_n p) (okCons (decide_eq_false h2) (okCons hu (okL1 hu))) (by rfl) (by rfl) hk
end Go.Proofs.YtgefjidphfdhdaaGreatDoor
