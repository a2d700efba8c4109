/-
  nat.moveDown, as a call among five blocks.
-/
import Derived.Test.YtecemjilmlagdaaDoorG32
import Derived.Test.YtecemjilmlagdaaDoorG31
namespace Go.Proofs.YtecemjilmlagdaaDoor
open Go.KRun Go.Nt
set_option maxRecDepth 100000
set_option linter.unusedVariables false

def dnX (x k : Int) : Int := x.fdiv (2 ^ min k.toNat 32)
def dnW (x k l : Int) : Int := brr (dnX x k) l
def dnH (x k : Int) : Int := IntKind.u32.wrap (x * 2 ^ min (IntKind.i64.wrap (32 - k)).toNat 32)
def mdP (F : Func) : List Code := [cFst (sn 0 F), cFst (sn 1 F)]
def mdL (F : Func) : Code := cIn (cIn (sn 2 F))
def mdF (w : Value) (k l i : Int) (x : Value) : List Value := [w, i6' k, undef, undef, uu l, i6' i, x]
theorem md_body : Tryd.f49.body = some (seqs (mdP Tryd.f49) (.block 0 (.loop (mdL Tryd.f49)))) := by kernel_rfl
theorem md_pre (b o m c : Nat) (k : Int) (h : Hp) : GoesT (evL (tabOf Tryd.prog extY conN true) 100 (mdP Tryd.f49) ([sl b o m c, i6' k] ++ List.replicate 28 undef, h, []) ⟨[], [], []⟩) 7 23 none (mdF (sl b o m c) k 0 (n1 m) undef) h [] := ⟨by kernel_rfl, by kernel_rfl, by kernel_rfl⟩
theorem md_out (w x : Value) (k l i : Int) (h : Hp) (g : Nat → Value) : GoesT (evC (tabOf Tryd.prog extY conN true) 100 false (mdL Tryd.f49) (mdF w k l i x ++ tl 23 g, h, [cmp false]) ⟨[], [], []⟩) 7 23 (some (some 0)) (mdF w k l i x) h [(decide (i ≥ 0), false)] := ⟨by kernel_rfl, by kernel_rfl, by kernel_rfl⟩
theorem md_go (o m c : Nat) (k l i x : Int) (x0 : Value) (la lb R Y Q : List Value) (g : Nat → Value) : GoesT (evC (tabOf Tryd.prog extY conN true) 100 false (mdL Tryd.f49) (mdF (sl 2 o m c) k l i x0 ++ tl 23 g, h5 la lb R Y Q, [cmp true, at_, val (uu x), at_, at_]) ⟨[], [], []⟩) 7 23 none (mdF (sl 2 o m c) k (dnH x k) (IntKind.i64.wrap (i - 1)) (uu x)) (h5 la lb (R.set (o + i.toNat * 1) (uu (dnW x k l))) Y Q)
    [(decide (IntKind.i64.wrap (32 - k) < 0), false), (decide (o + i.toNat * 1 < R.length), true), inR i m, (decide (k < 0), false), celR R o i x, inR i m, (decide (i ≥ 0), true)] := ⟨by kernel_rfl, by kernel_rfl, by kernel_rfl⟩
theorem md_res (w x : Value) (k l i : Int) (h : Hp) (g : Nat → Value) : resS Tryd.prog Tryd.f49 (mdF w k l i x ++ tl 23 g) h = some (.tuple #[]) := by kernel_rfl
end Go.Proofs.YtecemjilmlagdaaDoor

/-
  Numbers: a row moved down by less than a word.
-/
namespace Go.Nt

/-- one word more below: what is above it was moved down by q, r left over; q * p = 2^32 -/
theorem dn_word {p q x U : Int} (hq : 1 ≤ q) (hp : 1 ≤ p) (hpq : q * p = 4294967296) (hx : 0 ≤ x ∧ x < 4294967296) (_hU : 0 ≤ U) :
    (0 ≤ x / q ∧ x / q < p) ∧ (0 ≤ U % q ∧ U % q < q) ∧ (0 ≤ x / q + p * (U % q) ∧ x / q + p * (U % q) < 4294967296) ∧ (x + 4294967296 * U) / q = x / q + p * (U % q) + 4294967296 * (U / q) ∧ (x + 4294967296 * U) % q = x % q := by
  have h1 : 0 ≤ x / q := Int.ediv_nonneg hx.1 (by omega)
  have h2 : x / q < p := Int.ediv_lt_of_lt_mul (by omega) (by rw [Int.mul_comm, hpq]; exact hx.2)
  have h3 := Int.emod_nonneg U (show q ≠ 0 by omega)
  have h4 := Int.emod_lt_of_pos U (show 0 < q by omega)
  have h5 : p * (U % q) ≤ p * (q - 1) := Int.mul_le_mul_of_nonneg_left (by omega) (by omega)
  have h6 : p * (q - 1) = 4294967296 - p := by rw [Int.mul_sub, Int.mul_one, Int.mul_comm, hpq]
  have h7 : 0 ≤ p * (U % q) := Int.mul_nonneg (by omega) h3
  have hU' := Int.emod_add_mul_ediv U q
  have e1 : x + 4294967296 * U = x + q * (p * U) := by rw [← Int.mul_assoc, hpq]
  have e2 : p * U = p * (U % q) + 4294967296 * (U / q) := by
    have : p * U = p * (U % q + q * (U / q)) := by rw [hU']
    rw [this, Int.mul_add, ← Int.mul_assoc, Int.mul_comm p q, hpq]
  refine ⟨⟨h1, h2⟩, ⟨h3, h4⟩, by omega, ?_, ?_⟩
  · rw [e1, Int.add_mul_ediv_left _ _ (by omega), e2]
    omega
  · rw [e1, Int.add_mul_emod_self_left]
end Go.Nt

/-
  nat.moveDown: its loop, and the contract.
-/
namespace Go.Proofs.YtecemjilmlagdaaDoor
open Go.KRun Go.Nt
set_option maxRecDepth 100000
set_option linter.unusedVariables false

theorem dn_ok {x U : Int} {k : Nat} (hk : k < 32) (hx : 0 ≤ x ∧ x < 4294967296) (hU : 0 ≤ U) : dnW x k (2 ^ (32 - k) * (U % 2 ^ k)) = x / 2 ^ k + 2 ^ (32 - k) * (U % 2 ^ k) ∧ dnH x k = 2 ^ (32 - k) * (x % 2 ^ k) := by
  have q1 : (1 : Int) ≤ 2 ^ k := by have : (0 : Int) < 2 ^ k := Int.pow_pos (by omega); omega
  have p1 : (1 : Int) ≤ 2 ^ (32 - k) := by have : (0 : Int) < 2 ^ (32 - k) := Int.pow_pos (by omega); omega
  have hpq := two_parts (show k ≤ 32 by omega)
  obtain ⟨⟨h1, h2⟩, ⟨h3, h4⟩, ⟨h5, h6⟩, _, _⟩ := dn_word q1 p1 hpq hx hU
  have eX : dnX x k = x / 2 ^ k := by
    unfold dnX
    rw [Int.toNat_natCast, show min k 32 = k from by omega, Int.fdiv_eq_ediv_of_nonneg _ (by omega)]
  constructor
  · unfold dnW brr
    rw [eX, BitVec.or_comm, or_add h3 h1 h2 (by omega), u32w, Int.emod_eq_of_lt (by omega) (by omega)]
    omega
  · unfold dnH
    rw [wrapI (by omega) (by omega), show min ((32 : Int) - (k : Nat)).toNat 32 = 32 - k from by omega, u32w, ← hpq, Int.mul_comm x, Int.mul_comm (2 ^ k)]
    exact Int.mul_emod_mul_of_pos _ _ (by omega)
theorem md_runs {F G la lb Y Q : List Value} {o c k : Nat} {L : List Int} (hF : F.length = o) (hL : wds L) (hk : k < 32) (hN : L.length < 1099511627776) :
    Runs (tabOf Tryd.prog extY conN true) (seqs (mdP Tryd.f49) (.block 0 (.loop (mdL Tryd.f49)))) ([sl 2 o L.length c, i6' k] ++ List.replicate 28 undef, h5 la lb (F ++ (wU L ++ G)) Y Q, []) fun e y => (e = none ∨ e = some none) ∧ resS Tryd.prog Tryd.f49 y.1 y.2.1 = some (.tuple #[]) ∧ y.2.1.cut 5 = h5 la lb (F ++ (wU (dg L.length (vN L / 2 ^ k)) ++ G)) Y Q := by
  have hT := tabY_ok conN_ok
  have q1 : (1 : Int) ≤ 2 ^ k := by have : (0 : Int) < 2 ^ k := Int.pow_pos (by omega); omega
  have p1 : (1 : Int) ≤ 2 ^ (32 - k) := by have : (0 : Int) < 2 ^ (32 - k) := Int.pow_pos (by omega); omega
  have hpq := two_parts (show k ≤ 32 by omega)
  have e0 : L = L.take L.length ++ dg (L.length - L.length) (vN (L.drop L.length) / 2 ^ k) := by rw [List.take_length, Nat.sub_self]; simp [dg]
  refine goesT_list hT (md_pre 2 o L.length c k _) (fun x hx => by cases hx) fun g => ?_
  refine (Runs.forLoop (R := fun _ => False) (P := fun y => ∃ (l i : Int) (x : Value) (g : Nat → Value), y.1 = mdF (sl 2 o L.length c) k l i x ++ tl 23 g ∧ y.2.1 = h5 la lb (F ++ (wU (dg L.length (vN L / 2 ^ k)) ++ G)) Y Q)
    (fun r y => ∃ (x0 : Value) (g : Nat → Value), r ≤ L.length ∧ y.1 = mdF (sl 2 o L.length c) k (2 ^ (32 - k) * (vN (L.drop r) % 2 ^ k)) ((r : Int) - 1) x0 ++ tl 23 g ∧ y.2.1 = h5 la lb (F ++ (wU (L.take r ++ dg (L.length - r) (vN (L.drop r) / 2 ^ k)) ++ G)) Y Q)
    ?_ (n := L.length) ⟨undef, g, Nat.le_refl _, ?_, by rw [← e0]⟩).mono fun e' y he => ?_
  · rintro r ⟨t, h', s'⟩ ⟨x0, g, hr, ht, hh⟩
    simp only at ht hh
    subst ht hh
    cases r with
    | zero =>
      refine (goesT_runs hT (md_out _ x0 k _ _ _ g) (okOne (decide_eq_false (by omega)))).mono fun e' y he => ?_
      obtain ⟨rfl, ⟨g1, e2⟩, e3⟩ := he
      exact ⟨rfl, _, _, _, g1, e2, e3⟩
    | succ r =>
      have hlt : r < L.length := by omega
      have hx := hL (L.getD r 0) (by simp [List.getD, List.getElem?_eq_getElem hlt])
      have et := take_succ hlt
      have ed : L.drop r = L.getD r 0 :: L.drop (r + 1) := by
        rw [List.drop_eq_getElem_cons hlt]
        simp [List.getD, List.getElem?_eq_getElem hlt]
      generalize L.getD r 0 = x at *
      have hU := (vN_bd (L.drop (r + 1)) (fun z hz => hL z (List.mem_of_mem_drop hz))).1
      have hsp : L.take (r + 1) ++ dg (L.length - (r + 1)) (vN (L.drop (r + 1)) / 2 ^ k) = L.take r ++ x :: dg (L.length - (r + 1)) (vN (L.drop (r + 1)) / 2 ^ k) := by rw [et]; simp
      rw [hsp]
      generalize hux : L.drop (r + 1) = ux at *
      obtain ⟨w1, w2⟩ := dn_ok hk hx hU
      obtain ⟨_, _, ⟨w3, w4⟩, w5, w6⟩ := dn_word q1 p1 hpq hx hU
      have lt : (L.take r).length = r := by rw [List.length_take]; omega
      have cS := fR_get hF (L.take r) x (dg (L.length - (r + 1)) (vN ux / 2 ^ k)) G
      have eS := fR_set hF (L.take r) x (x / 2 ^ k + 2 ^ (32 - k) * (vN ux % 2 ^ k)) (dg (L.length - (r + 1)) (vN ux / 2 ^ k)) G
      rw [lt] at cS eS
      have lS : o + r < (F ++ (wU (L.take r ++ x :: dg (L.length - (r + 1)) (vN ux / 2 ^ k)) ++ G)).length := (List.getElem?_eq_some_iff.1 cS).1
      have ei : ((r + 1 : Nat) : Int) - 1 = (r : Int) := by omega
      have g1 := md_go o L.length c k (2 ^ (32 - k) * (vN ux % 2 ^ k)) r x x0 la lb (F ++ (wU (L.take r ++ x :: dg (L.length - (r + 1)) (vN ux / 2 ^ k)) ++ G)) Y Q g
      rw [w1, w2, Int.toNat_natCast, Nat.mul_one, eS] at g1
      rw [ei]
      have l2 : (inR r L.length).1 = (inR r L.length).2 := decide_eq_true (by omega)
      have d1 : decide (IntKind.i64.wrap (32 - (k : Int)) < 0) = false := by
        rw [wrapI (by omega) (by omega)]
        exact decide_eq_false (by omega)
      have d2 : decide ((k : Int) < 0) = false := decide_eq_false (by omega)
      have d3 : decide ((r : Int) ≥ 0) = true := decide_eq_true (by omega)
      have d4 : decide (o + r < (F ++ (wU (L.take r ++ x :: dg (L.length - (r + 1)) (vN ux / 2 ^ k)) ++ G)).length) = true := decide_eq_true lS
      refine (goesT_runs hT g1 (okTwo d1 (okTwo d4 (okTwo l2 (okTwo d2 (okTwo (cel_ok cS) (okTwo l2 (okOne d3)))))))).mono fun e' y he => ?_
      obtain ⟨rfl, ⟨g2, e2⟩, e3⟩ := he
      refine ⟨r, by omega, uu x, g2, by omega, ?_, ?_⟩
      · rw [e2, ed]
        simp only [vN]
        rw [w6, wrapI (by omega) (by omega)]
      · rw [e3, ed]
        simp only [vN]
        rw [w5, show L.length - r = (L.length - (r + 1)) + 1 by omega]
        simp only [dg]
        have m1 : (x / 2 ^ k + 2 ^ (32 - k) * (vN ux % 2 ^ k) + 4294967296 * (vN ux / 2 ^ k)) % 4294967296 = x / 2 ^ k + 2 ^ (32 - k) * (vN ux % 2 ^ k) := by omega
        have m2 : (x / 2 ^ k + 2 ^ (32 - k) * (vN ux % 2 ^ k) + 4294967296 * (vN ux / 2 ^ k)) / 4294967296 = vN ux / 2 ^ k := by omega
        rw [m1, m2]
        simp
  · show mdF _ _ _ _ _ ++ _ = _
    rw [List.drop_length, show n1 L.length = ((L.length : Nat) : Int) - 1 from by unfold n1; rw [wrapI (by omega) (by omega)]]
    simp [vN]
  · match e', he with
    | none, he =>
      obtain ⟨l, i, x, g, e1, e2⟩ := he
      refine ⟨.inl rfl, ?_, ?_⟩
      · rw [e1]; exact md_res _ _ _ _ _ _ _
      · rw [e2]; rfl
    | some none, he => exact he.elim
    | some (some _), he => exact he.elim
def okMd (la lb R Y Q : List Value) (t0 t1 t2 t3 t4 : TypeId) (o n c : Nat) (k : Int) : Bool := Nat.beq t0 tR && Nat.beq t1 tR && Nat.beq t2 tU && Nat.beq t3 tU && Nat.beq t4 tU && rowOk tU R o n c && Nat.blt n 1099511627776 && la.all still && lb.all still && Y.all still && Q.all still && decide (0 ≤ k ∧ k < 32)
def gMd5 : AnsH := fun vals h s =>
  match vals, h with
  | [.slice (some ⟨2, o, none⟩) n c, .int .i64 k], ⟨5, [(Q, t4), (Y, t3), (R, t2), (lb, t1), (la, t0)]⟩ => some (.tuple #[], h5 la lb (tmS R o n (dg n (vN (cutI R o n) / 2 ^ k.toNat))) Y Q, s, [(okMd la lb R Y Q t0 t1 t2 t3 t4 o n c k, true)])
  | _, _ => none
theorem gMd5_ok : AnsHOk 49 gMd5 := by
  intro vals h s v h' s' lg hg hl m B w E hv
  unfold gMd5 at hg
  split at hg
  · rename_i o n c k Q t4 Y t3 R t2 lb t1 la t0
    cases hg
    have q := hl _ (List.mem_singleton.2 rfl)
    unfold okMd at q
    simp only [Bool.and_eq_true, decide_eq_true_eq] at q
    obtain ⟨⟨⟨⟨⟨⟨⟨⟨⟨⟨⟨q0, q1⟩, q2⟩, q3⟩, q4⟩, ra⟩, qN⟩, s0⟩, s1⟩, s2⟩, s3⟩, k0, k1⟩ := q
    have q0 := Nat.eq_of_beq_eq_true q0
    have q1 := Nat.eq_of_beq_eq_true q1
    have q2 := Nat.eq_of_beq_eq_true q2
    have q3 := Nat.eq_of_beq_eq_true q3
    have q4 := Nat.eq_of_beq_eq_true q4
    subst q0 q1 q2 q3 q4
    obtain ⟨a1, a2, a3, a4, a5, a6, a7⟩ := row_of ra
    obtain ⟨K, rfl⟩ := Int.eq_ofNat_of_zero_le k0
    obtain ⟨eS, hF⟩ := row_parts ra
    have r := md_runs (G := R.drop (o + n)) (la := la) (lb := lb) (Y := Y) (Q := Q) (c := c) (k := K) hF a1.rng (by omega) (by rw [a2]; exact blt_iff.1 qN)
    rw [a2, ← eS] at r
    have ht : (h5 la lb (tmS R o n (dg n (vN (cutI R o n) / 2 ^ K))) Y Q).tight = true := by
      unfold Hp.tight tmS h5
      simp only [List.all_cons, List.all_nil, List.all_append, Bool.and_true, Bool.and_eq_true]
      refine ⟨all_mono (by omega) s3, all_mono (by omega) s2, ⟨?_, wU_tight _ _, ?_⟩, all_mono (by omega) s1, all_mono (by omega) s0⟩
      · rw [List.all_eq_true]
        exact fun v hv => still_lt (by omega) (a7 v (List.mem_of_mem_take hv))
      · rw [List.all_eq_true]
        exact fun v hv => still_lt (by omega) (a7 v (List.mem_of_mem_drop hv))
    exact hcalls_of_runs (T := tabOf Tryd.prog extY conN true) Tryd.func49 md_body (vals := [sl 2 o n c, i6' K]) (v := .tuple #[]) (h := h5 la lb R Y Q) (by rfl) ht r m B w E hv
  · cases hg
end Go.Proofs.YtecemjilmlagdaaDoor
