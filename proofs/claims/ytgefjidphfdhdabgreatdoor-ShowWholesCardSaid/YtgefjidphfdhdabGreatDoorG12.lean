/-
  ConO7, ConO8, NumQt, ConO9, ConOA, ConOB, SlK, PwD
-/
import Derived.Test.YtgefjidphfdhdabGreatDoorG11
namespace Go.Proofs.YtgefjidphfdhdabGreatDoor.Na
open Go.KRun Go.Nt
set_option maxRecDepth 100000
set_option linter.unusedVariables false
theorem dn_ok {x U : Int} {k : Nat} (hk : k < 32) (hx : 0 ≤ x ∧ x < 4294967296) (hU : 0 ≤ U) : dnW x k (2 ^ (32 - k) * (U % 2 ^ k)) = x / 2 ^ k + 2 ^ (32 - k) * (U % 2 ^ k) ∧ dnH x k = 2 ^ (32 - k) * (x % 2 ^ k) := by
  have q1 : (1 : Int) ≤ 2 ^ k := by have : (0 : Int) < 2 ^ k := Int.pow_pos (by omega); omega
  have p1 : (1 : Int) ≤ 2 ^ (32 - k) := by have : (0 : Int) < 2 ^ (32 - k) := Int.pow_pos (by omega); omega
  have hpq := two_parts (show k ≤ 32 by omega)
  obtain ⟨⟨h1, h2⟩, ⟨h3, h4⟩, ⟨h5, h6⟩, _, _⟩ := dn_word q1 p1 hpq hx hU
  have eX : dnX x k = x / 2 ^ k := by
    unfold dnX
    rw [Int.toNat_natCast, show min k 32 = k from by omega, Int.fdiv_eq_ediv_of_nonneg _ (by omega)]
  constructor
  · unfold dnW brr
    rw [eX, BitVec.or_comm, or_add h3 h1 h2 (by omega), u32w, Int.emod_eq_of_lt (by omega) (by omega)]
    omega
  · unfold dnH
    rw [wrapI (by omega) (by omega), show min ((32 : Int) - (k : Nat)).toNat 32 = 32 - k from by omega, u32w, ← hpq, Int.mul_comm x, Int.mul_comm (2 ^ k)]
    exact Int.mul_emod_mul_of_pos _ _ (by omega)
theorem md_runs {F G la lb Y Q : List Value} {o c k : Nat} {L : List Int} (hF : F.length = o) (hL : wds L) (hk : k < 32) (hN : L.length < 1099511627776) :
    Runs (tabOf Tryz.prog extY conN true) (seqs (mdP Tryz.f125) (.block 0 (.loop (mdL Tryz.f125)))) ([sl 2 o L.length c, i6' k] ++ List.replicate 28 undef, h5 la lb (F ++ (wU L ++ G)) Y Q, []) fun e y => (e = none ∨ e = some none) ∧ resS Tryz.prog Tryz.f125 y.1 y.2.1 = some (.tuple #[]) ∧ y.2.1.cut 5 = h5 la lb (F ++ (wU (dg L.length (vN L / 2 ^ k)) ++ G)) Y Q := by
  have hT := tabY_ok conN_ok
  have q1 : (1 : Int) ≤ 2 ^ k := by have : (0 : Int) < 2 ^ k := Int.pow_pos (by omega); omega
  have p1 : (1 : Int) ≤ 2 ^ (32 - k) := by have : (0 : Int) < 2 ^ (32 - k) := Int.pow_pos (by omega); omega
  have hpq := two_parts (show k ≤ 32 by omega)
  have e0 : L = L.take L.length ++ dg (L.length - L.length) (vN (L.drop L.length) / 2 ^ k) := by rw [List.take_length, Nat.sub_self]; simp [dg]
  refine goesT_list hT (md_pre 2 o L.length c k _) (fun x hx => by cases hx) fun g => ?_
  refine (Runs.forLoop (R := fun _ => False) (P := fun y => ∃ (l i : Int) (x : Value) (g : Nat → Value), y.1 = mdF (sl 2 o L.length c) k l i x ++ tl 23 g ∧ y.2.1 = h5 la lb (F ++ (wU (dg L.length (vN L / 2 ^ k)) ++ G)) Y Q)
    (fun r y => ∃ (x0 : Value) (g : Nat → Value), r ≤ L.length ∧ y.1 = mdF (sl 2 o L.length c) k (2 ^ (32 - k) * (vN (L.drop r) % 2 ^ k)) ((r : Int) - 1) x0 ++ tl 23 g ∧ y.2.1 = h5 la lb (F ++ (wU (L.take r ++ dg (L.length - r) (vN (L.drop r) / 2 ^ k)) ++ G)) Y Q)
    ?_ (n := L.length) ⟨undef, g, Nat.le_refl _, ?_, by rw [← e0]⟩).mono fun e' y he => ?_
  · rintro r ⟨t, h', s'⟩ ⟨x0, g, hr, ht, hh⟩
    simp only at ht hh
    subst ht hh
    cases r with
    | zero =>
      refine (goesT_runs hT (md_out _ x0 k _ _ _ g) (okOne (decide_eq_false (by omega)))).mono fun e' y he => ?_
      obtain ⟨rfl, ⟨g1, e2⟩, e3⟩ := he
      exact ⟨rfl, _, _, _, g1, e2, e3⟩
    | succ r =>
      have hlt : r < L.length := by omega
      have hx := hL (L.getD r 0) (by simp [List.getD, List.getElem?_eq_getElem hlt])
      have et := take_succ hlt
      have ed : L.drop r = L.getD r 0 :: L.drop (r + 1) := by
        rw [List.drop_eq_getElem_cons hlt]
        simp [List.getD, List.getElem?_eq_getElem hlt]
      generalize L.getD r 0 = x at *
      have hU := (vN_bd (L.drop (r + 1)) (fun z hz => hL z (List.mem_of_mem_drop hz))).1
      have hsp : L.take (r + 1) ++ dg (L.length - (r + 1)) (vN (L.drop (r + 1)) / 2 ^ k) = L.take r ++ x :: dg (L.length - (r + 1)) (vN (L.drop (r + 1)) / 2 ^ k) := by rw [et]; simp
      rw [hsp]
      generalize hux : L.drop (r + 1) = ux at *
      obtain ⟨w1, w2⟩ := dn_ok hk hx hU
      obtain ⟨_, _, ⟨w3, w4⟩, w5, w6⟩ := dn_word q1 p1 hpq hx hU
      have lt : (L.take r).length = r := by rw [List.length_take]; omega
      have cS := fR_get hF (L.take r) x (dg (L.length - (r + 1)) (vN ux / 2 ^ k)) G
      have eS := fR_set hF (L.take r) x (x / 2 ^ k + 2 ^ (32 - k) * (vN ux % 2 ^ k)) (dg (L.length - (r + 1)) (vN ux / 2 ^ k)) G
      rw [lt] at cS eS
      have lS : o + r < (F ++ (wU (L.take r ++ x :: dg (L.length - (r + 1)) (vN ux / 2 ^ k)) ++ G)).length := (List.getElem?_eq_some_iff.1 cS).1
      have ei : ((r + 1 : Nat) : Int) - 1 = (r : Int) := by omega
      have g1 := md_go o L.length c k (2 ^ (32 - k) * (vN ux % 2 ^ k)) r x x0 la lb (F ++ (wU (L.take r ++ x :: dg (L.length - (r + 1)) (vN ux / 2 ^ k)) ++ G)) Y Q g
      rw [w1, w2, Int.toNat_natCast, Nat.mul_one, eS] at g1
      rw [ei]
      have l2 : (inR r L.length).1 = (inR r L.length).2 := decide_eq_true (by omega)
      have d1 : decide (IntKind.i64.wrap (32 - (k : Int)) < 0) = false := by
        rw [wrapI (by omega) (by omega)]
        exact decide_eq_false (by omega)
      have d2 : decide ((k : Int) < 0) = false := decide_eq_false (by omega)
      have d3 : decide ((r : Int) ≥ 0) = true := decide_eq_true (by omega)
      have d4 : decide (o + r < (F ++ (wU (L.take r ++ x :: dg (L.length - (r + 1)) (vN ux / 2 ^ k)) ++ G)).length) = true := decide_eq_true lS
      refine (goesT_runs hT g1 (okTwo d1 (okTwo d4 (okTwo l2 (okTwo d2 (okTwo (cel_ok cS) (okTwo l2 (okOne d3)))))))).mono fun e' y he => ?_
      obtain ⟨rfl, ⟨g2, e2⟩, e3⟩ := he
      refine ⟨r, by omega, uu x, g2, by omega, ?_, ?_⟩
      · rw [e2, ed]
        simp only [vN]
        rw [w6, wrapI (by omega) (by omega)]
      · rw [e3, ed]
        simp only [vN]
        rw [w5, show L.length - r = (L.length - (r + 1)) + 1 by omega]
        simp only [dg]
        have m1 : (x / 2 ^ k + 2 ^ (32 - k) * (vN ux % 2 ^ k) + 4294967296 * (vN ux / 2 ^ k)) % 4294967296 = x / 2 ^ k + 2 ^ (32 - k) * (vN ux % 2 ^ k) := by omega
        have m2 : (x / 2 ^ k + 2 ^ (32 - k) * (vN ux % 2 ^ k) + 4294967296 * (vN ux / 2 ^ k)) / 4294967296 = vN ux / 2 ^ k := by omega
        rw [m1, m2]
        simp
  · show mdF _ _ _ _ _ ++ _ = _
    rw [List.drop_length, show n1 L.length = ((L.length : Nat) : Int) - 1 from by unfold n1; rw [wrapI (by omega) (by omega)]]
    simp [vN]
  · match e', he with
    | none, he =>
      obtain ⟨l, i, x, g, e1, e2⟩ := he
      refine ⟨.inl rfl, ?_, ?_⟩
      · rw [e1]; exact md_res _ _ _ _ _ _ _
      · rw [e2]; rfl
    | some none, he => exact he.elim
    | some (some _), he => exact he.elim
def okMd (la lb R Y Q : List Value) (t0 t1 t2 t3 t4 : TypeId) (o n c : Nat) (k : Int) : Bool := Nat.beq t0 tR && Nat.beq t1 tR && Nat.beq t2 tU && Nat.beq t3 tU && Nat.beq t4 tU && rowOk tU R o n c && Nat.blt n 1099511627776 && la.all still && lb.all still && Y.all still && Q.all still && decide (0 ≤ k ∧ k < 32)
def gMd5 : AnsH := fun vals h s =>
  match vals, h with
  | [.slice (some ⟨2, o, none⟩) n c, .int .i64 k], ⟨5, [(Q, t4), (Y, t3), (R, t2), (lb, t1), (la, t0)]⟩ => some (.tuple #[], h5 la lb (tmS R o n (dg n (vN (cutI R o n) / 2 ^ k.toNat))) Y Q, s, [(okMd la lb R Y Q t0 t1 t2 t3 t4 o n c k, true)])
  | _, _ => none
theorem gMd5_ok : AnsHOk 125 gMd5 := by
  intro vals h s v h' s' lg hg hl m B w E hv
  unfold gMd5 at hg
  split at hg
  · rename_i o n c k Q t4 Y t3 R t2 lb t1 la t0
    cases hg
    have q := hl _ (List.mem_singleton.2 rfl)
    unfold okMd at q
    simp only [Bool.and_eq_true, decide_eq_true_eq] at q
    obtain ⟨⟨⟨⟨⟨⟨⟨⟨⟨⟨⟨q0, q1⟩, q2⟩, q3⟩, q4⟩, ra⟩, qN⟩, s0⟩, s1⟩, s2⟩, s3⟩, k0, k1⟩ := q
    have q0 := Nat.eq_of_beq_eq_true q0
    have q1 := Nat.eq_of_beq_eq_true q1
    have q2 := Nat.eq_of_beq_eq_true q2
    have q3 := Nat.eq_of_beq_eq_true q3
    have q4 := Nat.eq_of_beq_eq_true q4
    subst q0 q1 q2 q3 q4
    obtain ⟨a1, a2, a3, a4, a5, a6, a7⟩ := row_of ra
    obtain ⟨K, rfl⟩ := Int.eq_ofNat_of_zero_le k0
    obtain ⟨eS, hF⟩ := row_parts ra
    have r := md_runs (G := R.drop (o + n)) (la := la) (lb := lb) (Y := Y) (Q := Q) (c := c) (k := K) hF a1.rng (by omega) (by rw [a2]; exact blt_iff.1 qN)
    rw [a2, ← eS] at r
    have ht : (h5 la lb (tmS R o n (dg n (vN (cutI R o n) / 2 ^ K))) Y Q).tight = true := by
      unfold Hp.tight tmS h5
      simp only [List.all_cons, List.all_nil, List.all_append, Bool.and_true, Bool.and_eq_true]
      refine ⟨all_mono (by omega) s3, all_mono (by omega) s2, ⟨?_, wU_tight _ _, ?_⟩, all_mono (by omega) s1, all_mono (by omega) s0⟩
      · rw [List.all_eq_true]
        exact fun v hv => still_lt (by omega) (a7 v (List.mem_of_mem_take hv))
      · rw [List.all_eq_true]
        exact fun v hv => still_lt (by omega) (a7 v (List.mem_of_mem_drop hv))
    exact hcalls_of_runs (T := tabOf Tryz.prog extY conN true) Tryz.func125 md_body (vals := [sl 2 o n c, i6' K]) (v := .tuple #[]) (h := h5 la lb R Y Q) (by rfl) ht r m B w E hv
  · cases hg
def hcD : Hc := altH 124 gTd5 (altH 59 gMup4 (altH 125 gMd5 (altH 61 gBoth (altH 122 gCmp (altH 60 gTrim hcN)))))
theorem hcD_ok : HcOk hcD := altH_ok Tryz.func124 rfl gTd5_ok (altH_ok Tryz.func59 rfl gMup4_ok (altH_ok Tryz.func125 rfl gMd5_ok (altH_ok Tryz.func61 rfl gBoth_ok (altH_ok Tryz.func122 rfl gCmp_ok (altH_ok Tryz.func60 rfl gTrim_ok hcN_ok)))))
def dmP (F : Func) : List Code := [cFst (sn 0 F), cFst (sn 1 F), cFst (sn 2 F), cFst (sn 3 F), cFst (sn 4 F), cFst (sn 5 F), cFst (sn 6 F), cFst (sn 7 F), cFst (sn 8 F), cFst (sn 9 F), cFst (sn 10 F), cFst (sn 11 F)]
def dmL (F : Func) : Code := cIn (cIn (cSnd (cFst (sn 12 F))))
theorem dm_body : Tryz.f112.body = some (seqs (dmP Tryz.f112) (.seq (.seq (cFst (cFst (sn 12 Tryz.f112))) (.block 0 (.loop (dmL Tryz.f112)))) (sn 13 Tryz.f112))) := by kernel_rfl
theorem dm_cbody : Tryz.f112.body = some (cBody Tryz.f112) := by kernel_rfl
def dmU (x : Int) : Int := IntKind.i64.wrap (32 - ((Go.bitLen x.toNat : Nat) : Int))
def dmQ (n n' : Nat) : Int := IntKind.i64.wrap (IntKind.i64.wrap ((n : Int) - (n' : Int)) + 1)
def dmF (o n c o' n' c' zr zb zq : Nat) (u : Int) : List Value := [sl 0 o n c, sl 1 o' n' c', undef, undef, nilS, nilS, .nilIface, .nilIface, sl 2 0 zr zr, i6' u, sl 3 0 zb zb, sl 4 0 zq zq]
def dmY (lb : List Value) (o' n' : Nat) (x : Int) : List Value := upT (cpS lb o' n') 0 ((n' : Int)).toNat (dmU x)
def dmR (la : List Value) (o n : Nat) (x : Int) : List Value := upT (cpy la o n) 0 (nP n).toNat (dmU x)
theorem dm_pre (o n c o' n' c' : Nat) (x : Int) (la lb : List Value) : GoesT (evL (tabH Tryz.prog extY conL hcD) 300 (dmP Tryz.f112) ([sl 0 o n c, sl 1 o' n' c'] ++ List.replicate 87 undef, h2 la lb, [cmp false, cmp false, at_, at_, cmp false, at_, val (uu x), at_, at_, at_]) ⟨[], [], []⟩) 12 77 none (dmF o n c o' n' c' (nP n).toNat ((n' : Int)).toNat (dmQ n n').toNat (dmU x)) (h5 la lb (dmR la o n x) (dmY lb o' n' x) (List.replicate (dmQ n n').toNat (uu 0)))
    [(okMakeB 4 (dmQ n n') (dmQ n n'), true), (okMv (dmY lb o' n' x) la lb (cpy la o n) tR tR tU tU 0 (nP n).toNat (nP n).toNat (dmU x), true), (okMv (cpy la o n) la lb (cpS lb o' n') tR tR tU tU 0 ((n' : Int)).toNat ((n' : Int)).toNat (dmU x), true), (csOk lb o' n', true), (okMakeB 4 n' n', true), (decide (0 ≤ x ∧ x < 4294967296), true), celR lb o' (n1 n') x, inR (n1 n') n',
      (decide (cmpL (cutI la o n) (cutI lb o' n') < 0), false), (rowOk tR la o n c, true), (rowOk tR lb o' n' c', true), (cpOk la o n, true), (okMakeB 4 (nP n) (nP n), true), ((n' : Int) == 0, false), (rowOk tR la o n c, true), (rowOk tR lb o' n' c', true), (badL (cutI la o n) || badL (cutI lb o' n'), false)] := ⟨by kernel_rfl, by kernel_rfl, by kernel_rfl⟩
def dmG (o n c o' n' c' zr zb zq : Nat) (u i : Int) : List Value := [sl 0 o n c, sl 1 o' n' c', undef, undef, nilS, nilS, .nilIface, .nilIface, sl 2 0 zr zr, i6' u, sl 3 0 zb zb, sl 4 0 zq zq, i6' i]
theorem dm_r (o n c o' n' c' zr zb zq : Nat) (u : Int) (h : Hp) (g : Nat → Value) : GoesT (evC (tabH Tryz.prog extY conL hcD) 300 false (cFst (cFst (sn 12 Tryz.f112))) (dmF o n c o' n' c' zr zb zq u ++ tl 77 g, h, []) ⟨[], [], []⟩) 13 76 none (dmG o n c o' n' c' zr zb zq u (n1 zq)) h [] := ⟨by kernel_rfl, by kernel_rfl, by kernel_rfl⟩
theorem dm_out (o n c o' n' c' zr zb zq : Nat) (u i : Int) (h : Hp) (g : Nat → Value) : GoesT (evC (tabH Tryz.prog extY conL hcD) 300 false (dmL Tryz.f112) (dmG o n c o' n' c' zr zb zq u i ++ tl 76 g, h, [cmp false]) ⟨[], [], []⟩) 13 76 (some (some 0)) (dmG o n c o' n' c' zr zb zq u i) h [(decide (i ≥ 0), false)] := ⟨by kernel_rfl, by kernel_rfl, by kernel_rfl⟩
def dmH (i : Int) (zb : Nat) : Int := IntKind.i64.wrap (IntKind.i64.wrap (i + (zb : Int)) + 1)
def dmN (i : Int) (zb : Nat) : Nat := (dmH i zb).toNat - i.toNat
theorem dm_go (o n c o' n' c' zr zb zq : Nat) (u i : Int) (la lb R Y Q : List Value) (g : Nat → Value) : GoesT (evC (tabH Tryz.prog extY conL hcD) 300 false (dmL Tryz.f112) (dmG o n c o' n' c' zr zb zq u i ++ tl 76 g, h5 la lb R Y Q, [cmp true, num 0, at_, at_]) ⟨[], [], []⟩) 13 76 none (dmG o n c o' n' c' zr zb zq u (IntKind.i64.wrap (i - 1)))
    (h5 la lb (tmS R (pJ i) (dmN i zb) (dg (dmN i zb) (vN (cutI R (pJ i) (dmN i zb)) % vN (cutI Y 0 zb)))) Y (Q.set (pJ i) (uu (vN (cutI R (pJ i) (dmN i zb)) / vN (cutI Y 0 zb)))))
    [(decide (pJ i < Q.length), true), inR i zq, (okTo la lb R Y Q tR tR tU tU tU (pJ i) (dmN i zb) (zr - i.toNat) zb zb && decide (0 < zb ∧ 0 < (cutI Y 0 zb).getD (zb - 1) 0 ∧ vN (cutI R (pJ i) (dmN i zb)) < 4294967296 * vN (cutI Y 0 zb)), true), (smallC zr, true), (okPart i (dmH i zb) zr zr, true), (decide ((zr : Int) = i ∧ i ≠ 0), false), (decide (i ≥ 0), true)] := ⟨by kernel_rfl, by kernel_rfl, by kernel_rfl⟩
def dmD (R : List Value) (zr : Nat) (u : Int) : List Value := tmS R 0 zr (dg zr (vN (cutI R 0 zr) / 2 ^ u.toNat))
theorem dm_end (o n c o' n' c' zr zb zq : Nat) (u i : Int) (la lb R Y Q : List Value) (g : Nat → Value) : GoesT (evC (tabH Tryz.prog extY conL hcD) 300 false (sn 13 Tryz.f112) (dmG o n c o' n' c' zr zb zq u i ++ tl 76 g, h5 la lb R Y Q, []) ⟨[], [], []⟩) 7 82 (some none) [sl 0 o n c, sl 1 o' n' c', undef, undef, sl 4 0 (trimN (cutI Q 0 zq)) zq, sl 2 0 (trimN (cutI (dmD R zr u) 0 zr)) zr, .nilIface] (h5 la lb (dmD R zr u) Y Q)
    [(rowOk tU (dmD R zr u) 0 zr zr, true), (rowOk tU Q 0 zq zq, true), (okMd la lb R Y Q tR tR tU tU tU 0 zr zr u, true)] := ⟨by kernel_rfl, by kernel_rfl, by kernel_rfl⟩
end Go.Proofs.YtgefjidphfdhdabGreatDoor.Na
namespace Go.Nt
theorem dg_add : ∀ (a b : Nat) (V : Int), dg (a + b) V = dg a V ++ dg b (V / 4294967296 ^ a)
  | 0, b, V => by simp [dg]
  | a + 1, b, V => by
    rw [show a + 1 + b = (a + b) + 1 by omega]
    simp only [dg]
    rw [dg_add a b, pw, Int.ediv_ediv_of_nonneg (show (0 : Int) ≤ 4294967296 by omega)]
    rfl
theorem dg_parts (i m j : Nat) (W : Int) : dg (i + (m + j)) W = dg i W ++ (dg m (W / 4294967296 ^ i) ++ dg j (W / 4294967296 ^ i / 4294967296 ^ m)) := by
  rw [dg_add, dg_add]
/-- what a round leaves -/
def qtW (W X : Int) (i : Nat) : Int := W % 4294967296 ^ i + 4294967296 ^ i * X
theorem qtW_div (W X : Int) (i : Nat) : qtW W X i / 4294967296 ^ i = X := by
  have hp := pw_pos i
  unfold qtW
  rw [Int.add_mul_ediv_left _ _ (by omega), Int.ediv_eq_zero_of_lt (Int.emod_nonneg _ (by omega)) (Int.emod_lt_of_pos _ hp), Int.zero_add]
theorem qtW_low (W X : Int) (i : Nat) : dg i (qtW W X i) = dg i W := by
  have h := Int.emod_add_mul_ediv W (4294967296 ^ i)
  have e : qtW W X i = W + 4294967296 ^ i * (X - W / 4294967296 ^ i) := by
    unfold qtW
    rw [Int.mul_sub]
    omega
  rw [e, dg_mod]
theorem qt_words {i m j : Nat} {W X : Int} (hX : 0 ≤ X ∧ X < 4294967296 ^ m) : dg i W ++ (dg m X ++ dg j 0) = dg (i + (m + j)) (qtW W X i) := by
  rw [dg_parts, qtW_low, qtW_div, Int.ediv_eq_zero_of_lt hX.1 hX.2]
/-- a round: T the part, q the digit -/
theorem qt_round {W B W0 v : Int} {i n : Nat} (hB : 0 < B ∧ B < 4294967296 ^ n) (hW : 0 ≤ W ∧ W < B * 4294967296 ^ (i + 1)) (h : W0 = W + B * (4294967296 ^ (i + 1) * v)) :
    (0 ≤ W / 4294967296 ^ i ∧ W / 4294967296 ^ i < 4294967296 * B ∧ W / 4294967296 ^ i < 4294967296 ^ (n + 1)) ∧ (0 ≤ W / 4294967296 ^ i % B ∧ W / 4294967296 ^ i % B < 4294967296 ^ (n + 1)) ∧ (0 ≤ qtW W (W / 4294967296 ^ i % B) i ∧ qtW W (W / 4294967296 ^ i % B) i < B * 4294967296 ^ i) ∧ W0 = qtW W (W / 4294967296 ^ i % B) i + B * (4294967296 ^ i * (W / 4294967296 ^ i / B + 4294967296 * v)) := by
  have hp := pw_pos i
  have hn := pw_pos n
  have hd := Int.emod_add_mul_ediv W (4294967296 ^ i)
  have h1 := Int.emod_nonneg W (show (4294967296 : Int) ^ i ≠ 0 by omega)
  have h2 := Int.emod_lt_of_pos W hp
  have t0 : 0 ≤ W / 4294967296 ^ i := Int.ediv_nonneg hW.1 (by omega)
  have t1 : W / 4294967296 ^ i < 4294967296 * B := Int.ediv_lt_of_lt_mul hp (by
    have := hW.2
    rw [pw, ← Int.mul_assoc, Int.mul_comm B 4294967296] at this
    exact this)
  have t2 : W / 4294967296 ^ i < 4294967296 ^ (n + 1) := by rw [pw]; omega
  generalize hT : W / 4294967296 ^ i = T at *
  have x0 := Int.emod_nonneg T (show B ≠ 0 by omega)
  have x1 := Int.emod_lt_of_pos T hB.1
  have hx := Int.emod_add_mul_ediv T B
  generalize T % B = X at *
  generalize T / B = q at *
  have x2 : X < 4294967296 ^ (n + 1) := by rw [pw]; omega
  have y1 : 4294967296 ^ i * X ≤ 4294967296 ^ i * (B - 1) := Int.mul_le_mul_of_nonneg_left (by omega) (by omega)
  have y2 : 0 ≤ 4294967296 ^ i * X := Int.mul_nonneg (by omega) x0
  rw [Int.mul_sub, Int.mul_one, Int.mul_comm _ B] at y1
  refine ⟨⟨t0, t1, t2⟩, ⟨x0, x2⟩, ?_, ?_⟩
  · unfold qtW
    omega
  · unfold qtW
    have hT2 : 4294967296 ^ i * T = 4294967296 ^ i * X + 4294967296 ^ i * (B * q) := by rw [← Int.mul_add, hx]
    rw [h, pw, Int.mul_add (4294967296 ^ i) q, Int.mul_add B]
    have e1 : B * (4294967296 ^ i * q) = 4294967296 ^ i * (B * q) := by rw [← Int.mul_assoc, Int.mul_comm B, Int.mul_assoc]
    have e2 : 4294967296 ^ i * (4294967296 * v) = 4294967296 * 4294967296 ^ i * v := by rw [← Int.mul_assoc, Int.mul_comm _ (4294967296 : Int)]
    rw [e1, e2]
    omega
theorem qt_end {W B W0 v : Int} (hW : 0 ≤ W ∧ W < B) (h : W0 = W + B * v) : v = W0 / B ∧ W = W0 % B := by
  subst h
  rw [Int.add_mul_ediv_left _ _ (by omega), Int.ediv_eq_zero_of_lt hW.1 hW.2, Int.add_mul_emod_self_left, Int.emod_eq_of_lt hW.1 hW.2]
  omega
/-- the highest word is not 0 -/
theorem top_pos {V : Int} {n : Nat} (hn : 0 < n) (h0 : 4294967296 ^ (n - 1) ≤ V) (h1 : V < 4294967296 ^ n) : 0 < (dg n V).getD (n - 1) 0 := by
  have e : dg n V = dg (n - 1) V ++ dg 1 (V / 4294967296 ^ (n - 1)) := by
    rw [← dg_add]
    congr 1
    omega
  have hp := pw_pos (n - 1)
  have h2 : (1 : Int) ≤ V / 4294967296 ^ (n - 1) := (Int.le_ediv_iff_mul_le hp).2 (by omega)
  have h3 : V / 4294967296 ^ (n - 1) < 4294967296 := Int.ediv_lt_of_lt_mul hp (by
    rw [← pw, show n - 1 + 1 = n by omega]
    exact h1)
  have e2 : (dg (n - 1) V ++ dg 1 (V / 4294967296 ^ (n - 1)))[n - 1]? = some (V / 4294967296 ^ (n - 1) % 4294967296) := by
    rw [List.getElem?_append_right (by rw [dg_len]; omega), dg_len, Nat.sub_self]
    rfl
  rw [e, List.getD, e2]
  simp only [Option.getD_some]
  omega
/-- moved up till its highest bit is the word's highest -/
theorem up_fits {L : List Int} {n k : Nat} {x b : Int} (hL : wds L) (hl : L.length = n) (hn : 0 < n) (hx : L.getD (n - 1) 0 = x) (hb : x < b) (hbk : b * 2 ^ k ≤ 4294967296) : vN L * 2 ^ k < 4294967296 ^ n := by
  have eL : L = L.take (n - 1) ++ [x] := by
    have h2 := take_succ (L := L) (k := n - 1) (by omega)
    rw [← hx, ← h2, show n - 1 + 1 = L.length by omega, List.take_length]
  have vL : vN L = vN (L.take (n - 1)) + 4294967296 ^ (n - 1) * x := by
    have : vN L = vN (L.take (n - 1) ++ [x]) := by rw [← eL]
    rw [this, vN_snoc, List.length_take, Nat.min_eq_left (by omega)]
  have bL := vN_bd (L.take (n - 1)) (wds_take hL _)
  rw [List.length_take, Nat.min_eq_left (by omega)] at bL
  have hp := pw_pos (n - 1)
  have hk : (0 : Int) < 2 ^ k := Int.pow_pos (by omega)
  have h1 : 4294967296 ^ (n - 1) * (x + 1) ≤ 4294967296 ^ (n - 1) * b := Int.mul_le_mul_of_nonneg_left (by omega) (by omega)
  have h2 : vN L < 4294967296 ^ (n - 1) * b := by rw [Int.mul_add] at h1; omega
  have h3 := Int.mul_lt_mul_of_pos_right h2 hk
  have h4 : 4294967296 ^ (n - 1) * (b * 2 ^ k) ≤ 4294967296 ^ (n - 1) * 4294967296 := Int.mul_le_mul_of_nonneg_left hbk (by omega)
  have h5 : (4294967296 : Int) ^ n = 4294967296 ^ (n - 1) * 4294967296 := by
    have := pw (n - 1)
    rw [show n - 1 + 1 = n by omega] at this
    rw [this, Int.mul_comm]
  rw [h5]
  rw [Int.mul_assoc] at h3
  omega
end Go.Nt
namespace Go.Proofs.YtgefjidphfdhdabGreatDoor.Na
open Go.KRun Go.Nt
set_option maxRecDepth 100000
set_option linter.unusedVariables false
theorem cut_row {l : List Value} {o : Nat} {L : List Int} (h : Row l o L) : cutI l o L.length = L := by
  unfold cutI
  rw [h.cut]
  unfold wU
  rw [List.map_map]
  exact (List.map_congr_left fun x _ => rfl).trans (List.map_id' _)
theorem cut_all (L : List Int) {z : Nat} (hl : L.length = z) : cutI (wU L) 0 z = L := by
  have := cut_mid [] L []
  rw [List.append_nil, List.nil_append, List.length_nil, hl] at this
  exact this
theorem tmS_all (L M : List Int) {z : Nat} (hl : L.length = z) : tmS (wU L) 0 z M = wU M := by
  have := tmS_mid [] L [] M
  rw [List.append_nil, List.nil_append, List.length_nil, hl, List.append_nil, List.nil_append] at this
  exact this
theorem upT_all (L : List Int) {z K : Nat} (hl : L.length = z) : upT (wU L) 0 z (K : Int) = wU (dg z (vN L * 2 ^ K)) := by
  unfold upT
  rw [cut_all L hl, tmS_all L _ hl, Int.toNat_natCast]
theorem smallC_le {q : Nat} (h : q ≤ 1000000) : smallC q = true := blt_iff.2 (by unfold dead; omega)
theorem len_up32 {x : Int} (h : 0 < x ∧ x < 4294967296) : ∃ K : Nat, dmU x = (K : Int) ∧ K < 32 ∧ x < 2 ^ (32 - K) ∧ (2 : Int) ^ (32 - K) * 2 ^ K ≤ 4294967296 := by
  have h1 := bitLen_32 (by omega) h.2
  have h2 := bitLen_spec x.toNat
  have h3 : bitLen x.toNat ≠ 0 := fun h0 => by rw [h0] at h2; have := h2.1; omega
  refine ⟨32 - bitLen x.toNat, ?_, by omega, ?_, ?_⟩
  · unfold dmU
    rw [wrapI (by omega) (by omega)]
    omega
  · rw [show 32 - (32 - bitLen x.toNat) = bitLen x.toNat by omega]
    have : ((x.toNat : Nat) : Int) < ((2 ^ bitLen x.toNat : Nat) : Int) := Int.ofNat_lt.2 h2.1
    rw [Int.natCast_pow] at this
    have e : ((x.toNat : Nat) : Int) = x := Int.toNat_of_nonneg (by omega)
    rw [e] at this
    exact this
  · rw [← Int.pow_add, show 32 - (32 - bitLen x.toNat) + (32 - bitLen x.toNat) = 32 by omega]
    decide
theorem dm_runs {la lb : List Value} {o c o' c' : Nat} {LA LB : List Int} (RA : Row la o LA) (RB : Row lb o' LB) (ra : rowOk tR la o LA.length c = true) (rb : rowOk tR lb o' LB.length c' = true) (ba : badL LA = false) (bb : badL LB = false) (hb0 : 0 < LB.length) (hc : ¬ cmpL LA LB < 0) :
    Runs (tabH Tryz.prog extY conL hcD) (seqs (dmP Tryz.f112) (.seq (.seq (cFst (cFst (sn 12 Tryz.f112))) (.block 0 (.loop (dmL Tryz.f112)))) (sn 13 Tryz.f112))) ([sl 0 o LA.length c, sl 1 o' LB.length c'] ++ List.replicate 87 undef, h2 la lb, []) fun e y => (e = none ∨ e = some none) ∧ resS Tryz.prog Tryz.f112 y.1 y.2.1 = some (.tuple #[sl 4 0 (trimN (dg (LA.length - LB.length + 1) (vN LA / vN LB))) (LA.length - LB.length + 1), sl 2 0 (trimN (dg (LA.length + 1) (vN LA % vN LB))) (LA.length + 1), .nilIface]) ∧ y.2.1.blk? 4 = some (wU (dg (LA.length - LB.length + 1) (vN LA / vN LB)), tU) ∧ y.2.1.blk? 2 = some (wU (dg (LA.length + 1) (vN LA % vN LB)), tU) := by
  have hT := tabH_ok conL_ok hcD_ok
  have n8 := badL_len ba
  have n8' := badL_len bb
  have qa := badL_canon RA.rng ba
  have qb := badL_canon RB.rng bb
  have hcv := cmpL_val qa qb
  have hge : vN LB ≤ vN LA := by
    have := mt hcv.1.2 hc
    omega
  have hle := canon_len qa qb hge
  obtain ⟨_, _, _, _, _, _, sa⟩ := row_of ra
  obtain ⟨_, _, _, _, _, _, sb⟩ := row_of rb
  have cA := cut_row RA
  have cB := cut_row RB
  have cx := RB.cell (k := LB.length - 1) (by omega)
  have hx0 : LB.getD (LB.length - 1) 0 ≠ 0 := qb.2.resolve_left (by omega)
  have hxr := RB.rng (LB.getD (LB.length - 1) 0) (by
    have hk : LB.length - 1 < LB.length := by omega
    simp [List.getD, List.getElem?_eq_getElem hk])
  obtain ⟨K, eU, hK, hxK, hKK⟩ := len_up32 (x := LB.getD (LB.length - 1) 0) (by omega)
  have hB1 := up_fits RB.rng rfl hb0 rfl hxK hKK
  have hlow := vN_low RB.rng hb0 hx0
  have k1 : (1 : Int) ≤ 2 ^ K := by have : (0 : Int) < 2 ^ K := Int.pow_pos (by omega); omega
  have k2 : (2 : Int) ^ K ≤ 4294967296 := by
    have h1 : (1 : Int) ≤ 2 ^ (32 - K) := by have : (0 : Int) < 2 ^ (32 - K) := Int.pow_pos (by omega); omega
    have h2 : 1 * (2 : Int) ^ K ≤ 2 ^ (32 - K) * 2 ^ K := Int.mul_le_mul_of_nonneg_right h1 (by omega)
    omega
  have bA := vN_bd LA RA.rng
  have pN1 := pw_pos (LB.length - 1)
  have hvB : 0 < vN LB := by omega
  have hBlow : 4294967296 ^ (LB.length - 1) ≤ vN LB * 2 ^ K := by
    have : vN LB * 1 ≤ vN LB * 2 ^ K := Int.mul_le_mul_of_nonneg_left k1 (by omega)
    omega
  have hW0 : 0 ≤ vN LA * 2 ^ K := Int.mul_nonneg bA.1 (by omega)
  have hW1 : vN LA * 2 ^ K < vN LB * 2 ^ K * 4294967296 ^ (LA.length - LB.length + 1) := by
    have e1 : (4294967296 : Int) ^ LA.length = 4294967296 ^ (LB.length - 1) * 4294967296 ^ (LA.length - LB.length + 1) := by
      rw [← Int.pow_add, show LB.length - 1 + (LA.length - LB.length + 1) = LA.length by omega]
    have h1 : 4294967296 ^ (LB.length - 1) * 4294967296 ^ (LA.length - LB.length + 1) ≤ vN LB * 4294967296 ^ (LA.length - LB.length + 1) := Int.mul_le_mul_of_nonneg_right hlow (by have := pw_pos (LA.length - LB.length + 1); omega)
    have h2 : vN LA < vN LB * 4294967296 ^ (LA.length - LB.length + 1) := by omega
    have h3 := Int.mul_lt_mul_of_pos_right h2 (show (0 : Int) < 2 ^ K by omega)
    rw [Int.mul_assoc, Int.mul_comm (4294967296 ^ (LA.length - LB.length + 1)) (2 ^ K), ← Int.mul_assoc] at h3
    exact h3
  have eNP : (nP LA.length).toNat = LA.length + 1 := nP_nat n8
  have eQ : dmQ LA.length LB.length = ((LA.length - LB.length + 1 : Nat) : Int) := by
    unfold dmQ
    rw [wrapI (n := (LA.length : Int) - (LB.length : Int)) (by omega) (by omega), wrapI (by omega) (by omega)]
    omega
  have eR : dmR la o LA.length (LB.getD (LB.length - 1) 0) = wU (dg (LA.length + 1) (vN LA * 2 ^ K)) := by
    unfold dmR
    rw [eU, eNP, cpy_eq RA n8, upT_all _ (by simp), vN_snoc, Int.mul_zero, Int.add_zero]
  have eY : dmY lb o' LB.length (LB.getD (LB.length - 1) 0) = wU (dg LB.length (vN LB * 2 ^ K)) := by
    unfold dmY
    rw [eU, Int.toNat_natCast, cpS_eq RB, upT_all _ rfl]
  have g0 := dm_pre o LA.length c o' LB.length c' (LB.getD (LB.length - 1) 0) la lb
  have en1 : n1 LB.length = ((LB.length - 1 : Nat) : Int) := by unfold n1; rw [wrapI (by omega) (by omega)]; omega
  rw [eR, eY, eU, eNP, eQ, Int.toNat_natCast, Int.toNat_natCast, cA, cB, cpy_eq RA n8, cpS_eq RB, en1] at g0
  have erep : List.replicate (LA.length - LB.length + 1) (uu 0) = wU (List.replicate (LA.length - LB.length + 1) 0 ++ []) := by
    unfold wU uu
    simp
  rw [erep] at g0
  have lm1 : okMv (wU (dg LB.length (vN LB * 2 ^ K))) la lb (wU (LA ++ [0])) tR tR tU tU 0 (LA.length + 1) (LA.length + 1) (K : Int) = true := by
    unfold okMv
    rw [wU_rowAt (wds_zero RA.rng) (by simp) (Nat.le_refl _) (smallC_le (by omega)), wU_allS, List.all_eq_true.2 sa, List.all_eq_true.2 sb, decide_eq_true (show (0 : Int) ≤ K ∧ (K : Int) < 32 by omega)]
    simp
  have lm2 : okMv (wU (LA ++ [0])) la lb (wU LB) tR tR tU tU 0 LB.length LB.length (K : Int) = true := by
    unfold okMv
    rw [wU_rowAt RB.rng (by simp) (Nat.le_refl _) (smallC_le (by omega)), wU_allS, List.all_eq_true.2 sa, List.all_eq_true.2 sb, decide_eq_true (show (0 : Int) ≤ K ∧ (K : Int) < 32 by omega)]
    simp
  refine goesT_list hT g0 (okTwo (by unfold okMakeB; exact decide_eq_true (by omega)) (okTwo lm1 (okTwo lm2 (okTwo (csOk_eq RB) (okTwo (by unfold okMakeB; exact decide_eq_true (by omega)) (okTwo (decide_eq_true hxr) (okTwo (cel_ok cx) (okTwo (decide_eq_true (by omega)) (okTwo (decide_eq_false hc) (okTwo ra (okTwo rb (okTwo (cpOk_eq RA n8) (okTwo (mk_ok n8) (okTwo (by simpa using (show LB.length ≠ 0 by omega)) (okTwo ra (okTwo rb (okOne (by rw [ba, bb]; rfl)))))))))))))))))) fun g => ?_
  generalize hBe : vN LB * 2 ^ K = B' at *
  generalize hWe : vN LA * 2 ^ K = W0 at *
  have cY := cut_all (dg LB.length B') (dg_len LB.length B')
  have vY : vN (dg LB.length B') = B' := vN_dg _ _ (by omega) hB1
  have tY := top_pos hb0 hBlow hB1
  have hBp : 0 < B' := by omega
  refine Runs.seq (P1 := fun e' y => e' = none ∧ ∃ (W : Int) (qs : List Int) (i : Int) (g : Nat → Value), (0 ≤ W ∧ W < B') ∧ W0 = W + B' * vN qs ∧ qs.length = LA.length - LB.length + 1 ∧ wds qs ∧ y.1 = dmG o LA.length c o' LB.length c' (LA.length + 1) LB.length (LA.length - LB.length + 1) K i ++ tl 76 g ∧ y.2.1 = h5 la lb (wU (dg (LA.length + 1) W)) (wU (dg LB.length B')) (wU qs)) ?_ ?_ (fun e y he => by cases he.1)
  · refine Runs.seq (P1 := fun e' y => e' = none ∧ (∃ g, y.1 = dmG o LA.length c o' LB.length c' (LA.length + 1) LB.length (LA.length - LB.length + 1) K (n1 (LA.length - LB.length + 1)) ++ tl 76 g) ∧ y.2.1 = h5 la lb (wU (dg (LA.length + 1) W0)) (wU (dg LB.length B')) (wU (List.replicate (LA.length - LB.length + 1) 0 ++ []))) (goesT_runs hT (dm_r o LA.length c o' LB.length c' (LA.length + 1) LB.length (LA.length - LB.length + 1) K _ g) (fun x hx => by cases hx)) ?_ (fun e y he => by cases he.1)
    rintro ⟨t, h', s'⟩ ⟨_, ⟨g1, ht⟩, hh⟩
    simp only at ht hh
    subst ht hh
    refine (Runs.forLoop (R := fun _ => False) (P := fun y => ∃ (W : Int) (qs : List Int) (i : Int) (g : Nat → Value), (0 ≤ W ∧ W < B') ∧ W0 = W + B' * vN qs ∧ qs.length = LA.length - LB.length + 1 ∧ wds qs ∧ y.1 = dmG o LA.length c o' LB.length c' (LA.length + 1) LB.length (LA.length - LB.length + 1) K i ++ tl 76 g ∧ y.2.1 = h5 la lb (wU (dg (LA.length + 1) W)) (wU (dg LB.length B')) (wU qs))
      (fun r y => ∃ (W : Int) (qs : List Int) (g : Nat → Value), (0 ≤ W ∧ W < B' * 4294967296 ^ r) ∧ W0 = W + B' * (4294967296 ^ r * vN qs) ∧ qs.length + r = LA.length - LB.length + 1 ∧ wds qs ∧ y.1 = dmG o LA.length c o' LB.length c' (LA.length + 1) LB.length (LA.length - LB.length + 1) K ((r : Int) - 1) ++ tl 76 g ∧ y.2.1 = h5 la lb (wU (dg (LA.length + 1) W)) (wU (dg LB.length B')) (wU (List.replicate r 0 ++ qs)))
      ?_ (n := LA.length - LB.length + 1) ⟨W0, [], g1, ⟨hW0, hW1⟩, by simp [vN], by simp, (fun x hx => by cases hx), ?_, rfl⟩).mono fun e' y he => ?_
    · rintro r ⟨t, h', s'⟩ ⟨W, qs, g, hW, hsum, hq, wq, ht, hh⟩
      simp only at ht hh
      subst ht hh
      cases r with
      | zero =>
        refine (goesT_runs hT (dm_out o LA.length c o' LB.length c' (LA.length + 1) LB.length (LA.length - LB.length + 1) K _ _ g) (okOne (decide_eq_false (by omega)))).mono fun e' y he => ?_
        obtain ⟨rfl, ⟨g1, e2⟩, e3⟩ := he
        rw [Int.pow_zero] at hW hsum
        rw [Int.mul_one] at hW
        rw [Int.one_mul] at hsum
        exact ⟨rfl, W, qs, _, g1, hW, hsum, by omega, wq, e2, e3⟩
      | succ r =>
        have ei : ((r + 1 : Nat) : Int) - 1 = (r : Int) := by omega
        rw [ei]
        obtain ⟨⟨t0, t1, t2⟩, ⟨x0, x1⟩, hW', hs'⟩ := qt_round ⟨hBp, hB1⟩ hW hsum
        have hdg := digit_lt hBp t0 t1
        generalize hTe : W / 4294967296 ^ r = T at *
        have eJ : pJ (r : Int) = r := by unfold pJ; omega
        have eH : dmH (r : Int) LB.length = ((r + LB.length + 1 : Nat) : Int) := by
          unfold dmH
          rw [wrapI (n := (r : Int) + (LB.length : Int)) (by omega) (by omega), wrapI (by omega) (by omega)]
          omega
        have eN : dmN (r : Int) LB.length = LB.length + 1 := by unfold dmN; rw [eH]; omega
        have eRr : dg (LA.length + 1) W = dg r W ++ (dg (LB.length + 1) T ++ dg (LA.length - LB.length - r) 0) := by
          rw [show LA.length + 1 = r + ((LB.length + 1) + (LA.length - LB.length - r)) by omega, dg_parts, hTe, Int.ediv_eq_zero_of_lt t0 t2]
        have cT : cutI (wU (dg (LA.length + 1) W)) r (LB.length + 1) = dg (LB.length + 1) T := by
          have := cut_mid (dg r W) (dg (LB.length + 1) T) (dg (LA.length - LB.length - r) 0)
          rw [dg_len, dg_len, ← eRr] at this
          exact this
        have vT : vN (dg (LB.length + 1) T) = T := vN_dg _ _ t0 t2
        have sT : tmS (wU (dg (LA.length + 1) W)) r (LB.length + 1) (dg (LB.length + 1) (T % B')) = wU (dg (LA.length + 1) (qtW W (T % B') r)) := by
          have := tmS_mid (dg r W) (dg (LB.length + 1) T) (dg (LA.length - LB.length - r) 0) (dg (LB.length + 1) (T % B'))
          rw [dg_len, dg_len, ← eRr] at this
          rw [this, qt_words ⟨x0, x1⟩, show r + ((LB.length + 1) + (LA.length - LB.length - r)) = LA.length + 1 by omega]
        have sQ : (wU (List.replicate (r + 1) 0 ++ qs)).set r (uu (T / B')) = wU (List.replicate r 0 ++ (T / B') :: qs) := by
          have := wU_set (List.replicate r 0) 0 (T / B') qs
          rw [List.length_replicate] at this
          rw [List.replicate_succ', List.append_assoc, List.singleton_append, this, List.append_assoc, List.singleton_append]
        have g2 := dm_go o LA.length c o' LB.length c' (LA.length + 1) LB.length (LA.length - LB.length + 1) K r la lb (wU (dg (LA.length + 1) W)) (wU (dg LB.length B')) (wU (List.replicate (r + 1) 0 ++ qs)) g
        rw [eJ, eN, eH, cT, cY, vT, vY, sT, sQ, Int.toNat_natCast] at g2
        have l1 : decide (r < (wU (List.replicate (r + 1) 0 ++ qs)).length) = true := decide_eq_true (by rw [wU_len]; simp; omega)
        have l2 : (inR r (LA.length - LB.length + 1)).1 = (inR r (LA.length - LB.length + 1)).2 := decide_eq_true (by omega)
        have l3 : (okTo la lb (wU (dg (LA.length + 1) W)) (wU (dg LB.length B')) (wU (List.replicate (r + 1) 0 ++ qs)) tR tR tU tU tU r (LB.length + 1) (LA.length + 1 - r) LB.length LB.length && decide (0 < LB.length ∧ 0 < (dg LB.length B').getD (LB.length - 1) 0 ∧ T < 4294967296 * B')) = true := by
          unfold okTo
          rw [wU_rowAt (dg_wds _ _) (by rw [dg_len]; omega) (by omega) (smallC_le (by omega)), wU_rowAt (dg_wds _ _) (by rw [dg_len]; omega) (Nat.le_refl _) (smallC_le (by omega)), wU_allS, List.all_eq_true.2 sa, List.all_eq_true.2 sb, blt_iff.2 (show LB.length + 1 < 1099511627776 by omega), decide_eq_true (show 0 < LB.length ∧ 0 < (dg LB.length B').getD (LB.length - 1) 0 ∧ T < 4294967296 * B' from ⟨hb0, tY, t1⟩)]
          simp
        have l5 : okPart (r : Int) ((r + LB.length + 1 : Nat) : Int) ((LA.length + 1 : Nat) : Int) ((LA.length + 1 : Nat) : Int) = true := by unfold okPart; exact decide_eq_true (by omega)
        have l6 : decide (((LA.length + 1 : Nat) : Int) = (r : Int) ∧ (r : Int) ≠ 0) = false := decide_eq_false (by omega)
        have l7 : decide ((r : Int) ≥ 0) = true := decide_eq_true (by omega)
        refine (goesT_runs hT g2 (okTwo l1 (okTwo l2 (okTwo l3 (okTwo (smallC_le (by omega)) (okTwo l5 (okTwo l6 (okOne l7)))))))).mono fun e' y he => ?_
        obtain ⟨rfl, ⟨g3, e2⟩, e3⟩ := he
        refine ⟨r, by omega, qtW W (T % B') r, T / B' :: qs, g3, hW', ?_, by simp; omega, ?_, ?_, e3⟩
        · simp only [vN]
          exact hs'
        · intro z hz
          rcases List.mem_cons.1 hz with rfl | hz
          · omega
          · exact wq z hz
        · rw [e2, wrapI (by omega) (by omega)]
    · show dmG _ _ _ _ _ _ _ _ _ _ _ ++ _ = _
      rw [show n1 (LA.length - LB.length + 1) = ((LA.length - LB.length + 1 : Nat) : Int) - 1 from by unfold n1; rw [wrapI (by omega) (by omega)]]
    · match e', he with
      | none, he => exact ⟨rfl, he⟩
      | some none, he => exact he.elim
      | some (some _), he => exact he.elim
  · rintro ⟨t, h', s'⟩ ⟨_, W, qs, i, g, hW, hsum, hq, wq, ht, hh⟩
    simp only at ht hh
    subst ht hh
    obtain ⟨f1, f2⟩ := qt_end hW hsum
    have hkp : (0 : Int) < 2 ^ K := by omega
    have d1 : W0 / B' = vN LA / vN LB := by rw [← hWe, ← hBe]; exact Int.mul_ediv_mul_of_pos_left _ _ hkp
    have d2 : W0 % B' = vN LA % vN LB * 2 ^ K := by rw [← hWe, ← hBe, Int.mul_comm (vN LA) (2 ^ K), Int.mul_comm (vN LB) (2 ^ K), Int.mul_emod_mul_of_pos _ _ hkp, Int.mul_comm]
    have eqs : qs = dg (LA.length - LB.length + 1) (vN LA / vN LB) := by
      have := dg_vN qs wq
      rw [hq, f1, d1] at this
      exact this.symm
    have hWlt : W < 4294967296 ^ (LA.length + 1) := by
      have h1 : (4294967296 : Int) ^ LB.length ≤ 4294967296 ^ (LA.length + 1) := pw_le (by omega)
      omega
    have vW : vN (dg (LA.length + 1) W) = W := vN_dg _ _ hW.1 hWlt
    have eD : dmD (wU (dg (LA.length + 1) W)) (LA.length + 1) K = wU (dg (LA.length + 1) (vN LA % vN LB)) := by
      unfold dmD
      rw [cut_all _ (dg_len _ _), tmS_all _ _ (dg_len _ _), vW, f2, d2, Int.toNat_natCast, Int.mul_ediv_cancel _ (by omega)]
    have g2 := dm_end o LA.length c o' LB.length c' (LA.length + 1) LB.length (LA.length - LB.length + 1) K i la lb (wU (dg (LA.length + 1) W)) (wU (dg LB.length B')) (wU qs) g
    rw [eD, cut_all qs hq, cut_all _ (dg_len _ _), eqs] at g2
    have l1 : okMd la lb (wU (dg (LA.length + 1) W)) (wU (dg LB.length B')) (wU (dg (LA.length - LB.length + 1) (vN LA / vN LB))) tR tR tU tU tU 0 (LA.length + 1) (LA.length + 1) (K : Int) = true := by
      unfold okMd
      rw [wU_rowAt (dg_wds _ _) (by rw [dg_len]; omega) (Nat.le_refl _) (smallC_le (by omega)), wU_allS, wU_allS, List.all_eq_true.2 sa, List.all_eq_true.2 sb, blt_iff.2 (show LA.length + 1 < 1099511627776 by omega), decide_eq_true (show (0 : Int) ≤ K ∧ (K : Int) < 32 by omega)]
      simp
    rw [eqs]
    refine (goesT_runs hT g2 (okTwo (wU_rowAt (dg_wds _ _) (by rw [dg_len]; omega) (Nat.le_refl _) (smallC_le (by omega))) (okTwo (wU_rowAt (dg_wds _ _) (by rw [dg_len]; omega) (Nat.le_refl _) (smallC_le (by omega))) (okOne l1)))).mono fun e' y he => ?_
    obtain ⟨rfl, ⟨g1, e2⟩, e3⟩ := he
    refine ⟨.inr rfl, ?_, ?_, ?_⟩
    · rw [e2, e3]; rfl
    · rw [e3]; rfl
    · rw [e3]; rfl
def hcE : Hc := altH 61 gBothU (altH 122 gCmpU (altH 60 gTrim hcN))
theorem hcE_ok : HcOk hcE := altH_ok Tryz.func61 rfl gBothU_ok (altH_ok Tryz.func122 rfl gCmpU_ok (altH_ok Tryz.func60 rfl gTrim_ok hcN_ok))
theorem dm_bad (p q : Option Addr) (n c n' c' : Nat) (h : Hp) : GoesT (evC (tabH Tryz.prog extY conN hcE) 300 false (cBody Tryz.f112) ([.slice p n c, .slice q n' c'] ++ List.replicate 87 undef, h, [cmp true]) ⟨[], [], []⟩) 7 82 (some none) [.slice p n c, .slice q n' c', undef, undef, nilS, nilS, errV 1] h [(rowX h p n c, true), (rowX h q n' c', true), (badL (rowOf h p n) || badL (rowOf h q n'), true)] := ⟨by kernel_rfl, by kernel_rfl, by kernel_rfl⟩
theorem dm_zero (p q : Option Addr) (n c n' c' : Nat) (h : Hp) : GoesT (evC (tabH Tryz.prog extY conN hcE) 300 false (cBody Tryz.f112) ([.slice p n c, .slice q n' c'] ++ List.replicate 87 undef, h, [cmp false, cmp true]) ⟨[], [], []⟩) 7 82 (some none) [.slice p n c, .slice q n' c', undef, undef, nilS, nilS, errV 5] h [((n' : Int) == 0, true), (rowX h p n c, true), (rowX h q n' c', true), (badL (rowOf h p n) || badL (rowOf h q n'), false)] := ⟨by kernel_rfl, by kernel_rfl, by kernel_rfl⟩
theorem dm_less (o n c o' n' c' : Nat) (la lb : List Value) : GoesT (evC (tabH Tryz.prog extY conN hcE) 300 false (cBody Tryz.f112) ([sl 0 o n c, sl 1 o' n' c'] ++ List.replicate 87 undef, h2 la lb, [cmp false, cmp false, at_, at_, cmp true]) ⟨[], [], []⟩) 7 82 (some none) [sl 0 o n c, sl 1 o' n' c', undef, undef, nilS, sl 2 0 (trimN (cutI (cpy la o n) 0 (nP n).toNat)) (nP n).toNat, .nilIface] (h3 la lb (cpy la o n))
    [(rowOk tU (cpy la o n) 0 (nP n).toNat (nP n).toNat, true), (decide (cmpL (cutI la o n) (cutI lb o' n') < 0), true), (rowOk tR la o n c, true), (rowOk tR lb o' n' c', true), (cpOk la o n, true), (okMakeB 4 (nP n) (nP n), true), ((n' : Int) == 0, false), (rowOk tR la o n c, true), (rowOk tR lb o' n' c', true), (badL (cutI la o n) || badL (cutI lb o' n'), false)] := ⟨by kernel_rfl, by kernel_rfl, by kernel_rfl⟩
theorem dm_nless (o n c : Nat) (lb : List Value) : GoesT (evC (tabH Tryz.prog extY conN hcE) 300 false (cBody Tryz.f112) ([nilS, sl 0 o n c] ++ List.replicate 87 undef, ⟨1, [(lb, tR)]⟩, [cmp false, cmp false, cmp true]) ⟨[], [], []⟩) 7 82 (some none) [nilS, sl 0 o n c, undef, undef, nilS, sl 1 0 0 1, .nilIface] ⟨2, [(wU [0], tU), (lb, tR)]⟩
    [(rowOk tU (wU [0]) 0 1 1, true), (decide (cmpL [] (cutI lb o n) < 0), true), (true, true), (rowOk tR lb o n c, true), ((n : Int) == 0, false), (true, true), (rowOk tR lb o n c, true), (badL (cutI lb o n), false)] := ⟨by kernel_rfl, by kernel_rfl, by kernel_rfl⟩
def gDm : AnsH := fun vals h s =>
  match vals, s with
  | [.slice p n c, .slice q n' c'], .inr (.inr (.inr (.inl true))) :: s' => some (.tuple #[nilS, nilS, errV 1], h, s', [(rowX h p n c, true), (rowX h q n' c', true), (badL (rowOf h p n) || badL (rowOf h q n'), true)])
  | [.slice p n c, .slice q n' c'], .inr (.inr (.inr (.inl false))) :: .inr (.inr (.inr (.inl true))) :: s' => some (.tuple #[nilS, nilS, errV 5], h, s', [(rowX h p n c, true), (rowX h q n' c', true), (!(badL (rowOf h p n) || badL (rowOf h q n')) && decide (n' = 0), true)])
  | [.slice p n c, .slice q n' c'], .inr (.inr (.inr (.inl false))) :: .inr (.inr (.inr (.inl false))) :: .inr (.inr (.inr (.inl true))) :: s' => some (.tuple #[nilS, sl h.n 0 (trimN (rowOf h p n ++ [0])) (n + 1), .nilIface], h.push (wU (rowOf h p n ++ [0])) tU, s', [(rowX h p n c, true), (rowX h q n' c', true), (!(badL (rowOf h p n) || badL (rowOf h q n')) && decide (0 < n' ∧ cmpL (rowOf h p n) (rowOf h q n') < 0), true)])
  | [.slice p n c, .slice q n' c'], .inr (.inr (.inr (.inl false))) :: .inr (.inr (.inr (.inl false))) :: .inr (.inr (.inr (.inl false))) :: .inr (.inl V) :: .inr (.inl U) :: s' => some (.tuple #[sl h.n 0 (trimN (dg (n - n' + 1) V)) (n - n' + 1), sl (h.n + 1) 0 (trimN (dg (n + 1) U)) (n + 1), .nilIface], (h.push (wU (dg (n - n' + 1) V)) tU).push (wU (dg (n + 1) U)) tU, s', [(decide (vN (rowOf h p n) / vN (rowOf h q n') = V ∧ vN (rowOf h p n) % vN (rowOf h q n') = U), true), (rowX h p n c, true), (rowX h q n' c', true), (!(badL (rowOf h p n) || badL (rowOf h q n')) && decide (0 < n' ∧ ¬ cmpL (rowOf h p n) (rowOf h q n') < 0), true)])
  | _, _ => none
theorem log4 {a b c d : Bool × Bool} (h : okLog [a, b, c, d]) : a.1 = a.2 ∧ b.1 = b.2 ∧ c.1 = c.2 ∧ d.1 = d.2 := ⟨h _ (by simp), h _ (by simp), h _ (by simp), h _ (by simp)⟩
theorem gDm_ok : AnsHOk 112 gDm := by
  intro vals h s v h' s' lg hg hl m B w E hv
  unfold gDm at hg
  split at hg
  · rename_i p n c q n' c' s2
    cases hg
    have r := goesT_runs (s0 := []) (tabH_ok conN_ok hcE_ok) (dm_bad p q n c n' c' h) hl
    exact hcalls_keep (T := tabH Tryz.prog extY conN hcE) Tryz.func112 dm_cbody (vals := [.slice p n c, .slice q n' c']) (v := .tuple #[nilS, nilS, errV 1]) (h := h) (by rfl) (r.mono fun e y he => by
      obtain ⟨rfl, ⟨g, e1⟩, e2⟩ := he
      exact ⟨.inr rfl, by rw [e1, e2]; rfl, e2⟩) m B w E hv
  · rename_i p n c q n' c' s2
    cases hg
    obtain ⟨l1, l2, l3⟩ := log3 hl
    simp only [Bool.and_eq_true, Bool.not_eq_true', decide_eq_true_eq] at l1 l2 l3
    have r := goesT_runs (s0 := []) (tabH_ok conN_ok hcE_ok) (dm_zero p q n c n' c' h) (okTwo (by simp [l3.2]) (okTwo l1 (okTwo l2 (okOne l3.1))))
    exact hcalls_keep (T := tabH Tryz.prog extY conN hcE) Tryz.func112 dm_cbody (vals := [.slice p n c, .slice q n' c']) (v := .tuple #[nilS, nilS, errV 5]) (h := h) (by rfl) (r.mono fun e y he => by
      obtain ⟨rfl, ⟨g, e1⟩, e2⟩ := he
      exact ⟨.inr rfl, by rw [e1, e2]; rfl, e2⟩) m B w E hv
  · rename_i p n c q n' c' s2
    cases hg
    obtain ⟨l1, l2, l3⟩ := log3 hl
    simp only [Bool.and_eq_true, Bool.not_eq_true', Bool.or_eq_false_iff, decide_eq_true_eq] at l1 l2 l3
    obtain ⟨⟨l3, l4⟩, l5, l6⟩ := l3
    rcases rowX_cases l2 with ⟨_, h0, _⟩ | ⟨b', o', y, rfl, hy, t1, f0⟩
    · omega
    rw [f0] at l4 l6
    have tR1 := rowOk_R t1
    obtain ⟨b1, b2, b3, b4, b5, b6, b7⟩ := row_of t1
    rcases rowX_cases l1 with ⟨rfl, rfl, rfl, e0⟩ | ⟨b, o, x, rfl, hx, r1, e0⟩
    · rw [e0] at l6 ⊢
      have r : Runs (tabH Tryz.prog extY conN hcE) (cBody Tryz.f112) ([nilS, sl 0 o' n' c'] ++ List.replicate 87 undef, ⟨1, [(y.1, tR)]⟩, []) fun e z => (e = none ∨ e = some none) ∧ resS Tryz.prog Tryz.f112 z.1 z.2.1 = some (.tuple #[nilS, sl 1 0 0 1, .nilIface]) ∧ ∃ r, z.2.1.blk? 1 = some (wU [0] ++ r, tU) := by
        refine (goesT_runs (tabH_ok conN_ok hcE_ok) (dm_nless o' n' c' y.1) (okTwo (by kernel_rfl) (okTwo (decide_eq_true l6) (okTwo rfl (okTwo tR1 (okTwo (by simpa using (show n' ≠ 0 by omega)) (okTwo rfl (okTwo tR1 (okOne l4))))))))).mono fun e z he => ?_
        obtain ⟨rfl, ⟨g, e1⟩, e2⟩ := he
        exact ⟨.inr rfl, by rw [e1, e2]; rfl, [], by rw [e2]; rfl⟩
      have evals : List.map (rn fun _ => b') [nilS, sl 0 o' n' c'] = [.slice none 0 0, .slice (some ⟨b', o', none⟩) n' c'] := by simp [rn, rn2, rn1, sl, nilS]
      have e1 : ∀ k M : Nat, rn (fun _ => h.n) (.tuple #[nilS, sl 1 0 k M, .nilIface]) = .tuple #[nilS, sl h.n 0 k M, .nilIface] := fun k M => by simp [rn, rn2, rn1, sl, nilS]
      have := row_calls1 (T := tabH Tryz.prog extY conN hcE) Tryz.func112 dm_cbody (rows1 b7) (vals := [nilS, sl 0 o' n' c']) (fun v hv => by
        simp only [List.mem_cons, List.not_mem_nil, or_false] at hv
        rcases hv with rfl | rfl <;> rfl) (k := 1) (wU_calm _) tU_own r.w (by rfl) E (s := fun _ => b') (fitsR1 hy b5 b6 rfl)
      rw [evals, e1] at this
      exact this
    · rw [e0] at l3 l6 ⊢
      have tR0 := rowOk_R r1
      obtain ⟨a1, a2, a3, a4, a5, a6, a7⟩ := row_of r1
      have n8 := badL_len l3
      have g0 := dm_less o n c o' n' c' x.1 y.1
      have eP := cpy_eq a1 n8
      have eO := cpOk_eq a1 n8
      rw [a2] at eP eO
      rw [a2] at n8
      rw [nP_nat n8, eP] at g0
      have hw := wds_zero a1.rng
      have hl1 : (cutI x.1 o n ++ [0]).length = n + 1 := by simp [a2]
      rw [cut_all _ hl1] at g0
      have r : Runs (tabH Tryz.prog extY conN hcE) (cBody Tryz.f112) ([sl 0 o n c, sl 1 o' n' c'] ++ List.replicate 87 undef, h2 x.1 y.1, []) fun e z => (e = none ∨ e = some none) ∧ resS Tryz.prog Tryz.f112 z.1 z.2.1 = some (.tuple #[nilS, sl 2 0 (trimN (cutI x.1 o n ++ [0])) (n + 1), .nilIface]) ∧ ∃ r, z.2.1.blk? 2 = some (wU (cutI x.1 o n ++ [0]) ++ r, tU) := by
        refine (goesT_runs (tabH_ok conN_ok hcE_ok) g0 (okTwo (wU_rowAt hw (by rw [hl1]; omega) (Nat.le_refl _) (smallC_le (by omega))) (okTwo (decide_eq_true l6) (okTwo tR0 (okTwo tR1 (okTwo eO (okTwo (mk_ok n8) (okTwo (by simpa using (show n' ≠ 0 by omega)) (okTwo tR0 (okTwo tR1 (okOne (by rw [l3, l4]; rfl)))))))))))).mono fun e z he => ?_
        obtain ⟨rfl, ⟨g, e1⟩, e2⟩ := he
        exact ⟨.inr rfl, by rw [e1, e2]; rfl, [], by rw [e2, List.append_nil]; rfl⟩
      have e1 : ∀ k M : Nat, rn (fun _ => h.n) (.tuple #[nilS, sl 2 0 k M, .nilIface]) = .tuple #[nilS, sl h.n 0 k M, .nilIface] := fun k M => by simp [rn, rn2, rn1, sl, nilS]
      have := row_calls1 (T := tabH Tryz.prog extY conN hcE) Tryz.func112 dm_cbody (rows2 a7 b7) (vals := [sl 0 o n c, sl 1 o' n' c']) (fun v hv => by
        simp only [List.mem_cons, List.not_mem_nil, or_false] at hv
        rcases hv with rfl | rfl <;> rfl) (k := 2) (wU_calm _) tU_own r.w (by rfl) E (s := pair b b') (fitsR2 hx a5 a6 hy b5 b6)
      rw [e1] at this
      exact this
  · rename_i p n c q n' c' V U s2
    cases hg
    obtain ⟨l0, l1, l2, l3⟩ := log4 hl
    simp only [Bool.and_eq_true, Bool.not_eq_true', Bool.or_eq_false_iff, decide_eq_true_eq] at l0 l1 l2 l3
    obtain ⟨⟨l3, l4⟩, l5, l6⟩ := l3
    obtain ⟨rfl, rfl⟩ := l0
    rcases rowX_cases l2 with ⟨_, h0, _⟩ | ⟨b', o', y, rfl, hy, t1, f0⟩
    · omega
    rw [f0] at l4 l6 ⊢
    have tR1 := rowOk_R t1
    obtain ⟨b1, b2, b3, b4, b5, b6, b7⟩ := row_of t1
    rcases rowX_cases l1 with ⟨rfl, rfl, rfl, e0⟩ | ⟨b, o, x, rfl, hx, r1, e0⟩
    · rw [e0] at l6
      exact absurd ((cmp_nl b2).2 l5) l6
    · rw [e0] at l3 l6 ⊢
      have tR0 := rowOk_R r1
      obtain ⟨a1, a2, a3, a4, a5, a6, a7⟩ := row_of r1
      have r := dm_runs (c := c) (c' := c') a1 b1 (by rw [a2]; exact tR0) (by rw [b2]; exact tR1) l3 l4 (by omega) l6
      rw [a2, b2] at r
      have fin := row_callsT (T := tabH Tryz.prog extY conL hcD) Tryz.func112 dm_body (rows2 a7 b7) (vals := [sl 0 o n c, sl 1 o' n' c']) (fun v hv => by
        simp only [List.mem_cons, List.not_mem_nil, or_false] at hv
        rcases hv with h1 | h1 <;> rw [h1] <;> rfl) (v := fun k j => .tuple #[sl k 0 (trimN (dg (n - n' + 1) (vN (cutI x.1 o n) / vN (cutI y.1 o' n')))) (n - n' + 1), sl j 0 (trimN (dg (n + 1) (vN (cutI x.1 o n) % vN (cutI y.1 o' n')))) (n + 1), .nilIface]) (wU_calm _) (wU_calm _) tU_own (r.w.mono fun e z hz => ⟨hz.1, 4, 2, by omega, hz.2.1, ⟨[], by rw [List.append_nil]; exact hz.2.2.1⟩, [], by rw [List.append_nil]; exact hz.2.2.2⟩) (fun k j => by simp [oc, oc2, oc1, sl]) E (s := pair b b') (fitsR2 hx a5 a6 hy b5 b6) (fun k j g => by simp [rn, rn2, rn1, sl])
      exact fin
  · cases hg
def gDmN : AnsH := fun vals h s =>
  match vals, s with
  | [.slice p n c, .slice q n' c'], .inr (.inr (.inr (.inl true))) :: s' => some (.tuple #[nilS, nilS, errV 1], h, s', [(rowX h p n c, true), (rowX h q n' c', true), (badL (rowOf h p n) || badL (rowOf h q n'), true)])
  | [.slice p n c, .slice q n' c'], .inr (.inr (.inr (.inl false))) :: .inr (.inr (.inr (.inl true))) :: s' => some (.tuple #[nilS, nilS, errV 5], h, s', [(rowX h p n c, true), (rowX h q n' c', true), (!(badL (rowOf h p n) || badL (rowOf h q n')) && decide (n' = 0), true)])
  | [.slice p n c, .slice q n' c'], .inr (.inr (.inr (.inl false))) :: .inr (.inr (.inr (.inl false))) :: .inr (.inr (.inr (.inl true))) :: .inr (.inl U) :: s' => some (.tuple #[nilS, sl h.n 0 (trimN (dg (n + 1) U)) (n + 1), .nilIface], h.push (wU (dg (n + 1) U)) tU, s', [(decide (rowOf h p n ++ [0] = dg (n + 1) U), true), (rowX h p n c, true), (rowX h q n' c', true), (!(badL (rowOf h p n) || badL (rowOf h q n')) && decide (0 < n' ∧ cmpL (rowOf h p n) (rowOf h q n') < 0), true)])
  | [.slice p n c, .slice q n' c'], .inr (.inr (.inr (.inl false))) :: .inr (.inr (.inr (.inl false))) :: .inr (.inr (.inr (.inl false))) :: .inr (.inl V) :: .inr (.inl U) :: s' => some (.tuple #[sl h.n 0 (trimN (dg (n - n' + 1) V)) (n - n' + 1), sl (h.n + 1) 0 (trimN (dg (n + 1) U)) (n + 1), .nilIface], (h.push (wU (dg (n - n' + 1) V)) tU).push (wU (dg (n + 1) U)) tU, s', [(decide (vN (rowOf h p n) / vN (rowOf h q n') = V ∧ vN (rowOf h p n) % vN (rowOf h q n') = U), true), (rowX h p n c, true), (rowX h q n' c', true), (!(badL (rowOf h p n) || badL (rowOf h q n')) && decide (0 < n' ∧ ¬ cmpL (rowOf h p n) (rowOf h q n') < 0), true)])
  | _, _ => none
theorem gDmN_ok : AnsHOk 112 gDmN := by
  intro vals h s v h' s' lg hg hl
  unfold gDmN at hg
  split at hg
  · cases hg
    exact gDm_ok _ h [cmp true] _ _ [] _ rfl hl
  · cases hg
    exact gDm_ok _ h [cmp false, cmp true] _ _ [] _ rfl hl
  · rename_i p n c q n' c' U s3
    cases hg
    obtain ⟨l1, l2⟩ := log_tl hl
    have l1 := of_decide_eq_true l1
    refine gDm_ok _ h [cmp false, cmp false, cmp true] _ _ [] _ ?_ l2
    simp only [gDm, l1]
  · cases hg
    exact gDm_ok _ h [cmp false, cmp false, cmp false, num _, num _] _ _ [] _ rfl hl
  · cases hg
def IsR (H : Hp) (p : Option Addr) (n c V : Nat) : Prop := rowX H p n c = true ∧ rowP H p n c = true ∧ rowOf H p n = d32 V ∧ n = (d32 V).length ∧ n ≤ 1000
theorem isRd {H : Hp} {b V m : Nat} (hb : H.blk? b = some (wU (dg m (V : Int)), tU)) (hV : V < 4294967296 ^ m) (hm : m ≤ 1000) : IsR H (some ⟨b, 0, none⟩) (trimN (dg m (V : Int))) m V := by
  have h32 := is32d hb hV hm
  have ht := trimN_le (dg m (V : Int))
  have hl := dg_len m (V : Int)
  refine ⟨?_, h32.1, h32.2, ?_, by omega⟩
  · unfold rowX
    simp only [hb]
    exact wU_rowAt (dg_wds _ _) (by omega) (by omega) (smallC_le (by omega))
  · rw [← h32.2]
    have := rowOf_len h32.1
    omega
section
variable {H : Hp} {p q : Option Addr} {n c n' c' V W : Nat}
theorem vN_d32 (V : Nat) : vN (d32 V) = (V : Int) := by
  rw [vN_vb (d32_wds V)]
  exact congrArg _ (vb_db (by omega) V)
theorem d32_canon (V : Nat) : canon (d32 V) := by
  have h := can_db (b := 4294967296) (by omega) V
  refine ⟨d32_wds V, ?_⟩
  have ht := trimN_top (d32 V)
  rw [show trimN (d32 V) = (d32 V).length from h.2] at ht
  exact ht
theorem IsR.good (h : IsR H p n c V) : badL (rowOf H p n) = false := by
  have hl : (rowOf H p n).length = n := by rw [h.2.2.1]; exact h.2.2.2.1.symm
  have h8 := h.2.2.2.2
  have hc := d32_canon V
  rw [← h.2.2.1] at hc
  unfold badL
  rw [decide_eq_false (by omega), Bool.false_or]
  rcases hc.2 with h0 | h0
  · rw [decide_eq_false (by omega)]
    rfl
  · rw [beq_eq_false_iff_ne.2 h0, Bool.and_false]
theorem rX (h : IsR H p n c V) : rowX H p n c = true := h.1
theorem rOr (h : IsR H p n c V) (g : IsR H q n' c' W) : (badL (rowOf H p n) || badL (rowOf H q n')) = false := by rw [h.good, g.good]; rfl
theorem rMul (h : IsR H p n c V) (g : IsR H q n' c' W) : decide (mulR (rowOf H p n) (rowOf H q n') = dg (n + n') ((V * W : Nat) : Int)) = true := by
  refine decide_eq_true ?_
  unfold mulR
  rw [h.2.2.1, g.2.2.1, vN_d32, vN_d32, ← h.2.2.2.1, ← g.2.2.2.1, Int.natCast_mul]
theorem rCmpV (h : IsR H p n c V) (g : IsR H q n' c' W) : cmpL (rowOf H p n) (rowOf H q n') = cmpZ V W := by
  rw [h.2.2.1, g.2.2.1, cmpL_vb (d32_canon V) (d32_canon W), show vb 4294967296 (d32 V) = V from vb_db (by omega) V, show vb 4294967296 (d32 W) = W from vb_db (by omega) W]
  rfl
theorem rG (h : IsR H p n c V) (g : IsR H q n' c' W) (hp : 0 < n') (hle : W ≤ V) : (!(badL (rowOf H p n) || badL (rowOf H q n')) && decide (0 < n' ∧ ¬ cmpL (rowOf H p n) (rowOf H q n') < 0)) = true := by
  rw [rOr h g, rCmpV h g, decide_eq_true ⟨hp, by unfold cmpZ; rw [if_neg (by omega)]; split <;> omega⟩]
  rfl
theorem rDiv (h : IsR H p n c V) (g : IsR H q n' c' W) : decide (vN (rowOf H p n) / vN (rowOf H q n') = ((V / W : Nat) : Int) ∧ vN (rowOf H p n) % vN (rowOf H q n') = ((V % W : Nat) : Int)) = true := by
  rw [h.2.2.1, g.2.2.1, vN_d32, vN_d32]
  exact decide_eq_true ⟨(Int.natCast_ediv V W).symm, (Int.natCast_emod V W).symm⟩
end
theorem lns_0 (u : Int) : Fits (reckon (tabOf Tryz.prog extY conN true) 3000 55 [.int .u64 u] [tst false, tst false, tst false, tst false]) (lenE 0 u) [lt8 u, geq u 256 false, geq u 65536 false, geq u 4294967296 false, nz] := ⟨by kernel_rfl, by kernel_rfl, by kernel_rfl, by kernel_rfl⟩
theorem lns_1 (u : Int) : Fits (reckon (tabOf Tryz.prog extY conN true) 3000 55 [.int .u64 u] [tst false, tst false, tst false, tst true]) (lenE 8 (shd u 8)) [lt8 (shd u 8), nz, geq u 256 true, geq u 65536 false, geq u 4294967296 false, nz] := ⟨by kernel_rfl, by kernel_rfl, by kernel_rfl, by kernel_rfl⟩
theorem lns_calls (u : Int) (h0 : 0 ≤ u) (h1 : u < 65536) (w : World) : Calls Tryz.prog 55 #[.int .u64 u] w fun e w' => e = .returned (.int .i64 (bitLen u.toNat : Nat)) ∧ Tidy w w' := by
  obtain ⟨U, rfl⟩ := Int.eq_ofNat_of_zero_le h0
  rw [Int.toNat_natCast]
  have p8 : (2 : Nat) ^ 8 = 256 := rfl
  have step : ∀ {v : Value} {s : List Dec} {cs : Log}, Fits (reckon (tabOf Tryz.prog extY conN true) 3000 55 [.int .u64 (U : Int)] s) v cs → okLog cs → v = .int .i64 (bitLen U : Nat) → Calls Tryz.prog 55 #[.int .u64 (U : Int)] w fun e w' => e = .returned (.int .i64 (bitLen U : Nat)) ∧ Tidy w w' :=
    fun {v s cs} hf hc hv => by subst hv; exact fits_calls (tabY_ok conN_ok) hf hc (by rfl) (by rfl) w
  by_cases c : U < 256
  · obtain ⟨e1, e2⟩ := lenE_eq (m := 0) (by omega) (by omega) c
    exact step (lns_0 U) (okTwo e2 (okTwo (geq_f (by omega)) (okTwo (geq_f (by omega)) (okTwo (geq_f (by omega)) (okOne nz_ok))))) (by rw [e1]; congr 1; omega)
  · have l := len_up U 8 (by omega)
    obtain ⟨e1, e2⟩ := lenE_eq (m := 8) (Z := U / 2 ^ 8) (by omega) (by omega) (by omega)
    rw [← shd_eq] at e1 e2
    exact step (lns_1 U) (okTwo e2 (okTwo nz_ok (okTwo (geq_t (by omega)) (okTwo (geq_f (by omega)) (okTwo (geq_f (by omega)) (okOne nz_ok)))))) (by rw [e1]; congr 1; omega)
def gLenS : Ans := fun vals s =>
  match vals with
  | [.int .u64 x] => some (.int .i64 (bitLen x.toNat : Nat), s, [(decide (0 ≤ x ∧ x < 65536), true)])
  | _ => none
theorem gLenS_ok : AnsOk 55 gLenS := by
  intro vals s v s' lg h hl w
  unfold gLenS at h
  split at h
  · cases h
    have hr := hl _ (List.mem_singleton.2 rfl)
    simp only [decide_eq_true_eq] at hr
    exact lns_calls _ hr.1 hr.2 w
  · cases h
def conPw : Con := alt 55 gLenS conN
theorem conPw_ok : ConOk conPw := alt_ok Tryz.func55 rfl gLenS_ok conN_ok
/-! ### nat.Of -/
def hcOf : Hc := altH 60 gTrim hcN
theorem hcOf_ok : HcOk hcOf := altH_ok Tryz.func60 rfl gTrim_ok hcN_ok
theorem of_body : Tryz.f31.body = some (cBody Tryz.f31) := by kernel_rfl
end Go.Proofs.YtgefjidphfdhdabGreatDoor.Na
