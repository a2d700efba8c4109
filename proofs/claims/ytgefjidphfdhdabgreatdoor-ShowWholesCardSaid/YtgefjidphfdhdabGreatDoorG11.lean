/-
  ConO3, NumDg, NumU, ConO4, ConO5, ConO6, NumDn
-/
import Derived.Test.YtgefjidphfdhdabGreatDoorG10
import GoSem.Core.Sem
namespace Go.Proofs.YtgefjidphfdhdabGreatDoor.Na
open Go.KRun Go.Nt
set_option maxRecDepth 100000
set_option linter.unusedVariables false
def pbP (F : Func) : List Code := [cFst (sn 0 F), cFst (sn 1 F)]
def pbB (F : Func) : Code := cFst (sn 2 F)
def pbL (F : Func) : Code := cIn (cIn (cSnd (pbB F)))
def pbF (o m c n k : Nat) (b : Int) (v6 v7 u1 u2 u3 : Value) : List Value := [sl 2 o m c, sl 3 0 n k, undef, undef, .bool false, uu b, v6, v7, u1, u2, u3]
def adD (x y c : Int) : Int := (x + y + c) % 4294967296
def adC (x y c : Int) : Int := (x + y + c) / 4294967296
theorem pb_body : Tryz.f135.body = some (seqs (pbP Tryz.f135) (.seq (.seq (cFst (pbB Tryz.f135)) (.block 0 (.loop (pbL Tryz.f135)))) (sn 3 Tryz.f135))) := by kernel_rfl
theorem pb_pre (o m c n k : Nat) (h : Hp) : GoesT (evL (tabOf Tryz.prog extY conA true) 100 (pbP Tryz.f135) ([sl 2 o m c, sl 3 0 n k] ++ List.replicate 43 undef, h, []) ⟨[], [], []⟩) 11 34 none (pbF o m c n k 0 undef undef undef undef undef) h [] := ⟨by kernel_rfl, by kernel_rfl, by kernel_rfl⟩
theorem pb_r (o m c n k : Nat) (b : Int) (v6 v7 u1 u2 u3 : Value) (h : Hp) (g : Nat → Value) : GoesT (evC (tabOf Tryz.prog extY conA true) 100 false (cFst (pbB Tryz.f135)) (pbF o m c n k b v6 v7 u1 u2 u3 ++ tl 34 g, h, []) ⟨[], [], []⟩) 11 34 none (pbF o m c n k b v6 v7 (sl 3 0 n k) (i6' n) (i6' 0)) h [] := ⟨by kernel_rfl, by kernel_rfl, by kernel_rfl⟩
theorem pb_out (o m c n k : Nat) (b j : Int) (v6 v7 : Value) (h : Hp) (g : Nat → Value) : GoesT (evC (tabOf Tryz.prog extY conA true) 100 false (pbL Tryz.f135) (pbF o m c n k b v6 v7 (sl 3 0 n k) (i6' n) (i6' j) ++ tl 34 g, h, [cmp false]) ⟨[], [], []⟩) 11 34 (some (some 0)) (pbF o m c n k b v6 v7 (sl 3 0 n k) (i6' n) (i6' j)) h [(decide (j < n), false)] := ⟨by kernel_rfl, by kernel_rfl, by kernel_rfl⟩
theorem pb_go (o m c n k : Nat) (b j x y : Int) (v6 v7 : Value) (la lb R Y Q : List Value) (g : Nat → Value) : GoesT (evC (tabOf Tryz.prog extY conA true) 100 false (pbL Tryz.f135) (pbF o m c n k b v6 v7 (sl 3 0 n k) (i6' n) (i6' j) ++ tl 34 g, h5 la lb R Y Q, [cmp true, at_, val (uu x), at_, val (uu y), at_, at_]) ⟨[], [], []⟩) 11 34 none (pbF o m c n k (adC y x b) (i6' j) (uu x) (sl 3 0 n k) (i6' n) (i6' (IntKind.i64.wrap (j + 1)))) (h5 la lb (R.set (o + j.toNat * 1) (uu (adD y x b))) Y Q)
    [(decide (o + j.toNat * 1 < R.length), true), inR j m, (wd4 y x b, true), celR R o j y, inR j m, celR Y 0 j x, inR j n, (decide (j < n), true)] := ⟨by kernel_rfl, by kernel_rfl, by kernel_rfl⟩
theorem pb_end (e : Bool) (o m c n k : Nat) (b y : Int) (v6 v7 u1 u2 u3 : Value) (la lb R Y Q : List Value) (g : Nat → Value) : GoesT (evC (tabOf Tryz.prog extY conA true) 100 false (sn 3 Tryz.f135) (pbF o m c n k b v6 v7 u1 u2 u3 ++ tl 34 g, h5 la lb R Y Q, [at_, val (uu y), at_, at_, cmp e]) ⟨[], [], []⟩) 5 40 (some none) [sl 2 o m c, sl 3 0 n k, undef, undef, .bool e] (h5 la lb (R.set (o + ((n : Int)).toNat * 1) (uu (adD y 0 b))) Y Q)
    [(adC y 0 b != 0, e), (decide (o + ((n : Int)).toNat * 1 < R.length), true), inR n m, (wd4 y 0 b, true), celR R o n y, inR n m] := by
  cases e <;> exact ⟨by kernel_rfl, by kernel_rfl, by kernel_rfl⟩
theorem carry_okB {x y c : Int} (hx : 0 ≤ x ∧ x < 4294967296) (hy : 0 ≤ y ∧ y < 4294967296) (hc : 0 ≤ c ∧ c ≤ 1) : (0 ≤ adD x y c ∧ adD x y c < 4294967296) ∧ (0 ≤ adC x y c ∧ adC x y c ≤ 1) ∧ x + y + c = adD x y c + 4294967296 * adC x y c := by
  unfold adD adC
  omega
theorem pb_runs {F G la lb Y Q : List Value} {o c k : Nat} {M LB : List Int} (hF : F.length = o) (hM : wds M) (RB : Row Y 0 LB) (hl : M.length = LB.length + 1) (hN : M.length < 1099511627776) (e : Bool) (he : decide (4294967296 ^ M.length ≤ vN M + vN LB) = e) :
    Runs (tabOf Tryz.prog extY conA true) (seqs (pbP Tryz.f135) (.seq (.seq (cFst (pbB Tryz.f135)) (.block 0 (.loop (pbL Tryz.f135)))) (sn 3 Tryz.f135))) ([sl 2 o M.length c, sl 3 0 LB.length k] ++ List.replicate 43 undef, h5 la lb (F ++ (wU M ++ G)) Y Q, []) fun e' y => (e' = none ∨ e' = some none) ∧ resS Tryz.prog Tryz.f135 y.1 y.2.1 = some (.bool e) ∧ y.2.1.cut 5 = h5 la lb (F ++ (wU (dg M.length (vN M + vN LB)) ++ G)) Y Q := by
  have hwB := RB.rng
  have hT := tabY_ok conA_ok
  refine goesT_list hT (pb_pre o M.length c LB.length k _) (fun x hx => by cases hx) fun g => ?_
  refine Runs.seq (P1 := fun e' y => e' = none ∧ ∃ (dx : List Int) (t b : Int) (v6 v7 u1 u2 u3 : Value) (g : Nat → Value), dx.length = LB.length ∧ wds dx ∧ (0 ≤ t ∧ t < 4294967296) ∧ (0 ≤ b ∧ b ≤ 1) ∧ y.1 = pbF o M.length c LB.length k b v6 v7 u1 u2 u3 ++ tl 34 g ∧ y.2.1 = h5 la lb (F ++ (wU (dx ++ t :: []) ++ G)) Y Q ∧ vN dx + 4294967296 ^ dx.length * (t + b) = vN M + vN LB) ?_ ?_ (fun e y he => by cases he.1)
  · refine Runs.seq (P1 := fun e' y => e' = none ∧ (∃ g, y.1 = pbF o M.length c LB.length k 0 undef undef (sl 3 0 LB.length k) (i6' LB.length) (i6' 0) ++ tl 34 g) ∧ y.2.1 = h5 la lb (F ++ (wU M ++ G)) Y Q) (goesT_runs hT (pb_r o M.length c LB.length k 0 undef undef undef undef undef _ g) (fun x hx => by cases hx)) ?_ (fun e y he => by cases he.1)
    rintro ⟨t, h', s'⟩ ⟨_, ⟨g1, ht⟩, hh⟩
    simp only at ht hh
    subst ht hh
    refine (Runs.forLoop (R := fun _ => False) (P := fun y => ∃ (dx : List Int) (t b : Int) (v6 v7 u1 u2 u3 : Value) (g : Nat → Value), dx.length = LB.length ∧ wds dx ∧ (0 ≤ t ∧ t < 4294967296) ∧ (0 ≤ b ∧ b ≤ 1) ∧ y.1 = pbF o M.length c LB.length k b v6 v7 u1 u2 u3 ++ tl 34 g ∧ y.2.1 = h5 la lb (F ++ (wU (dx ++ t :: []) ++ G)) Y Q ∧ vN dx + 4294967296 ^ dx.length * (t + b) = vN M + vN LB)
      (fun r y => ∃ (dx px bx : List Int) (b : Int) (v6 v7 : Value) (g : Nat → Value), px.length = r + 1 ∧ dx.length + px.length = M.length ∧ wds dx ∧ wds px ∧ bx = LB.drop dx.length ∧ (0 ≤ b ∧ b ≤ 1) ∧ y.1 = pbF o M.length c LB.length k b v6 v7 (sl 3 0 LB.length k) (i6' LB.length) (i6' dx.length) ++ tl 34 g ∧ y.2.1 = h5 la lb (F ++ (wU (dx ++ px) ++ G)) Y Q ∧ vN dx + 4294967296 ^ dx.length * (vN px + vN bx + b) = vN M + vN LB)
      ?_ (n := LB.length) ⟨[], M, LB, 0, undef, undef, g1, by omega, by simp, (fun x hx => by cases hx), hM, rfl, by omega, rfl, rfl, by simp [vN]⟩).mono fun e' y he => ?_
    · rintro r ⟨t, h', s'⟩ ⟨dx, px, bx, b, v6, v7, g, hr, hlen, wd1, wd2, hb, hbb, ht, hh, hv⟩
      simp only at ht hh
      subst ht hh
      cases r with
      | zero =>
        have hl' : dx.length = LB.length := by omega
        match px, hr, wd2, hv with
        | [t], hr, wd2, hv =>
          refine (goesT_runs hT (pb_out o M.length c LB.length k b dx.length v6 v7 _ g) (okOne (decide_eq_false (by omega)))).mono fun e' y he => ?_
          obtain ⟨rfl, ⟨g1, e2⟩, e3⟩ := he
          have hbx : bx = [] := by rw [hb, List.drop_eq_nil_of_le (by omega)]
          subst hbx
          refine ⟨rfl, dx, t, b, v6, v7, _, _, _, g1, hl', wd1, wd2 t (List.mem_singleton.2 rfl), hbb, e2, e3, ?_⟩
          simpa [vN] using hv
      | succ r =>
        match px, hr, hlen, wd2, hv with
        | y :: px, hr, hlen, wd2, hv =>
          obtain ⟨wy, wd2⟩ := wds_tail wd2
          have hl' : dx.length < LB.length := by simp at hlen hr; omega
          have hx := RB.cell (k := dx.length) (by omega)
          have hxr := hwB (LB.getD dx.length 0) (by simp [List.getD, List.getElem?_eq_getElem hl'])
          have hbx : bx = LB.getD dx.length 0 :: LB.drop (dx.length + 1) := by
            rw [hb, List.drop_eq_getElem_cons hl']
            simp [List.getD, List.getElem?_eq_getElem hl']
          generalize LB.getD dx.length 0 = x at *
          obtain ⟨s1, s2, s3⟩ := carry_okB wy hxr hbb
          have cS := fR_get hF dx y px G
          have lS : o + dx.length < (F ++ (wU (dx ++ y :: px) ++ G)).length := (List.getElem?_eq_some_iff.1 cS).1
          have l1 : decide (o + ((dx.length : Int)).toNat * 1 < (F ++ (wU (dx ++ y :: px) ++ G)).length) = true := by
            rw [Int.toNat_natCast, Nat.mul_one]
            exact decide_eq_true lS
          have l2 : (inR dx.length M.length).1 = (inR dx.length M.length).2 := decide_eq_true (by omega)
          have l3 : (inR dx.length LB.length).1 = (inR dx.length LB.length).2 := decide_eq_true (by omega)
          refine (goesT_runs hT (pb_go o M.length c LB.length k b dx.length x y v6 v7 la lb _ Y Q g) (okTwo l1 (okTwo l2 (okTwo (wd4_ok wy hxr hbb) (okTwo (cel_ok cS) (okTwo l2 (okTwo (cel_ok hx) (okTwo l3 (okOne (decide_eq_true (by omega)))))))))) ).mono fun e' z he => ?_
          obtain ⟨rfl, ⟨g1, e2⟩, e3⟩ := he
          refine ⟨r, by omega, dx ++ [adD y x b], px, LB.drop (dx.length + 1), adC y x b, i6' dx.length, uu x, g1, by simp at hr; omega, by simp at hlen ⊢; omega, wds_app wd1 (fun u hu => by rw [List.mem_singleton.1 hu]; exact s1), wd2, by simp, s2, ?_, ?_, ?_⟩
          · rw [e2, wrapI (by omega) (by omega)]
            simp
          · rw [e3, Int.toNat_natCast, Nat.mul_one, fR_set hF]
          · rw [hbx] at hv
            simp only [vN] at hv
            rw [vN_snoc, List.length_append, List.length_singleton, pw]
            exact pb_step s3 hv
    · match e', he with
      | none, he => exact ⟨rfl, he⟩
      | some none, he => exact he.elim
      | some (some _), he => exact he.elim
  · rintro ⟨t, h', s'⟩ ⟨_, dx, tw, b, v6, v7, u1, u2, u3, g, hdl, wd1, wt, hbb, ht, hh, hv⟩
    simp only at ht hh
    subst ht hh
    obtain ⟨s1, s2, s3⟩ := carry_okB wt (show (0 : Int) ≤ 0 ∧ (0 : Int) < 4294967296 by omega) hbb
    have cS := fR_get hF dx tw [] G
    have lS : o + dx.length < (F ++ (wU (dx ++ tw :: []) ++ G)).length := (List.getElem?_eq_some_iff.1 cS).1
    obtain ⟨f1, f2⟩ := last_word (l := adC tw 0 b) (V := vN M + vN LB) wd1 s1 (by rw [← hv, ← s3]; congr 2; omega)
    have g0 := pb_end e o M.length c LB.length k b tw v6 v7 u1 u2 u3 la lb (F ++ (wU (dx ++ tw :: []) ++ G)) Y Q g
    rw [← hdl, Int.toNat_natCast, Nat.mul_one, fR_set hF] at g0
    have l0 : (adC tw 0 b != 0) = e := by
      rw [← he, hl, ← hdl, ← f2]
      have hp := pw_pos (dx.length + 1)
      by_cases hbig : 4294967296 ^ (dx.length + 1) ≤ vN M + vN LB
      · rw [decide_eq_true hbig]
        have : (1 : Int) ≤ (vN M + vN LB) / 4294967296 ^ (dx.length + 1) := (Int.le_ediv_iff_mul_le hp).2 (by omega)
        exact bne_iff_ne.2 (by omega)
      · rw [decide_eq_false hbig]
        have h1 := vN_bd M hM
        have h2 := vN_bd LB hwB
        rw [Int.ediv_eq_zero_of_lt (by omega) (by omega)]
        rfl
    have l2 : (inR dx.length M.length).1 = (inR dx.length M.length).2 := decide_eq_true (by omega)
    rw [← hdl]
    refine (goesT_runs hT g0 (okTwo l0 (okTwo (decide_eq_true lS) (okTwo l2 (okTwo (wd4_ok wt (by omega) hbb) (okTwo (cel_ok cS) (okOne l2))))))).mono fun e' y he => ?_
    obtain ⟨rfl, ⟨g1, e2⟩, e3⟩ := he
    refine ⟨.inr rfl, ?_, ?_⟩
    · rw [e2, e3]; rfl
    · rw [e3, hl, ← hdl, ← f1, List.append_nil]; rfl
def gPb5 : AnsH := fun vals h s =>
  match vals, h, s with
  | [.slice (some ⟨2, o, none⟩) m c, .slice (some ⟨3, 0, none⟩) n k], ⟨5, [(Q, t4), (Y, t3), (R, t2), (lb, t1), (la, t0)]⟩, .inr (.inr (.inr (.inl e))) :: s' => some (.bool e, h5 la lb (tmS R o m (dg m (vN (cutI R o m) + vN (cutI Y 0 n)))) Y Q, s', [(okTo la lb R Y Q t0 t1 t2 t3 t4 o m c n k, true), (decide (4294967296 ^ m ≤ vN (cutI R o m) + vN (cutI Y 0 n)), e)])
  | _, _, _ => none
theorem gPb5_ok : AnsHOk 135 gPb5 := by
  intro vals h s v h' s' lg hg hl m B w E hv
  unfold gPb5 at hg
  split at hg
  · rename_i o mm c n k Q t4 Y t3 R t2 lb t1 la t0 e s2
    cases hg
    have l1 := hl _ List.mem_cons_self
    have l2 := hl _ (List.mem_cons_of_mem _ (List.mem_singleton.2 rfl))
    simp only at l1 l2
    obtain ⟨q0, q1, q2, q3, q4, ra, rb, qn, qN, st0, st1, st2⟩ := okTo_of l1
    subst q0 q1 q2 q3 q4
    obtain ⟨a1, a2, a3, a4, a5, a6, a7⟩ := row_of ra
    obtain ⟨b1, b2, b3, b4, b5, b6, b7⟩ := row_of rb
    obtain ⟨eS, hF⟩ := row_parts ra
    have r := pb_runs (G := R.drop (o + mm)) (la := la) (lb := lb) (Q := Q) (c := c) (k := k) hF a1.rng b1 (by rw [a2, b2]; exact qn) (by rw [a2]; exact qN) e (by rw [a2]; exact l2)
    rw [a2, b2, ← eS] at r
    exact hcalls_of_runs (T := tabOf Tryz.prog extY conA true) Tryz.func135 pb_body (vals := [sl 2 o mm c, sl 3 0 n k]) (v := .bool e) (h := h5 la lb R Y Q) (by rfl) (tight5 ra rb st0 st1 st2) r m B w E hv
  · cases hg
end Go.Proofs.YtgefjidphfdhdabGreatDoor.Na
namespace Go.Nt
theorem guess_ge {M L : List Int} (hM : wds M) (hL : wds L) {n : Nat} (hm : M.length = n + 1) (hl : L.length = n) (hn : 0 < n) (hb : 0 < L.getD (n - 1) 0) : vN M / vN L ≤ (M.getD n 0 * 4294967296 + M.getD (n - 1) 0) / L.getD (n - 1) 0 := by
  have hP := pw_pos (n - 1)
  have eM : M = (M.take (n - 1) ++ [M.getD (n - 1) 0]) ++ [M.getD n 0] := by
    have h1 := take_succ (L := M) (k := n) (by omega)
    have h2 := take_succ (L := M) (k := n - 1) (by omega)
    rw [show n - 1 + 1 = n by omega] at h2
    rw [← h2, ← h1, ← hm, List.take_length]
  have eL : L = L.take (n - 1) ++ [L.getD (n - 1) 0] := by
    have h2 := take_succ (L := L) (k := n - 1) (by omega)
    rw [← h2, show n - 1 + 1 = L.length by omega, List.take_length]
  have vM : vN M = vN (M.take (n - 1)) + 4294967296 ^ (n - 1) * (M.getD n 0 * 4294967296 + M.getD (n - 1) 0) := by
    have : vN M = vN ((M.take (n - 1) ++ [M.getD (n - 1) 0]) ++ [M.getD n 0]) := by rw [← eM]
    rw [this, vN_snoc, vN_snoc, List.length_append, List.length_take, Nat.min_eq_left (by omega), List.length_singleton, pw, Int.mul_add, Int.mul_comm (M.getD n 0) 4294967296, ← Int.mul_assoc, Int.mul_comm (4294967296 ^ (n - 1)) 4294967296]
    omega
  have vL : vN L = vN (L.take (n - 1)) + 4294967296 ^ (n - 1) * L.getD (n - 1) 0 := by
    have : vN L = vN (L.take (n - 1) ++ [L.getD (n - 1) 0]) := by rw [← eL]
    rw [this, vN_snoc, List.length_take, Nat.min_eq_left (by omega)]
  have bM := vN_bd (M.take (n - 1)) (wds_take hM _)
  have bL := vN_bd (L.take (n - 1)) (wds_take hL _)
  rw [List.length_take, Nat.min_eq_left (by omega)] at bM bL
  generalize M.getD n 0 * 4294967296 + M.getD (n - 1) 0 = T at *
  generalize L.getD (n - 1) 0 = b at *
  generalize (4294967296 : Int) ^ (n - 1) = P at *
  have hPb : 0 < P * b := Int.mul_pos hP hb
  have hq := Int.mul_ediv_self_le (x := vN M) (k := vN L) (by omega)
  have hq0 : 0 ≤ vN M / vN L := by
    by_cases h0 : 0 ≤ vN M
    · exact Int.ediv_nonneg h0 (by omega)
    · have := (vN_bd M hM).1
      omega
  generalize hqd : vN M / vN L = q at *
  refine (Int.le_ediv_iff_mul_le hb).2 ?_
  have h1 : P * b * q ≤ vN L * q := Int.mul_le_mul_of_nonneg_right (by omega) hq0
  have h2 : P * b * q < P * (T + 1) := by
    rw [Int.mul_add]
    omega
  rw [Int.mul_assoc] at h2
  have h3 := Int.lt_of_mul_lt_mul_left h2 (by omega)
  rw [Int.mul_comm q b]
  omega
theorem guess_lt {h l b : Int} (hh : 0 ≤ h) (hl : 0 ≤ l ∧ l < 4294967296) (hb : h < b) : 0 ≤ (h * 4294967296 + l) / b ∧ (h * 4294967296 + l) / b < 4294967296 :=
  ⟨Int.ediv_nonneg (by omega) (by omega), Int.ediv_lt_of_lt_mul (by omega) (by omega)⟩
theorem digit_lt {M B : Int} (hB : 0 < B) (h0 : 0 ≤ M) (h : M < 4294967296 * B) : 0 ≤ M / B ∧ M / B ≤ 4294967295 := by
  have h1 := Int.ediv_lt_of_lt_mul hB h
  exact ⟨Int.ediv_nonneg h0 (by omega), by omega⟩
theorem rest_is {M B d : Int} (hB : 0 < B) (h1 : 0 ≤ M - d * B) (h2 : M / B ≤ d) : d = M / B ∧ M - d * B = M % B := by
  have h3 : d ≤ M / B := (Int.le_ediv_iff_mul_le hB).2 (by omega)
  have e : d = M / B := by omega
  refine ⟨e, ?_⟩
  have := Int.emod_add_mul_ediv M B
  rw [e, Int.mul_comm (M / B) B]
  omega
theorem more_than {M B d : Int} (hB : 0 < B) (h : M - d * B < 0) : M / B < d := Int.ediv_lt_of_lt_mul hB (by omega)
theorem neg_dg {m : Nat} {V : Int} (h0 : V < 0) (h1 : -(4294967296 ^ m) ≤ V) : vN (dg m V) = V + 4294967296 ^ m := by
  have := dg_mod m V 1
  rw [Int.mul_one] at this
  rw [← this]
  exact vN_dg m _ (by omega) (by omega)
end Go.Nt
namespace Go.Pt
def bAnd (x y : Int) : Int := IntKind.u64.wrap ((BitVec.ofInt 64 x &&& BitVec.ofInt 64 y).toNat : Nat)
def bOr (x y : Int) : Int := IntKind.u64.wrap ((BitVec.ofInt 64 x ||| BitVec.ofInt 64 y).toNat : Nat)
def bXor (x y : Int) : Int := IntKind.u64.wrap ((BitVec.ofInt 64 x ^^^ BitVec.ofInt 64 y).toNat : Nat)
def bNot (x y : Int) : Int := IntKind.u64.wrap ((BitVec.ofInt 64 x &&& ~~~(BitVec.ofInt 64 y)).toNat : Nat)
abbrev U (p : Int) : Prop := 0 ≤ p ∧ p < 18446744073709551616
abbrev I (n : Int) : Prop := -9223372036854775808 ≤ n ∧ n ≤ 9223372036854775807
theorem wrapU (n : Int) : IntKind.u64.wrap n = n % 18446744073709551616 := by simp [IntKind.wrap, IntKind.bits, IntKind.signed]
theorem wrapU' {n : Int} (h : U n) : IntKind.u64.wrap n = n := by rw [wrapU]; unfold U at h; omega
theorem wrapI' {n : Int} (h : I n) : IntKind.i64.wrap n = n := by
  unfold I at h
  simp [IntKind.wrap, IntKind.bits, IntKind.signed]; omega
theorem ofU {Z : Nat} (h : Z < 18446744073709551616) : (BitVec.ofInt 64 (Z : Int)).toNat = Z := by simp; omega
theorem back {V : BitVec 64} : IntKind.u64.wrap (V.toNat : Nat) = (V.toNat : Int) := by
  have := V.isLt
  exact wrapU' ⟨by omega, by omega⟩
theorem and_mask (x k j : Nat) : x &&& (2 ^ k * (2 ^ j - 1)) = 2 ^ k * (x / 2 ^ k % 2 ^ j) := by
  refine Nat.eq_of_testBit_eq fun i => ?_
  rw [Nat.testBit_and, Nat.testBit_two_pow_mul, Nat.testBit_two_pow_sub_one, Nat.testBit_two_pow_mul, Nat.testBit_mod_two_pow, Nat.testBit_div_two_pow]
  by_cases h : k ≤ i
  · have e : k + (i - k) = i := by omega
    have e' : i - k + k = i := by omega
    simp [h, e', Bool.and_comm]
  · simp [h]
theorem bAnd_mask {p m : Int} (k j : Nat) (hp : U p) (hm : m = ((2 ^ k * (2 ^ j - 1) : Nat) : Int)) (hk : 2 ^ k * (2 ^ j - 1) < 18446744073709551616) : bAnd p m = 2 ^ k * (p / 2 ^ k % 2 ^ j) := by
  obtain ⟨h0, h1⟩ := hp
  obtain ⟨Z, rfl⟩ := Int.eq_ofNat_of_zero_le h0
  unfold bAnd
  rw [back, BitVec.toNat_and, ofU (by omega), hm, ofU hk, and_mask]
  simp
theorem or_low {p q : Int} (k : Nat) {z : Int} (hz : 0 ≤ z) (hq : q = 2 ^ k * z) (hp : 0 ≤ p) (hk : p < 2 ^ k) (hs : q + p < 18446744073709551616) : bOr p q = q + p := by
  obtain ⟨Z, rfl⟩ := Int.eq_ofNat_of_zero_le hz
  obtain ⟨Y, rfl⟩ := Int.eq_ofNat_of_zero_le hp
  have ex : (2 : Int) ^ k * (Z : Nat) = ((2 ^ k * Z : Nat) : Int) := by simp
  have hY : Y < 2 ^ k := by
    have : ((Y : Nat) : Int) < ((2 ^ k : Nat) : Int) := by simpa using hk
    exact Int.ofNat_lt.1 this
  subst hq
  rw [ex] at hs ⊢
  have hX : 2 ^ k * Z + Y < 18446744073709551616 := by omega
  unfold bOr
  rw [back, BitVec.toNat_or, ofU (by omega), ofU (by omega), Nat.or_comm, ← Nat.two_pow_add_eq_or_of_lt hY]
  omega
theorem bNot_sign {p : Int} (hp : U p) : bNot p 9223372036854775808 = p % 9223372036854775808 := by
  obtain ⟨h0, h1⟩ := hp
  obtain ⟨Z, rfl⟩ := Int.eq_ofNat_of_zero_le h0
  unfold bNot
  have e : (~~~(BitVec.ofInt 64 9223372036854775808)).toNat = 2 ^ 63 - 1 := by decide
  rw [back, BitVec.toNat_and, ofU (by omega), e, Nat.and_two_pow_sub_one_eq_mod]
  omega
theorem xor_sign (r : Nat) (h : r < 2 ^ 63) : r ^^^ 2 ^ 63 = 2 ^ 63 + r := by
  have e : 2 ^ 63 + r = 2 ^ 63 ||| r := by
    have := Nat.two_pow_add_eq_or_of_lt h 1
    simpa using this
  rw [e]
  refine Nat.eq_of_testBit_eq fun i => ?_
  rw [Nat.testBit_xor, Nat.testBit_or, Nat.testBit_two_pow]
  by_cases hi : 63 = i
  · subst hi
    rw [Nat.testBit_lt_two_pow h]
    simp
  · simp [hi]
theorem bXor_sign {p : Int} (hp : U p) : bXor p 9223372036854775808 = (p + 9223372036854775808) % 18446744073709551616 := by
  obtain ⟨h0, h1⟩ := hp
  obtain ⟨Z, rfl⟩ := Int.eq_ofNat_of_zero_le h0
  unfold bXor
  have e : (BitVec.ofInt 64 9223372036854775808).toNat = 2 ^ 63 := by decide
  rw [back, BitVec.toNat_xor, ofU (by omega), e]
  by_cases hz : Z < 2 ^ 63
  · rw [xor_sign Z hz]
    omega
  · have h2 := xor_sign (Z - 2 ^ 63) (by omega)
    have e2 : Z = (Z - 2 ^ 63) ^^^ 2 ^ 63 := by rw [h2]; omega
    have e3 : Z ^^^ 2 ^ 63 = Z - 2 ^ 63 := by
      rw [e2, Nat.xor_assoc, Nat.xor_self, Nat.xor_zero, ← e2]
    rw [e3]
    omega
theorem bAnd_frac {p : Int} (hp : U p) : bAnd p 4503599627370495 = p % 4503599627370496 := by
  rw [bAnd_mask 0 52 hp (by rfl) (by decide)]
  simp
theorem bAnd_sign {p : Int} (hp : U p) : bAnd p 9223372036854775808 = 9223372036854775808 * (p / 9223372036854775808 % 2) := bAnd_mask 63 1 hp (by rfl) (by decide)
theorem bAnd_quiet {p : Int} (hp : U p) : bAnd p 2251799813685248 = 2251799813685248 * (p / 2251799813685248 % 2) := bAnd_mask 51 1 hp (by rfl) (by decide)
theorem bAnd_nib {p : Int} (hp : U p) : bAnd p 15 = p % 16 := by
  rw [bAnd_mask 0 4 hp (by rfl) (by decide)]
  simp
/-! ### a pattern's parts -/
def sgn (p : Int) : Bool := decide (9223372036854775808 ≤ p)
def mag (p : Int) : Int := p % 9223372036854775808
def ex (p : Int) : Int := p / 4503599627370496 % 2048
def fr (p : Int) : Int := p % 4503599627370496
def cl (p : Int) : Int := if ex p = 0 then (if fr p = 0 then 0 else 1) else if ex p = 2047 then (if fr p = 0 then 3 else if 2251799813685248 ≤ fr p then 4 else 5) else 2
def xp (p : Int) : Int := if ex p = 0 then -1074 else if ex p = 2047 then 0 else ex p - 1075
def sg (p : Int) : Int := if ex p = 0 then fr p else if ex p = 2047 then fr p else fr p + 4503599627370496
theorem ex_mag (p : Int) : mag p / 4503599627370496 = ex p := by unfold mag ex; omega
theorem ex_lt (p : Int) : 0 ≤ ex p ∧ ex p < 2048 := by unfold ex; omega
theorem fr_lt (p : Int) : 0 ≤ fr p ∧ fr p < 4503599627370496 := by unfold fr; omega
theorem of_parts {p : Int} (hp : U p) : p = (if sgn p = true then 9223372036854775808 else 0) + 4503599627370496 * ex p + fr p := by
  unfold sgn ex fr U at *
  split <;> rename_i h <;> simp only [decide_eq_true_eq] at h <;> omega
end Go.Pt
namespace Go.Proofs.YtgefjidphfdhdabGreatDoor.Na
open Go.KRun Go.Nt
set_option maxRecDepth 100000
set_option linter.unusedVariables false
def gsV (h l b : Int) : Int := if b ≤ h then 4294967295 else (h * 4294967296 + l) / b
def gsOk (h l b : Int) : Bool := decide ((0 ≤ h ∧ h < 4294967296) ∧ (0 ≤ l ∧ l < 4294967296) ∧ 0 < b ∧ b < 4294967296)
theorem gs_hi (h l b : Int) : Fits (reckon (tabOf Tryz.prog extY conN true) 100 133 [uu h, uu l, uu b] [cmp true]) (uu 4294967295) [(decide (h ≥ b), true)] := ⟨by kernel_rfl, by kernel_rfl, by kernel_rfl, by kernel_rfl⟩
theorem gs_lo (h l b q : Int) : Fits (reckon (tabOf Tryz.prog extY conN true) 100 133 [uu h, uu l, uu b] [cmp false, num q]) (uu (IntKind.u32.wrap q)) [(decide (IntKind.u64.wrap b = 0), false), (decide (IntKind.u64.wrap ((Go.Pt.bOr (IntKind.u64.wrap (IntKind.u64.wrap h * 2 ^ min (Int.toNat 32) 64)) (IntKind.u64.wrap l)).tdiv (IntKind.u64.wrap b)) = q), true), (decide ((32 : Int) < 0), false), (decide (h ≥ b), false)] := ⟨by kernel_rfl, by kernel_rfl, by kernel_rfl, by kernel_rfl⟩
theorem or_swap (p q : Int) : Go.Pt.bOr p q = Go.Pt.bOr q p := by unfold Go.Pt.bOr; rw [BitVec.or_comm]
def gGs : Ans := fun vals s =>
  match vals with
  | [.int .u32 h, .int .u32 l, .int .u32 b] => some (uu (gsV h l b), s, [(gsOk h l b, true)])
  | _ => none
theorem gGs_ok : AnsOk 133 gGs := by
  intro vals s v s' lg h hl w
  unfold gGs at h
  split at h
  · rename_i x y z
    cases h
    have hr := hl _ (List.mem_singleton.2 rfl)
    simp only [gsOk, decide_eq_true_eq] at hr
    obtain ⟨hx, hy, hz⟩ := hr
    unfold gsV
    by_cases hc : z ≤ x
    · rw [if_pos hc]
      exact fits_calls (tabY_ok conN_ok) (gs_hi x y z) (okOne (decide_eq_true hc)) (by rfl) (by rfl) w
    · rw [if_neg hc]
      have hb := guess_lt hx.1 hy (show x < z by omega)
      have e1 : Go.Pt.bOr (IntKind.u64.wrap (IntKind.u64.wrap x * 2 ^ min (Int.toNat 32) 64)) (IntKind.u64.wrap y) = x * 4294967296 + y := by
        simp only [u64w]
        rw [Int.emod_eq_of_lt hx.1 (by omega), Int.emod_eq_of_lt hy.1 (by omega), show ((2 : Int) ^ min (Int.toNat 32) 64) = 4294967296 from by decide, Int.emod_eq_of_lt (by omega) (by omega), or_swap]
        exact Go.Pt.or_low 32 (z := x) hx.1 (by omega) hy.1 (by omega) (by omega)
      have e2 : IntKind.u64.wrap z = z := by rw [u64w, Int.emod_eq_of_lt (by omega) (by omega)]
      have e3 : IntKind.u32.wrap ((x * 4294967296 + y) / z) = (x * 4294967296 + y) / z := by rw [u32w, Int.emod_eq_of_lt hb.1 hb.2]
      have := fits_calls (tabY_ok conN_ok) (gs_lo x y z ((x * 4294967296 + y) / z)) (okTwo (by rw [e2]; exact decide_eq_false (by omega)) (okTwo (by rw [e1, e2, Int.tdiv_eq_ediv_of_nonneg (by omega), u64w, Int.emod_eq_of_lt hb.1 (by omega)]; exact decide_eq_true rfl) (okTwo (by decide) (okOne (decide_eq_false (by omega)))))) (by rfl) (by rfl) w
      rw [e3] at this
      exact this
  · cases h
def conG : Con := alt 133 gGs conN
theorem conG_ok : ConOk conG := alt_ok Tryz.func133 rfl gGs_ok conN_ok
def hcG : Hc := altH 134 gTo5 (altH 135 gPb5 hcN)
theorem hcG_ok : HcOk hcG := altH_ok Tryz.func134 rfl gTo5_ok (altH_ok Tryz.func135 rfl gPb5_ok hcN_ok)
def tdP (F : Func) : List Code := [cFst (sn 0 F), cFst (sn 1 F), cFst (sn 2 F)]
def tdB (F : Func) : Code := cFst (sn 3 F)
def tdL (F : Func) : Code := cIn (cIn (cSnd (tdB F)))
def tdF (o m c n k : Nat) (d : Int) : List Value := [sl 2 o m c, sl 3 0 n k, undef, undef, uu 0, i6' n, uu d]
def tdG (o m c n k : Nat) (d : Int) (b : Bool) : List Value := [sl 2 o m c, sl 3 0 n k, undef, undef, uu 0, i6' n, uu d, .bool b]
theorem td_body : Tryz.f124.body = some (seqs (tdP Tryz.f124) (.seq (.seq (cFst (tdB Tryz.f124)) (.block 0 (.loop (tdL Tryz.f124)))) (sn 4 Tryz.f124))) := by kernel_rfl
theorem td_pre (o m c n k : Nat) (x y z : Int) (la lb R Y Q : List Value) : GoesT (evL (tabH Tryz.prog extY conG hcG) 100 (tdP Tryz.f124) ([sl 2 o m c, sl 3 0 n k] ++ List.replicate 35 undef, h5 la lb R Y Q, [at_, val (uu x), at_, val (uu y), at_, val (uu z)]) ⟨[], [], []⟩) 7 30 none (tdF o m c n k (gsV x y z)) (h5 la lb R Y Q) [(gsOk x y z, true), celR Y 0 (n1 n) z, inR (n1 n) n, celR R o (n1 n) y, inR (n1 n) m, celR R o n x, inR n m] := ⟨by kernel_rfl, by kernel_rfl, by kernel_rfl⟩
theorem td_r (e : Bool) (o m c n k : Nat) (d : Int) (la lb R Y Q : List Value) (g : Nat → Value) : GoesT (evC (tabH Tryz.prog extY conG hcG) 100 false (cFst (tdB Tryz.f124)) (tdF o m c n k d ++ tl 30 g, h5 la lb R Y Q, [cmp e]) ⟨[], [], []⟩) 8 29 none (tdG o m c n k d e) (h5 la lb (tmS R o m (dg m (vN (cutI R o m) - d * vN (cutI Y 0 n)))) Y Q) [(okTo la lb R Y Q tR tR tU tU tU o m c n k && decide (0 ≤ d ∧ d < 4294967296), true), (decide (vN (cutI R o m) - d * vN (cutI Y 0 n) < 0), e)] := ⟨by kernel_rfl, by kernel_rfl, by kernel_rfl⟩
theorem td_go (e : Bool) (o m c n k : Nat) (d : Int) (la lb R Y Q : List Value) (g : Nat → Value) : GoesT (evC (tabH Tryz.prog extY conG hcG) 100 false (tdL Tryz.f124) (tdG o m c n k d true ++ tl 29 g, h5 la lb R Y Q, [cmp e]) ⟨[], [], []⟩) 8 29 none (tdG o m c n k (IntKind.u32.wrap (d - 1)) (!e)) (h5 la lb (tmS R o m (dg m (vN (cutI R o m) + vN (cutI Y 0 n)))) Y Q) [(okTo la lb R Y Q tR tR tU tU tU o m c n k, true), (decide (4294967296 ^ m ≤ vN (cutI R o m) + vN (cutI Y 0 n)), e)] := ⟨by kernel_rfl, by kernel_rfl, by kernel_rfl⟩
theorem td_out (o m c n k : Nat) (d : Int) (h : Hp) (g : Nat → Value) : GoesT (evC (tabH Tryz.prog extY conG hcG) 100 false (tdL Tryz.f124) (tdG o m c n k d false ++ tl 29 g, h, []) ⟨[], [], []⟩) 8 29 (some (some 0)) (tdG o m c n k d false) h [] := ⟨by kernel_rfl, by kernel_rfl, by kernel_rfl⟩
theorem td_end (o m c n k : Nat) (d : Int) (b : Bool) (h : Hp) (g : Nat → Value) : GoesT (evC (tabH Tryz.prog extY conG hcG) 100 false (sn 4 Tryz.f124) (tdG o m c n k d b ++ tl 29 g, h, []) ⟨[], [], []⟩) 5 32 (some none) [sl 2 o m c, sl 3 0 n k, undef, undef, uu d] h [] := ⟨by kernel_rfl, by kernel_rfl, by kernel_rfl⟩
theorem cut_tmS {R : List Value} {o m c : Nat} {L : List Int} (ra : rowOk tU R o m c = true) (hl : L.length = m) : cutI (tmS R o m L) o m = L := by
  obtain ⟨_, hF⟩ := row_parts ra
  unfold tmS cutI cutV
  rw [List.drop_left' hF, List.take_left' (by rw [wU_len, hl])]
  unfold wU
  rw [List.map_map]
  exact (List.map_congr_left fun x _ => rfl).trans (List.map_id' _)
theorem tmS_tmS {R : List Value} {o m c : Nat} {L L' : List Int} (ra : rowOk tU R o m c = true) (hl : L.length = m) : tmS (tmS R o m L) o m L' = tmS R o m L' := by
  obtain ⟨_, hF⟩ := row_parts ra
  have e1 : (tmS R o m L).take o = R.take o := by unfold tmS; exact List.take_left' hF
  have e2 : (tmS R o m L).drop (o + m) = R.drop (o + m) := by
    unfold tmS
    rw [← List.append_assoc]
    exact List.drop_left' (by rw [List.length_append, hF, wU_len, hl])
  show (tmS R o m L).take o ++ (wU L' ++ (tmS R o m L).drop (o + m)) = _
  rw [e1, e2]
  rfl
theorem row_tmS {R : List Value} {o m c : Nat} {L : List Int} (ra : rowOk tU R o m c = true) (hl : L.length = m) (hw : wds L) : rowOk tU (tmS R o m L) o m c = true := by
  obtain ⟨a1, a2, a3, a4, a5, a6, a7⟩ := row_of ra
  obtain ⟨_, hF⟩ := row_parts ra
  have hr := a1.len
  rw [a2] at hr
  unfold rowOk
  have ec : cutV (tmS R o m L) o m = wU L := by
    unfold tmS cutV
    rw [List.drop_left' hF, List.take_left' (by rw [wU_len, hl])]
  have h3 : ((cutV (tmS R o m L) o m).all isU) = true := by
    rw [ec, List.all_eq_true]
    intro v hv
    unfold wU at hv
    obtain ⟨x, hx, rfl⟩ := List.mem_map.1 hv
    exact decide_eq_true (hw x hx)
  have h4 : (tmS R o m L).all still = true := by
    unfold tmS
    simp only [List.all_append, Bool.and_eq_true]
    exact ⟨List.all_eq_true.2 fun v hv => a7 v (List.mem_of_mem_take hv), wU_allS _, List.all_eq_true.2 fun v hv => a7 v (List.mem_of_mem_drop hv)⟩
  have h5 : o + m ≤ (tmS R o m L).length := by
    unfold tmS
    rw [List.length_append, List.length_append, hF, wU_len, hl]
    omega
  rw [show tomb tU = false from by kernel_rfl, show Nat.beq (rt tU) tU = true from by kernel_rfl, Nat.ble_eq_true_of_le h5, Nat.ble_eq_true_of_le a3, a4, h3, h4]
  rfl
theorem td_runs {la lb R Y Q : List Value} {o m c n k : Nat} {M LB : List Int} (hM : cutI R o m = M) (hB : cutI Y 0 n = LB) (hok : okTo la lb R Y Q tR tR tU tU tU o m c n k = true) (hn : 0 < n) (htop : 0 < LB.getD (n - 1) 0) (hlt : vN M < 4294967296 * vN LB) :
    Runs (tabH Tryz.prog extY conG hcG) (seqs (tdP Tryz.f124) (.seq (.seq (cFst (tdB Tryz.f124)) (.block 0 (.loop (tdL Tryz.f124)))) (sn 4 Tryz.f124))) ([sl 2 o m c, sl 3 0 n k] ++ List.replicate 35 undef, h5 la lb R Y Q, []) fun e' y => (e' = none ∨ e' = some none) ∧ resS Tryz.prog Tryz.f124 y.1 y.2.1 = some (uu (vN M / vN LB)) ∧ y.2.1.cut 5 = h5 la lb (tmS R o m (dg m (vN M % vN LB))) Y Q := by
  have hT := tabH_ok conG_ok hcG_ok
  obtain ⟨_, _, _, _, _, ra, rb, qn, qN, st0, st1, st2⟩ := okTo_of hok
  obtain ⟨a1, a2, a3, a4, a5, a6, a7⟩ := row_of ra
  obtain ⟨b1, b2, b3, b4, b5, b6, b7⟩ := row_of rb
  rw [hM] at a1 a2
  rw [hB] at b1 b2
  have w1 := a1.rng
  have w2 := b1.rng
  have bM := vN_bd M w1
  have bB := vN_bd LB w2
  rw [a2] at bM
  rw [b2] at bB
  have hpos : 0 < vN LB := by
    have := vN_low (L := LB) w2 (by omega) (by rw [b2]; omega)
    have h2 := pw_pos (LB.length - 1)
    omega
  have hge := guess_ge w1 w2 (n := n) (by omega) b2 hn htop
  have en : n1 n = ((n - 1 : Nat) : Int) := by unfold n1; rw [wrapI (by omega) (by omega)]; omega
  have rng : ∀ i, i < M.length → 0 ≤ M.getD i 0 ∧ M.getD i 0 < 4294967296 := fun i hi => w1 _ (by simp [List.getD, List.getElem?_eq_getElem hi])
  have rngB : ∀ i, i < LB.length → 0 ≤ LB.getD i 0 ∧ LB.getD i 0 < 4294967296 := fun i hi => w2 _ (by simp [List.getD, List.getElem?_eq_getElem hi])
  have r1 := rng n (by omega)
  have r2 := rng (n - 1) (by omega)
  have r3 := rngB (n - 1) (by omega)
  have c1 := a1.cell (k := n) (by omega)
  have c2 := a1.cell (k := n - 1) (by omega)
  have c3 := b1.cell (k := n - 1) (by omega)
  have hq := digit_lt hpos bM.1 hlt
  have hG : vN M / vN LB ≤ gsV (M.getD n 0) (M.getD (n - 1) 0) (LB.getD (n - 1) 0) ∧ 0 ≤ gsV (M.getD n 0) (M.getD (n - 1) 0) (LB.getD (n - 1) 0) ∧ gsV (M.getD n 0) (M.getD (n - 1) 0) (LB.getD (n - 1) 0) < 4294967296 := by
    unfold gsV
    split
    · omega
    · have := guess_lt r1.1 r2 (b := LB.getD (n - 1) 0) (by omega)
      omega
  have g0 := td_pre o m c n k (M.getD n 0) (M.getD (n - 1) 0) (LB.getD (n - 1) 0) la lb R Y Q
  rw [en] at g0
  refine goesT_list hT g0 (okTwo (by unfold gsOk; exact decide_eq_true ⟨r1, r2, htop, r3.2⟩) (okTwo (cel_ok c3) (okTwo (decide_eq_true (by omega)) (okTwo (cel_ok c2) (okTwo (decide_eq_true (by omega)) (okTwo (cel_ok c1) (okOne (decide_eq_true (by omega))))))))) fun g => ?_
  generalize gsV (M.getD n 0) (M.getD (n - 1) 0) (LB.getD (n - 1) 0) = d at *
  refine Runs.seq (P1 := fun e' y => e' = none ∧ ∃ g, y.1 = tdG o m c n k (vN M / vN LB) false ++ tl 29 g ∧ y.2.1 = h5 la lb (tmS R o m (dg m (vN M % vN LB))) Y Q) ?_ ?_ (fun e y he => by cases he.1)
  · have g1 := td_r (decide (vN M - d * vN LB < 0)) o m c n k d la lb R Y Q g
    rw [hM, hB] at g1
    refine Runs.seq (P1 := fun e' y => e' = none ∧ (∃ g, y.1 = tdG o m c n k d (decide (vN M - d * vN LB < 0)) ++ tl 29 g) ∧ y.2.1 = h5 la lb (tmS R o m (dg m (vN M - d * vN LB))) Y Q) (goesT_runs hT g1 (okTwo (by rw [hok, decide_eq_true hG.2]; rfl) (okOne rfl))) ?_ (fun e y he => by cases he.1)
    rintro ⟨t, h', s'⟩ ⟨_, ⟨g1, ht⟩, hh⟩
    simp only at ht hh
    subst ht hh
    refine (Runs.forLoop (R := fun _ => False) (P := fun y => ∃ g, y.1 = tdG o m c n k (vN M / vN LB) false ++ tl 29 g ∧ y.2.1 = h5 la lb (tmS R o m (dg m (vN M % vN LB))) Y Q)
      (fun r y => ∃ (d : Int) (g : Nat → Value), d = vN M / vN LB + r ∧ d < 4294967296 ∧ y.1 = tdG o m c n k d (decide (vN M - d * vN LB < 0)) ++ tl 29 g ∧ y.2.1 = h5 la lb (tmS R o m (dg m (vN M - d * vN LB))) Y Q)
      ?_ (n := (d - vN M / vN LB).toNat) ⟨d, g1, by omega, hG.2.2, rfl, rfl⟩).mono fun e' y he => ?_
    · rintro r ⟨t, h', s'⟩ ⟨d, g, hd, hdl, ht, hh⟩
      simp only at ht hh
      subst ht hh
      by_cases hneg : vN M - d * vN LB < 0
      · rw [decide_eq_true hneg]
        have hmore := more_than hpos hneg
        have hlo : -(4294967296 ^ m) ≤ vN M - d * vN LB := by
          have h1 : d * vN LB ≤ 4294967296 * vN LB := Int.mul_le_mul_of_nonneg_right (by omega) (by omega)
          rw [qn, pw]
          omega
        have hvd := neg_dg hneg hlo
        have hwd := dg_wds m (vN M - d * vN LB)
        have hld := dg_len m (vN M - d * vN LB)
        have ra' := row_tmS ra hld hwd
        have ec := cut_tmS ra hld
        have eV : vN M - d * vN LB + 4294967296 ^ m + vN LB = (vN M - (d - 1) * vN LB) + 4294967296 ^ m * 1 := by
          rw [Int.sub_mul, Int.one_mul, Int.mul_one]
          omega
        have g2 := td_go (decide (4294967296 ^ m ≤ vN M - d * vN LB + 4294967296 ^ m + vN LB)) o m c n k d la lb (tmS R o m (dg m (vN M - d * vN LB))) Y Q g
        rw [ec, hB, hvd, eV, dg_mod, tmS_tmS ra hld, u32w, Int.emod_eq_of_lt (by omega) (by omega)] at g2
        have hok' : okTo la lb (tmS R o m (dg m (vN M - d * vN LB))) Y Q tR tR tU tU tU o m c n k = true := by
          unfold okTo at hok ⊢
          rw [ra'] 
          rw [ra] at hok
          exact hok
        refine (goesT_runs hT g2 (okTwo hok' (okOne rfl))).mono fun e' y he => ?_
        obtain ⟨rfl, ⟨g3, e2⟩, e3⟩ := he
        refine ⟨r - 1, by omega, d - 1, g3, by omega, by omega, ?_, e3⟩
        rw [e2]
        congr 2
        by_cases h0 : vN M - (d - 1) * vN LB < 0
        · rw [decide_eq_true h0, decide_eq_false (by omega)]
          rfl
        · rw [decide_eq_false h0, decide_eq_true (by omega)]
          rfl
      · rw [decide_eq_false hneg]
        obtain ⟨f1, f2⟩ := rest_is hpos (show 0 ≤ vN M - d * vN LB by omega) (show vN M / vN LB ≤ d by omega)
        refine (goesT_runs hT (td_out o m c n k d _ g) (fun x hx => by cases hx)).mono fun e' y he => ?_
        obtain ⟨rfl, ⟨g3, e2⟩, e3⟩ := he
        rw [f2] at e3
        rw [f1] at e2
        exact ⟨rfl, g3, e2, e3⟩
    · match e', he with
      | none, he => exact ⟨rfl, he⟩
      | some none, he => exact he.elim
      | some (some _), he => exact he.elim
  · rintro ⟨t, h', s'⟩ ⟨_, g, ht, hh⟩
    simp only at ht hh
    subst ht hh
    refine (goesT_runs hT (td_end o m c n k (vN M / vN LB) false _ g) (fun x hx => by cases hx)).mono fun e' y he => ?_
    obtain ⟨rfl, ⟨g1, e2⟩, e3⟩ := he
    refine ⟨.inr rfl, ?_, ?_⟩
    · rw [e2, e3]; rfl
    · rw [e3]; rfl
def gTd5 : AnsH := fun vals h s =>
  match vals, h with
  | [.slice (some ⟨2, o, none⟩) m c, .slice (some ⟨3, 0, none⟩) n k], ⟨5, [(Q, t4), (Y, t3), (R, t2), (lb, t1), (la, t0)]⟩ => some (uu (vN (cutI R o m) / vN (cutI Y 0 n)), h5 la lb (tmS R o m (dg m (vN (cutI R o m) % vN (cutI Y 0 n)))) Y Q, s, [(okTo la lb R Y Q t0 t1 t2 t3 t4 o m c n k && decide (0 < n ∧ 0 < (cutI Y 0 n).getD (n - 1) 0 ∧ vN (cutI R o m) < 4294967296 * vN (cutI Y 0 n)), true)])
  | _, _ => none
theorem gTd5_ok : AnsHOk 124 gTd5 := by
  intro vals h s v h' s' lg hg hl m B w E hv
  unfold gTd5 at hg
  split at hg
  · rename_i o mm c n k Q t4 Y t3 R t2 lb t1 la t0
    cases hg
    have l1 := hl _ (List.mem_singleton.2 rfl)
    simp only [Bool.and_eq_true, decide_eq_true_eq] at l1
    obtain ⟨l1, h0, h1, h2⟩ := l1
    obtain ⟨q0, q1, q2, q3, q4, ra, rb, qn, qN, st0, st1, st2⟩ := okTo_of l1
    subst q0 q1 q2 q3 q4
    have r := td_runs rfl rfl l1 h0 h1 h2
    exact hcalls_of_runs (T := tabH Tryz.prog extY conG hcG) Tryz.func124 td_body (vals := [sl 2 o mm c, sl 3 0 n k]) (v := uu (vN (cutI R o mm) / vN (cutI Y 0 n))) (h := h5 la lb R Y Q) (by rfl) (tight5 ra rb st0 st1 st2) r m B w E hv
  · cases hg
def mB (q : Bool) : Nat := match q with | true => 3 | false => 2
def h4q (q : Bool) (S X la lb : List Value) : Hp := match q with | true => ⟨4, [(S, tU), (X, tU), (lb, tR), (la, tR)]⟩ | false => ⟨4, [(X, tU), (S, tU), (lb, tR), (la, tR)]⟩
theorem h4q_cut (q : Bool) (S X la lb : List Value) : (h4q q S X la lb).cut 4 = h4q q S X la lb := by cases q <;> rfl
theorem mup4_go (q : Bool) (o n c : Nat) (k l j x : Int) (i0 x0 : Value) (X la lb S : List Value) (g : Nat → Value) : GoesT (evC (tabOf Tryz.prog extY conN true) 100 false (mL Tryz.f59) (mF (sl (mB q) o n c) (i6' k) (uu l) i0 x0 (sl (mB q) o n c) (i6' n) (i6' j) ++ tl 17 g, h4q q S X la lb, [cmp true, at_, val (uu x), at_, at_]) ⟨[], [], []⟩) 10 17 none
    (mF (sl (mB q) o n c) (i6' k) (uu (lowU x k)) (i6' j) (uu x) (sl (mB q) o n c) (i6' n) (i6' (IntKind.i64.wrap (j + 1)))) (h4q q (S.set (o + j.toNat * 1) (uu (newU x k l))) X la lb) [(decide (IntKind.i64.wrap (32 - k) < 0), false), (decide (o + j.toNat * 1 < S.length), true), inR j n, (decide (k < 0), false), celR S o j x, inR j n, (decide (j < n), true)] := by
  cases q <;> exact ⟨by kernel_rfl, by kernel_rfl, by kernel_rfl⟩
theorem mup4_runs (q : Bool) {F X la lb G : List Value} {o c k : Nat} {L : List Int} (hF : F.length = o) (hL : wds L) (hk : k < 32) (hN : L.length < 4611686018427387904) :
    Runs (tabOf Tryz.prog extY conN true) (seqs (mR0 Tryz.f59) (.block 0 (.loop (mL Tryz.f59)))) ([sl (mB q) o L.length c, i6' k] ++ List.replicate 25 undef, h4q q (F ++ (wU L ++ G)) X la lb, []) fun e y => (e = none ∨ e = some none) ∧ resS Tryz.prog Tryz.f59 y.1 y.2.1 = some (.tuple #[]) ∧ y.2.1.cut 4 = h4q q (F ++ (wU (dg L.length (vN L * 2 ^ k)) ++ G)) X la lb := by
  refine goesT_list (tabY_ok conN_ok) (mup_pre (mB q) o L.length c (i6' k) _) (fun x hx => by cases hx) fun g => ?_
  refine (Runs.forLoop (R := fun _ => False) (P := fun y => ∃ (l i x j : Value) (g : Nat → Value), y.1 = mF (sl (mB q) o L.length c) (i6' k) l i x (sl (mB q) o L.length c) (i6' L.length) j ++ tl 17 g ∧ y.2.1 = h4q q (F ++ (wU (dg L.length (vN L * 2 ^ k)) ++ G)) X la lb)
    (fun r y => ∃ (dx px : List Int) (l : Int) (i0 x0 : Value) (g : Nat → Value), px.length = r ∧ dx.length + px.length = L.length ∧ wds dx ∧ wds px ∧ (0 ≤ l ∧ l < 2 ^ k) ∧ y.1 = mF (sl (mB q) o L.length c) (i6' k) (uu l) i0 x0 (sl (mB q) o L.length c) (i6' L.length) (i6' dx.length) ++ tl 17 g ∧ y.2.1 = h4q q (F ++ (wU (dx ++ px) ++ G)) X la lb ∧ vN dx + 4294967296 ^ dx.length * (vN px * 2 ^ k + l) = vN L * 2 ^ k)
    ?_ (n := L.length) ⟨[], L, 0, undef, undef, g, rfl, by simp, (fun x hx => by cases hx), hL, ⟨by omega, Int.pow_pos (by omega)⟩, rfl, rfl, by simp [vN]⟩).mono fun e' y he => ?_
  · rintro r ⟨t, h', s'⟩ ⟨dx, px, l, i0, x0, g, hr, hl, wd1, wd2, hlo, ht, hh, hv⟩
    simp only at ht hh
    subst ht hh
    match px, hr, hl, wd2, hv with
    | [], hr, hl, wd2, hv =>
      have hl' : dx.length = L.length := by simpa using hl
      refine (goesT_runs (tabY_ok conN_ok) (mup_out _ _ _ _ _ _ L.length dx.length _ g) (okOne (decide_eq_false (by omega)))).mono fun e' y he => ?_
      obtain ⟨rfl, ⟨g1, e2⟩, e3⟩ := he
      refine ⟨rfl, _, _, _, _, g1, e2, ?_⟩
      simp only [vN] at hv
      rw [Int.zero_mul, Int.zero_add] at hv
      have e5 := dg_mod dx.length (vN dx) l
      rw [hv, dg_vN dx wd1, hl'] at e5
      rw [e3, e5, List.append_nil]
    | x :: px, hr, hl, wd2, hv =>
      obtain ⟨wx, wd2⟩ := wds_tail wd2
      obtain ⟨k1, k2, k3⟩ := up32 wx hlo hk
      have cS := fR_get hF dx x px G
      have lS : o + dx.length < (F ++ (wU (dx ++ x :: px) ++ G)).length := (List.getElem?_eq_some_iff.1 cS).1
      have hl' : dx.length < L.length := by simp at hl; omega
      have l1 : decide (o + ((dx.length : Int)).toNat * 1 < (F ++ (wU (dx ++ x :: px) ++ G)).length) = true := by
        rw [Int.toNat_natCast, Nat.mul_one]
        exact decide_eq_true lS
      have l2 : (inR dx.length L.length).1 = (inR dx.length L.length).2 := decide_eq_true (by omega)
      have l4 : (celR (F ++ (wU (dx ++ x :: px) ++ G)) o dx.length x).1 = (celR (F ++ (wU (dx ++ x :: px) ++ G)) o dx.length x).2 := cel_ok cS
      have e32 : IntKind.i64.wrap (32 - (k : Int)) = 32 - (k : Int) := wrapI (by omega) (by omega)
      have l5 : decide (IntKind.i64.wrap (32 - (k : Int)) < 0) = false := by
        rw [e32]
        exact decide_eq_false (by omega)
      have l6 : decide ((k : Int) < 0) = false := decide_eq_false (by omega)
      have l7 : decide ((dx.length : Int) < (L.length : Nat)) = true := decide_eq_true (by omega)
      refine (goesT_runs (tabY_ok conN_ok) (mup4_go q o L.length c k l dx.length x i0 x0 X la lb (F ++ (wU (dx ++ x :: px) ++ G)) g) (okTwo l5 (okTwo l1 (okTwo l2 (okTwo l6 (okTwo l4 (okTwo l2 (okOne l7)))))))).mono fun e' y he => ?_
      obtain ⟨rfl, ⟨g1, e2⟩, e3⟩ := he
      refine ⟨px.length, by simp at hr; omega, dx ++ [newU x k l], px, lowU x k, i6' dx.length, uu x, g1, rfl, by simp at hl ⊢; omega, wds_app wd1 (fun z hz => by rw [List.mem_singleton.1 hz]; exact k1), wd2, k2, ?_, ?_, ?_⟩
      · rw [e2, wrapI (by omega) (by omega)]
        simp
      · rw [e3, Int.toNat_natCast, Nat.mul_one, fR_set hF]
      · simp only [vN] at hv
        rw [vN_snoc, List.length_append, List.length_singleton, pw]
        exact up_step k3 hv
  · match e', he with
    | none, he =>
      obtain ⟨l, i, x, j, g, e1, e2⟩ := he
      refine ⟨.inl rfl, ?_, ?_⟩
      · rw [e1]; exact mup_res _ _ _ _ _ _ _ _ _ _
      · rw [e2]; exact h4q_cut _ _ _ _ _
    | some none, he => exact he.elim
    | some (some _), he => exact he.elim
def okMv (X la lb S : List Value) (t0 t1 t2 t3 : TypeId) (o n c : Nat) (k : Int) : Bool := Nat.beq t0 tR && Nat.beq t1 tR && Nat.beq t2 tU && Nat.beq t3 tU && rowOk tU S o n c && X.all still && la.all still && lb.all still && decide (0 ≤ k ∧ k < 32)
theorem okMv_of {X la lb S : List Value} {t0 t1 t2 t3 : TypeId} {o n c : Nat} {k : Int} (q : okMv X la lb S t0 t1 t2 t3 o n c k = true) : t0 = tR ∧ t1 = tR ∧ t2 = tU ∧ t3 = tU ∧ rowOk tU S o n c = true ∧ X.all still = true ∧ la.all still = true ∧ lb.all still = true ∧ 0 ≤ k ∧ k < 32 := by
  unfold okMv at q
  simp only [Bool.and_eq_true, decide_eq_true_eq] at q
  obtain ⟨⟨⟨⟨⟨⟨⟨⟨q0, q1⟩, q2⟩, q3⟩, ra⟩, s0⟩, s1⟩, s2⟩, h⟩ := q
  exact ⟨Nat.eq_of_beq_eq_true q0, Nat.eq_of_beq_eq_true q1, Nat.eq_of_beq_eq_true q2, Nat.eq_of_beq_eq_true q3, ra, s0, s1, s2, h.1, h.2⟩
def upT (S : List Value) (o n : Nat) (k : Int) : List Value := tmS S o n (dg n (vN (cutI S o n) * 2 ^ k.toNat))
def gMup4 : AnsH := fun vals h s =>
  match vals, h with
  | [.slice (some ⟨3, o, none⟩) n c, .int .i64 k], ⟨4, [(S, t3), (X, t2), (lb, t1), (la, t0)]⟩ => some (.tuple #[], ⟨4, [(upT S o n k, tU), (X, tU), (lb, tR), (la, tR)]⟩, s, [(okMv X la lb S t0 t1 t2 t3 o n c k, true)])
  | [.slice (some ⟨2, o, none⟩) n c, .int .i64 k], ⟨4, [(X, t3), (S, t2), (lb, t1), (la, t0)]⟩ => some (.tuple #[], ⟨4, [(X, tU), (upT S o n k, tU), (lb, tR), (la, tR)]⟩, s, [(okMv X la lb S t0 t1 t2 t3 o n c k, true)])
  | _, _ => none
theorem tight4 (q : Bool) {X la lb S : List Value} {o n c : Nat} {L : List Int} (ra : rowOk tU S o n c = true) (s0 : X.all still = true) (s1 : la.all still = true) (s2 : lb.all still = true) : (h4q q (tmS S o n L) X la lb).tight = true := by
  obtain ⟨a1, a2, a3, a4, a5, a6, a7⟩ := row_of ra
  have hS : (tmS S o n L).all (lt1 4) = true := by
    unfold tmS
    simp only [List.all_append, Bool.and_eq_true]
    refine ⟨?_, wU_tight _ _, ?_⟩
    · rw [List.all_eq_true]
      exact fun v hv => still_lt (by omega) (a7 v (List.mem_of_mem_take hv))
    · rw [List.all_eq_true]
      exact fun v hv => still_lt (by omega) (a7 v (List.mem_of_mem_drop hv))
  have h1 := all_mono (n := 4) (by omega) s0
  have h2 := all_mono (n := 4) (by omega) s1
  have h3 := all_mono (n := 4) (by omega) s2
  cases q <;> simp [Hp.tight, h4q, hS, h1, h2, h3]
theorem mup4_call (q : Bool) {X la lb S : List Value} {o n c : Nat} {k : Int} (ra : rowOk tU S o n c = true) (s0 : X.all still = true) (s1 : la.all still = true) (s2 : lb.all still = true) (k0 : 0 ≤ k) (k1 : k < 32) (m : Mp) (B : Nat) (w : World) (E : Emb m B (h4q q S X la lb) w) (hv : ∀ v ∈ [sl (mB q) o n c, i6' k], KRun.lt (h4q q S X la lb).n v = true) :
    Calls Tryz.prog 59 (([sl (mB q) o n c, i6' k] : List Value).map (mv m)).toArray w fun e w' => ∃ m', e = .returned (mv m' (.tuple #[])) ∧ Came m B (h4q q S X la lb) w (.tuple #[]) (h4q q (upT S o n k) X la lb) m' w' := by
  obtain ⟨a1, a2, a3, a4, a5, a6, a7⟩ := row_of ra
  obtain ⟨K, rfl⟩ := Int.eq_ofNat_of_zero_le k0
  have hc : c < 4611686018427387904 := blt_iff.1 a4
  obtain ⟨eS, hF⟩ := row_parts ra
  have r := mup4_runs q (X := X) (la := la) (lb := lb) (G := S.drop (o + n)) (c := c) (k := K) hF a1.rng (by omega) (by omega)
  rw [a2, ← eS] at r
  have hn : (h4q q S X la lb).n = 4 := by cases q <;> rfl
  exact hcalls_of_runs (T := tabOf Tryz.prog extY conN true) Tryz.func59 mup_body (vals := [sl (mB q) o n c, i6' K]) (v := .tuple #[]) (h := h4q q S X la lb) (by rfl) (tight4 q ra s0 s1 s2) (by rw [hn]; exact r) m B w E hv
theorem gMup4_ok : AnsHOk 59 gMup4 := by
  intro vals h s v h' s' lg hg hl m B w E hv
  unfold gMup4 at hg
  split at hg
  · rename_i o n c k S t3 X t2 lb t1 la t0
    cases hg
    obtain ⟨q0, q1, q2, q3, ra, s0, s1, s2, k0, k1⟩ := okMv_of (hl _ (List.mem_singleton.2 rfl))
    subst q0 q1 q2 q3
    exact mup4_call true ra s0 s1 s2 k0 k1 m B w E hv
  · rename_i o n c k X t3 S t2 lb t1 la t0
    cases hg
    obtain ⟨q0, q1, q2, q3, ra, s0, s1, s2, k0, k1⟩ := okMv_of (hl _ (List.mem_singleton.2 rfl))
    subst q0 q1 q2 q3
    exact mup4_call false ra s0 s1 s2 k0 k1 m B w E hv
  · cases hg
def dnX (x k : Int) : Int := x.fdiv (2 ^ min k.toNat 32)
def dnW (x k l : Int) : Int := brr (dnX x k) l
def dnH (x k : Int) : Int := IntKind.u32.wrap (x * 2 ^ min (IntKind.i64.wrap (32 - k)).toNat 32)
def mdP (F : Func) : List Code := [cFst (sn 0 F), cFst (sn 1 F)]
def mdL (F : Func) : Code := cIn (cIn (sn 2 F))
def mdF (w : Value) (k l i : Int) (x : Value) : List Value := [w, i6' k, undef, undef, uu l, i6' i, x]
theorem md_body : Tryz.f125.body = some (seqs (mdP Tryz.f125) (.block 0 (.loop (mdL Tryz.f125)))) := by kernel_rfl
theorem md_pre (b o m c : Nat) (k : Int) (h : Hp) : GoesT (evL (tabOf Tryz.prog extY conN true) 100 (mdP Tryz.f125) ([sl b o m c, i6' k] ++ List.replicate 28 undef, h, []) ⟨[], [], []⟩) 7 23 none (mdF (sl b o m c) k 0 (n1 m) undef) h [] := ⟨by kernel_rfl, by kernel_rfl, by kernel_rfl⟩
theorem md_out (w x : Value) (k l i : Int) (h : Hp) (g : Nat → Value) : GoesT (evC (tabOf Tryz.prog extY conN true) 100 false (mdL Tryz.f125) (mdF w k l i x ++ tl 23 g, h, [cmp false]) ⟨[], [], []⟩) 7 23 (some (some 0)) (mdF w k l i x) h [(decide (i ≥ 0), false)] := ⟨by kernel_rfl, by kernel_rfl, by kernel_rfl⟩
theorem md_go (o m c : Nat) (k l i x : Int) (x0 : Value) (la lb R Y Q : List Value) (g : Nat → Value) : GoesT (evC (tabOf Tryz.prog extY conN true) 100 false (mdL Tryz.f125) (mdF (sl 2 o m c) k l i x0 ++ tl 23 g, h5 la lb R Y Q, [cmp true, at_, val (uu x), at_, at_]) ⟨[], [], []⟩) 7 23 none (mdF (sl 2 o m c) k (dnH x k) (IntKind.i64.wrap (i - 1)) (uu x)) (h5 la lb (R.set (o + i.toNat * 1) (uu (dnW x k l))) Y Q)
    [(decide (IntKind.i64.wrap (32 - k) < 0), false), (decide (o + i.toNat * 1 < R.length), true), inR i m, (decide (k < 0), false), celR R o i x, inR i m, (decide (i ≥ 0), true)] := ⟨by kernel_rfl, by kernel_rfl, by kernel_rfl⟩
theorem md_res (w x : Value) (k l i : Int) (h : Hp) (g : Nat → Value) : resS Tryz.prog Tryz.f125 (mdF w k l i x ++ tl 23 g) h = some (.tuple #[]) := by kernel_rfl
end Go.Proofs.YtgefjidphfdhdabGreatDoor.Na
namespace Go.Nt
/-- one word more below: what is above it was moved down by q, r left over; q * p = 2^32 -/
theorem dn_word {p q x U : Int} (hq : 1 ≤ q) (hp : 1 ≤ p) (hpq : q * p = 4294967296) (hx : 0 ≤ x ∧ x < 4294967296) (_hU : 0 ≤ U) :
    (0 ≤ x / q ∧ x / q < p) ∧ (0 ≤ U % q ∧ U % q < q) ∧ (0 ≤ x / q + p * (U % q) ∧ x / q + p * (U % q) < 4294967296) ∧ (x + 4294967296 * U) / q = x / q + p * (U % q) + 4294967296 * (U / q) ∧ (x + 4294967296 * U) % q = x % q := by
  have h1 : 0 ≤ x / q := Int.ediv_nonneg hx.1 (by omega)
  have h2 : x / q < p := Int.ediv_lt_of_lt_mul (by omega) (by rw [Int.mul_comm, hpq]; exact hx.2)
  have h3 := Int.emod_nonneg U (show q ≠ 0 by omega)
  have h4 := Int.emod_lt_of_pos U (show 0 < q by omega)
  have h5 : p * (U % q) ≤ p * (q - 1) := Int.mul_le_mul_of_nonneg_left (by omega) (by omega)
  have h6 : p * (q - 1) = 4294967296 - p := by rw [Int.mul_sub, Int.mul_one, Int.mul_comm, hpq]
  have h7 : 0 ≤ p * (U % q) := Int.mul_nonneg (by omega) h3
  have hU' := Int.emod_add_mul_ediv U q
  have e1 : x + 4294967296 * U = x + q * (p * U) := by rw [← Int.mul_assoc, hpq]
  have e2 : p * U = p * (U % q) + 4294967296 * (U / q) := by
    have : p * U = p * (U % q + q * (U / q)) := by rw [hU']
    rw [this, Int.mul_add, ← Int.mul_assoc, Int.mul_comm p q, hpq]
  refine ⟨⟨h1, h2⟩, ⟨h3, h4⟩, by omega, ?_, ?_⟩
  · rw [e1, Int.add_mul_ediv_left _ _ (by omega), e2]
    omega
  · rw [e1, Int.add_mul_emod_self_left]
end Go.Nt
