/-
  nat.putBack: its loop, and the contract.
-/
import Derived.Test.YtppakongkjdlbaaDoorG30
import GoSem.Core.Sem
namespace Go.Proofs.YtppakongkjdlbaaDoor
open Go.KRun Go.Nt
set_option maxRecDepth 100000
set_option linter.unusedVariables false

def pbP (F : Func) : List Code := [cFst (sn 0 F), cFst (sn 1 F)]
def pbB (F : Func) : Code := cFst (sn 2 F)
def pbL (F : Func) : Code := cIn (cIn (cSnd (pbB F)))
def pbF (o m c n k : Nat) (b : Int) (v6 v7 u1 u2 u3 : Value) : List Value := [sl 2 o m c, sl 3 0 n k, undef, undef, .bool false, uu b, v6, v7, u1, u2, u3]
def adD (x y c : Int) : Int := (x + y + c) % 4294967296
def adC (x y c : Int) : Int := (x + y + c) / 4294967296
theorem pb_body : Tryd.f68.body = some (seqs (pbP Tryd.f68) (.seq (.seq (cFst (pbB Tryd.f68)) (.block 0 (.loop (pbL Tryd.f68)))) (sn 3 Tryd.f68))) := by kernel_rfl
theorem pb_pre (o m c n k : Nat) (h : Hp) : GoesT (evL (tabOf Tryd.prog extY conA true) 100 (pbP Tryd.f68) ([sl 2 o m c, sl 3 0 n k] ++ List.replicate 43 undef, h, []) ⟨[], [], []⟩) 11 34 none (pbF o m c n k 0 undef undef undef undef undef) h [] := ⟨by kernel_rfl, by kernel_rfl, by kernel_rfl⟩
theorem pb_r (o m c n k : Nat) (b : Int) (v6 v7 u1 u2 u3 : Value) (h : Hp) (g : Nat → Value) : GoesT (evC (tabOf Tryd.prog extY conA true) 100 false (cFst (pbB Tryd.f68)) (pbF o m c n k b v6 v7 u1 u2 u3 ++ tl 34 g, h, []) ⟨[], [], []⟩) 11 34 none (pbF o m c n k b v6 v7 (sl 3 0 n k) (i6' n) (i6' 0)) h [] := ⟨by kernel_rfl, by kernel_rfl, by kernel_rfl⟩
theorem pb_out (o m c n k : Nat) (b j : Int) (v6 v7 : Value) (h : Hp) (g : Nat → Value) : GoesT (evC (tabOf Tryd.prog extY conA true) 100 false (pbL Tryd.f68) (pbF o m c n k b v6 v7 (sl 3 0 n k) (i6' n) (i6' j) ++ tl 34 g, h, [cmp false]) ⟨[], [], []⟩) 11 34 (some (some 0)) (pbF o m c n k b v6 v7 (sl 3 0 n k) (i6' n) (i6' j)) h [(decide (j < n), false)] := ⟨by kernel_rfl, by kernel_rfl, by kernel_rfl⟩
theorem pb_go (o m c n k : Nat) (b j x y : Int) (v6 v7 : Value) (la lb R Y Q : List Value) (g : Nat → Value) : GoesT (evC (tabOf Tryd.prog extY conA true) 100 false (pbL Tryd.f68) (pbF o m c n k b v6 v7 (sl 3 0 n k) (i6' n) (i6' j) ++ tl 34 g, h5 la lb R Y Q, [cmp true, at_, val (uu x), at_, val (uu y), at_, at_]) ⟨[], [], []⟩) 11 34 none (pbF o m c n k (adC y x b) (i6' j) (uu x) (sl 3 0 n k) (i6' n) (i6' (IntKind.i64.wrap (j + 1)))) (h5 la lb (R.set (o + j.toNat * 1) (uu (adD y x b))) Y Q)
    [(decide (o + j.toNat * 1 < R.length), true), inR j m, (wd4 y x b, true), celR R o j y, inR j m, celR Y 0 j x, inR j n, (decide (j < n), true)] := ⟨by kernel_rfl, by kernel_rfl, by kernel_rfl⟩
theorem pb_end (e : Bool) (o m c n k : Nat) (b y : Int) (v6 v7 u1 u2 u3 : Value) (la lb R Y Q : List Value) (g : Nat → Value) : GoesT (evC (tabOf Tryd.prog extY conA true) 100 false (sn 3 Tryd.f68) (pbF o m c n k b v6 v7 u1 u2 u3 ++ tl 34 g, h5 la lb R Y Q, [at_, val (uu y), at_, at_, cmp e]) ⟨[], [], []⟩) 5 40 (some none) [sl 2 o m c, sl 3 0 n k, undef, undef, .bool e] (h5 la lb (R.set (o + ((n : Int)).toNat * 1) (uu (adD y 0 b))) Y Q)
    [(adC y 0 b != 0, e), (decide (o + ((n : Int)).toNat * 1 < R.length), true), inR n m, (wd4 y 0 b, true), celR R o n y, inR n m] := by
  cases e <;> exact ⟨by kernel_rfl, by kernel_rfl, by kernel_rfl⟩
theorem carry_okB {x y c : Int} (hx : 0 ≤ x ∧ x < 4294967296) (hy : 0 ≤ y ∧ y < 4294967296) (hc : 0 ≤ c ∧ c ≤ 1) : (0 ≤ adD x y c ∧ adD x y c < 4294967296) ∧ (0 ≤ adC x y c ∧ adC x y c ≤ 1) ∧ x + y + c = adD x y c + 4294967296 * adC x y c := by
  unfold adD adC
  omega
theorem pb_runs {F G la lb Y Q : List Value} {o c k : Nat} {M LB : List Int} (hF : F.length = o) (hM : wds M) (RB : Row Y 0 LB) (hl : M.length = LB.length + 1) (hN : M.length < 1099511627776) (e : Bool) (he : decide (4294967296 ^ M.length ≤ vN M + vN LB) = e) :
    Runs (tabOf Tryd.prog extY conA true) (seqs (pbP Tryd.f68) (.seq (.seq (cFst (pbB Tryd.f68)) (.block 0 (.loop (pbL Tryd.f68)))) (sn 3 Tryd.f68))) ([sl 2 o M.length c, sl 3 0 LB.length k] ++ List.replicate 43 undef, h5 la lb (F ++ (wU M ++ G)) Y Q, []) fun e' y => (e' = none ∨ e' = some none) ∧ resS Tryd.prog Tryd.f68 y.1 y.2.1 = some (.bool e) ∧ y.2.1.cut 5 = h5 la lb (F ++ (wU (dg M.length (vN M + vN LB)) ++ G)) Y Q := by
  have hwB := RB.rng
  have hT := tabY_ok conA_ok
  refine goesT_list hT (pb_pre o M.length c LB.length k _) (fun x hx => by cases hx) fun g => ?_
  refine Runs.seq (P1 := fun e' y => e' = none ∧ ∃ (dx : List Int) (t b : Int) (v6 v7 u1 u2 u3 : Value) (g : Nat → Value), dx.length = LB.length ∧ wds dx ∧ (0 ≤ t ∧ t < 4294967296) ∧ (0 ≤ b ∧ b ≤ 1) ∧ y.1 = pbF o M.length c LB.length k b v6 v7 u1 u2 u3 ++ tl 34 g ∧ y.2.1 = h5 la lb (F ++ (wU (dx ++ t :: []) ++ G)) Y Q ∧ vN dx + 4294967296 ^ dx.length * (t + b) = vN M + vN LB) ?_ ?_ (fun e y he => by cases he.1)
  · refine Runs.seq (P1 := fun e' y => e' = none ∧ (∃ g, y.1 = pbF o M.length c LB.length k 0 undef undef (sl 3 0 LB.length k) (i6' LB.length) (i6' 0) ++ tl 34 g) ∧ y.2.1 = h5 la lb (F ++ (wU M ++ G)) Y Q) (goesT_runs hT (pb_r o M.length c LB.length k 0 undef undef undef undef undef _ g) (fun x hx => by cases hx)) ?_ (fun e y he => by cases he.1)
    rintro ⟨t, h', s'⟩ ⟨_, ⟨g1, ht⟩, hh⟩
    simp only at ht hh
    subst ht hh
    refine (Runs.forLoop (R := fun _ => False) (P := fun y => ∃ (dx : List Int) (t b : Int) (v6 v7 u1 u2 u3 : Value) (g : Nat → Value), dx.length = LB.length ∧ wds dx ∧ (0 ≤ t ∧ t < 4294967296) ∧ (0 ≤ b ∧ b ≤ 1) ∧ y.1 = pbF o M.length c LB.length k b v6 v7 u1 u2 u3 ++ tl 34 g ∧ y.2.1 = h5 la lb (F ++ (wU (dx ++ t :: []) ++ G)) Y Q ∧ vN dx + 4294967296 ^ dx.length * (t + b) = vN M + vN LB)
      (fun r y => ∃ (dx px bx : List Int) (b : Int) (v6 v7 : Value) (g : Nat → Value), px.length = r + 1 ∧ dx.length + px.length = M.length ∧ wds dx ∧ wds px ∧ bx = LB.drop dx.length ∧ (0 ≤ b ∧ b ≤ 1) ∧ y.1 = pbF o M.length c LB.length k b v6 v7 (sl 3 0 LB.length k) (i6' LB.length) (i6' dx.length) ++ tl 34 g ∧ y.2.1 = h5 la lb (F ++ (wU (dx ++ px) ++ G)) Y Q ∧ vN dx + 4294967296 ^ dx.length * (vN px + vN bx + b) = vN M + vN LB)
      ?_ (n := LB.length) ⟨[], M, LB, 0, undef, undef, g1, by omega, by simp, (fun x hx => by cases hx), hM, rfl, by omega, rfl, rfl, by simp [vN]⟩).mono fun e' y he => ?_
    · rintro r ⟨t, h', s'⟩ ⟨dx, px, bx, b, v6, v7, g, hr, hlen, wd1, wd2, hb, hbb, ht, hh, hv⟩
      simp only at ht hh
      subst ht hh
      cases r with
      | zero =>
        have hl' : dx.length = LB.length := by omega
        match px, hr, wd2, hv with
        | [t], hr, wd2, hv =>
          refine (goesT_runs hT (pb_out o M.length c LB.length k b dx.length v6 v7 _ g) (okOne (decide_eq_false (by omega)))).mono fun e' y he => ?_
          obtain ⟨rfl, ⟨g1, e2⟩, e3⟩ := he
          have hbx : bx = [] := by rw [hb, List.drop_eq_nil_of_le (by omega)]
          subst hbx
          refine ⟨rfl, dx, t, b, v6, v7, _, _, _, g1, hl', wd1, wd2 t (List.mem_singleton.2 rfl), hbb, e2, e3, ?_⟩
          simpa [vN] using hv
      | succ r =>
        match px, hr, hlen, wd2, hv with
        | y :: px, hr, hlen, wd2, hv =>
          obtain ⟨wy, wd2⟩ := wds_tail wd2
          have hl' : dx.length < LB.length := by simp at hlen hr; omega
          have hx := RB.cell (k := dx.length) (by omega)
          have hxr := hwB (LB.getD dx.length 0) (by simp [List.getD, List.getElem?_eq_getElem hl'])
          have hbx : bx = LB.getD dx.length 0 :: LB.drop (dx.length + 1) := by
            rw [hb, List.drop_eq_getElem_cons hl']
            simp [List.getD, List.getElem?_eq_getElem hl']
          generalize LB.getD dx.length 0 = x at *
          obtain ⟨s1, s2, s3⟩ := carry_okB wy hxr hbb
          have cS := fR_get hF dx y px G
          have lS : o + dx.length < (F ++ (wU (dx ++ y :: px) ++ G)).length := (List.getElem?_eq_some_iff.1 cS).1
          have l1 : decide (o + ((dx.length : Int)).toNat * 1 < (F ++ (wU (dx ++ y :: px) ++ G)).length) = true := by
            rw [Int.toNat_natCast, Nat.mul_one]
            exact decide_eq_true lS
          have l2 : (inR dx.length M.length).1 = (inR dx.length M.length).2 := decide_eq_true (by omega)
          have l3 : (inR dx.length LB.length).1 = (inR dx.length LB.length).2 := decide_eq_true (by omega)
          refine (goesT_runs hT (pb_go o M.length c LB.length k b dx.length x y v6 v7 la lb _ Y Q g) (okTwo l1 (okTwo l2 (okTwo (wd4_ok wy hxr hbb) (okTwo (cel_ok cS) (okTwo l2 (okTwo (cel_ok hx) (okTwo l3 (okOne (decide_eq_true (by omega)))))))))) ).mono fun e' z he => ?_
          obtain ⟨rfl, ⟨g1, e2⟩, e3⟩ := he
          refine ⟨r, by omega, dx ++ [adD y x b], px, LB.drop (dx.length + 1), adC y x b, i6' dx.length, uu x, g1, by simp at hr; omega, by simp at hlen ⊢; omega, wds_app wd1 (fun u hu => by rw [List.mem_singleton.1 hu]; exact s1), wd2, by simp, s2, ?_, ?_, ?_⟩
          · rw [e2, wrapI (by omega) (by omega)]
            simp
          · rw [e3, Int.toNat_natCast, Nat.mul_one, fR_set hF]
          · rw [hbx] at hv
            simp only [vN] at hv
            rw [vN_snoc, List.length_append, List.length_singleton, pw]
            exact pb_step s3 hv
    · match e', he with
      | none, he => exact ⟨rfl, he⟩
      | some none, he => exact he.elim
      | some (some _), he => exact he.elim
  · rintro ⟨t, h', s'⟩ ⟨_, dx, tw, b, v6, v7, u1, u2, u3, g, hdl, wd1, wt, hbb, ht, hh, hv⟩
    simp only at ht hh
    subst ht hh
    obtain ⟨s1, s2, s3⟩ := carry_okB wt (show (0 : Int) ≤ 0 ∧ (0 : Int) < 4294967296 by omega) hbb
    have cS := fR_get hF dx tw [] G
    have lS : o + dx.length < (F ++ (wU (dx ++ tw :: []) ++ G)).length := (List.getElem?_eq_some_iff.1 cS).1
    obtain ⟨f1, f2⟩ := last_word (l := adC tw 0 b) (V := vN M + vN LB) wd1 s1 (by rw [← hv, ← s3]; congr 2; omega)
    have g0 := pb_end e o M.length c LB.length k b tw v6 v7 u1 u2 u3 la lb (F ++ (wU (dx ++ tw :: []) ++ G)) Y Q g
    rw [← hdl, Int.toNat_natCast, Nat.mul_one, fR_set hF] at g0
    have l0 : (adC tw 0 b != 0) = e := by
      rw [← he, hl, ← hdl, ← f2]
      have hp := pw_pos (dx.length + 1)
      by_cases hbig : 4294967296 ^ (dx.length + 1) ≤ vN M + vN LB
      · rw [decide_eq_true hbig]
        have : (1 : Int) ≤ (vN M + vN LB) / 4294967296 ^ (dx.length + 1) := (Int.le_ediv_iff_mul_le hp).2 (by omega)
        exact bne_iff_ne.2 (by omega)
      · rw [decide_eq_false hbig]
        have h1 := vN_bd M hM
        have h2 := vN_bd LB hwB
        rw [Int.ediv_eq_zero_of_lt (by omega) (by omega)]
        rfl
    have l2 : (inR dx.length M.length).1 = (inR dx.length M.length).2 := decide_eq_true (by omega)
    rw [← hdl]
    refine (goesT_runs hT g0 (okTwo l0 (okTwo (decide_eq_true lS) (okTwo l2 (okTwo (wd4_ok wt (by omega) hbb) (okTwo (cel_ok cS) (okOne l2))))))).mono fun e' y he => ?_
    obtain ⟨rfl, ⟨g1, e2⟩, e3⟩ := he
    refine ⟨.inr rfl, ?_, ?_⟩
    · rw [e2, e3]; rfl
    · rw [e3, hl, ← hdl, ← f1, List.append_nil]; rfl
def gPb5 : AnsH := fun vals h s =>
  match vals, h, s with
  | [.slice (some ⟨2, o, none⟩) m c, .slice (some ⟨3, 0, none⟩) n k], ⟨5, [(Q, t4), (Y, t3), (R, t2), (lb, t1), (la, t0)]⟩, .inr (.inr (.inr (.inl e))) :: s' => some (.bool e, h5 la lb (tmS R o m (dg m (vN (cutI R o m) + vN (cutI Y 0 n)))) Y Q, s', [(okTo la lb R Y Q t0 t1 t2 t3 t4 o m c n k, true), (decide (4294967296 ^ m ≤ vN (cutI R o m) + vN (cutI Y 0 n)), e)])
  | _, _, _ => none
theorem gPb5_ok : AnsHOk 68 gPb5 := by
  intro vals h s v h' s' lg hg hl m B w E hv
  unfold gPb5 at hg
  split at hg
  · rename_i o mm c n k Q t4 Y t3 R t2 lb t1 la t0 e s2
    cases hg
    have l1 := hl _ List.mem_cons_self
    have l2 := hl _ (List.mem_cons_of_mem _ (List.mem_singleton.2 rfl))
    simp only at l1 l2
    obtain ⟨q0, q1, q2, q3, q4, ra, rb, qn, qN, st0, st1, st2⟩ := okTo_of l1
    subst q0 q1 q2 q3 q4
    obtain ⟨a1, a2, a3, a4, a5, a6, a7⟩ := row_of ra
    obtain ⟨b1, b2, b3, b4, b5, b6, b7⟩ := row_of rb
    obtain ⟨eS, hF⟩ := row_parts ra
    have r := pb_runs (G := R.drop (o + mm)) (la := la) (lb := lb) (Q := Q) (c := c) (k := k) hF a1.rng b1 (by rw [a2, b2]; exact qn) (by rw [a2]; exact qN) e (by rw [a2]; exact l2)
    rw [a2, b2, ← eS] at r
    exact hcalls_of_runs (T := tabOf Tryd.prog extY conA true) Tryd.func68 pb_body (vals := [sl 2 o mm c, sl 3 0 n k]) (v := .bool e) (h := h5 la lb R Y Q) (by rfl) (tight5 ra rb st0 st1 st2) r m B w E hv
  · cases hg
end Go.Proofs.YtppakongkjdlbaaDoor

/-
  Numbers: a digit of a quotient, guessed by the highest words.
-/
namespace Go.Nt

theorem guess_ge {M L : List Int} (hM : wds M) (hL : wds L) {n : Nat} (hm : M.length = n + 1) (hl : L.length = n) (hn : 0 < n) (hb : 0 < L.getD (n - 1) 0) : vN M / vN L ≤ (M.getD n 0 * 4294967296 + M.getD (n - 1) 0) / L.getD (n - 1) 0 := by
  have hP := pw_pos (n - 1)
  have eM : M = (M.take (n - 1) ++ [M.getD (n - 1) 0]) ++ [M.getD n 0] := by
    have h1 := take_succ (L := M) (k := n) (by omega)
    have h2 := take_succ (L := M) (k := n - 1) (by omega)
    rw [show n - 1 + 1 = n by omega] at h2
    rw [← h2, ← h1, ← hm, List.take_length]
  have eL : L = L.take (n - 1) ++ [L.getD (n - 1) 0] := by
    have h2 := take_succ (L := L) (k := n - 1) (by omega)
    rw [← h2, show n - 1 + 1 = L.length by omega, List.take_length]
  have vM : vN M = vN (M.take (n - 1)) + 4294967296 ^ (n - 1) * (M.getD n 0 * 4294967296 + M.getD (n - 1) 0) := by
    have : vN M = vN ((M.take (n - 1) ++ [M.getD (n - 1) 0]) ++ [M.getD n 0]) := by rw [← eM]
    rw [this, vN_snoc, vN_snoc, List.length_append, List.length_take, Nat.min_eq_left (by omega), List.length_singleton, pw, Int.mul_add, Int.mul_comm (M.getD n 0) 4294967296, ← Int.mul_assoc, Int.mul_comm (4294967296 ^ (n - 1)) 4294967296]
    omega
  have vL : vN L = vN (L.take (n - 1)) + 4294967296 ^ (n - 1) * L.getD (n - 1) 0 := by
    have : vN L = vN (L.take (n - 1) ++ [L.getD (n - 1) 0]) := by rw [← eL]
    rw [this, vN_snoc, List.length_take, Nat.min_eq_left (by omega)]
  have bM := vN_bd (M.take (n - 1)) (wds_take hM _)
  have bL := vN_bd (L.take (n - 1)) (wds_take hL _)
  rw [List.length_take, Nat.min_eq_left (by omega)] at bM bL
  generalize M.getD n 0 * 4294967296 + M.getD (n - 1) 0 = T at *
  generalize L.getD (n - 1) 0 = b at *
  generalize (4294967296 : Int) ^ (n - 1) = P at *
  have hPb : 0 < P * b := Int.mul_pos hP hb
  have hq := Int.mul_ediv_self_le (x := vN M) (k := vN L) (by omega)
  have hq0 : 0 ≤ vN M / vN L := by
    by_cases h0 : 0 ≤ vN M
    · exact Int.ediv_nonneg h0 (by omega)
    · have := (vN_bd M hM).1
      omega
  generalize hqd : vN M / vN L = q at *
  refine (Int.le_ediv_iff_mul_le hb).2 ?_
  have h1 : P * b * q ≤ vN L * q := Int.mul_le_mul_of_nonneg_right (by omega) hq0
  have h2 : P * b * q < P * (T + 1) := by
    rw [Int.mul_add]
    omega
  rw [Int.mul_assoc] at h2
  have h3 := Int.lt_of_mul_lt_mul_left h2 (by omega)
  rw [Int.mul_comm q b]
  omega
theorem guess_lt {h l b : Int} (hh : 0 ≤ h) (hl : 0 ≤ l ∧ l < 4294967296) (hb : h < b) : 0 ≤ (h * 4294967296 + l) / b ∧ (h * 4294967296 + l) / b < 4294967296 :=
  ⟨Int.ediv_nonneg (by omega) (by omega), Int.ediv_lt_of_lt_mul (by omega) (by omega)⟩
theorem digit_lt {M B : Int} (hB : 0 < B) (h0 : 0 ≤ M) (h : M < 4294967296 * B) : 0 ≤ M / B ∧ M / B ≤ 4294967295 := by
  have h1 := Int.ediv_lt_of_lt_mul hB h
  exact ⟨Int.ediv_nonneg h0 (by omega), by omega⟩
theorem rest_is {M B d : Int} (hB : 0 < B) (h1 : 0 ≤ M - d * B) (h2 : M / B ≤ d) : d = M / B ∧ M - d * B = M % B := by
  have h3 : d ≤ M / B := (Int.le_ediv_iff_mul_le hB).2 (by omega)
  have e : d = M / B := by omega
  refine ⟨e, ?_⟩
  have := Int.emod_add_mul_ediv M B
  rw [e, Int.mul_comm (M / B) B]
  omega
theorem more_than {M B d : Int} (hB : 0 < B) (h : M - d * B < 0) : M / B < d := Int.ediv_lt_of_lt_mul hB (by omega)
theorem neg_dg {m : Nat} {V : Int} (h0 : V < 0) (h1 : -(4294967296 ^ m) ≤ V) : vN (dg m V) = V + 4294967296 ^ m := by
  have := dg_mod m V 1
  rw [Int.mul_one] at this
  rw [← this]
  exact vN_dg m _ (by omega) (by omega)
end Go.Nt

/-
  PLAIN ARITHMETIC: bits of words of 64, as the model's operators write them.
-/
namespace Go.Pt

def bAnd (x y : Int) : Int := IntKind.u64.wrap ((BitVec.ofInt 64 x &&& BitVec.ofInt 64 y).toNat : Nat)
def bOr (x y : Int) : Int := IntKind.u64.wrap ((BitVec.ofInt 64 x ||| BitVec.ofInt 64 y).toNat : Nat)
def bXor (x y : Int) : Int := IntKind.u64.wrap ((BitVec.ofInt 64 x ^^^ BitVec.ofInt 64 y).toNat : Nat)
def bNot (x y : Int) : Int := IntKind.u64.wrap ((BitVec.ofInt 64 x &&& ~~~(BitVec.ofInt 64 y)).toNat : Nat)
abbrev U (p : Int) : Prop := 0 ≤ p ∧ p < 18446744073709551616
abbrev I (n : Int) : Prop := -9223372036854775808 ≤ n ∧ n ≤ 9223372036854775807

theorem wrapU (n : Int) : IntKind.u64.wrap n = n % 18446744073709551616 := by simp [IntKind.wrap, IntKind.bits, IntKind.signed]
theorem wrapU' {n : Int} (h : U n) : IntKind.u64.wrap n = n := by rw [wrapU]; unfold U at h; omega
theorem wrapI' {n : Int} (h : I n) : IntKind.i64.wrap n = n := by
  unfold I at h
  simp [IntKind.wrap, IntKind.bits, IntKind.signed]; omega
theorem ofU {Z : Nat} (h : Z < 18446744073709551616) : (BitVec.ofInt 64 (Z : Int)).toNat = Z := by simp; omega
theorem back {V : BitVec 64} : IntKind.u64.wrap (V.toNat : Nat) = (V.toNat : Int) := by
  have := V.isLt
  exact wrapU' ⟨by omega, by omega⟩
theorem and_mask (x k j : Nat) : x &&& (2 ^ k * (2 ^ j - 1)) = 2 ^ k * (x / 2 ^ k % 2 ^ j) := by
  refine Nat.eq_of_testBit_eq fun i => ?_
  rw [Nat.testBit_and, Nat.testBit_two_pow_mul, Nat.testBit_two_pow_sub_one, Nat.testBit_two_pow_mul, Nat.testBit_mod_two_pow, Nat.testBit_div_two_pow]
  by_cases h : k ≤ i
  · have e : k + (i - k) = i := by omega
    have e' : i - k + k = i := by omega
    simp [h, e', Bool.and_comm]
  · simp [h]
theorem bAnd_mask {p m : Int} (k j : Nat) (hp : U p) (hm : m = ((2 ^ k * (2 ^ j - 1) : Nat) : Int)) (hk : 2 ^ k * (2 ^ j - 1) < 18446744073709551616) : bAnd p m = 2 ^ k * (p / 2 ^ k % 2 ^ j) := by
  obtain ⟨h0, h1⟩ := hp
  obtain ⟨Z, rfl⟩ := Int.eq_ofNat_of_zero_le h0
  unfold bAnd
  rw [back, BitVec.toNat_and, ofU (by omega), hm, ofU hk, and_mask]
  simp
theorem or_low {p q : Int} (k : Nat) {z : Int} (hz : 0 ≤ z) (hq : q = 2 ^ k * z) (hp : 0 ≤ p) (hk : p < 2 ^ k) (hs : q + p < 18446744073709551616) : bOr p q = q + p := by
  obtain ⟨Z, rfl⟩ := Int.eq_ofNat_of_zero_le hz
  obtain ⟨Y, rfl⟩ := Int.eq_ofNat_of_zero_le hp
  have ex : (2 : Int) ^ k * (Z : Nat) = ((2 ^ k * Z : Nat) : Int) := by simp
  have hY : Y < 2 ^ k := by
    have : ((Y : Nat) : Int) < ((2 ^ k : Nat) : Int) := by simpa using hk
    exact Int.ofNat_lt.1 this
  subst hq
  rw [ex] at hs ⊢
  have hX : 2 ^ k * Z + Y < 18446744073709551616 := by omega
  unfold bOr
  rw [back, BitVec.toNat_or, ofU (by omega), ofU (by omega), Nat.or_comm, ← Nat.two_pow_add_eq_or_of_lt hY]
  omega
theorem bNot_sign {p : Int} (hp : U p) : bNot p 9223372036854775808 = p % 9223372036854775808 := by
  obtain ⟨h0, h1⟩ := hp
  obtain ⟨Z, rfl⟩ := Int.eq_ofNat_of_zero_le h0
  unfold bNot
  have e : (~~~(BitVec.ofInt 64 9223372036854775808)).toNat = 2 ^ 63 - 1 := by decide
  rw [back, BitVec.toNat_and, ofU (by omega), e, Nat.and_two_pow_sub_one_eq_mod]
  omega
theorem xor_sign (r : Nat) (h : r < 2 ^ 63) : r ^^^ 2 ^ 63 = 2 ^ 63 + r := by
  have e : 2 ^ 63 + r = 2 ^ 63 ||| r := by
    have := Nat.two_pow_add_eq_or_of_lt h 1
    simpa using this
  rw [e]
  refine Nat.eq_of_testBit_eq fun i => ?_
  rw [Nat.testBit_xor, Nat.testBit_or, Nat.testBit_two_pow]
  by_cases hi : 63 = i
  · subst hi
    rw [Nat.testBit_lt_two_pow h]
    simp
  · simp [hi]
theorem bXor_sign {p : Int} (hp : U p) : bXor p 9223372036854775808 = (p + 9223372036854775808) % 18446744073709551616 := by
  obtain ⟨h0, h1⟩ := hp
  obtain ⟨Z, rfl⟩ := Int.eq_ofNat_of_zero_le h0
  unfold bXor
  have e : (BitVec.ofInt 64 9223372036854775808).toNat = 2 ^ 63 := by decide
  rw [back, BitVec.toNat_xor, ofU (by omega), e]
  by_cases hz : Z < 2 ^ 63
  · rw [xor_sign Z hz]
    omega
  · have h2 := xor_sign (Z - 2 ^ 63) (by omega)
    have e2 : Z = (Z - 2 ^ 63) ^^^ 2 ^ 63 := by rw [h2]; omega
    have e3 : Z ^^^ 2 ^ 63 = Z - 2 ^ 63 := by
      rw [e2, Nat.xor_assoc, Nat.xor_self, Nat.xor_zero, ← e2]
    rw [e3]
    omega
theorem bAnd_frac {p : Int} (hp : U p) : bAnd p 4503599627370495 = p % 4503599627370496 := by
  rw [bAnd_mask 0 52 hp (by rfl) (by decide)]
  simp
theorem bAnd_sign {p : Int} (hp : U p) : bAnd p 9223372036854775808 = 9223372036854775808 * (p / 9223372036854775808 % 2) := bAnd_mask 63 1 hp (by rfl) (by decide)
theorem bAnd_quiet {p : Int} (hp : U p) : bAnd p 2251799813685248 = 2251799813685248 * (p / 2251799813685248 % 2) := bAnd_mask 51 1 hp (by rfl) (by decide)
theorem bAnd_inf {p : Int} (hp : U p) : bAnd p 9218868437227405312 = 4503599627370496 * (p / 4503599627370496 % 2048) := bAnd_mask 52 11 hp (by rfl) (by decide)
theorem bAnd_exp {p : Int} (hp : U p) : bAnd p 2047 = p % 2048 := by
  rw [bAnd_mask 0 11 hp (by rfl) (by decide)]
  simp
theorem bAnd_nib {p : Int} (hp : U p) : bAnd p 15 = p % 16 := by
  rw [bAnd_mask 0 4 hp (by rfl) (by decide)]
  simp

/-! ### a pattern's parts -/
def sgn (p : Int) : Bool := decide (9223372036854775808 ≤ p)
def mag (p : Int) : Int := p % 9223372036854775808
def ex (p : Int) : Int := p / 4503599627370496 % 2048
def fr (p : Int) : Int := p % 4503599627370496
def cl (p : Int) : Int := if ex p = 0 then (if fr p = 0 then 0 else 1) else if ex p = 2047 then (if fr p = 0 then 3 else if 2251799813685248 ≤ fr p then 4 else 5) else 2
def xp (p : Int) : Int := if ex p = 0 then -1074 else if ex p = 2047 then 0 else ex p - 1075
def sg (p : Int) : Int := if ex p = 0 then fr p else if ex p = 2047 then fr p else fr p + 4503599627370496
theorem ex_mag (p : Int) : mag p / 4503599627370496 = ex p := by unfold mag ex; omega
theorem ex_lt (p : Int) : 0 ≤ ex p ∧ ex p < 2048 := by unfold ex; omega
theorem fr_lt (p : Int) : 0 ≤ fr p ∧ fr p < 4503599627370496 := by unfold fr; omega
theorem of_parts {p : Int} (hp : U p) : p = (if sgn p = true then 9223372036854775808 else 0) + 4503599627370496 * ex p + fr p := by
  unfold sgn ex fr U at *
  split <;> rename_i h <;> simp only [decide_eq_true_eq] at h <;> omega
end Go.Pt
