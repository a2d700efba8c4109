/-
  nat.moveUp, as a call: its loop.
-/
import Derived.Test.YtecemjilmlagdaaDoorG26
import Derived.Test.YtecemjilmlagdaaDoorG08
import Derived.Test.YtecemjilmlagdaaDoorG21
namespace Go.Proofs.YtecemjilmlagdaaDoor
open Go.KRun Go.Nt
set_option maxRecDepth 100000

theorem fU_get {F : List Value} {o : Nat} (hF : F.length = o) (dx : List Int) (x : Int) (px : List Int) : (F ++ wU (dx ++ x :: px))[o + dx.length]? = some (uu x) := by
  rw [List.getElem?_append_right (by omega), hF, Nat.add_sub_cancel_left]
  exact wU_get dx x px
theorem fU_set {F : List Value} {o : Nat} (hF : F.length = o) (dx : List Int) (x d : Int) (px : List Int) : (F ++ wU (dx ++ x :: px)).set (o + dx.length) (uu d) = F ++ wU ((dx ++ [d]) ++ px) := by
  rw [List.set_append_right _ _ (by omega), hF, Nat.add_sub_cancel_left, wU_set]
theorem mup_runs {F la : List Value} {o c k : Nat} {L : List Int} (hF : F.length = o) (hL : wds L) (hk : k < 32) (hN : L.length < 4611686018427387904) :
    Runs (tabOf Tryd.prog extY conN true) (seqs (mR0 Tryd.f47) (.block 0 (.loop (mL Tryd.f47)))) ([sl 1 o L.length c, i6' k] ++ List.replicate 25 undef, hU (F ++ wU L) la, []) fun e y => (e = none ∨ e = some none) ∧ resS Tryd.prog Tryd.f47 y.1 y.2.1 = some (.tuple #[]) ∧ y.2.1.cut 2 = hU (F ++ wU (dg L.length (vN L * 2 ^ k))) la := by
  refine goesT_list (tabY_ok conN_ok) (mup_pre 1 o L.length c (i6' k) _) (fun x hx => by cases hx) fun g => ?_
  refine (Runs.forLoop (R := fun _ => False) (P := fun y => ∃ (l i x j : Value) (g : Nat → Value), y.1 = mF (sl 1 o L.length c) (i6' k) l i x (sl 1 o L.length c) (i6' L.length) j ++ tl 17 g ∧ y.2.1 = hU (F ++ wU (dg L.length (vN L * 2 ^ k))) la)
    (fun r y => ∃ (dx px : List Int) (l : Int) (i0 x0 : Value) (g : Nat → Value), px.length = r ∧ dx.length + px.length = L.length ∧ wds dx ∧ wds px ∧ (0 ≤ l ∧ l < 2 ^ k) ∧ y.1 = mF (sl 1 o L.length c) (i6' k) (uu l) i0 x0 (sl 1 o L.length c) (i6' L.length) (i6' dx.length) ++ tl 17 g ∧ y.2.1 = hU (F ++ wU (dx ++ px)) la ∧ vN dx + 4294967296 ^ dx.length * (vN px * 2 ^ k + l) = vN L * 2 ^ k)
    ?_ (n := L.length) ⟨[], L, 0, undef, undef, g, rfl, by simp, (fun x hx => by cases hx), hL, ⟨by omega, Int.pow_pos (by omega)⟩, rfl, rfl, by simp [vN]⟩).mono fun e' y he => ?_
  · rintro r ⟨t, h', s'⟩ ⟨dx, px, l, i0, x0, g, hr, hl, wd1, wd2, hlo, ht, hh, hv⟩
    simp only at ht hh
    subst ht hh
    match px, hr, hl, wd2, hv with
    | [], hr, hl, wd2, hv =>
      have hl' : dx.length = L.length := by simpa using hl
      refine (goesT_runs (tabY_ok conN_ok) (mup_out _ _ _ _ _ _ L.length dx.length _ g) (okOne (decide_eq_false (by omega)))).mono fun e' y he => ?_
      obtain ⟨rfl, ⟨g1, e2⟩, e3⟩ := he
      refine ⟨rfl, _, _, _, _, g1, e2, ?_⟩
      simp only [vN] at hv
      rw [Int.zero_mul, Int.zero_add] at hv
      have e5 := dg_mod dx.length (vN dx) l
      rw [hv, dg_vN dx wd1, hl'] at e5
      rw [e3, e5, List.append_nil]
    | x :: px, hr, hl, wd2, hv =>
      obtain ⟨wx, wd2⟩ := wds_tail wd2
      obtain ⟨k1, k2, k3⟩ := up32 wx hlo hk
      have cS := fU_get hF dx x px
      have lS : (F ++ wU (dx ++ x :: px)).length = o + L.length := by
        unfold wU
        simp at hl ⊢
        omega
      have hl' : dx.length < L.length := by simp at hl; omega
      have l1 : decide (o + ((dx.length : Int)).toNat * 1 < (F ++ wU (dx ++ x :: px)).length) = true := by
        rw [lS, Int.toNat_natCast]
        exact decide_eq_true (by omega)
      have l2 : (inR dx.length L.length).1 = (inR dx.length L.length).2 := decide_eq_true (by omega)
      have l4 : (celR (F ++ wU (dx ++ x :: px)) o dx.length x).1 = (celR (F ++ wU (dx ++ x :: px)) o dx.length x).2 := cel_ok cS
      have e32 : IntKind.i64.wrap (32 - (k : Int)) = 32 - (k : Int) := wrapI (by omega) (by omega)
      have l5 : decide (IntKind.i64.wrap (32 - (k : Int)) < 0) = false := by
        rw [e32]
        exact decide_eq_false (by omega)
      have l6 : decide ((k : Int) < 0) = false := decide_eq_false (by omega)
      have l7 : decide ((dx.length : Int) < (L.length : Nat)) = true := decide_eq_true (by omega)
      refine (goesT_runs (tabY_ok conN_ok) (mup_go o L.length c k l dx.length x i0 x0 la (F ++ wU (dx ++ x :: px)) g) (okTwo l5 (okTwo l1 (okTwo l2 (okTwo l6 (okTwo l4 (okTwo l2 (okOne l7)))))))).mono fun e' y he => ?_
      obtain ⟨rfl, ⟨g1, e2⟩, e3⟩ := he
      refine ⟨px.length, by simp at hr; omega, dx ++ [newU x k l], px, lowU x k, i6' dx.length, uu x, g1, rfl, by simp at hl ⊢; omega, wds_app wd1 (fun z hz => by rw [List.mem_singleton.1 hz]; exact k1), wd2, k2, ?_, ?_, ?_⟩
      · rw [e2, wrapI (by omega) (by omega)]
        simp
      · rw [e3, Int.toNat_natCast, Nat.mul_one, fU_set hF]
      · simp only [vN] at hv
        rw [vN_snoc, List.length_append, List.length_singleton, pw]
        exact up_step k3 hv
  · match e', he with
    | none, he =>
      obtain ⟨l, i, x, j, g, e1, e2⟩ := he
      refine ⟨.inl rfl, ?_, ?_⟩
      · rw [e1]; exact mup_res _ _ _ _ _ _ _ _ _ _
      · rw [e2]; rfl
    | some none, he => exact he.elim
    | some (some _), he => exact he.elim
def upS (S : List Value) (o n : Nat) (k : Int) : List Value := S.take o ++ wU (dg n (vN (cutI S o n) * 2 ^ k.toNat))
def gMup : AnsH := fun vals h s =>
  match vals, h with
  | [.slice (some ⟨1, o, none⟩) n c, .int .i64 k], ⟨2, [(S, t), (la, t')]⟩ => some (.tuple #[], ⟨2, [(upS S o n k, tU), (la, tR)]⟩, s, [(Nat.beq t tU, true), (Nat.beq t' tR, true), (rowOk t S o n c, true), (Nat.beq (o + n) S.length, true), (la.all still, true), (decide (0 ≤ k ∧ k < 32), true)])
  | _, _ => none
theorem wU_tight (L : List Int) (n : Nat) : (wU L).all (lt1 n) = true := by
  unfold wU
  rw [List.all_eq_true]
  intro v hv
  obtain ⟨x, _, rfl⟩ := List.mem_map.1 hv
  rfl
theorem wU_allS (L : List Int) : (wU L).all still = true := by
  unfold wU
  rw [List.all_eq_true]
  intro v hv
  obtain ⟨x, _, rfl⟩ := List.mem_map.1 hv
  rfl
theorem all_mono {l : List Value} {n : Nat} (hn : 0 < n) (h : l.all still = true) : l.all (lt1 n) = true := by
  rw [List.all_eq_true] at *
  exact fun v hv => still_lt hn (h v hv)
theorem gMup_ok : AnsHOk 47 gMup := by
  intro vals h s v h' s' lg hg hl m B w E hv
  unfold gMup at hg
  split at hg
  · rename_i o n c k S t la t'
    cases hg
    have q1 := Nat.eq_of_beq_eq_true (hl _ (List.mem_cons_self))
    have q2 := Nat.eq_of_beq_eq_true (hl _ (List.mem_cons_of_mem _ List.mem_cons_self))
    have ra := hl _ (List.mem_cons_of_mem _ (List.mem_cons_of_mem _ List.mem_cons_self))
    have q4 := Nat.eq_of_beq_eq_true (hl _ (List.mem_cons_of_mem _ (List.mem_cons_of_mem _ (List.mem_cons_of_mem _ List.mem_cons_self))))
    have q5 := hl _ (List.mem_cons_of_mem _ (List.mem_cons_of_mem _ (List.mem_cons_of_mem _ (List.mem_cons_of_mem _ List.mem_cons_self))))
    have q6 := of_decide_eq_true (hl _ (List.mem_cons_of_mem _ (List.mem_cons_of_mem _ (List.mem_cons_of_mem _ (List.mem_cons_of_mem _ (List.mem_cons_of_mem _ (List.mem_singleton.2 rfl)))))))
    simp only at q1 q2 q4 q5
    subst q1 q2
    obtain ⟨a1, a2, a3, a4, a5, a6, a7⟩ := row_of ra
    obtain ⟨K, rfl⟩ := Int.eq_ofNat_of_zero_le q6.1
    have hc : c < 4611686018427387904 := blt_iff.1 a4
    have eS : S = S.take o ++ wU (cutI S o n) := by
      have h1 := a1.cut
      rw [a2] at h1
      rw [← h1]
      unfold cutV
      rw [show n = (S.drop o).length from by simp; omega, List.take_length, List.take_append_drop]
    have hF : (S.take o).length = o := by simp; omega
    have r := mup_runs (la := la) (c := c) (k := K) hF a1.rng (by omega) (by omega)
    rw [a2, ← eS] at r
    have ht : (Hp.tight ⟨2, [(upS S o n K, tU), (la, tR)]⟩) = true := by
      unfold Hp.tight upS
      simp only [List.all_cons, List.all_nil, List.all_append, Bool.and_true, Bool.and_eq_true]
      refine ⟨⟨?_, wU_tight _ _⟩, all_mono (by omega) q5⟩
      rw [List.all_eq_true]
      exact fun v hv => still_lt (by omega) (a7 v (List.mem_of_mem_take hv))
    exact hcalls_of_runs (T := tabOf Tryd.prog extY conN true) Tryd.func47 mup_body (vals := [sl 1 o n c, i6' K]) (v := .tuple #[]) (h := hU S la) (by rfl) ht r m B w E hv
  · cases hg
end Go.Proofs.YtecemjilmlagdaaDoor

/-
  Numbers: a row, and a word times a row added to it.
-/
namespace Go.Nt

theorem dg_rest : ∀ (m : Nat) (V : Int), vN (dg m V) + 4294967296 ^ m * (V / 4294967296 ^ m) = V
  | 0, V => by simp [dg, vN]
  | m + 1, V => by
    have h := dg_rest m (V / 4294967296)
    simp only [dg, vN]
    rw [pw, ← Int.ediv_ediv_of_nonneg (show (0 : Int) ≤ 4294967296 by omega), Int.mul_assoc]
    omega
/-- a round -/
theorem tm_step {P a b x y z k d e A B : Int} (he : k + (x * y + z) = d + 4294967296 * e) (h : a + P * ((z + 4294967296 * A) + x * (y + 4294967296 * B) + k) = b) : a + P * d + 4294967296 * P * (A + x * B + e) = b := by
  rw [← h]
  have e1 : (z + 4294967296 * A) + x * (y + 4294967296 * B) + k = d + 4294967296 * (A + x * B + e) := by
    rw [Int.mul_add x y, ← Int.mul_assoc x 4294967296 B, Int.mul_comm x 4294967296, Int.mul_assoc 4294967296 x B]
    omega
  rw [e1]
  generalize A + x * B + e = Z
  rw [Int.mul_add P d, ← Int.mul_assoc P 4294967296 Z, Int.mul_comm P 4294967296]
  omega
theorem xy_bd {x y : Int} (hx : 0 ≤ x ∧ x < 4294967296) (hy : 0 ≤ y ∧ y < 4294967296) : 0 ≤ x * y ∧ x * y ≤ 18446744065119617025 := by
  constructor
  · exact Int.mul_nonneg hx.1 hy.1
  · have h1 : x * y ≤ 4294967295 * y := Int.mul_le_mul_of_nonneg_right (by omega) hy.1
    omega
theorem tm_bd {M B x Q : Int} (hM : 0 ≤ M ∧ M < Q) (hB : 0 ≤ B ∧ B < Q) (hx : 0 ≤ x ∧ x < 4294967296) : 0 ≤ M + x * B ∧ M + x * B < Q * 4294967296 := by
  have h0 := Int.mul_nonneg hx.1 hB.1
  have h1 : x * B ≤ 4294967295 * B := Int.mul_le_mul_of_nonneg_right (by omega) hB.1
  omega
theorem carry_bd {T Q : Int} (hQ : 0 < Q) (h : 0 ≤ T ∧ T < Q * 4294967296) : 0 ≤ T / Q ∧ T / Q < 4294967296 :=
  ⟨Int.ediv_nonneg h.1 (by omega), Int.ediv_lt_of_lt_mul hQ (by rw [Int.mul_comm]; exact h.2)⟩
/-- the words of a row, and of what is added to it: one more -/
theorem tm_split {M : List Int} {T : Int} (hT : 0 ≤ T ∧ T < 4294967296 ^ M.length * 4294967296) : ∃ y m, dg M.length T ++ [T / 4294967296 ^ M.length] = y :: m ∧ m.length = M.length ∧ wds [y] ∧ wds m ∧ y + 4294967296 * vN m = T := by
  have hc := carry_bd (pw_pos M.length) hT
  have hw : wds (dg M.length T ++ [T / 4294967296 ^ M.length]) := wds_app (dg_wds _ _) (fun x hx => by rw [List.mem_singleton.1 hx]; exact hc)
  have hl : (dg M.length T ++ [T / 4294967296 ^ M.length]).length = M.length + 1 := by rw [List.length_append, dg_len]; rfl
  have hv : vN (dg M.length T ++ [T / 4294967296 ^ M.length]) = T := by rw [vN_snoc, dg_len]; exact dg_rest _ _
  cases h : dg M.length T ++ [T / 4294967296 ^ M.length] with
  | nil => rw [h] at hl; simp at hl
  | cons y m =>
    rw [h] at hw hl hv
    obtain ⟨w1, w2⟩ := wds_tail hw
    refine ⟨y, m, rfl, by simpa using hl, fun x hx => by rw [List.mem_singleton.1 hx]; exact w1, w2, hv⟩
theorem pd_step {P d m A B x y m' : Int} (hT : y + 4294967296 * m' = m + x * B) (h : d + P * m = A * B) : d + P * y + 4294967296 * P * m' = (A + P * x) * B := by
  have e1 : P * y + 4294967296 * P * m' = P * (m + x * B) := by
    rw [← hT, Int.mul_add, ← Int.mul_assoc P 4294967296 m', Int.mul_comm P 4294967296]
  rw [Int.add_mul, ← h, Int.mul_assoc P x B]
  rw [Int.mul_add] at e1
  omega
theorem vN_rep : ∀ n : Nat, vN (List.replicate n 0) = 0
  | 0 => rfl
  | n + 1 => by
    rw [List.replicate_succ]
    simp only [vN]
    rw [vN_rep n]
    rfl
end Go.Nt

/-
  nat.addTimes, as a call: a word times a row, added to a part of a row.
-/
namespace Go.Proofs.YtecemjilmlagdaaDoor
open Go.KRun Go.Nt
set_option maxRecDepth 100000
set_option linter.unusedVariables false

def tK (k x y z : Int) : Int := IntKind.u64.wrap (k + IntKind.u64.wrap (IntKind.u64.wrap (IntKind.u64.wrap x * IntKind.u64.wrap y) + IntKind.u64.wrap z))
def tC (k x y z : Int) : Int := (tK k x y z).fdiv (2 ^ min (Int.toNat 32) 64)
def tD (k x y z : Int) : Int := IntKind.u32.wrap (tK k x y z)
theorem tm_word {k x y z : Int} (hk : 0 ≤ k ∧ k < 4294967296) (hx : 0 ≤ x ∧ x < 4294967296) (hy : 0 ≤ y ∧ y < 4294967296) (hz : 0 ≤ z ∧ z < 4294967296) :
    (0 ≤ tD k x y z ∧ tD k x y z < 4294967296) ∧ (0 ≤ tC k x y z ∧ tC k x y z < 4294967296) ∧ k + (x * y + z) = tD k x y z + 4294967296 * tC k x y z := by
  have hxy := xy_bd hx hy
  have e : tK k x y z = k + (x * y + z) := by
    unfold tK
    simp only [u64w]
    rw [Int.emod_eq_of_lt hx.1 (by omega), Int.emod_eq_of_lt hy.1 (by omega), Int.emod_eq_of_lt hz.1 (by omega), Int.emod_eq_of_lt hxy.1 (by omega), Int.emod_eq_of_lt (by omega) (by omega), Int.emod_eq_of_lt (by omega) (by omega)]
  unfold tD tC
  rw [e, u32w, show ((2 : Int) ^ min (Int.toNat 32) 64) = 4294967296 from by decide, Int.fdiv_eq_ediv_of_nonneg _ (by omega)]
  generalize x * y = W at *
  omega
def tmP (F : Func) : List Code := [cFst (cBody F), cFst (cSnd (cBody F)), cFst (cSnd (cSnd (cBody F)))]
def tmB (F : Func) : Code := cFst (cSnd (cSnd (cSnd (cBody F))))
def tmL (F : Func) : Code := cIn (cIn (cSnd (tmB F)))
def tmE (F : Func) : Code := cSnd (cSnd (cSnd (cSnd (cBody F))))
def tmF (o n c o' c' : Nat) (x k : Int) (v8 v9 u1 u2 u3 u4 : Value) (j : Int) : List Value := [sl 2 o n c, sl 1 o' n c', uu x, undef, undef, undef, uu 0, .int .u64 k, v8, v9, u1, u2, u3, u4, sl 1 o' n c', i6' n, i6' j]
theorem tm_body : Tryd.f65.body = some (seqs (tmP Tryd.f65) (.seq (.seq (cFst (tmB Tryd.f65)) (.block 0 (.loop (tmL Tryd.f65)))) (tmE Tryd.f65))) := by kernel_rfl
def tmA (o n c o' c' : Nat) (x : Int) : List Value := [sl 2 o n c, sl 1 o' n c', uu x, undef, undef, undef, uu 0, .int .u64 0, undef, undef, sl 2 o n c, sl 1 o' n c', i6' n, sl 2 o n c]
theorem tm_pre (o n c o' c' : Nat) (x : Int) (S la lb : List Value) : GoesT (evL (tabOf Tryd.prog extY conN true) 100 (tmP Tryd.f65) ([sl 2 o n c, sl 1 o' n c', uu x] ++ List.replicate 41 undef, h3 la lb S, [num 0]) ⟨[], [], []⟩) 14 30 none (tmA o n c o' c' x) (h3 la lb S) [(smallC c, true), (okPart 0 n c c, true), (decide ((c : Int) = 0 ∧ (0 : Int) ≠ 0), false)] := ⟨by kernel_rfl, by kernel_rfl, by kernel_rfl⟩
theorem tm_r3 (o n c o' c' : Nat) (x : Int) (S la lb : List Value) (g : Nat → Value) : GoesT (evC (tabOf Tryd.prog extY conN true) 100 false (cFst (tmB Tryd.f65)) (tmA o n c o' c' x ++ tl 30 g, h3 la lb S, []) ⟨[], [], []⟩) 17 27 none (tmF o n c o' c' x 0 undef undef (sl 2 o n c) (sl 1 o' n c') (i6' n) (sl 2 o n c) 0) (h3 la lb S) [] := ⟨by kernel_rfl, by kernel_rfl, by kernel_rfl⟩
theorem tm_out (o n c o' c' : Nat) (x k j : Int) (v8 v9 u1 u2 u3 u4 : Value) (S la lb : List Value) (g : Nat → Value) : GoesT (evC (tabOf Tryd.prog extY conN true) 100 false (tmL Tryd.f65) (tmF o n c o' c' x k v8 v9 u1 u2 u3 u4 j ++ tl 27 g, h3 la lb S, [cmp false]) ⟨[], [], []⟩) 17 27 (some (some 0)) (tmF o n c o' c' x k v8 v9 u1 u2 u3 u4 j) (h3 la lb S) [(decide (j < n), false)] := ⟨by kernel_rfl, by kernel_rfl, by kernel_rfl⟩
theorem tm_go (o n c o' c' : Nat) (x k j y z : Int) (v8 v9 u1 u2 u3 u4 : Value) (S la lb : List Value) (g : Nat → Value) : GoesT (evC (tabOf Tryd.prog extY conN true) 100 false (tmL Tryd.f65) (tmF o n c o' c' x k v8 v9 u1 u2 u3 u4 j ++ tl 27 g, h3 la lb S, [cmp true, at_, val (uu y), at_, val (uu z), at_, at_]) ⟨[], [], []⟩) 17 27 none (tmF o n c o' c' x (tC k x y z) (i6' j) (uu y) u1 u2 u3 u4 (IntKind.i64.wrap (j + 1))) (h3 la lb (S.set (o + j.toNat * 1) (uu (tD k x y z)))) [(decide ((32 : Int) < 0), false), (decide (o + j.toNat * 1 < S.length), true), inR j n, celR S o j z, inR j n, celR lb o' j y, inR j n, (decide (j < n), true)] := ⟨by kernel_rfl, by kernel_rfl, by kernel_rfl⟩
theorem tm_end (o n c o' c' : Nat) (x k j : Int) (v8 v9 u1 u2 u3 u4 : Value) (h : Hp) (g : Nat → Value) : GoesT (evC (tabOf Tryd.prog extY conN true) 100 false (tmE Tryd.f65) (tmF o n c o' c' x k v8 v9 u1 u2 u3 u4 j ++ tl 27 g, h, []) ⟨[], [], []⟩) 7 37 (some none) [sl 2 o n c, sl 1 o' n c', uu x, undef, undef, undef, uu (IntKind.u32.wrap k)] h [] := ⟨by kernel_rfl, by kernel_rfl, by kernel_rfl⟩
end Go.Proofs.YtecemjilmlagdaaDoor
