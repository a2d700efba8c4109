/-
  nat.Add: its two loops.
-/
import Derived.Test.YtcnmfjhefioldabDoorConN5
namespace Go.Proofs.YtcnmfjhefioldabDoor
open Go.KRun Go.Nt
set_option maxRecDepth 100000

def bq (q : Bool) : Nat := match q with | true => 1 | false => 0
def lq (q : Bool) (la lb : List Value) : List Value := match q with | true => lb | false => la
theorem add_goq (q : Bool) (a b i0 x0 k0 : Value) (o n e N M : Nat) (c j x y : Int) (la lb S : List Value) (g g' : Nat → Value) : GoesM (evC (tabH Tryd.prog extY conA hcA) 200 false (aL0 Tryd.f10) (ml (aF a b (sl 2 0 N M) (uu c) i0 x0 k0) 20 g [sl (bq q) o n e, i6' n, i6' j] 40 g', h3 la lb S, [cmp true, at_, val (uu y), at_, val (uu x), at_, at_]) ⟨[], [], []⟩) 12 20 3 40 none
    (aF a b (sl 2 0 N M) (uu (sC x y c)) (i6' j) (uu y) k0) [sl (bq q) o n e, i6' n, i6' (IntKind.i64.wrap (j + 1))] (h3 la lb (S.set (0 + j.toNat * 1) (uu (sD x y c)))) [stoR S j, inR j N, (wd4 x y c, true), celR S 0 j x, inR j N, celR (lq q la lb) o j y, inR j n, (decide (j < n), true)] := by
  cases q
  · exact add_go0 a b i0 x0 k0 o n e N M c j x y la lb S g g'
  · exact add_go1 a b i0 x0 k0 o n e N M c j x y la lb S g g'
theorem wU_get (dx : List Int) (x : Int) (px : List Int) : (wU (dx ++ x :: px))[dx.length]? = some (uu x) := by
  unfold wU
  simp [uu]
theorem wU_set (dx : List Int) (x d : Int) (px : List Int) : (wU (dx ++ x :: px)).set dx.length (uu d) = wU ((dx ++ [d]) ++ px) := by
  unfold wU uu
  simp
theorem cel_ok {S : List Value} {o k : Nat} {x : Int} (h : S[o + k]? = some (uu x)) : (celR S o k x).1 = (celR S o k x).2 := by
  unfold celR
  simp only [Int.toNat_natCast, Nat.mul_one]
  rw [h]
  simp [cellIs, uu]
theorem drop_cons {L : List Int} {k : Nat} (h : k < L.length) : L.drop k = L.getD k 0 :: L.drop (k + 1) := by
  rw [List.drop_eq_getElem_cons h]
  simp [List.getD, List.getElem?_eq_getElem h]
theorem carry_ok {x y c : Int} (hx : 0 ≤ x ∧ x < 4294967296) (hy : 0 ≤ y ∧ y < 4294967296) (hc : 0 ≤ c ∧ c ≤ 1) : (0 ≤ sD x y c ∧ sD x y c < 4294967296) ∧ (0 ≤ sC x y c ∧ sC x y c ≤ 1) ∧ x + y + c = sD x y c + 4294967296 * sC x y c := by
  unfold sD sC
  omega
theorem add_loop0 (q : Bool) {la lb : List Value} {o e : Nat} {LA LB : List Int} (RB : Row (lq q la lb) o LB) (hle : LB.length ≤ LA.length) (hA : wds LA) (hN : LA.length < 1099511627776) (a i0 x0 k0 : Value) (g g' : Nat → Value) (s : List Dec) :
    Runs (tabH Tryd.prog extY conA hcA) (.block 0 (.loop (aL0 Tryd.f10))) (ml (aF a (sl (bq q) o LB.length e) (sl 2 0 (LA.length + 1) (LA.length + 1)) (uu 0) i0 x0 k0) 20 g [sl (bq q) o LB.length e, i6' LB.length, i6' 0] 40 g', h3 la lb (wU (LA ++ [0])), s)
      fun e' y => match e' with
        | none => ∃ (dx px : List Int) (c : Int) (i0 x0 t u v : Value) (g g' : Nat → Value), dx.length = LB.length ∧ dx.length + px.length = LA.length + 1 ∧ wds dx ∧ wds px ∧ (0 ≤ c ∧ c ≤ 1) ∧ y.1 = ml (aF a (sl (bq q) o LB.length e) (sl 2 0 (LA.length + 1) (LA.length + 1)) (uu c) i0 x0 k0) 20 g [t, u, v] 40 g' ∧ y.2.1 = h3 la lb (wU (dx ++ px)) ∧ vN dx + 4294967296 ^ LB.length * (vN px + c) = vN LA + vN LB
        | some _ => False := by
  have hz : wds [0] := fun x hx => by rw [List.mem_singleton.1 hx]; omega
  have hA0 := wds_app hA hz
  have v0 : vN (LA ++ [0]) = vN LA := by rw [vN_snoc]; simp
  refine (Runs.forLoop (R := fun _ => False) (P := fun y => ∃ (dx px : List Int) (c : Int) (i0 x0 t u v : Value) (g g' : Nat → Value), dx.length = LB.length ∧ dx.length + px.length = LA.length + 1 ∧ wds dx ∧ wds px ∧ (0 ≤ c ∧ c ≤ 1) ∧ y.1 = ml (aF a (sl (bq q) o LB.length e) (sl 2 0 (LA.length + 1) (LA.length + 1)) (uu c) i0 x0 k0) 20 g [t, u, v] 40 g' ∧ y.2.1 = h3 la lb (wU (dx ++ px)) ∧ vN dx + 4294967296 ^ LB.length * (vN px + c) = vN LA + vN LB)
    (fun r y => ∃ (k : Nat) (dx px : List Int) (c : Int) (i0 x0 : Value) (g g' : Nat → Value), k + r = LB.length ∧ dx.length = k ∧ dx.length + px.length = LA.length + 1 ∧ wds dx ∧ wds px ∧ (0 ≤ c ∧ c ≤ 1) ∧ y.1 = ml (aF a (sl (bq q) o LB.length e) (sl 2 0 (LA.length + 1) (LA.length + 1)) (uu c) i0 x0 k0) 20 g [sl (bq q) o LB.length e, i6' LB.length, i6' k] 40 g' ∧ y.2.1 = h3 la lb (wU (dx ++ px)) ∧ vN dx + 4294967296 ^ k * (vN px + vN (LB.drop k) + c) = vN LA + vN LB)
    ?_ (n := LB.length) ⟨0, [], LA ++ [0], 0, i0, x0, g, g', by omega, rfl, by simp, (fun x hx => by cases hx), hA0, by omega, rfl, rfl, by rw [v0]; simp [vN]⟩).mono fun e' y he => ?_
  · rintro r ⟨t, h', s'⟩ ⟨k, dx, px, c, i0, x0, g, g', hk, hd, hl, wd1, wd2, hc, ht, hh, hv⟩
    simp only at ht hh
    subst ht hh
    cases r with
    | zero =>
      have ek : k = LB.length := by omega
      refine (goesM_runs (tabH_ok conA_ok hcA_ok) (add_out0 _ _ _ _ _ _ _ _ LB.length k _ g g') (okOne (decide_eq_false (by omega)))).mono fun e' y he => ?_
      obtain ⟨rfl, ⟨g1, g2, e2⟩, e3⟩ := he
      refine ⟨rfl, dx, px, c, i0, x0, _, _, _, g1, g2, by omega, hl, wd1, wd2, hc, e2, e3, ?_⟩
      rw [ek, List.drop_length] at hv
      simpa [vN] using hv
    | succ r =>
      match px, hl, wd2, hv with
      | [], hl, _, _ => simp at hl; omega
      | x :: px, hl, wd2, hv =>
        obtain ⟨wx, wd2⟩ := wds_tail wd2
        have hy := RB.rng (LB.getD k 0) (by
          have hk' : k < LB.length := by omega
          simp [List.getD, List.getElem?_eq_getElem hk'])
        obtain ⟨k1, k2, k3⟩ := carry_ok wx hy hc
        have cS := wU_get dx x px
        rw [hd] at cS
        have lS : (wU (dx ++ x :: px)).length = LA.length + 1 := by unfold wU; simp at hl ⊢; omega
        have l1 : (stoR (wU (dx ++ x :: px)) k).1 = (stoR (wU (dx ++ x :: px)) k).2 := by unfold stoR; simp only [Int.toNat_natCast, Nat.mul_one, Nat.zero_add]; exact decide_eq_true (by omega)
        have l2 : (inR k (LA.length + 1)).1 = (inR k (LA.length + 1)).2 := decide_eq_true (by omega)
        have l3 : wd4 x (LB.getD k 0) c = true := decide_eq_true ⟨wx, hy, hc⟩
        have l4 : (celR (wU (dx ++ x :: px)) 0 k x).1 = (celR (wU (dx ++ x :: px)) 0 k x).2 := cel_ok (by rw [Nat.zero_add]; exact cS)
        have l5 : (celR (lq q la lb) o k (LB.getD k 0)).1 = (celR (lq q la lb) o k (LB.getD k 0)).2 := cel_ok (RB.cell (by omega))
        have l6 : (inR k LB.length).1 = (inR k LB.length).2 := decide_eq_true (by omega)
        have l7 : decide ((k : Int) < (LB.length : Nat)) = true := decide_eq_true (by omega)
        refine (goesM_runs (tabH_ok conA_ok hcA_ok) (add_goq q a _ i0 x0 k0 o LB.length e (LA.length + 1) (LA.length + 1) c k x (LB.getD k 0) la lb (wU (dx ++ x :: px)) g g') (okTwo l1 (okTwo l2 (okTwo l3 (okTwo l4 (okTwo l2 (okTwo l5 (okTwo l6 (okOne l7))))))))).mono fun e' y he => ?_
        obtain ⟨rfl, ⟨g1, g2, e2⟩, e3⟩ := he
        refine ⟨r, by omega, k + 1, dx ++ [sD x (LB.getD k 0) c], px, sC x (LB.getD k 0) c, i6' k, uu (LB.getD k 0), g1, g2, by omega, by simp [hd], by simp at hl ⊢; omega, wds_app wd1 (fun z hz => by rw [List.mem_singleton.1 hz]; exact k1), wd2, k2, ?_, ?_, ?_⟩
        · rw [e2, wrapI (by omega) (by omega)]; rfl
        · rw [e3, Int.toNat_natCast, Nat.mul_one, Nat.zero_add, ← hd, wU_set]
        · rw [drop_cons (by omega)] at hv
          simp only [vN] at hv
          rw [vN_snoc, hd, pw]
          exact sum_step k3 hv
  · match e', he with
    | none, he => exact he
    | some none, he => exact he
    | some (some _), he => exact he
theorem add_loop2 {la lb : List Value} {LA : List Int} {V : Int} (hN : LA.length < 1099511627776) (hV : V < 4294967296 ^ (LA.length + 1)) (a b i0 x0 : Value) {dx px : List Int} {c : Int} (hl : dx.length + px.length = LA.length + 1) (wd1 : wds dx) (wd2 : wds px) (hc : 0 ≤ c ∧ c ≤ 1) (hv : vN dx + 4294967296 ^ dx.length * (vN px + c) = V) (g : Nat → Value) (s : List Dec) :
    Runs (tabH Tryd.prog extY conA hcA) (.block 2 (.loop (aL2 Tryd.f10))) (aF a b (sl 2 0 (LA.length + 1) (LA.length + 1)) (uu c) i0 x0 (i6' dx.length) ++ tl 63 g, h3 la lb (wU (dx ++ px)), s)
      fun e' y => match e' with
        | none => ∃ (k : Value) (g : Nat → Value), y.1 = aF a b (sl 2 0 (LA.length + 1) (LA.length + 1)) (uu 0) i0 x0 k ++ tl 63 g ∧ y.2.1 = h3 la lb (wU (dg (LA.length + 1) V))
        | some _ => False := by
  refine (Runs.forLoop (R := fun _ => False) (P := fun y => ∃ (k : Value) (g : Nat → Value), y.1 = aF a b (sl 2 0 (LA.length + 1) (LA.length + 1)) (uu 0) i0 x0 k ++ tl 63 g ∧ y.2.1 = h3 la lb (wU (dg (LA.length + 1) V)))
    (fun r y => ∃ (dx px : List Int) (c : Int) (g : Nat → Value), px.length = r ∧ dx.length + px.length = LA.length + 1 ∧ wds dx ∧ wds px ∧ (0 ≤ c ∧ c ≤ 1) ∧ y.1 = aF a b (sl 2 0 (LA.length + 1) (LA.length + 1)) (uu c) i0 x0 (i6' dx.length) ++ tl 63 g ∧ y.2.1 = h3 la lb (wU (dx ++ px)) ∧ vN dx + 4294967296 ^ dx.length * (vN px + c) = V)
    ?_ (n := px.length) ⟨dx, px, c, g, rfl, hl, wd1, wd2, hc, rfl, rfl, hv⟩).mono fun e' y he => ?_
  · rintro r ⟨t, h', s'⟩ ⟨dx, px, c, g, hr, hl, wd1, wd2, hc, ht, hh, hv⟩
    simp only at ht hh
    subst ht hh
    by_cases c0 : c = 0
    · subst c0
      refine (goesT_runs (tabH_ok conA_ok hcA_ok) (add_out2 a b _ i0 x0 _ 0 _ g) (okOne (by rfl))).mono fun e' y he => ?_
      obtain ⟨rfl, ⟨g1, e2⟩, e3⟩ := he
      refine ⟨rfl, _, g1, e2, ?_⟩
      have e4 : vN (dx ++ px) = V := by rw [vN_app, ← hv, Int.add_zero]
      have e5 := dg_vN (dx ++ px) (wds_app wd1 wd2)
      rw [List.length_append, hl, e4] at e5
      rw [e3, e5]
    · have c1 : c = 1 := by omega
      subst c1
      match px, hr, hl, wd2, hv with
      | [], _, hl, _, hv =>
        exfalso
        simp at hl
        rw [hl] at hv
        have := (vN_bd dx wd1).1
        simp only [vN] at hv
        rw [Int.zero_add, Int.mul_one] at hv
        omega
      | x :: px, hr, hl, wd2, hv =>
        obtain ⟨wx, wd2⟩ := wds_tail wd2
        obtain ⟨k1, k2, k3⟩ := carry_ok (y := 0) wx (by omega) hc
        have cS := wU_get dx x px
        have lS : (wU (dx ++ x :: px)).length = LA.length + 1 := by unfold wU; simp at hl ⊢; omega
        have hl' : dx.length < LA.length + 1 := by simp at hl; omega
        have l1 : (stoR (wU (dx ++ x :: px)) dx.length).1 = (stoR (wU (dx ++ x :: px)) dx.length).2 := by unfold stoR; simp only [Int.toNat_natCast, Nat.mul_one, Nat.zero_add]; exact decide_eq_true (by omega)
        have l2 : (inR dx.length (LA.length + 1)).1 = (inR dx.length (LA.length + 1)).2 := decide_eq_true (by omega)
        have l3 : wd4 x 0 1 = true := decide_eq_true ⟨wx, by omega, by omega⟩
        have l4 : (celR (wU (dx ++ x :: px)) 0 dx.length x).1 = (celR (wU (dx ++ x :: px)) 0 dx.length x).2 := cel_ok (by rw [Nat.zero_add]; exact cS)
        refine (goesT_runs (tabH_ok conA_ok hcA_ok) (add_go2 a b i0 x0 (LA.length + 1) (LA.length + 1) 1 dx.length x la lb (wU (dx ++ x :: px)) g) (okTwo l1 (okTwo l2 (okTwo l3 (okTwo l4 (okTwo l2 (okOne (by rfl)))))))).mono fun e' y he => ?_
        obtain ⟨rfl, ⟨g1, e2⟩, e3⟩ := he
        refine ⟨px.length, by simp at hr; omega, dx ++ [sD x 0 1], px, sC x 0 1, g1, rfl, by simp at hl ⊢; omega, wds_app wd1 (fun z hz => by rw [List.mem_singleton.1 hz]; exact k1), wd2, k2, ?_, ?_, ?_⟩
        · rw [e2, wrapI (by omega) (by omega)]
          simp
        · rw [e3, Int.toNat_natCast, Nat.mul_one, Nat.zero_add, wU_set]
        · simp only [vN] at hv
          rw [vN_snoc, List.length_append, List.length_singleton, pw]
          have hv' : vN dx + 4294967296 ^ dx.length * (x + 4294967296 * vN px + (0 + 4294967296 * 0) + 1) = V := by rw [← hv]; congr 2; omega
          have := sum_step k3 hv'
          rw [Int.add_zero] at this
          exact this
  · match e', he with
    | none, he => exact he
    | some none, he => exact he
    | some (some _), he => exact he
end Go.Proofs.YtcnmfjhefioldabDoor
