/-
  nat.Add: its two loops.
-/
import Derived.Test.YtbjgkhbhabdjgaaDoorG10
namespace Go.Proofs.YtbjgkhbhabdjgaaDoor
open Go.KRun Go.Nt
set_option maxRecDepth 100000

def bq (q : Bool) : Nat := match q with | true => 1 | false => 0
def lq (q : Bool) (la lb : List Value) : List Value := match q with | true => lb | false => la
theorem add_goq (q : Bool) (a b i0 x0 k0 : Value) (o n e N M : Nat) (c j x y : Int) (la lb S : List Value) (g g' : Nat → Value) : GoesM (evC (tabH Tryd.prog extY conA hcA) 200 false (aL0 Tryd.f10) (ml (aF a b (sl 2 0 N M) (uu c) i0 x0 k0) 20 g [sl (bq q) o n e, i6' n, i6' j] 40 g', h3 la lb S, [cmp true, at_, val (uu y), at_, val (uu x), at_, at_]) ⟨[], [], []⟩) 12 20 3 40 none
    (aF a b (sl 2 0 N M) (uu (sC x y c)) (i6' j) (uu y) k0) [sl (bq q) o n e, i6' n, i6' (IntKind.i64.wrap (j + 1))] (h3 la lb (S.set (0 + j.toNat * 1) (uu (sD x y c)))) [stoR S j, inR j N, (wd4 x y c, true), celR S 0 j x, inR j N, celR (lq q la lb) o j y, inR j n, (decide (j < n), true)] := by
  cases q
  · exact add_go0 a b i0 x0 k0 o n e N M c j x y la lb S g g'
  · exact add_go1 a b i0 x0 k0 o n e N M c j x y la lb S g g'
theorem wU_get (dx : List Int) (x : Int) (px : List Int) : (wU (dx ++ x :: px))[dx.length]? = some (uu x) := by
  unfold wU
  simp [uu]
theorem wU_set (dx : List Int) (x d : Int) (px : List Int) : (wU (dx ++ x :: px)).set dx.length (uu d) = wU ((dx ++ [d]) ++ px) := by
  unfold wU uu
  simp
theorem cel_ok {S : List Value} {o k : Nat} {x : Int} (h : S[o + k]? = some (uu x)) : (celR S o k x).1 = (celR S o k x).2 := by
  unfold celR
  simp only [Int.toNat_natCast, Nat.mul_one]
  rw [h]
  simp [cellIs, uu]
theorem drop_cons {L : List Int} {k : Nat} (h : k < L.length) : L.drop k = L.getD k 0 :: L.drop (k + 1) := by
  rw [List.drop_eq_getElem_cons h]
  simp [List.getD, List.getElem?_eq_getElem h]
theorem carry_ok {x y c : Int} (hx : 0 ≤ x ∧ x < 4294967296) (hy : 0 ≤ y ∧ y < 4294967296) (hc : 0 ≤ c ∧ c ≤ 1) : (0 ≤ sD x y c ∧ sD x y c < 4294967296) ∧ (0 ≤ sC x y c ∧ sC x y c ≤ 1) ∧ x + y + c = sD x y c + 4294967296 * sC x y c := by
  unfold sD sC
  omega
theorem add_loop0 (q : Bool) {la lb : List Value} {o e : Nat} {LA LB : List Int} (RB : Row (lq q la lb) o LB) (hle : LB.length ≤ LA.length) (hA : wds LA) (hN : LA.length < 1099511627776) (a i0 x0 k0 : Value) (g g' : Nat → Value) (s : List Dec) :
    Runs (tabH Tryd.prog extY conA hcA) (.block 0 (.loop (aL0 Tryd.f10))) (ml (aF a (sl (bq q) o LB.length e) (sl 2 0 (LA.length + 1) (LA.length + 1)) (uu 0) i0 x0 k0) 20 g [sl (bq q) o LB.length e, i6' LB.length, i6' 0] 40 g', h3 la lb (wU (LA ++ [0])), s)
      fun e' y => match e' with
        | none => ∃ (dx px : List Int) (c : Int) (i0 x0 t u v : Value) (g g' : Nat → Value), dx.length = LB.length ∧ dx.length + px.length = LA.length + 1 ∧ wds dx ∧ wds px ∧ (0 ≤ c ∧ c ≤ 1) ∧ y.1 = ml (aF a (sl (bq q) o LB.length e) (sl 2 0 (LA.length + 1) (LA.length + 1)) (uu c) i0 x0 k0) 20 g [t, u, v] 40 g' ∧ y.2.1 = h3 la lb (wU (dx ++ px)) ∧ vN dx + 4294967296 ^ LB.length * (vN px + c) = vN LA + vN LB
        | some _ => False := by
  have hz : wds [0] := fun x hx => by rw [List.mem_singleton.1 hx]; omega
  have hA0 := wds_app hA hz
  have v0 : vN (LA ++ [0]) = vN LA := by rw [vN_snoc]; simp
  refine (Runs.forLoop (R := fun _ => False) (P := fun y => ∃ (dx px : List Int) (c : Int) (i0 x0 t u v : Value) (g g' : Nat → Value), dx.length = LB.length ∧ dx.length + px.length = LA.length + 1 ∧ wds dx ∧ wds px ∧ (0 ≤ c ∧ c ≤ 1) ∧ y.1 = ml (aF a (sl (bq q) o LB.length e) (sl 2 0 (LA.length + 1) (LA.length + 1)) (uu c) i0 x0 k0) 20 g [t, u, v] 40 g' ∧ y.2.1 = h3 la lb (wU (dx ++ px)) ∧ vN dx + 4294967296 ^ LB.length * (vN px + c) = vN LA + vN LB)
    (fun r y => ∃ (k : Nat) (dx px : List Int) (c : Int) (i0 x0 : Value) (g g' : Nat → Value), k + r = LB.length ∧ dx.length = k ∧ dx.length + px.length = LA.length + 1 ∧ wds dx ∧ wds px ∧ (0 ≤ c ∧ c ≤ 1) ∧ y.1 = ml (aF a (sl (bq q) o LB.length e) (sl 2 0 (LA.length + 1) (LA.length + 1)) (uu c) i0 x0 k0) 20 g [sl (bq q) o LB.length e, i6' LB.length, i6' k] 40 g' ∧ y.2.1 = h3 la lb (wU (dx ++ px)) ∧ vN dx + 4294967296 ^ k * (vN px + vN (LB.drop k) + c) = vN LA + vN LB)
    ?_ (n := LB.length) ⟨0, [], LA ++ [0], 0, i0, x0, g, g', by omega, rfl, by simp, (fun x hx => by cases hx), hA0, by omega, rfl, rfl, by rw [v0]; simp [vN]⟩).mono fun e' y he => ?_
  · rintro r ⟨t, h', s'⟩ ⟨k, dx, px, c, i0, x0, g, g', hk, hd, hl, wd1, wd2, hc, ht, hh, hv⟩
    simp only at ht hh
    subst ht hh
    cases r with
    | zero =>
      have ek : k = LB.length := by omega
      refine (goesM_runs (tabH_ok conA_ok hcA_ok) (add_out0 _ _ _ _ _ _ _ _ LB.length k _ g g') (okOne (decide_eq_false (by omega)))).mono fun e' y he => ?_
      obtain ⟨rfl, ⟨g1, g2, e2⟩, e3⟩ := he
      refine ⟨rfl, dx, px, c, i0, x0, _, _, _, g1, g2, by omega, hl, wd1, wd2, hc, e2, e3, ?_⟩
      rw [ek, List.drop_length] at hv
      simpa [vN] using hv
    | succ r =>
      match px, hl, wd2, hv with
      | [], hl, _, _ => simp at hl; omega
      | x :: px, hl, wd2, hv =>
        obtain ⟨wx, wd2⟩ := wds_tail wd2
        have hy := RB.rng (LB.getD k 0) (by
          have hk' : k < LB.length := by omega
          simp [List.getD, List.getElem?_eq_getElem hk'])
        obtain ⟨k1, k2, k3⟩ := carry_ok wx hy hc
        have cS := wU_get dx x px
        rw [hd] at cS
        have lS : (wU (dx ++ x :: px)).length = LA.length + 1 := by unfold wU; simp at hl ⊢; omega
        have l1 : (stoR (wU (dx ++ x :: px)) k).1 = (stoR (wU (dx ++ x :: px)) k).2 := by unfold stoR; simp only [Int.toNat_natCast, Nat.mul_one, Nat.zero_add]; exact decide_eq_true (by omega)
        have l2 : (inR k (LA.length + 1)).1 = (inR k (LA.length + 1)).2 := decide_eq_true (by omega)
        have l3 : wd4 x (LB.getD k 0) c = true := decide_eq_true ⟨wx, hy, hc⟩
        have l4 : (celR (wU (dx ++ x :: px)) 0 k x).1 = (celR (wU (dx ++ x :: px)) 0 k x).2 := cel_ok (by rw [Nat.zero_add]; exact cS)
        have l5 : (celR (lq q la lb) o k (LB.getD k 0)).1 = (celR (lq q la lb) o k (LB.getD k 0)).2 := cel_ok (RB.cell (by omega))
        have l6 : (inR k LB.length).1 = (inR k LB.length).2 := decide_eq_true (by omega)
        have l7 : decide ((k : Int) < (LB.length : Nat)) = true := decide_eq_true (by omega)
        refine (goesM_runs (tabH_ok conA_ok hcA_ok) (add_goq q a _ i0 x0 k0 o LB.length e (LA.length + 1) (LA.length + 1) c k x (LB.getD k 0) la lb (wU (dx ++ x :: px)) g g') (okTwo l1 (okTwo l2 (okTwo l3 (okTwo l4 (okTwo l2 (okTwo l5 (okTwo l6 (okOne l7))))))))).mono fun e' y he => ?_
        obtain ⟨rfl, ⟨g1, g2, e2⟩, e3⟩ := he
        refine ⟨r, by omega, k + 1, dx ++ [sD x (LB.getD k 0) c], px, sC x (LB.getD k 0) c, i6' k, uu (LB.getD k 0), g1, g2, by omega, by simp [hd], by simp at hl ⊢; omega, wds_app wd1 (fun z hz => by rw [List.mem_singleton.1 hz]; exact k1), wd2, k2, ?_, ?_, ?_⟩
        · rw [e2, wrapI (by omega) (by omega)]; rfl
        · rw [e3, Int.toNat_natCast, Nat.mul_one, Nat.zero_add, ← hd, wU_set]
        · rw [drop_cons (by omega)] at hv
          simp only [vN] at hv
          rw [vN_snoc, hd, pw]
          exact sum_step k3 hv
  · match e', he with
    | none, he => exact he
    | some none, he => exact he
    | some (some _), he => exact he
theorem add_loop2 {la lb : List Value} {LA : List Int} {V : Int} (hN : LA.length < 1099511627776) (hV : V < 4294967296 ^ (LA.length + 1)) (a b i0 x0 : Value) {dx px : List Int} {c : Int} (hl : dx.length + px.length = LA.length + 1) (wd1 : wds dx) (wd2 : wds px) (hc : 0 ≤ c ∧ c ≤ 1) (hv : vN dx + 4294967296 ^ dx.length * (vN px + c) = V) (g : Nat → Value) (s : List Dec) :
    Runs (tabH Tryd.prog extY conA hcA) (.block 2 (.loop (aL2 Tryd.f10))) (aF a b (sl 2 0 (LA.length + 1) (LA.length + 1)) (uu c) i0 x0 (i6' dx.length) ++ tl 63 g, h3 la lb (wU (dx ++ px)), s)
      fun e' y => match e' with
        | none => ∃ (k : Value) (g : Nat → Value), y.1 = aF a b (sl 2 0 (LA.length + 1) (LA.length + 1)) (uu 0) i0 x0 k ++ tl 63 g ∧ y.2.1 = h3 la lb (wU (dg (LA.length + 1) V))
        | some _ => False := by
  refine (Runs.forLoop (R := fun _ => False) (P := fun y => ∃ (k : Value) (g : Nat → Value), y.1 = aF a b (sl 2 0 (LA.length + 1) (LA.length + 1)) (uu 0) i0 x0 k ++ tl 63 g ∧ y.2.1 = h3 la lb (wU (dg (LA.length + 1) V)))
    (fun r y => ∃ (dx px : List Int) (c : Int) (g : Nat → Value), px.length = r ∧ dx.length + px.length = LA.length + 1 ∧ wds dx ∧ wds px ∧ (0 ≤ c ∧ c ≤ 1) ∧ y.1 = aF a b (sl 2 0 (LA.length + 1) (LA.length + 1)) (uu c) i0 x0 (i6' dx.length) ++ tl 63 g ∧ y.2.1 = h3 la lb (wU (dx ++ px)) ∧ vN dx + 4294967296 ^ dx.length * (vN px + c) = V)
    ?_ (n := px.length) ⟨dx, px, c, g, rfl, hl, wd1, wd2, hc, rfl, rfl, hv⟩).mono fun e' y he => ?_
  · rintro r ⟨t, h', s'⟩ ⟨dx, px, c, g, hr, hl, wd1, wd2, hc, ht, hh, hv⟩
    simp only at ht hh
    subst ht hh
    by_cases c0 : c = 0
    · subst c0
      refine (goesT_runs (tabH_ok conA_ok hcA_ok) (add_out2 a b _ i0 x0 _ 0 _ g) (okOne (by rfl))).mono fun e' y he => ?_
      obtain ⟨rfl, ⟨g1, e2⟩, e3⟩ := he
      refine ⟨rfl, _, g1, e2, ?_⟩
      have e4 : vN (dx ++ px) = V := by rw [vN_app, ← hv, Int.add_zero]
      have e5 := dg_vN (dx ++ px) (wds_app wd1 wd2)
      rw [List.length_append, hl, e4] at e5
      rw [e3, e5]
    · have c1 : c = 1 := by omega
      subst c1
      match px, hr, hl, wd2, hv with
      | [], _, hl, _, hv =>
        exfalso
        simp at hl
        rw [hl] at hv
        have := (vN_bd dx wd1).1
        simp only [vN] at hv
        rw [Int.zero_add, Int.mul_one] at hv
        omega
      | x :: px, hr, hl, wd2, hv =>
        obtain ⟨wx, wd2⟩ := wds_tail wd2
        obtain ⟨k1, k2, k3⟩ := carry_ok (y := 0) wx (by omega) hc
        have cS := wU_get dx x px
        have lS : (wU (dx ++ x :: px)).length = LA.length + 1 := by unfold wU; simp at hl ⊢; omega
        have hl' : dx.length < LA.length + 1 := by simp at hl; omega
        have l1 : (stoR (wU (dx ++ x :: px)) dx.length).1 = (stoR (wU (dx ++ x :: px)) dx.length).2 := by unfold stoR; simp only [Int.toNat_natCast, Nat.mul_one, Nat.zero_add]; exact decide_eq_true (by omega)
        have l2 : (inR dx.length (LA.length + 1)).1 = (inR dx.length (LA.length + 1)).2 := decide_eq_true (by omega)
        have l3 : wd4 x 0 1 = true := decide_eq_true ⟨wx, by omega, by omega⟩
        have l4 : (celR (wU (dx ++ x :: px)) 0 dx.length x).1 = (celR (wU (dx ++ x :: px)) 0 dx.length x).2 := cel_ok (by rw [Nat.zero_add]; exact cS)
        refine (goesT_runs (tabH_ok conA_ok hcA_ok) (add_go2 a b i0 x0 (LA.length + 1) (LA.length + 1) 1 dx.length x la lb (wU (dx ++ x :: px)) g) (okTwo l1 (okTwo l2 (okTwo l3 (okTwo l4 (okTwo l2 (okOne (by rfl)))))))).mono fun e' y he => ?_
        obtain ⟨rfl, ⟨g1, e2⟩, e3⟩ := he
        refine ⟨px.length, by simp at hr; omega, dx ++ [sD x 0 1], px, sC x 0 1, g1, rfl, by simp at hl ⊢; omega, wds_app wd1 (fun z hz => by rw [List.mem_singleton.1 hz]; exact k1), wd2, k2, ?_, ?_, ?_⟩
        · rw [e2, wrapI (by omega) (by omega)]
          simp
        · rw [e3, Int.toNat_natCast, Nat.mul_one, Nat.zero_add, wU_set]
        · simp only [vN] at hv
          rw [vN_snoc, List.length_append, List.length_singleton, pw]
          have hv' : vN dx + 4294967296 ^ dx.length * (x + 4294967296 * vN px + (0 + 4294967296 * 0) + 1) = V := by rw [← hv]; congr 2; omega
          have := sum_step k3 hv'
          rw [Int.add_zero] at this
          exact this
  · match e', he with
    | none, he => exact he
    | some none, he => exact he
    | some (some _), he => exact he
end Go.Proofs.YtbjgkhbhabdjgaaDoor

/-
  nat.Add, as a call with two rows.
-/
namespace Go.Proofs.YtbjgkhbhabdjgaaDoor
open Go.KRun Go.Nt
set_option maxRecDepth 100000

theorem nP_eq {n : Nat} (h : n ≤ 8192) : nP n = ((n + 1 : Nat) : Int) := by unfold nP; rw [wrapI (by omega) (by omega)]; omega
theorem nP_nat {n : Nat} (h : n ≤ 8192) : (nP n).toNat = n + 1 := by rw [nP_eq h, Int.toNat_natCast]
theorem cpy_eq {la : List Value} {o : Nat} {L : List Int} (hR : Row la o L) (h : L.length ≤ 8192) : cpy la o L.length = wU (L ++ [0]) := by
  unfold cpy
  rw [nP_nat h, show Nat.min L.length (L.length + 1) = L.length from by simp]
  have e1 : (la.drop o).take L.length = wU L := hR.cut
  rw [e1, Nat.zero_add, List.take_zero, List.nil_append, List.drop_replicate, show L.length + 1 - L.length = 1 from by omega]
  unfold wU uu
  simp
theorem cpOk_eq {la : List Value} {o : Nat} {L : List Int} (hR : Row la o L) (h : L.length ≤ 8192) : cpOk la o L.length = true := by
  unfold cpOk
  rw [nP_nat h, show Nat.min L.length (L.length + 1) = L.length from by simp]
  have e1 : (la.drop o).take L.length = wU L := hR.cut
  rw [e1, tR_tomb, show ro tU = false from by kernel_rfl]
  have h1 : Nat.ble (o + L.length) la.length = true := Nat.ble_eq_true_of_le hR.len
  have h2 : Nat.ble (0 + L.length) (List.replicate (L.length + 1) (uu 0)).length = true := Nat.ble_eq_true_of_le (by simp)
  have h3 : ((wU L).all one) = true := by
    unfold wU
    rw [List.all_eq_true]
    intro v hv
    obtain ⟨x, _, rfl⟩ := List.mem_map.1 hv
    rfl
  rw [h1, h2, h3]
  rfl
theorem mk_ok {n : Nat} (h : n ≤ 8192) : okMakeB 4 (nP n) (nP n) = true := by
  rw [nP_eq h]
  exact decide_eq_true (by omega)
theorem wU_row {L : List Int} (h : wds L) {c : Nat} (hc : L.length ≤ c) (h2 : smallC c = true) : rowOk tU (wU L) 0 L.length c = true ∧ cutI (wU L) 0 L.length = L := by
  have e1 : cutV (wU L) 0 L.length = wU L := by
    unfold cutV
    rw [List.drop_zero]
    exact List.take_of_length_le (by unfold wU; simp)
  have e2 : cutI (wU L) 0 L.length = L := by
    unfold cutI
    rw [e1]
    unfold wU
    rw [List.map_map]
    exact (List.map_congr_left fun x _ => rfl).trans (List.map_id' _)
  refine ⟨?_, e2⟩
  unfold rowOk
  rw [e1, h2, show tomb tU = false from by kernel_rfl, show Nat.beq (rt tU) tU = true from by kernel_rfl, Nat.ble_eq_true_of_le (show 0 + L.length ≤ (wU L).length by unfold wU; simp), Nat.ble_eq_true_of_le hc]
  have h3 : ((wU L).all isU) = true := by
    unfold wU
    rw [List.all_eq_true]
    intro v hv
    obtain ⟨x, hx, rfl⟩ := List.mem_map.1 hv
    exact decide_eq_true (h x hx)
  have h4 : ((wU L).all still) = true := by
    unfold wU
    rw [List.all_eq_true]
    intro v hv
    obtain ⟨x, _, rfl⟩ := List.mem_map.1 hv
    rfl
  rw [h3, h4]
  rfl
theorem badL_len {L : List Int} (h : badL L = false) : L.length ≤ 8192 := by
  unfold badL at h
  simp only [Bool.or_eq_false_iff, decide_eq_false_iff_not] at h
  omega
/-- an answer, or that it is too long -/
def resD (d : Bool) (v : Value) : Value := match d with | true => .tuple #[nilS, errV 2] | false => v
/-- behind the copy: the two loops and the end -/
theorem add_rest (q : Bool) {la lb : List Value} {o e : Nat} {LA LB : List Int} (RB : Row (lq q la lb) o LB) (hle : LB.length ≤ LA.length) (hA : wds LA) (hB : wds LB) (h8 : LA.length ≤ 8192) (a : Value) (d : Bool) (hd : decide ((trimN (dg (LA.length + 1) (vN LA + vN LB)) : Int) > 8192) = d) (g : Nat → Value) :
    Runs (tabH Tryd.prog extY conA hcA) (.seq (.seq (aR9 Tryd.f10) (.block 0 (.loop (aL0 Tryd.f10)))) (.seq (.seq (aR14 Tryd.f10) (.block 2 (.loop (aL2 Tryd.f10)))) (aFin Tryd.f10))) (aF a (sl (bq q) o LB.length e) (sl 2 0 (LA.length + 1) (LA.length + 1)) (uu 0) undef undef undef ++ tl 63 g, h3 la lb (wU (LA ++ [0])), [])
      fun e' y => (e' = none ∨ e' = some none) ∧ resS Tryd.prog Tryd.f10 y.1 y.2.1 = some (resD d (.tuple #[sl 2 0 (trimN (dg (LA.length + 1) (vN LA + vN LB))) (LA.length + 1), .nilIface])) ∧ y.2.1 = h3 la lb (wU (dg (LA.length + 1) (vN LA + vN LB))) := by
  have bA := vN_bd LA hA
  have bB := vN_bd LB hB
  have hpow : (4294967296 : Int) ^ LB.length ≤ 4294967296 ^ LA.length := pw_le hle
  have hV : vN LA + vN LB < 4294967296 ^ (LA.length + 1) := by rw [pw]; omega
  refine Runs.seq (P1 := fun e' y => e' = none ∧ ∃ (dx px : List Int) (c : Int) (i0 x0 t u v : Value) (g g' : Nat → Value), dx.length = LB.length ∧ dx.length + px.length = LA.length + 1 ∧ wds dx ∧ wds px ∧ (0 ≤ c ∧ c ≤ 1) ∧ y.1 = ml (aF a (sl (bq q) o LB.length e) (sl 2 0 (LA.length + 1) (LA.length + 1)) (uu c) i0 x0 undef) 20 g [t, u, v] 40 g' ∧ y.2.1 = h3 la lb (wU (dx ++ px)) ∧ vN dx + 4294967296 ^ LB.length * (vN px + c) = vN LA + vN LB) ?_ ?_ (fun e y he => by cases he.1)
  · refine Runs.seq (goesM_runs (tabH_ok conA_ok hcA_ok) (add_r9 a _ _ undef undef undef (bq q) o LB.length e _ g) (fun x hx => by cases hx)) ?_ (fun e y he => by cases he.1)
    rintro ⟨t, h', s⟩ ⟨_, ⟨g1, g2, ht⟩, hh⟩
    simp only at ht hh
    subst ht hh
    refine (add_loop0 q RB hle hA (by omega) a undef undef undef g1 g2 s).mono fun e' y he => ?_
    match e', he with
    | none, he => exact ⟨rfl, he⟩
  · rintro ⟨t, h', s⟩ ⟨_, dx, px, c, i0, x0, t1, u1, v1, g1, g2, hd1, hl, wd1, wd2, hc, ht, hh, hv⟩
    simp only at ht hh
    subst ht hh
    refine Runs.seq (P1 := fun e' y => e' = none ∧ ∃ (k : Value) (g : Nat → Value), y.1 = aF a (sl (bq q) o LB.length e) (sl 2 0 (LA.length + 1) (LA.length + 1)) (uu 0) i0 x0 k ++ tl 63 g ∧ y.2.1 = h3 la lb (wU (dg (LA.length + 1) (vN LA + vN LB)))) ?_ ?_ (fun e y he => by cases he.1)
    · refine Runs.seq (goesT_runs (tabH_ok conA_ok hcA_ok) (add_r14 a _ _ i0 x0 undef (bq q) o LB.length e t1 u1 v1 _ g1 g2) (fun x hx => by cases hx)) ?_ (fun e y he => by cases he.1)
      rintro ⟨t, h', s⟩ ⟨_, ⟨g3, ht⟩, hh⟩
      simp only at ht hh
      subst ht hh
      rw [← hd1] at hv ⊢
      refine (add_loop2 (LA := LA) (by omega) hV a _ i0 x0 hl wd1 wd2 hc hv g3 s).mono fun e' y he => ?_
      match e', he with
      | none, he => exact ⟨rfl, he⟩
    · rintro ⟨t, h', s⟩ ⟨_, k, g3, ht, hh⟩
      simp only at ht hh
      subst ht hh
      have hsm : smallC (LA.length + 1) = true := blt_iff.2 (by unfold dead; omega)
      obtain ⟨r1, r2⟩ := wU_row (dg_wds (LA.length + 1) (vN LA + vN LB)) (c := LA.length + 1) (by rw [dg_len]; exact Nat.le_refl _) hsm
      rw [dg_len] at r1 r2
      cases d with
      | true =>
        refine (goesT_runs (tabH_ok conA_ok hcA_ok) (add_long a _ _ i0 x0 k (LA.length + 1) (LA.length + 1) la lb _ g3) (okTwo (by rw [r2]; exact hd) (okOne r1))).mono fun e' y he => ?_
        obtain ⟨rfl, ⟨g4, e2⟩, e3⟩ := he
        refine ⟨.inr rfl, ?_, e3⟩
        rw [e2, e3]
        rfl
      | false =>
        refine (goesT_runs (tabH_ok conA_ok hcA_ok) (add_fin a _ _ i0 x0 k (LA.length + 1) (LA.length + 1) la lb _ g3) (okTwo (by rw [r2]; exact hd) (okOne r1))).mono fun e' y he => ?_
        obtain ⟨rfl, ⟨g4, e2⟩, e3⟩ := he
        refine ⟨.inr rfl, ?_, e3⟩
        rw [e2, e3, r2]
        rfl
/-! ### the call -/
theorem add_err0 (v w : Value) (h : Hp) : GoesT (evL (tabH Tryd.prog extY conA hcA) 200 [cFst (sn 0 Tryd.f10)] ([v, w] ++ List.replicate 73 undef, h, []) ⟨[], [], []⟩) 6 69 none [v, w, undef, undef, nilS, .nilIface] h [] := ⟨by kernel_rfl, by kernel_rfl, by kernel_rfl⟩
theorem add_err1 (o n c o' n' c' : Nat) (la lb : List Value) (g : Nat → Value) : GoesT (evC (tabH Tryd.prog extY conA hcA) 200 false (cFst (sn 1 Tryd.f10)) ([sl 0 o n c, sl 1 o' n' c', undef, undef, nilS, .nilIface] ++ tl 69 g, h2 la lb, [cmp true]) ⟨[], [], []⟩) 6 69 (some none) [sl 0 o n c, sl 1 o' n' c', undef, undef, nilS, errV 1] (h2 la lb) [chkL la o n c, chkL lb o' n' c', (badL (cutI la o n) || badL (cutI lb o' n'), true)] := ⟨by kernel_rfl, by kernel_rfl, by kernel_rfl⟩
def addC' (F : Func) : Code := seqs (aPre F) (.seq (.seq (aR9 F) (.block 0 (.loop (aL0 F)))) (.seq (.seq (aR14 F) (.block 2 (.loop (aL2 F)))) (aFin F)))
theorem add_bad {la lb : List Value} {o n c o' n' c' : Nat} (ha : rowOk tR la o n c = true) (hb : rowOk tR lb o' n' c' = true) (h : (badL (cutI la o n) || badL (cutI lb o' n')) = true) :
    Runs (tabH Tryd.prog extY conA hcA) (addC' Tryd.f10) ([sl 0 o n c, sl 1 o' n' c'] ++ List.replicate 73 undef, h2 la lb, []) fun e y => (e = none ∨ e = some none) ∧ resS Tryd.prog Tryd.f10 y.1 y.2.1 = some (.tuple #[nilS, errV 1]) := by
  show Runs _ (seqs [cFst (sn 0 Tryd.f10)] (.seq (cFst (sn 1 Tryd.f10)) (seqs [cFst (sn 2 Tryd.f10), cFst (sn 3 Tryd.f10), cFst (sn 4 Tryd.f10), cFst (sn 5 Tryd.f10)] (.seq (.seq (aR9 Tryd.f10) (.block 0 (.loop (aL0 Tryd.f10)))) (.seq (.seq (aR14 Tryd.f10) (.block 2 (.loop (aL2 Tryd.f10)))) (aFin Tryd.f10)))))) _ _
  refine goesT_list (tabH_ok conA_ok hcA_ok) (add_err0 _ _ _) (fun x hx => by cases hx) fun g => ?_
  refine Runs.seq (goesT_runs (tabH_ok conA_ok hcA_ok) (add_err1 o n c o' n' c' la lb g) (okTwo ha (okTwo hb (okOne h)))) (fun y he => by cases he.1) (fun e y he => ?_)
  obtain ⟨h1, ⟨g3, e2⟩, e3⟩ := he
  refine ⟨.inr h1, ?_⟩
  rw [e2, e3]
  rfl
def mxN (n k : Nat) : Nat := if n < k then k else n
def sumR (L M : List Int) : List Int := dg (mxN L.length M.length + 1) (vN L + vN M)
theorem add_good {la lb : List Value} {o n c o' n' c' : Nat} (ha : rowOk tR la o n c = true) (hb : rowOk tR lb o' n' c' = true) (h : (badL (cutI la o n) || badL (cutI lb o' n')) = false) (d : Bool) (hd : decide ((trimN (sumR (cutI la o n) (cutI lb o' n')) : Int) > 8192) = d) :
    Runs (tabH Tryd.prog extY conA hcA) (addC' Tryd.f10) ([sl 0 o n c, sl 1 o' n' c'] ++ List.replicate 73 undef, h2 la lb, []) fun e' y => (e' = none ∨ e' = some none) ∧ resS Tryd.prog Tryd.f10 y.1 y.2.1 = some (resD d (.tuple #[sl 2 0 (trimN (sumR (cutI la o n) (cutI lb o' n'))) (mxN n n' + 1), .nilIface])) ∧ y.2.1.blk? 2 = some (wU (sumR (cutI la o n) (cutI lb o' n')), tU) := by
  obtain ⟨a1, a2, a3, a4, a5, a6, a7⟩ := row_of ha
  obtain ⟨b1, b2, b3, b4, b5, b6, b7⟩ := row_of hb
  have hh := h
  simp only [Bool.or_eq_false_iff] at hh
  have l1 := badL_len hh.1
  have l2 := badL_len hh.2
  generalize hLa : cutI la o n = La at *
  generalize hLb : cutI lb o' n' = Lb at *
  subst a2 b2
  by_cases hlt : La.length < Lb.length
  · have em : mxN La.length Lb.length = Lb.length := if_pos hlt
    have eS : sumR La Lb = dg (Lb.length + 1) (vN Lb + vN La) := by unfold sumR; rw [em, Int.add_comm]
    rw [eS] at hd ⊢
    have pre := add_swap o La.length c o' Lb.length c' la lb
    have q : decide ((La.length : Int) < (Lb.length : Nat)) = true := decide_eq_true (by omega)
    rw [hLa, hLb, cpy_eq b1 l2] at pre
    refine goesT_list (tabH_ok conA_ok hcA_ok) pre (okTwo (cpOk_eq b1 l2) (okTwo (mk_ok l2) (okTwo q (okTwo ha (okTwo hb (okOne h)))))) fun g => ?_
    have r := add_rest false (la := la) (lb := lb) (e := c) (LA := Lb) (LB := La) a1 (by omega) b1.rng a1.rng l2 (sl 1 o' Lb.length c') d hd g
    rw [nP_nat l2, em]
    refine r.mono fun e' y he => ⟨he.1, he.2.1, ?_⟩
    rw [he.2.2]
    rfl
  · have em : mxN La.length Lb.length = La.length := if_neg hlt
    have eS : sumR La Lb = dg (La.length + 1) (vN La + vN Lb) := by unfold sumR; rw [em]
    rw [eS] at hd ⊢
    have pre := add_pre o La.length c o' Lb.length c' la lb
    have q : decide ((La.length : Int) < (Lb.length : Nat)) = false := decide_eq_false (by omega)
    rw [hLa, hLb, cpy_eq a1 l1] at pre
    refine goesT_list (tabH_ok conA_ok hcA_ok) pre (okTwo (cpOk_eq a1 l1) (okTwo (mk_ok l1) (okTwo q (okTwo ha (okTwo hb (okOne h)))))) fun g => ?_
    have r := add_rest true (la := la) (lb := lb) (e := c') (LA := La) (LB := Lb) b1 (by omega) a1.rng b1.rng l1 (sl 0 o La.length c) d hd g
    rw [nP_nat l1, em]
    refine r.mono fun e' y he => ⟨he.1, he.2.1, ?_⟩
    rw [he.2.2]
    rfl
def gAdd : AnsH := fun vals h s =>
  match vals with
  | [.slice (some ⟨b, o, none⟩) n c, .slice (some ⟨b', o', none⟩) n' c'] =>
    match h.blk? b, h.blk? b', s with
    | some x, some y, .inr (.inr (.inr (.inl true))) :: s' => some (.tuple #[nilS, errV 1], h, s', [(rowOk x.2 x.1 o n c, true), (rowOk y.2 y.1 o' n' c', true), (badL (cutI x.1 o n) || badL (cutI y.1 o' n'), true)])
    | some x, some y, .inr (.inr (.inr (.inl false))) :: .inr (.inr (.inr (.inl true))) :: s' => some (.tuple #[nilS, errV 2], h, s', [(rowOk x.2 x.1 o n c, true), (rowOk y.2 y.1 o' n' c', true), (badL (cutI x.1 o n) || badL (cutI y.1 o' n'), false), (decide ((trimN (sumR (cutI x.1 o n) (cutI y.1 o' n')) : Int) > 8192), true)])
    | some x, some y, .inr (.inr (.inr (.inl false))) :: .inr (.inr (.inr (.inl false))) :: s' => some (.tuple #[sl h.n 0 (trimN (sumR (cutI x.1 o n) (cutI y.1 o' n'))) (mxN n n' + 1), .nilIface], h.push (wU (sumR (cutI x.1 o n) (cutI y.1 o' n'))) tU, s', [(rowOk x.2 x.1 o n c, true), (rowOk y.2 y.1 o' n' c', true), (badL (cutI x.1 o n) || badL (cutI y.1 o' n'), false), (decide ((trimN (sumR (cutI x.1 o n) (cutI y.1 o' n')) : Int) > 8192), false)])
    | _, _, _ => none
  | _ => none
theorem wU_calm (L : List Int) : ∀ u ∈ wU L, lt1 0 u = true := fun u hu => by
  unfold wU at hu
  obtain ⟨x, _, rfl⟩ := List.mem_map.1 hu
  rfl
theorem tU_own : ro tU = false := by kernel_rfl
theorem gAdd_ok : AnsHOk 10 gAdd := by
  intro vals h s v h' s' lg hg hl m B w E hv
  unfold gAdd at hg
  split at hg
  · rename_i b o n c b' o' n' c'
    have two : ∀ x y : List Value × TypeId, h.blk? b = some x → h.blk? b' = some y → rowOk x.2 x.1 o n c = true → rowOk y.2 y.1 o' n' c' = true → ∀ v0 : Value, oc (List.range 2) v0 = true → rn (pair b b') v0 = v0 →
        Runs (tabH Tryd.prog extY conA hcA) (addC' Tryd.f10) ([sl 0 o n c, sl 1 o' n' c'] ++ List.replicate 73 undef, h2 x.1 y.1, []) (fun e y => (e = none ∨ e = some none) ∧ resS Tryd.prog Tryd.f10 y.1 y.2.1 = some v0) →
        Calls Tryd.prog 10 (([.slice (some ⟨b, o, none⟩) n c, .slice (some ⟨b', o', none⟩) n' c'] : List Value).map (mv m)).toArray w fun e w' => ∃ m', e = .returned (mv m' v0) ∧ Came m B h w v0 h m' w' := by
      intro x y hx hy ra rb v0 ho e0 r
      obtain ⟨a1, a2, a3, a4, a5, a6, a7⟩ := row_of ra
      obtain ⟨b1, b2, b3, b4, b5, b6, b7⟩ := row_of rb
      have lx := Hp.blk_lt hx
      have ly := Hp.blk_lt hy
      have := row_calls (T := tabH Tryd.prog extY conA hcA) Tryd.func10 add_body (rows2 a7 b7) (vals := [sl 0 o n c, sl 1 o' n' c']) (fun v hv => by
        simp only [List.mem_cons, List.not_mem_nil, or_false] at hv
        rcases hv with rfl | rfl <;> rfl) ho r E (s := pair b b') (fun i _ => by unfold pair; split <;> assumption) (fitsR2 hx a5 a6 hy b5 b6)
      rw [e0] at this
      exact this.mono fun e w' he => ⟨m, he.1, he.2⟩
    split at hg
    · rename_i x y s2 hx hy
      cases hg
      have ra := hl _ (List.mem_cons_self)
      have rb := hl _ (List.mem_cons_of_mem _ List.mem_cons_self)
      have hd := hl _ (List.mem_cons_of_mem _ (List.mem_cons_of_mem _ (List.mem_singleton.2 rfl)))
      exact two x y hx hy ra rb _ (by rfl) (rn_still (by rfl)) (add_bad (rowOk_R ra) (rowOk_R rb) hd)
    · rename_i x y s2 hx hy
      cases hg
      have ra := hl _ (List.mem_cons_self)
      have rb := hl _ (List.mem_cons_of_mem _ List.mem_cons_self)
      have hd := hl _ (List.mem_cons_of_mem _ (List.mem_cons_of_mem _ List.mem_cons_self))
      have he := hl _ (List.mem_cons_of_mem _ (List.mem_cons_of_mem _ (List.mem_cons_of_mem _ (List.mem_singleton.2 rfl))))
      exact two x y hx hy ra rb _ (by rfl) (rn_still (by rfl)) ((add_good (rowOk_R ra) (rowOk_R rb) hd true he).mono fun e y h => ⟨h.1, h.2.1⟩)
    · rename_i x y s2 hx hy
      cases hg
      have ra := hl _ (List.mem_cons_self)
      have rb := hl _ (List.mem_cons_of_mem _ List.mem_cons_self)
      have hd := hl _ (List.mem_cons_of_mem _ (List.mem_cons_of_mem _ List.mem_cons_self))
      have he := hl _ (List.mem_cons_of_mem _ (List.mem_cons_of_mem _ (List.mem_cons_of_mem _ (List.mem_singleton.2 rfl))))
      obtain ⟨a1, a2, a3, a4, a5, a6, a7⟩ := row_of ra
      obtain ⟨b1, b2, b3, b4, b5, b6, b7⟩ := row_of rb
      have r := add_good (rowOk_R ra) (rowOk_R rb) hd false he
      simp only [resD] at r
      have e1 : ∀ k M : Nat, rn (fun _ => h.n) (.tuple #[sl 2 0 k M, .nilIface]) = .tuple #[sl h.n 0 k M, .nilIface] := fun k M => by simp [rn, rn2, rn1, sl]
      have := row_calls1 (T := tabH Tryd.prog extY conA hcA) Tryd.func10 add_body (rows2 a7 b7) (vals := [sl 0 o n c, sl 1 o' n' c']) (fun v hv => by
        simp only [List.mem_cons, List.not_mem_nil, or_false] at hv
        rcases hv with rfl | rfl <;> rfl) (k := 2) (wU_calm _) tU_own (r.w.mono fun e y h => ⟨h.1, h.2.1, [], by rw [List.append_nil]; exact h.2.2⟩) (by rfl) E (s := pair b b') (fitsR2 hx a5 a6 hy b5 b6)
      rw [e1] at this
      exact this
    · cases hg
  · cases hg
end Go.Proofs.YtbjgkhbhabdjgaaDoor

/-
  bits.Sub32, as a call.
-/
namespace Go.Proofs.YtbjgkhbhabdjgaaDoor
open Go.KRun Go.Nt
set_option maxRecDepth 100000

def bnt (z : Int) : Int := IntKind.u32.wrap ((BitVec.ofInt 32 4294967295 ^^^ BitVec.ofInt 32 z).toNat : Nat)
def bnd (x y : Int) : Int := IntKind.u32.wrap ((BitVec.ofInt 32 x &&& BitVec.ofInt 32 y).toNat : Nat)
def bxr (x y : Int) : Int := IntKind.u32.wrap ((BitVec.ofInt 32 x ^^^ BitVec.ofInt 32 y).toNat : Nat)
def brr (x y : Int) : Int := IntKind.u32.wrap ((BitVec.ofInt 32 x ||| BitVec.ofInt 32 y).toNat : Nat)
def difR (x y c : Int) : Int := IntKind.u32.wrap (IntKind.u32.wrap (x - y) - c)
def borR (x y c : Int) : Int := (brr (bnd (bnt x) y) (bnd (bnt (bxr x y)) (difR x y c))).fdiv (2 ^ min ((31 : Int).toNat) 32)
theorem sub32_fits (x y c : Int) : Fits (reckon (tabOf Tryd.prog extY conN true) 100 40 [uu x, uu y, uu c] []) (.tuple #[uu (difR x y c), uu (borR x y c)]) [(decide ((31 : Int) < 0), false)] := ⟨by kernel_rfl, by kernel_rfl, by kernel_rfl, by kernel_rfl⟩
theorem ofInt_wrap (v : BitVec 32) : BitVec.ofInt 32 (IntKind.u32.wrap (v.toNat : Nat)) = v := by
  rw [u32w]
  have h := v.isLt
  apply BitVec.eq_of_toNat_eq
  simp
  omega
theorem wrap_nat (v : BitVec 32) : IntKind.u32.wrap (v.toNat : Nat) = v.toNat := by
  rw [u32w]
  have h := v.isLt
  omega
theorem top_div (v : BitVec 32) : v.toNat / 2147483648 = if v.getLsbD 31 = true then 1 else 0 := by
  have h := v.isLt
  unfold BitVec.getLsbD
  rw [Nat.testBit_eq_decide_div_mod_eq]
  have e : (2 : Nat) ^ 31 = 2147483648 := rfl
  rw [e]
  by_cases h1 : v.toNat / 2147483648 % 2 = 1
  · rw [decide_eq_true h1]
    simp
    omega
  · rw [decide_eq_false h1]
    simp
    omega
theorem top_of {x : Int} (h0 : 0 ≤ x) (h1 : x < 4294967296) : (BitVec.ofInt 32 x).getLsbD 31 = decide (2147483648 ≤ x) := by
  have e : (BitVec.ofInt 32 x).toNat = x.toNat := by simp; omega
  unfold BitVec.getLsbD
  rw [e, Nat.testBit_eq_decide_div_mod_eq]
  have e2 : (2 : Nat) ^ 31 = 2147483648 := rfl
  rw [e2]
  by_cases h : 2147483648 ≤ x
  · rw [decide_eq_true h]
    exact decide_eq_true (by omega)
  · rw [decide_eq_false h]
    exact decide_eq_false (by omega)
def subD (x y c : Int) : Int := (x - y - c) % 4294967296
def subB (x y c : Int) : Int := if x < y + c then 1 else 0
theorem sub32_eq {x y c : Int} (hx : 0 ≤ x ∧ x < 4294967296) (hy : 0 ≤ y ∧ y < 4294967296) (hc : 0 ≤ c ∧ c ≤ 1) : difR x y c = subD x y c ∧ borR x y c = subB x y c := by
  have e1 : difR x y c = subD x y c := by
    unfold difR subD
    rw [u32w, u32w]
    omega
  refine ⟨e1, ?_⟩
  have d0 : 0 ≤ subD x y c ∧ subD x y c < 4294967296 := by unfold subD; omega
  unfold borR
  rw [e1]
  unfold brr bnd bnt bxr
  simp only [ofInt_wrap]
  rw [wrap_nat, show (2 : Int) ^ min ((31 : Int).toNat) 32 = 2147483648 from rfl, Int.fdiv_eq_ediv_of_nonneg _ (by omega)]
  have key := top_div ((BitVec.ofInt 32 4294967295 ^^^ BitVec.ofInt 32 x) &&& BitVec.ofInt 32 y ||| (BitVec.ofInt 32 4294967295 ^^^ (BitVec.ofInt 32 x ^^^ BitVec.ofInt 32 y)) &&& BitVec.ofInt 32 (subD x y c))
  simp only [BitVec.getLsbD_or, BitVec.getLsbD_and, BitVec.getLsbD_xor, top_of hx.1 hx.2, top_of hy.1 hy.2, top_of d0.1 d0.2, top_of (x := 4294967295) (by omega) (by omega)] at key
  rw [show decide ((2147483648 : Int) ≤ 4294967295) = true from rfl] at key
  generalize hV : ((BitVec.ofInt 32 4294967295 ^^^ BitVec.ofInt 32 x) &&& BitVec.ofInt 32 y ||| (BitVec.ofInt 32 4294967295 ^^^ (BitVec.ofInt 32 x ^^^ BitVec.ofInt 32 y)) &&& BitVec.ofInt 32 (subD x y c)).toNat = V at *
  have cast : ((V : Nat) : Int) / 2147483648 = ((V / 2147483648 : Nat) : Int) := by omega
  rw [cast, key]
  unfold subB
  unfold subD at *
  by_cases a1 : 2147483648 ≤ x <;> by_cases a2 : 2147483648 ≤ y <;> by_cases a3 : 2147483648 ≤ (x - y - c) % 4294967296 <;> simp only [a1, a2, a3, decide_true, decide_false] <;> split <;> split <;> simp_all <;> omega
def sub32V (x y c : Int) : Value := .tuple #[uu (subD x y c), uu (subB x y c)]
def gSub32 : Ans := fun vals s =>
  match vals with
  | [.int .u32 x, .int .u32 y, .int .u32 c] => some (sub32V x y c, s, [(wd4 x y c, true)])
  | _ => none
theorem gSub32_ok : AnsOk 40 gSub32 := by
  intro vals s v s' lg h hl w
  unfold gSub32 at h
  split at h
  · rename_i x y c
    cases h
    have hr := hl _ (List.mem_singleton.2 rfl)
    simp only [wd4, decide_eq_true_eq] at hr
    obtain ⟨e1, e2⟩ := sub32_eq hr.1 hr.2.1 hr.2.2
    have := fits_calls (tabY_ok conN_ok) (sub32_fits x y c) (okOne (by rfl)) (by rfl) (by rfl) w
    rw [e1, e2] at this
    exact this
  · cases h
/-! ### nat.Sub: its pieces -/
def conB : Con := alt 40 gSub32 conN
theorem conB_ok : ConOk conB := alt_ok Tryd.func40 rfl gSub32_ok conN_ok
def hcB : Hc := altH 36 gBoth (altH 39 gCmp (altH 41 gTrim hcN))
theorem hcB_ok : HcOk hcB := altH_ok Tryd.func36 rfl gBoth_ok (altH_ok Tryd.func39 rfl gCmp_ok (altH_ok Tryd.func41 rfl gTrim_ok hcN_ok))
theorem sub_body : Tryd.f11.body = some (addC' Tryd.f11) := by kernel_rfl
def cpS (la : List Value) (o n : Nat) : List Value := (List.replicate ((n : Int)).toNat (uu 0)).take 0 ++ (la.drop o).take (Nat.min n ((n : Int)).toNat) ++ (List.replicate ((n : Int)).toNat (uu 0)).drop (0 + Nat.min n ((n : Int)).toNat)
def csOk (la : List Value) (o n : Nat) : Bool := !(tomb tR) && !(ro tU) && Nat.ble (o + Nat.min n ((n : Int)).toNat) la.length && Nat.ble (0 + Nat.min n ((n : Int)).toNat) (List.replicate ((n : Int)).toNat (uu 0)).length && ((la.drop o).take (Nat.min n ((n : Int)).toNat)).all one
def cN (la lb : List Value) (o n o' n' : Nat) : Int := cmpL (cutI la o n) (cutI lb o' n')
theorem sub_pre (o n c o' n' c' : Nat) (la lb : List Value) : GoesT (evL (tabH Tryd.prog extY conB hcB) 200 (aPre Tryd.f11) ([sl 0 o n c, sl 1 o' n' c'] ++ List.replicate 68 undef, h2 la lb, [cmp false, cmp false, at_, at_]) ⟨[], [], []⟩) 12 58 none
    (aF (sl 0 o n c) (sl 1 o' n' c') (sl 2 0 ((n : Int)).toNat ((n : Int)).toNat) (uu 0) undef undef undef) (h3 la lb (cpS la o n)) [(csOk la o n, true), (okMakeB 4 n n, true), (decide (cN la lb o n o' n' < 0), false), chkL la o n c, chkL lb o' n' c', chkL la o n c, chkL lb o' n' c', (badL (cutI la o n) || badL (cutI lb o' n'), false)] := ⟨by kernel_rfl, by kernel_rfl, by kernel_rfl⟩
theorem sub_r9 (a s c i x k : Value) (q o n e : Nat) (h : Hp) (g : Nat → Value) : GoesM (evC (tabH Tryd.prog extY conB hcB) 200 false (aR9 Tryd.f11) (aF a (sl q o n e) s c i x k ++ tl 58 g, h, []) ⟨[], [], []⟩) 12 17 3 38 none
    (aF a (sl q o n e) s c i x k) [sl q o n e, i6' n, i6' 0] h [] := ⟨by kernel_rfl, by kernel_rfl, by kernel_rfl⟩
theorem sub_out0 (a b s c i x k : Value) (t : Value) (n : Nat) (j : Int) (h : Hp) (g g' : Nat → Value) : GoesM (evC (tabH Tryd.prog extY conB hcB) 200 false (aL0 Tryd.f11) (ml (aF a b s c i x k) 17 g [t, i6' n, i6' j] 38 g', h, [cmp false]) ⟨[], [], []⟩) 12 17 3 38 (some (some 0))
    (aF a b s c i x k) [t, i6' n, i6' j] h [(decide (j < n), false)] := ⟨by kernel_rfl, by kernel_rfl, by kernel_rfl⟩
theorem sub_go (a b i0 x0 k0 : Value) (o n e N M : Nat) (c j x y : Int) (la lb S : List Value) (g g' : Nat → Value) : GoesM (evC (tabH Tryd.prog extY conB hcB) 200 false (aL0 Tryd.f11) (ml (aF a b (sl 2 0 N M) (uu c) i0 x0 k0) 17 g [sl 1 o n e, i6' n, i6' j] 38 g', h3 la lb S, [cmp true, at_, val (uu y), at_, val (uu x), at_, at_]) ⟨[], [], []⟩) 12 17 3 38 none
    (aF a b (sl 2 0 N M) (uu (subB x y c)) (i6' j) (uu y) k0) [sl 1 o n e, i6' n, i6' (IntKind.i64.wrap (j + 1))] (h3 la lb (S.set (0 + j.toNat * 1) (uu (subD x y c)))) [stoR S j, inR j N, (wd4 x y c, true), celR S 0 j x, inR j N, celR lb o j y, inR j n, (decide (j < n), true)] := ⟨by kernel_rfl, by kernel_rfl, by kernel_rfl⟩
theorem sub_r14 (a s c i x k : Value) (q o n e : Nat) (t u v : Value) (h : Hp) (g g' : Nat → Value) : GoesT (evC (tabH Tryd.prog extY conB hcB) 200 false (aR14 Tryd.f11) (ml (aF a (sl q o n e) s c i x k) 17 g [t, u, v] 38 g', h, []) ⟨[], [], []⟩) 12 58 none
    (aF a (sl q o n e) s c i x (i6' n)) h [] := ⟨by kernel_rfl, by kernel_rfl, by kernel_rfl⟩
theorem sub_out2 (a b s i x k : Value) (c : Int) (h : Hp) (g : Nat → Value) : GoesT (evC (tabH Tryd.prog extY conB hcB) 200 false (aL2 Tryd.f11) (aF a b s (uu c) i x k ++ tl 58 g, h, [cmp false]) ⟨[], [], []⟩) 12 58 (some (some 2))
    (aF a b s (uu c) i x k) h [(c != 0, false)] := ⟨by kernel_rfl, by kernel_rfl, by kernel_rfl⟩
theorem sub_go2 (a b i0 x0 : Value) (N M : Nat) (c j x : Int) (la lb S : List Value) (g : Nat → Value) : GoesT (evC (tabH Tryd.prog extY conB hcB) 200 false (aL2 Tryd.f11) (aF a b (sl 2 0 N M) (uu c) i0 x0 (i6' j) ++ tl 58 g, h3 la lb S, [cmp true, at_, val (uu x), at_, at_]) ⟨[], [], []⟩) 12 58 none
    (aF a b (sl 2 0 N M) (uu (subB x 0 c)) i0 x0 (i6' (IntKind.i64.wrap (j + 1)))) (h3 la lb (S.set (0 + j.toNat * 1) (uu (subD x 0 c)))) [stoR S j, inR j N, (wd4 x 0 c, true), celR S 0 j x, inR j N, (c != 0, true)] := ⟨by kernel_rfl, by kernel_rfl, by kernel_rfl⟩
theorem sub_fin (a b c i x k : Value) (N M : Nat) (la lb S : List Value) (g : Nat → Value) : GoesT (evC (tabH Tryd.prog extY conB hcB) 200 false (aFin Tryd.f11) (aF a b (sl 2 0 N M) c i x k ++ tl 58 g, h3 la lb S, []) ⟨[], [], []⟩) 6 64 (some none)
    [a, b, undef, undef, sl 2 0 (trimN (cutI S 0 N)) M, .nilIface] (h3 la lb S) [(rowOk tU S 0 N M, true)] := ⟨by kernel_rfl, by kernel_rfl, by kernel_rfl⟩
theorem sub_err0 (v w : Value) (h : Hp) : GoesT (evL (tabH Tryd.prog extY conB hcB) 200 [cFst (sn 0 Tryd.f11)] ([v, w] ++ List.replicate 68 undef, h, []) ⟨[], [], []⟩) 6 64 none [v, w, undef, undef, nilS, .nilIface] h [] := ⟨by kernel_rfl, by kernel_rfl, by kernel_rfl⟩
theorem sub_err1 (o n c o' n' c' : Nat) (la lb : List Value) (g : Nat → Value) : GoesT (evC (tabH Tryd.prog extY conB hcB) 200 false (cFst (sn 1 Tryd.f11)) ([sl 0 o n c, sl 1 o' n' c', undef, undef, nilS, .nilIface] ++ tl 64 g, h2 la lb, [cmp true]) ⟨[], [], []⟩) 6 64 (some none) [sl 0 o n c, sl 1 o' n' c', undef, undef, nilS, errV 1] (h2 la lb) [chkL la o n c, chkL lb o' n' c', (badL (cutI la o n) || badL (cutI lb o' n'), true)] := ⟨by kernel_rfl, by kernel_rfl, by kernel_rfl⟩
theorem sub_low0 (o n c o' n' c' : Nat) (la lb : List Value) : GoesT (evL (tabH Tryd.prog extY conB hcB) 200 [cFst (sn 0 Tryd.f11), cFst (sn 1 Tryd.f11)] ([sl 0 o n c, sl 1 o' n' c'] ++ List.replicate 68 undef, h2 la lb, [cmp false]) ⟨[], [], []⟩) 6 64 none [sl 0 o n c, sl 1 o' n' c', undef, undef, nilS, .nilIface] (h2 la lb) [chkL la o n c, chkL lb o' n' c', (badL (cutI la o n) || badL (cutI lb o' n'), false)] := ⟨by kernel_rfl, by kernel_rfl, by kernel_rfl⟩
theorem sub_low1 (o n c o' n' c' : Nat) (la lb : List Value) (g : Nat → Value) : GoesT (evC (tabH Tryd.prog extY conB hcB) 200 false (cFst (sn 2 Tryd.f11)) ([sl 0 o n c, sl 1 o' n' c', undef, undef, nilS, .nilIface] ++ tl 64 g, h2 la lb, [cmp true]) ⟨[], [], []⟩) 6 64 (some none) [sl 0 o n c, sl 1 o' n' c', undef, undef, nilS, errV 4] (h2 la lb) [(decide (cN la lb o n o' n' < 0), true), chkL la o n c, chkL lb o' n' c'] := ⟨by kernel_rfl, by kernel_rfl, by kernel_rfl⟩
end Go.Proofs.YtbjgkhbhabdjgaaDoor
