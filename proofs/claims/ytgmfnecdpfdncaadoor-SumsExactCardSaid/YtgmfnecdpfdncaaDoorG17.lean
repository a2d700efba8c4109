/-
  The document's Of (tillerref04), as a call; rows of numbers that were made.
-/
import Derived.Test.YtgmfnecdpfdncaaDoorG16
import Derived.Test.YtgmfnecdpfdncaaDoorG07
namespace Go.Proofs.YtgmfnecdpfdncaaDoor
open Go.KRun Go.Nt Go.Wd
set_option maxRecDepth 100000

/-! ### rows that were made -/
theorem d16_dg (A : Nat) : ∀ x ∈ d16 A, Dg 65536 x := db_dg (by omega) A
theorem d16_len {A k : Nat} (h : A < 2 ^ (16 * k)) : (d16 A).length ≤ k := db_len (by omega) k A (by rw [pow16]; exact h)
theorem rowOf_d16 {h : Hp} {b A : Nat} {ty : TypeId} (hb : h.blk? b = some (wU (d16 A), ty)) : rowOf h (some ⟨b, 0, none⟩) (d16 A).length = d16 A := by
  simp only [rowOf, hb]
  exact cut_wU _
theorem vO_d16 {h : Hp} {b A : Nat} {ty : TypeId} (hb : h.blk? b = some (wU (d16 A), ty)) : vO h (some ⟨b, 0, none⟩) (d16 A).length = A := by
  unfold vO
  rw [rowOf_d16 hb]
  exact vb_db (by omega) A
theorem vO_nil (h : Hp) : vO h none 0 = 0 := rfl
theorem rowP_d16 {h : Hp} {b A : Nat} (hb : h.blk? b = some (wU (d16 A), tU)) (hl : (d16 A).length < 1073741824) : rowP h (some ⟨b, 0, none⟩) (d16 A).length (d16 A).length = true := by
  simp only [rowP, hb, Bool.and_eq_true]
  refine ⟨rowC_wU (fun x hx => ⟨(d16_dg A x hx).1, by have := (d16_dg A x hx).2; omega⟩) (by omega) ?_, List.all_eq_true.2 (wU_still _)⟩
  unfold capOk
  simp only [Bool.or_eq_true, Bool.and_eq_true]
  exact .inl ⟨blt_iff.2 (by unfold dead; omega), Nat.ble_eq_true_of_le (Nat.le_refl _)⟩
theorem dgB_d16 {h : Hp} {b A : Nat} {ty : TypeId} (hb : h.blk? b = some (wU (d16 A), ty)) : dgB (rowOf h (some ⟨b, 0, none⟩) (d16 A).length) = true := by
  rw [rowOf_d16 hb]
  exact dgB_mk (d16_dg A)
theorem two_d16 {h : Hp} {b b' A A' : Nat} (hb : h.blk? b = some (wU (d16 A), tU)) (hb' : h.blk? b' = some (wU (d16 A'), tU)) (hl : (d16 A).length < 1073741800) (hl' : (d16 A').length < 1073741800) : two16 h (some ⟨b, 0, none⟩) (some ⟨b', 0, none⟩) (d16 A).length (d16 A).length (d16 A').length (d16 A').length = true := by
  unfold two16
  rw [rowP_d16 hb (by omega), rowP_d16 hb' (by omega), dgB_d16 hb, dgB_d16 hb']
  simp only [Bool.true_and]
  exact blt_iff.2 (by omega)
theorem two_nil {h : Hp} {b A : Nat} (hb : h.blk? b = some (wU (d16 A), tU)) (hl : (d16 A).length < 1073741800) : two16 h none (some ⟨b, 0, none⟩) 0 0 (d16 A).length (d16 A).length = true := by
  unfold two16
  rw [rowP_d16 hb (by omega), dgB_d16 hb]
  simp only [Bool.and_true]
  exact Bool.and_eq_true_iff.2 ⟨rfl, blt_iff.2 (by omega)⟩
theorem d16_one : (d16 1).length = 1 := by
  unfold d16
  rw [db_pos (by omega) (by omega), show 1 / 65536 = 0 from rfl, db_zero]
  rfl
theorem d16_pos {A : Nat} (h : 0 < (d16 A).length) : A ≠ 0 := by
  rintro rfl
  unfold d16 at h
  rw [db_zero] at h
  simp at h
theorem d16_zero {A : Nat} (h : ¬ 0 < (d16 A).length) : A = 0 := by
  have : d16 A = [] := List.length_eq_zero_iff.1 (by omega)
  exact (db_nil (by omega)).1 this

/-! ### its words -/
theorem w8_eq {x : W4} (hx : x.ok) : w8 x = [x.a % 4294967296, x.a / 4294967296, x.b % 4294967296, x.b / 4294967296, x.c % 4294967296, x.c / 4294967296, x.d % 4294967296, x.d / 4294967296] := by
  obtain ⟨h1, h2, h3, h4⟩ := hx
  have key : ∀ y : Int, 0 ≤ y ∧ y < 18446744073709551616 → IntKind.u32.wrap (y.tmod 4294967296) = y % 4294967296 ∧ IntKind.u32.wrap (IntKind.u64.wrap (y.tdiv 4294967296)) = y / 4294967296 := fun y hy => by
    rw [Int.tmod_eq_emod_of_nonneg hy.1, Int.tdiv_eq_ediv_of_nonneg hy.1, wrap32 (n := y % 4294967296) (by omega) (by omega), wrap64 (by omega) (by omega), wrap32 (by omega) (by omega)]
    exact ⟨rfl, rfl⟩
  unfold w8
  rw [(key _ h1).1, (key _ h1).2, (key _ h2).1, (key _ h2).2, (key _ h3).1, (key _ h3).2, (key _ h4).1, (key _ h4).2]
theorem w8_rng {x : W4} (hx : x.ok) : ∀ y ∈ w8 x, 0 ≤ y ∧ y < 4294967296 := by
  rw [w8_eq hx]
  obtain ⟨h1, h2, h3, h4⟩ := hx
  intro y hy
  simp only [List.mem_cons, List.not_mem_nil, or_false] at hy
  rcases hy with rfl | rfl | rfl | rfl | rfl | rfl | rfl | rfl <;> omega
theorem vb_pair {u : Int} (h : 0 ≤ u) (L : List Int) : vb 4294967296 (u % 4294967296 :: u / 4294967296 :: L) = u.toNat + 18446744073709551616 * vb 4294967296 L := by
  simp only [vb]
  generalize vb 4294967296 L = t
  omega
theorem V8_eq {x : W4} (hx : x.ok) : V8 x = x.nat := by
  have hl : (w8 x).length = 8 := rfl
  have e := cut_wU (w8 x)
  rw [hl] at e
  have hv := W4.nat_val hx
  unfold V8 v32
  rw [e, w8_eq hx]
  obtain ⟨h1, h2, h3, h4⟩ := hx
  rw [vb_pair h1.1, vb_pair h2.1, vb_pair h3.1, vb_pair h4.1]
  unfold W4.val at hv
  simp only [vb]
  omega
theorem lOf_ok {x : W4} (hx : x.ok) : okLog (lOf x) := by
  have hl : (w8 x).length = 8 := rfl
  have hrow := rowC_wU (L := w8 x) (c := grown) (w8_rng hx) (by rw [hl]; omega) (capG _)
  rw [hl] at hrow
  have hst : (wU (w8 x)).all still = true := List.all_eq_true.2 (wU_still _)
  unfold lOf
  exact okTwo (by rw [hrow, hst]; rfl) (okTwo rfl (okTwo rfl (okTwo rfl (okTwo rfl (okTwo rfl (okTwo rfl (okTwo rfl (okTwo rfl (okTwo rfl (okOne rfl))))))))))

/-! ### the call -/
def refT (x : W4) (b : Bool) : Nat := match b with | true => 2 * x.nat + 1 | false => x.nat
def refE (e : Int) (b : Bool) : Int := match b with | true => cl5 e - 1 | false => cl5 e
def vRN (m : Bool) (e : Int) (v : Value) : Value := .agg #[.bool m, .int .i64 e, v]
theorem nat_len {x : W4} (hx : x.ok) : (d16 x.nat).length ≤ 16 := d16_len (k := 16) (W4.nat_lt hx)
theorem d16_dbl {x : W4} (hx : x.ok) : (d16 (2 * x.nat)).length ≤ 17 := by
  have h1 : x.nat < 65536 ^ 16 := by rw [pow16]; exact W4.nat_lt hx
  generalize hP : (65536 : Nat) ^ 16 = P at h1
  refine db_len (by omega) 17 (2 * x.nat) ?_
  rw [Nat.pow_succ, hP]
  omega
theorem rof_runs (m b : Bool) (e : Int) (x : W4) (hx : x.ok) : ∃ k, RunsW (tabH Tryd.prog extY conN hcW) (seqs (oS1 Tryd.f9) (oS2 Tryd.f9)) ([.bool m, .int .i64 e, vA4 x, .bool b] ++ List.replicate 43 undef, ⟨0, []⟩, []) fun ex z => (ex = none ∨ ex = some none) ∧ resS Tryd.prog Tryd.f9 z.1 z.2.1 = some (vRN m (refE e b) (sOf k (refT x b))) ∧ ∃ r, z.2.1.blk? k = some (wU (d16 (refT x b)) ++ r, tU) := by
  have hl := nat_len hx
  have hb5 := cl5_bd e
  have ee : e1 (cl5 e) = cl5 e - 1 := wrapI (by omega) (by omega)
  cases b with
  | false =>
    refine ⟨10, goesT_listW (tabH_ok conN_ok hcW_ok) (rof_s1 m false e x) (lOf_ok hx) fun g => ?_⟩
    rw [V8_eq hx]
    unfold hOf
    rw [V8_eq hx]
    refine (goesT_runsW (tabH_ok conN_ok hcW_ok) (rof_f m (cl5 e) _ _ _ _ _ _ _ _ _ _ _ _ _ _ _ _ g) (fun x hx => by cases hx)).mono fun ex z hz => ?_
    obtain ⟨rfl, ⟨g', z1⟩, z2⟩ := hz
    refine ⟨.inr rfl, ?_, ⟨[], ?_⟩⟩
    · rw [z1, z2]; rfl
    · rw [z2, List.append_nil]; rfl
  | true =>
    have r10 : ∀ Z9 Z8 Z7 Z6 Z5 Z4 Z3 Z2 Z0, (hZ (wU (d16 x.nat), tU) Z9 Z8 Z7 Z6 Z5 Z4 Z3 Z2 bNum Z0).blk? 10 = some (wU (d16 x.nat), tU) := fun _ _ _ _ _ _ _ _ _ => rfl
    by_cases hn : 0 < (d16 x.nat).length
    · refine ⟨13, goesT_listW (tabH_ok conN_ok hcW_ok) (rof_s1 m true e x) (lOf_ok hx) fun g => ?_⟩
      rw [V8_eq hx]
      unfold hOf
      rw [V8_eq hx]
      have eA : ∀ Z9 Z8 Z7 Z6 Z5 Z4 Z3 Z2 Z0, dbl (hZ (wU (d16 x.nat), tU) Z9 Z8 Z7 Z6 Z5 Z4 Z3 Z2 bNum Z0) (d16 x.nat).length = 2 * x.nat := fun Z9 Z8 Z7 Z6 Z5 Z4 Z3 Z2 Z0 => by
        unfold dbl
        rw [vO_d16 (r10 Z9 Z8 Z7 Z6 Z5 Z4 Z3 Z2 Z0)]
        simp [Nat.mul_comm]
      have eS : ∀ Z9 Z8 Z7 Z6 Z5 Z4 Z3 Z2 Z0, sm2 (hZ (wU (d16 x.nat), tU) Z9 Z8 Z7 Z6 Z5 Z4 Z3 Z2 bNum Z0) (2 * x.nat) = 2 * x.nat + 1 := fun Z9 Z8 Z7 Z6 Z5 Z4 Z3 Z2 Z0 => by
        unfold sm2
        rw [vO_d16 (A := 2 * x.nat) (ty := tU) rfl, vO_d16 (A := 1) (ty := tU) rfl]
      have h2l : (d16 (2 * x.nat)).length ≤ 17 := d16_dbl hx
      refine (goesT_runsW (tabH_ok conN_ok hcW_ok) (rof_t1 m (cl5 e) _ _ _ _ _ _ _ _ _ _ _ _ _ _ _ _ g) ?_).mono fun ex z hz => ?_
      · rw [eA]
        refine okTwo (two_d16 (A := 2 * x.nat) (A' := 1) rfl rfl (by omega) (by rw [d16_one]; omega)) (okTwo (decide_eq_true (.inr (by rw [d16_one]; omega))) (okTwo (by decide) (okTwo ?_ (okOne (decide_eq_true hn)))))
        rw [rowP_d16 (A := x.nat) rfl (by omega), dgB_d16 (A := x.nat) (ty := tU) rfl]
        simp only [Bool.true_and]
        exact Bool.and_eq_true_iff.2 ⟨blt_iff.2 (by have : (1 : Int).toNat = 1 := rfl; omega), rfl⟩
      · rw [eA, eS, ee] at hz
        obtain ⟨rfl, ⟨g', z1⟩, z2⟩ := hz
        refine ⟨.inr rfl, ?_, ⟨[], ?_⟩⟩
        · rw [z1, z2]; rfl
        · rw [z2, List.append_nil]; rfl
    · have h0 : x.nat = 0 := d16_zero hn
      refine ⟨12, goesT_listW (tabH_ok conN_ok hcW_ok) (rof_s1 m true e x) (lOf_ok hx) fun g => ?_⟩
      rw [V8_eq hx]
      unfold hOf
      rw [V8_eq hx]
      have eS : ∀ Z9 Z8 Z7 Z6 Z5 Z4 Z3 Z2 Z0, sm1 (hZ (wU (d16 x.nat), tU) Z9 Z8 Z7 Z6 Z5 Z4 Z3 Z2 bNum Z0) = 2 * x.nat + 1 := fun Z9 Z8 Z7 Z6 Z5 Z4 Z3 Z2 Z0 => by
        unfold sm1
        rw [vO_nil, vO_d16 (A := 1) (ty := tU) rfl, h0]
      refine (goesT_runsW (tabH_ok conN_ok hcW_ok) (rof_t0 m (cl5 e) _ _ _ _ _ _ _ _ _ _ _ _ _ _ _ _ g) ?_).mono fun ex z hz => ?_
      · exact okTwo (two_nil (A := 1) rfl (by rw [d16_one]; omega)) (okTwo (decide_eq_true (.inr (by rw [d16_one]; omega))) (okTwo (by decide) (okTwo (by dsimp only; exact rowP_d16 (A := x.nat) rfl (by omega)) (okOne (decide_eq_false hn)))))
      · rw [eS, ee] at hz
        obtain ⟨rfl, ⟨g', z1⟩, z2⟩ := hz
        refine ⟨.inr rfl, ?_, ⟨[], ?_⟩⟩
        · rw [z1, z2]; rfl
        · rw [z2, List.append_nil]; rfl
def gRof : AnsH := fun vals h s =>
  match vals with
  | [.bool m, .int .i64 e, sg, .bool b] =>
    match w4 sg with
    | some x => some (vRN m (refE e b) (sOf h.n (refT x b)), h.push (wU (d16 (refT x b))) tU, s, [(decide x.ok, true)])
    | none => none
  | _ => none
theorem gRof_ok : AnsHOk 9 gRof := by
  intro vals h s v h' s' lg hg hl m0 B w E hv
  unfold gRof at hg
  split at hg
  · rename_i m e sg b
    split at hg
    · rename_i x hx4
      cases hg
      have hx := of_decide_eq_true (hl _ (List.mem_singleton.2 rfl))
      obtain ⟨k, r⟩ := rof_runs m b e x hx
      have e2 : rn (fun _ => h.n) (vRN m (refE e b) (sOf k (refT x b))) = vRN m (refE e b) (sOf h.n (refT x b)) := by simp [rn, rn2, rn1, sl, vRN, sOf]
      have q1 : ∀ v ∈ [.bool m, .int .i64 e, vA4 x, .bool b], lt (⟨0, []⟩ : Hp).n v = true := fun v hv => by
        simp only [List.mem_cons, List.not_mem_nil, or_false] at hv
        rcases hv with h1 | h1 | h1 | h1 <;> rw [h1] <;> rfl
      have q2 : oc [k] (vRN m (refE e b) (sOf k (refT x b))) = true := by simp [oc, oc2, oc1, vRN, sOf, sl]
      have q3 : (⟨0, []⟩ : Hp).rows := ⟨rfl, fun b x hx => by have : b < 0 := Hp.blk_lt hx; omega⟩
      have q4 : (⟨0, []⟩ : Hp).fits (fun i => i) h := fun i x hx _ => by have : i < 0 := Hp.blk_lt hx; omega
      have q5 : ro tU = false := by kernel_rfl
      have fin := row_calls1 (T := tabH Tryd.prog extY conN hcW) Tryd.func9 rof_body q3 q1 (wU_lt _) q5 r q2 E q4
      rw [e2] at fin
      have ev : List.map (rn fun i => i) [.bool m, .int .i64 e, vA4 x, .bool b] = [.bool m, .int .i64 e, sg, .bool b] := by
        rw [w4_spec hx4]
        simp [rn, rn2, rn1, vA4, vW]
      rw [ev] at fin
      exact fin
    · cases hg
  · cases hg
end Go.Proofs.YtgmfnecdpfdncaaDoor

/-
  A RUN THAT THE KERNEL RECKONS: the newest blocks of a memory are let go; what a temporary holds that is no more needed is of the world's own.
-/
namespace Go.KRun
open Go.RowKit

theorem blk_base {k n : Nat} {base l : List (List Value × TypeId)} (hn : n = l.length + k) {i : Nat} (hi : i < k) : (⟨n, l ++ base⟩ : Hp).blk? i = (⟨k, base⟩ : Hp).blk? i := by
  unfold Hp.blk?
  rw [if_pos (blt_iff.2 (by show i < n; omega)), if_pos (blt_iff.2 hi)]
  show (l ++ base)[n - 1 - i]? = base[k - 1 - i]?
  rw [List.getElem?_append_right (by omega)]
  congr 1
  omega
theorem RunsW.cut {T : Tab} {c : Code} {x0 : Lf} {ex : Ex} {f1 f2 : List Value} {u : Value} {n k N : Nat} {extra base : List (List Value × TypeId)} (hr : RunsW T c x0 fun e z => e = ex ∧ (∃ g, z.1 = (f1 ++ u :: f2) ++ tl n g) ∧ z.2.1 = ⟨N, extra ++ base⟩)
    (hk : base.length = k) (hN : N = extra.length + k) (h0 : 0 < k) (hb : ∀ x ∈ base, ∀ v ∈ x.1, lt1 k v = true) (h1 : ∀ v ∈ f1, lt k v = true) (h2 : ∀ v ∈ f2, lt k v = true) :
    RunsW T c x0 fun e z => e = ex ∧ (∃ g j, z.1 = (f1 ++ j :: f2) ++ tl n g) ∧ z.2.1 = ⟨k, base⟩ := by
  intro m B a w R Q hQ
  refine hr m B a w R Q fun e z he m' a' w' R' hb' => ?_
  obtain ⟨rfl, ⟨g, hz1⟩, hz2⟩ := he
  obtain ⟨t, h, s⟩ := z
  simp only at hz1 hz2
  subst hz1 hz2
  obtain ⟨g', hg'⟩ := tl_of (J := (tl n g).map (fun v => Value.iface dead (mv m' v))) (n := n) (by simp [tl_len])
  refine hQ e ((f1 ++ Value.iface dead (mv m' u) :: f2) ++ tl n g', ⟨k, base⟩, s) ⟨rfl, ⟨g', _, rfl⟩, rfl⟩ m' a' w' ?_ hb'
  have E := R'.emb
  have sub : ∀ i x, (⟨k, base⟩ : Hp).blk? i = some x → (⟨N, extra ++ base⟩ : Hp).blk? i = some x := fun i x hx => by
    rw [blk_base hN (Hp.blk_lt hx)]
    exact hx
  have mem : ∀ i x, (⟨k, base⟩ : Hp).blk? i = some x → x ∈ base := fun i x hx => by
    unfold Hp.blk? at hx
    split at hx
    · exact List.mem_of_getElem? hx
    · cases hx
  have ltd : ∀ v : Value, lt k (Value.iface dead v) = true := fun v => by simp [lt, lt2, lt1, h0]
  have mvd : ∀ v : Value, mv m' (Value.iface dead (mv m' v)) = mv m' v := fun v => by simp [mv, mv2, mv1]
  refine ⟨?_, R'.dfr, ⟨hk, fun b x hx ht => E.lies b x (sub b x hx) ht, fun b x hx hro => E.low b x (sub b x hx) hro, fun b x hx ht hro => E.ros b x (sub b x hx) ht hro, fun b b' x x' hx hx' hro hro' he => E.inj b b' x x' (sub b x hx) (sub b' x' hx') hro hro' he, fun b x hx v hv => hb x (mem b x hx) v hv, E.base, E.ice, fun b x hx ha => E.abs b x (sub b x hx) ha⟩, ?_⟩
  · rw [R'.tmps]
    simp only [List.map_append, List.map_cons, mvd, ← hg', List.map_map]
    congr 2
  · intro v hv
    rcases List.mem_append.1 hv with hv | hv
    · rcases List.mem_append.1 hv with hv | hv
      · exact h1 v hv
      · rcases List.mem_cons.1 hv with rfl | hv
        · exact ltd _
        · exact h2 v hv
    · rw [← hg'] at hv
      obtain ⟨y, _, rfl⟩ := List.mem_map.1 hv
      exact ltd _
/-- the same, ahead of a piece of code -/
theorem RunsW.pre {T : Tab} {c : Code} {P : Ex → Lf → Prop} {f1 f2 : List Value} {u : Value} {n k N : Nat} {extra base : List (List Value × TypeId)} {s s' : List Dec} {g : Nat → Value} (h : ∀ j g, RunsW T c ((f1 ++ j :: f2) ++ tl n g, ⟨k, base⟩, s') P)
    (hk : base.length = k) (hN : N = extra.length + k) (h0 : 0 < k) (hb : ∀ x ∈ base, ∀ v ∈ x.1, lt1 k v = true) (h1 : ∀ v ∈ f1, lt k v = true) (h2 : ∀ v ∈ f2, lt k v = true) :
    RunsW T c ((f1 ++ u :: f2) ++ tl n g, ⟨N, extra ++ base⟩, s) P := by
  intro m B a w R Q hQ
  obtain ⟨g', hg'⟩ := tl_of (J := (tl n g).map (fun v => Value.iface dead (mv m v))) (n := n) (by simp [tl_len])
  refine h (Value.iface dead (mv m u)) g' m B a w ?_ Q hQ
  have E := R.emb
  have sub : ∀ i x, (⟨k, base⟩ : Hp).blk? i = some x → (⟨N, extra ++ base⟩ : Hp).blk? i = some x := fun i x hx => by
    rw [blk_base hN (Hp.blk_lt hx)]
    exact hx
  have mem : ∀ i x, (⟨k, base⟩ : Hp).blk? i = some x → x ∈ base := fun i x hx => by
    unfold Hp.blk? at hx
    split at hx
    · exact List.mem_of_getElem? hx
    · cases hx
  have ltd : ∀ v : Value, lt k (Value.iface dead v) = true := fun v => by simp [lt, lt2, lt1, h0]
  have mvd : ∀ v : Value, mv m (Value.iface dead (mv m v)) = mv m v := fun v => by simp [mv, mv2, mv1]
  refine ⟨?_, R.dfr, ⟨hk, fun b x hx ht => E.lies b x (sub b x hx) ht, fun b x hx hro => E.low b x (sub b x hx) hro, fun b x hx ht hro => E.ros b x (sub b x hx) ht hro, fun b b' x x' hx hx' hro hro' he => E.inj b b' x x' (sub b x hx) (sub b' x' hx') hro hro' he, fun b x hx v hv => hb x (mem b x hx) v hv, E.base, E.ice, fun b x hx ha => E.abs b x (sub b x hx) ha⟩, ?_⟩
  · rw [R.tmps]
    simp only [List.map_append, List.map_cons, mvd, ← hg', List.map_map]
    congr 2
  · intro v hv
    rcases List.mem_append.1 hv with hv | hv
    · rcases List.mem_append.1 hv with hv | hv
      · exact h1 v hv
      · rcases List.mem_cons.1 hv with rfl | hv
        · exact ltd _
        · exact h2 v hv
    · rw [← hg'] at hv
      obtain ⟨y, _, rfl⟩ := List.mem_map.1 hv
      exact ltd _
/-- a call that keeps one block of its own, whichever it is -/
theorem row_calls2 {T : Tab} {f : Nat} {F : Func} {c : Code} (hF : T.P.funcs[f]? = some F) (hc : F.body = some c) {h0 : Hp} (hr : h0.rows) {vals : List Value} (hvals : ∀ v ∈ vals, lt h0.n v = true) {v : Nat → Value}
    {cs : List Value} {ty : TypeId} (hcs : ∀ u ∈ cs, lt1 0 u = true) (hty : ro ty = false)
    (hrun : RunsW T c (vals ++ List.replicate (F.ntmps - vals.length) undef, h0, []) fun e y => (e = none ∨ e = some none) ∧ ∃ k, resS T.P F y.1 y.2.1 = some (v k) ∧ ∃ r, y.2.1.blk? k = some (cs ++ r, ty))
    (hv0 : ∀ k, oc [k] (v k) = true)
    {m : Mp} {B : Nat} {h : Hp} {w : World} (E : Emb m B h w) {s : Nat → Nat} (hf : h0.fits s h) (hv1 : ∀ k, rn (fun _ => h.n) (v k) = v h.n) :
    Calls T.P f ((vals.map (rn s)).map (mv m)).toArray w fun e w' => ∃ m', e = .returned (mv m' (v h.n)) ∧ Came m B h w (v h.n) (h.push cs ty) m' w' := by
  have E0 := E.small hr hf
  have ev : (vals.map (rn s)).map (mv m) = vals.map (mv fun i => m (s i)) := by
    rw [List.map_map]
    exact List.map_congr_left fun y _ => mv_rn m s y
  rw [ev]
  refine calls_of_wp hF hc ?_
  have R : Rel (fun i => m (s i)) w.heap.size (vals ++ List.replicate (F.ntmps - vals.length) undef, h0, []) { tmps := (vals.map (mv fun i => m (s i))).toArray ++ Array.replicate (F.ntmps - (vals.map (mv fun i => m (s i))).toArray.size) undef, defers := [] } w := by
    refine ⟨?_, rfl, E0, ?_⟩
    · simp [mv_undef]
    · intro y hy
      rcases List.mem_append.1 hy with hy | hy
      · exact hvals y hy
      · rw [List.eq_of_mem_replicate hy]; simp [undef, lt]
  refine hrun _ _ _ w R _ fun e y he m1 a' w' k2 k3 => ?_
  obtain ⟨hex, k, hres, r, hblk⟩ := he
  obtain ⟨r1, r2⟩ := resS_run k2.emb k2.wf hres
  rw [← k2.tmps] at r1
  have td : Tidy w w' := ⟨k3, fun k h1 h2 => k2.emb.ice k h1 h2⟩
  obtain ⟨E', hb⟩ := clean_emb E td
  have hlow : w.heap.size ≤ (m1 k).1 := k2.emb.low k _ hblk hty
  have hlie : lie w' (m1 k) (cs.map (mv1 m)) ty := by
    obtain ⟨r', z, l0, l1, l2⟩ := k2.emb.lies k _ hblk (tomb_ro hty)
    have e : cs.map (mv1 m1) = cs.map (mv1 m) := map_still hcs
    simp only [List.map_append] at l0 l1
    refine ⟨r.map (mv1 m1) ++ r', z, ?_, ?_, l2⟩
    · simp at l0 ⊢; omega
    · rw [← e, l1, List.append_assoc]
  have Ea := E'.adopt cs ty hty (fun u hu => lt1_mono (Nat.zero_le _) (hcs u hu)) hlie (Nat.le_trans E.base hlow) (fun b x hbx hx heq => by
    have := E.here hbx (tomb_ro hx)
    omega)
  have e1 : mv m1 (v k) = mv (upd m h.n (m1 k)) (v h.n) := by
    rw [← hv1 k, mv_rn]
    refine mv_on (fun b hb => ?_) (hv0 k)
    rw [List.mem_singleton.1 hb]
    simp [upd]
  rw [e1] at r1
  have hlt : lt (h.n + 1) (v h.n) = true := by rw [← hv1 k]; exact oc_ren (bs := [k]) (fun b hb => by show h.n < h.n + 1; omega) (hv0 k)
  have post : a'.defers = [] ∧ ∃ v', (results F a'.tmps).run T.P w' = .ok v' w' ∧ ∃ m', Ending.returned v' = .returned (mv m' (v h.n)) ∧ Came m B h w (v h.n) (h.push cs ty) m' w' :=
    ⟨k2.dfr, _, r1, upd m h.n (m1 k), rfl, ⟨upd_agree _ _ _, Ea, hb, Nat.le_succ _, hlt⟩⟩
  rcases hex with rfl | rfl <;> exact post
end Go.KRun

/-
  The document's To (tillerref04): a size rounded to multiples of a power of two: its pieces.
-/
namespace Go.Proofs.YtgmfnecdpfdncaaDoor
open Go.KRun Go.Nt Go.Wd
set_option maxRecDepth 100000
set_option linter.unusedVariables false

def tC (F : Func) : Nat → Code
  | 0 => cBody F
  | n + 1 => cSnd (tC F n)
def tS1 (F : Func) : List Code := [cFst (tC F 0), cFst (tC F 1), cFst (tC F 2), cFst (tC F 3), cFst (tC F 4), cFst (tC F 5)]
def tS2 (F : Func) : List Code := [cFst (tC F 6), cFst (tC F 7), cFst (tC F 8)]
def tS3 (F : Func) : Code := cFst (tC F 9)
def tS4 (F : Func) : Code := cFst (tC F 10)
def tS5 (F : Func) : Code := tC F 11
theorem to_body : Tryd.f37.body = some (cBody Tryd.f37) := by kernel_rfl
theorem to_body3 : Tryd.f37.body = some (seqs (tS1 Tryd.f37) (seqs (tS2 Tryd.f37) (.seq (tS3 Tryd.f37) (.seq (tS4 Tryd.f37) (tS5 Tryd.f37))))) := by kernel_rfl
def bX (neg : Bool) (E : Int) (o n c : Nat) : List Value × TypeId := bOf neg E (sl 0 o n c)
def hX (neg : Bool) (E : Int) (o n c : Nat) (l : List Value) : Hp := ⟨2, [bX neg E o n c, (l, tR)]⟩
def hQ (neg : Bool) (E : Int) (o n c : Nat) (l : List Value) (q : Nat) : Hp := ⟨3, [(wU (d16 q), tU), bX neg E o n c, (l, tR)]⟩
def aX (o : Nat) : Option Addr := some ⟨0, o, none⟩
def dif (x y : Int) : Int := IntKind.i64.wrap (x - y)
def okShl (h : Hp) (p : Option Addr) (n c : Nat) (k : Int) : Bool := rowP h p n c && dgB (rowOf h p n) && Nat.blt (k.toNat / 16 + n + 3) 1073741824 && decide (0 ≤ k)
def okLen (h : Hp) (p : Option Addr) (n c : Nat) : Bool := rowP h p n c && canB (rowOf h p n) && Nat.blt n 1073741824
theorem to_upT (neg : Bool) (E N M : Int) (o n c : Nat) (l : List Value) : GoesT (evC (tabH Tryd.prog extY conN hcW) 200 false (cBody Tryd.f37) ([vRN neg E (sl 0 o n c), .int .i64 N, .int .i64 M] ++ List.replicate 103 undef, ⟨1, [(l, tR)]⟩, [cmp true, cmp true]) ⟨[], [], []⟩) 8 98 (some none) [vRN neg E (sl 0 o n c), .int .i64 N, .int .i64 M, .pointer (some ⟨1, 0, none⟩), undef, undef, sOf 2 ((vO (hX neg E o n c l) (aX o) n) * 2 ^ (dif E N).toNat), .bool false] (nxt (hX neg E o n c l) ((vO (hX neg E o n c l) (aX o) n) * 2 ^ (dif E N).toNat)) [(okShl (hX neg E o n c l) (aX o) n c (dif E N), true), (decide (0 < n), true), (decide (E ≥ N), true)] := ⟨by kernel_rfl, by kernel_rfl, by kernel_rfl⟩
theorem to_upF (neg : Bool) (E N M : Int) (o n c : Nat) (l : List Value) : GoesT (evC (tabH Tryd.prog extY conN hcW) 200 false (cBody Tryd.f37) ([vRN neg E (sl 0 o n c), .int .i64 N, .int .i64 M] ++ List.replicate 103 undef, ⟨1, [(l, tR)]⟩, [cmp true, cmp false]) ⟨[], [], []⟩) 8 98 (some none) [vRN neg E (sl 0 o n c), .int .i64 N, .int .i64 M, .pointer (some ⟨1, 0, none⟩), undef, undef, nilS, .bool false] (hX neg E o n c l) [(rowP (hX neg E o n c l) (aX o) n c, true), (decide (0 < n), false), (decide (E ≥ N), true)] := ⟨by kernel_rfl, by kernel_rfl, by kernel_rfl⟩
theorem to_dnT (neg : Bool) (E N M : Int) (o n c : Nat) (l : List Value) : GoesT (evC (tabH Tryd.prog extY conN hcW) 200 false (cBody Tryd.f37) ([vRN neg E (sl 0 o n c), .int .i64 N, .int .i64 M] ++ List.replicate 103 undef, ⟨1, [(l, tR)]⟩, [cmp false, cmp true, cmp false]) ⟨[], [], []⟩) 8 98 (some none) [vRN neg E (sl 0 o n c), .int .i64 N, .int .i64 M, .pointer (some ⟨1, 0, none⟩), undef, undef, sOf 2 ((vO (hX neg E o n c l) (aX o) n) / 2 ^ (dif N E).toNat), .bool false] (nxt (hX neg E o n c l) ((vO (hX neg E o n c l) (aX o) n) / 2 ^ (dif N E).toNat)) [(decide ((vO (hX neg E o n c l) (aX o) n) % 2 ^ (dif N E).toNat ≠ 0), false), (decide ((dif N E).toNat / 16 < n), true), (okShr (hX neg E o n c l) (aX o) n c (dif N E), true), (decide (E ≥ N), false)] := ⟨by kernel_rfl, by kernel_rfl, by kernel_rfl⟩
theorem to_dnF (neg : Bool) (E N M : Int) (o n c : Nat) (l : List Value) : GoesT (evC (tabH Tryd.prog extY conN hcW) 200 false (cBody Tryd.f37) ([vRN neg E (sl 0 o n c), .int .i64 N, .int .i64 M] ++ List.replicate 103 undef, ⟨1, [(l, tR)]⟩, [cmp false, cmp false, cmp false]) ⟨[], [], []⟩) 8 98 (some none) [vRN neg E (sl 0 o n c), .int .i64 N, .int .i64 M, .pointer (some ⟨1, 0, none⟩), undef, undef, nilS, .bool false] (hX neg E o n c l) [(decide ((vO (hX neg E o n c l) (aX o) n) % 2 ^ (dif N E).toNat ≠ 0), false), (decide ((dif N E).toNat / 16 < n), false), (okShr (hX neg E o n c l) (aX o) n c (dif N E), true), (decide (E ≥ N), false)] := ⟨by kernel_rfl, by kernel_rfl, by kernel_rfl⟩
theorem to_s1T (neg d : Bool) (E N M : Int) (o n c : Nat) (l : List Value) : GoesT (evL (tabH Tryd.prog extY conN hcW) 200 (tS1 Tryd.f37) ([vRN neg E (sl 0 o n c), .int .i64 N, .int .i64 M] ++ List.replicate 103 undef, ⟨1, [(l, tR)]⟩, [cmp false, cmp true, cmp true, cmp d]) ⟨[], [], []⟩) 12 94 none [vRN neg E (sl 0 o n c), .int .i64 N, .int .i64 M, .pointer (some ⟨1, 0, none⟩), undef, undef, nilS, .bool false, .int .i64 (dif N E), sOf 2 ((vO (hX neg E o n c l) (aX o) n) / 2 ^ (dif N E).toNat), .bool true, .bool d] (nxt (hX neg E o n c l) ((vO (hX neg E o n c l) (aX o) n) / 2 ^ (dif N E).toNat)) [(((vO (nxt (hX neg E o n c l) ((vO (hX neg E o n c l) (aX o) n) / 2 ^ (dif N E).toNat)) (aX o) n / 2 ^ (dif (dif N E) 1).toNat % 2 : Nat) : Int) == 1, d), (rowD (nxt (hX neg E o n c l) ((vO (hX neg E o n c l) (aX o) n) / 2 ^ (dif N E).toNat)) (aX o) n c, true), (decide (0 ≤ dif (dif N E) 1 ∧ dif (dif N E) 1 < 4611686018427387904), true), (decide ((vO (hX neg E o n c l) (aX o) n) % 2 ^ (dif N E).toNat ≠ 0), true), (decide ((dif N E).toNat / 16 < n), true), (okShr (hX neg E o n c l) (aX o) n c (dif N E), true), (decide (E ≥ N), false)] := ⟨by kernel_rfl, by kernel_rfl, by kernel_rfl⟩
theorem to_s1F (neg d : Bool) (E N M : Int) (o n c : Nat) (l : List Value) : GoesT (evL (tabH Tryd.prog extY conN hcW) 200 (tS1 Tryd.f37) ([vRN neg E (sl 0 o n c), .int .i64 N, .int .i64 M] ++ List.replicate 103 undef, ⟨1, [(l, tR)]⟩, [cmp false, cmp false, cmp true, cmp d]) ⟨[], [], []⟩) 12 94 none [vRN neg E (sl 0 o n c), .int .i64 N, .int .i64 M, .pointer (some ⟨1, 0, none⟩), undef, undef, nilS, .bool false, .int .i64 (dif N E), nilS, .bool true, .bool d] (hX neg E o n c l) [(((vO (hX neg E o n c l) (aX o) n / 2 ^ (dif (dif N E) 1).toNat % 2 : Nat) : Int) == 1, d), (rowD (hX neg E o n c l) (aX o) n c, true), (decide (0 ≤ dif (dif N E) 1 ∧ dif (dif N E) 1 < 4611686018427387904), true), (decide ((vO (hX neg E o n c l) (aX o) n) % 2 ^ (dif N E).toNat ≠ 0), true), (decide ((dif N E).toNat / 16 < n), false), (okShr (hX neg E o n c l) (aX o) n c (dif N E), true), (decide (E ≥ N), false)] := ⟨by kernel_rfl, by kernel_rfl, by kernel_rfl⟩
theorem to_cr0F (neg j : Bool) (E N M b : Int) (o n c q : Nat) (l : List Value) (g : Nat → Value) : GoesT (evL (tabH Tryd.prog extY conN hcW) 200 (tS2 Tryd.f37) ([vRN neg E (sl 0 o n c), .int .i64 N, .int .i64 M, .pointer (some ⟨1, 0, none⟩), undef, undef, nilS, .bool false, .int .i64 b, sOf 2 q, .bool true, .bool false] ++ tl 94 g, (hQ neg E o n c l q), [cmp false]) ⟨[], [], []⟩) 14 92 none [vRN neg E (sl 0 o n c), .int .i64 N, .int .i64 M, .pointer (some ⟨1, 0, none⟩), undef, undef, nilS, .bool false, .int .i64 b, sOf 2 q, .bool true, .bool false, sl 0 o n c, .bool false] (hQ neg E o n c l q) [(decide (b ≤ ((bl (vO (hQ neg E o n c l q) (aX o) n) : Nat) : Int)), false), (okLen (hQ neg E o n c l q) (aX o) n c, true)] := ⟨by kernel_rfl, by kernel_rfl, by kernel_rfl⟩
theorem to_cr0T (neg j : Bool) (E N M b : Int) (o n c q : Nat) (l : List Value) (g : Nat → Value) : GoesT (evL (tabH Tryd.prog extY conN hcW) 200 (tS2 Tryd.f37) ([vRN neg E (sl 0 o n c), .int .i64 N, .int .i64 M, .pointer (some ⟨1, 0, none⟩), undef, undef, nilS, .bool false, .int .i64 b, sOf 2 q, .bool true, .bool true] ++ tl 94 g, (hQ neg E o n c l q), [cmp false, cmp true, cmp j]) ⟨[], [], []⟩) 14 92 none [vRN neg E (sl 0 o n c), .int .i64 N, .int .i64 M, .pointer (some ⟨1, 0, none⟩), undef, undef, nilS, .bool false, .int .i64 b, sOf 2 q, .bool true, .bool true, sl 0 o n c, .bool j] (nxt (nxt (hQ neg E o n c l q) 1) (vO (nxt (hQ neg E o n c l q) 1) (some ⟨3, 0, none⟩) (d16 1).length * 2 ^ (dif b 1).toNat)) [(cmpZ (vO (nxt (nxt (hQ neg E o n c l q) 1) (vO (nxt (hQ neg E o n c l q) 1) (some ⟨3, 0, none⟩) (d16 1).length * 2 ^ (dif b 1).toNat)) (aX o) n) (vO (nxt (nxt (hQ neg E o n c l q) 1) (vO (nxt (hQ neg E o n c l q) 1) (some ⟨3, 0, none⟩) (d16 1).length * 2 ^ (dif b 1).toNat)) (some ⟨4, 0, none⟩) (d16 (vO (nxt (hQ neg E o n c l q) 1) (some ⟨3, 0, none⟩) (d16 1).length * 2 ^ (dif b 1).toNat)).length) == 0, j), (two16 (nxt (nxt (hQ neg E o n c l q) 1) (vO (nxt (hQ neg E o n c l q) 1) (some ⟨3, 0, none⟩) (d16 1).length * 2 ^ (dif b 1).toNat)) (aX o) (some ⟨4, 0, none⟩) n c (d16 (vO (nxt (hQ neg E o n c l q) 1) (some ⟨3, 0, none⟩) (d16 1).length * 2 ^ (dif b 1).toNat)).length (d16 (vO (nxt (hQ neg E o n c l q) 1) (some ⟨3, 0, none⟩) (d16 1).length * 2 ^ (dif b 1).toNat)).length, true), (okShl (nxt (hQ neg E o n c l q) 1) (some ⟨3, 0, none⟩) (d16 1).length (d16 1).length (dif b 1), true), (decide (0 < (d16 1).length), true), okOne1, (decide (b ≤ ((bl (vO (hQ neg E o n c l q) (aX o) n) : Nat) : Int)), false), (okLen (hQ neg E o n c l q) (aX o) n c, true)] := ⟨by kernel_rfl, by kernel_rfl, by kernel_rfl⟩
theorem to_cr1F (neg j : Bool) (E N M b : Int) (o n c q : Nat) (l : List Value) (g : Nat → Value) : GoesT (evL (tabH Tryd.prog extY conN hcW) 200 (tS2 Tryd.f37) ([vRN neg E (sl 0 o n c), .int .i64 N, .int .i64 M, .pointer (some ⟨1, 0, none⟩), undef, undef, nilS, .bool false, .int .i64 b, sOf 2 q, .bool true, .bool false] ++ tl 94 g, (hQ neg E o n c l q), [cmp true, cmp true, cmp true]) ⟨[], [], []⟩) 14 92 none [vRN neg E (sl 0 o n c), .int .i64 N, .int .i64 M, .pointer (some ⟨1, 0, none⟩), undef, undef, nilS, .bool false, .int .i64 b, sOf 2 q, .bool true, .bool false, sOf 4 (vO (nxt (hQ neg E o n c l q) (vO (hQ neg E o n c l q) (some ⟨2, 0, none⟩) (d16 q).length * 2 ^ b.toNat)) (aX o) n - vO (nxt (hQ neg E o n c l q) (vO (hQ neg E o n c l q) (some ⟨2, 0, none⟩) (d16 q).length * 2 ^ b.toNat)) (some ⟨3, 0, none⟩) (d16 (vO (hQ neg E o n c l q) (some ⟨2, 0, none⟩) (d16 q).length * 2 ^ b.toNat)).length), .bool false] (nxt (nxt (hQ neg E o n c l q) (vO (hQ neg E o n c l q) (some ⟨2, 0, none⟩) (d16 q).length * 2 ^ b.toNat)) (vO (nxt (hQ neg E o n c l q) (vO (hQ neg E o n c l q) (some ⟨2, 0, none⟩) (d16 q).length * 2 ^ b.toNat)) (aX o) n - vO (nxt (hQ neg E o n c l q) (vO (hQ neg E o n c l q) (some ⟨2, 0, none⟩) (d16 q).length * 2 ^ b.toNat)) (some ⟨3, 0, none⟩) (d16 (vO (hQ neg E o n c l q) (some ⟨2, 0, none⟩) (d16 q).length * 2 ^ b.toNat)).length)) [(two16 (nxt (hQ neg E o n c l q) (vO (hQ neg E o n c l q) (some ⟨2, 0, none⟩) (d16 q).length * 2 ^ b.toNat)) (aX o) (some ⟨3, 0, none⟩) n c (d16 (vO (hQ neg E o n c l q) (some ⟨2, 0, none⟩) (d16 q).length * 2 ^ b.toNat)).length (d16 (vO (hQ neg E o n c l q) (some ⟨2, 0, none⟩) (d16 q).length * 2 ^ b.toNat)).length && Nat.ble (vO (nxt (hQ neg E o n c l q) (vO (hQ neg E o n c l q) (some ⟨2, 0, none⟩) (d16 q).length * 2 ^ b.toNat)) (some ⟨3, 0, none⟩) (d16 (vO (hQ neg E o n c l q) (some ⟨2, 0, none⟩) (d16 q).length * 2 ^ b.toNat)).length) (vO (nxt (hQ neg E o n c l q) (vO (hQ neg E o n c l q) (some ⟨2, 0, none⟩) (d16 q).length * 2 ^ b.toNat)) (aX o) n), true), (decide (0 < n), true), (okShl (hQ neg E o n c l q) (some ⟨2, 0, none⟩) (d16 q).length (d16 q).length b, true), (decide (0 < (d16 q).length), true), (decide (b ≤ ((bl (vO (hQ neg E o n c l q) (aX o) n) : Nat) : Int)), true), (okLen (hQ neg E o n c l q) (aX o) n c, true)] := ⟨by kernel_rfl, by kernel_rfl, by kernel_rfl⟩
theorem to_cr1T (neg j : Bool) (E N M b : Int) (o n c q : Nat) (l : List Value) (g : Nat → Value) : GoesT (evL (tabH Tryd.prog extY conN hcW) 200 (tS2 Tryd.f37) ([vRN neg E (sl 0 o n c), .int .i64 N, .int .i64 M, .pointer (some ⟨1, 0, none⟩), undef, undef, nilS, .bool false, .int .i64 b, sOf 2 q, .bool true, .bool true] ++ tl 94 g, (hQ neg E o n c l q), [cmp true, cmp true, cmp true, cmp true, cmp j]) ⟨[], [], []⟩) 14 92 none [vRN neg E (sl 0 o n c), .int .i64 N, .int .i64 M, .pointer (some ⟨1, 0, none⟩), undef, undef, nilS, .bool false, .int .i64 b, sOf 2 q, .bool true, .bool true, sOf 4 (vO (nxt (hQ neg E o n c l q) (vO (hQ neg E o n c l q) (some ⟨2, 0, none⟩) (d16 q).length * 2 ^ b.toNat)) (aX o) n - vO (nxt (hQ neg E o n c l q) (vO (hQ neg E o n c l q) (some ⟨2, 0, none⟩) (d16 q).length * 2 ^ b.toNat)) (some ⟨3, 0, none⟩) (d16 (vO (hQ neg E o n c l q) (some ⟨2, 0, none⟩) (d16 q).length * 2 ^ b.toNat)).length), .bool j] (nxt (nxt (nxt (nxt (hQ neg E o n c l q) (vO (hQ neg E o n c l q) (some ⟨2, 0, none⟩) (d16 q).length * 2 ^ b.toNat)) (vO (nxt (hQ neg E o n c l q) (vO (hQ neg E o n c l q) (some ⟨2, 0, none⟩) (d16 q).length * 2 ^ b.toNat)) (aX o) n - vO (nxt (hQ neg E o n c l q) (vO (hQ neg E o n c l q) (some ⟨2, 0, none⟩) (d16 q).length * 2 ^ b.toNat)) (some ⟨3, 0, none⟩) (d16 (vO (hQ neg E o n c l q) (some ⟨2, 0, none⟩) (d16 q).length * 2 ^ b.toNat)).length)) 1) (vO (nxt (nxt (nxt (hQ neg E o n c l q) (vO (hQ neg E o n c l q) (some ⟨2, 0, none⟩) (d16 q).length * 2 ^ b.toNat)) (vO (nxt (hQ neg E o n c l q) (vO (hQ neg E o n c l q) (some ⟨2, 0, none⟩) (d16 q).length * 2 ^ b.toNat)) (aX o) n - vO (nxt (hQ neg E o n c l q) (vO (hQ neg E o n c l q) (some ⟨2, 0, none⟩) (d16 q).length * 2 ^ b.toNat)) (some ⟨3, 0, none⟩) (d16 (vO (hQ neg E o n c l q) (some ⟨2, 0, none⟩) (d16 q).length * 2 ^ b.toNat)).length)) 1) (some ⟨5, 0, none⟩) (d16 1).length * 2 ^ (dif b 1).toNat)) [(cmpZ (vO (nxt (nxt (nxt (nxt (hQ neg E o n c l q) (vO (hQ neg E o n c l q) (some ⟨2, 0, none⟩) (d16 q).length * 2 ^ b.toNat)) (vO (nxt (hQ neg E o n c l q) (vO (hQ neg E o n c l q) (some ⟨2, 0, none⟩) (d16 q).length * 2 ^ b.toNat)) (aX o) n - vO (nxt (hQ neg E o n c l q) (vO (hQ neg E o n c l q) (some ⟨2, 0, none⟩) (d16 q).length * 2 ^ b.toNat)) (some ⟨3, 0, none⟩) (d16 (vO (hQ neg E o n c l q) (some ⟨2, 0, none⟩) (d16 q).length * 2 ^ b.toNat)).length)) 1) (vO (nxt (nxt (nxt (hQ neg E o n c l q) (vO (hQ neg E o n c l q) (some ⟨2, 0, none⟩) (d16 q).length * 2 ^ b.toNat)) (vO (nxt (hQ neg E o n c l q) (vO (hQ neg E o n c l q) (some ⟨2, 0, none⟩) (d16 q).length * 2 ^ b.toNat)) (aX o) n - vO (nxt (hQ neg E o n c l q) (vO (hQ neg E o n c l q) (some ⟨2, 0, none⟩) (d16 q).length * 2 ^ b.toNat)) (some ⟨3, 0, none⟩) (d16 (vO (hQ neg E o n c l q) (some ⟨2, 0, none⟩) (d16 q).length * 2 ^ b.toNat)).length)) 1) (some ⟨5, 0, none⟩) (d16 1).length * 2 ^ (dif b 1).toNat)) (some ⟨4, 0, none⟩) (d16 (vO (nxt (hQ neg E o n c l q) (vO (hQ neg E o n c l q) (some ⟨2, 0, none⟩) (d16 q).length * 2 ^ b.toNat)) (aX o) n - vO (nxt (hQ neg E o n c l q) (vO (hQ neg E o n c l q) (some ⟨2, 0, none⟩) (d16 q).length * 2 ^ b.toNat)) (some ⟨3, 0, none⟩) (d16 (vO (hQ neg E o n c l q) (some ⟨2, 0, none⟩) (d16 q).length * 2 ^ b.toNat)).length)).length) (vO (nxt (nxt (nxt (nxt (hQ neg E o n c l q) (vO (hQ neg E o n c l q) (some ⟨2, 0, none⟩) (d16 q).length * 2 ^ b.toNat)) (vO (nxt (hQ neg E o n c l q) (vO (hQ neg E o n c l q) (some ⟨2, 0, none⟩) (d16 q).length * 2 ^ b.toNat)) (aX o) n - vO (nxt (hQ neg E o n c l q) (vO (hQ neg E o n c l q) (some ⟨2, 0, none⟩) (d16 q).length * 2 ^ b.toNat)) (some ⟨3, 0, none⟩) (d16 (vO (hQ neg E o n c l q) (some ⟨2, 0, none⟩) (d16 q).length * 2 ^ b.toNat)).length)) 1) (vO (nxt (nxt (nxt (hQ neg E o n c l q) (vO (hQ neg E o n c l q) (some ⟨2, 0, none⟩) (d16 q).length * 2 ^ b.toNat)) (vO (nxt (hQ neg E o n c l q) (vO (hQ neg E o n c l q) (some ⟨2, 0, none⟩) (d16 q).length * 2 ^ b.toNat)) (aX o) n - vO (nxt (hQ neg E o n c l q) (vO (hQ neg E o n c l q) (some ⟨2, 0, none⟩) (d16 q).length * 2 ^ b.toNat)) (some ⟨3, 0, none⟩) (d16 (vO (hQ neg E o n c l q) (some ⟨2, 0, none⟩) (d16 q).length * 2 ^ b.toNat)).length)) 1) (some ⟨5, 0, none⟩) (d16 1).length * 2 ^ (dif b 1).toNat)) (some ⟨6, 0, none⟩) (d16 (vO (nxt (nxt (nxt (hQ neg E o n c l q) (vO (hQ neg E o n c l q) (some ⟨2, 0, none⟩) (d16 q).length * 2 ^ b.toNat)) (vO (nxt (hQ neg E o n c l q) (vO (hQ neg E o n c l q) (some ⟨2, 0, none⟩) (d16 q).length * 2 ^ b.toNat)) (aX o) n - vO (nxt (hQ neg E o n c l q) (vO (hQ neg E o n c l q) (some ⟨2, 0, none⟩) (d16 q).length * 2 ^ b.toNat)) (some ⟨3, 0, none⟩) (d16 (vO (hQ neg E o n c l q) (some ⟨2, 0, none⟩) (d16 q).length * 2 ^ b.toNat)).length)) 1) (some ⟨5, 0, none⟩) (d16 1).length * 2 ^ (dif b 1).toNat)).length) == 0, j), (two16 (nxt (nxt (nxt (nxt (hQ neg E o n c l q) (vO (hQ neg E o n c l q) (some ⟨2, 0, none⟩) (d16 q).length * 2 ^ b.toNat)) (vO (nxt (hQ neg E o n c l q) (vO (hQ neg E o n c l q) (some ⟨2, 0, none⟩) (d16 q).length * 2 ^ b.toNat)) (aX o) n - vO (nxt (hQ neg E o n c l q) (vO (hQ neg E o n c l q) (some ⟨2, 0, none⟩) (d16 q).length * 2 ^ b.toNat)) (some ⟨3, 0, none⟩) (d16 (vO (hQ neg E o n c l q) (some ⟨2, 0, none⟩) (d16 q).length * 2 ^ b.toNat)).length)) 1) (vO (nxt (nxt (nxt (hQ neg E o n c l q) (vO (hQ neg E o n c l q) (some ⟨2, 0, none⟩) (d16 q).length * 2 ^ b.toNat)) (vO (nxt (hQ neg E o n c l q) (vO (hQ neg E o n c l q) (some ⟨2, 0, none⟩) (d16 q).length * 2 ^ b.toNat)) (aX o) n - vO (nxt (hQ neg E o n c l q) (vO (hQ neg E o n c l q) (some ⟨2, 0, none⟩) (d16 q).length * 2 ^ b.toNat)) (some ⟨3, 0, none⟩) (d16 (vO (hQ neg E o n c l q) (some ⟨2, 0, none⟩) (d16 q).length * 2 ^ b.toNat)).length)) 1) (some ⟨5, 0, none⟩) (d16 1).length * 2 ^ (dif b 1).toNat)) (some ⟨4, 0, none⟩) (some ⟨6, 0, none⟩) (d16 (vO (nxt (hQ neg E o n c l q) (vO (hQ neg E o n c l q) (some ⟨2, 0, none⟩) (d16 q).length * 2 ^ b.toNat)) (aX o) n - vO (nxt (hQ neg E o n c l q) (vO (hQ neg E o n c l q) (some ⟨2, 0, none⟩) (d16 q).length * 2 ^ b.toNat)) (some ⟨3, 0, none⟩) (d16 (vO (hQ neg E o n c l q) (some ⟨2, 0, none⟩) (d16 q).length * 2 ^ b.toNat)).length)).length (d16 (vO (nxt (hQ neg E o n c l q) (vO (hQ neg E o n c l q) (some ⟨2, 0, none⟩) (d16 q).length * 2 ^ b.toNat)) (aX o) n - vO (nxt (hQ neg E o n c l q) (vO (hQ neg E o n c l q) (some ⟨2, 0, none⟩) (d16 q).length * 2 ^ b.toNat)) (some ⟨3, 0, none⟩) (d16 (vO (hQ neg E o n c l q) (some ⟨2, 0, none⟩) (d16 q).length * 2 ^ b.toNat)).length)).length (d16 (vO (nxt (nxt (nxt (hQ neg E o n c l q) (vO (hQ neg E o n c l q) (some ⟨2, 0, none⟩) (d16 q).length * 2 ^ b.toNat)) (vO (nxt (hQ neg E o n c l q) (vO (hQ neg E o n c l q) (some ⟨2, 0, none⟩) (d16 q).length * 2 ^ b.toNat)) (aX o) n - vO (nxt (hQ neg E o n c l q) (vO (hQ neg E o n c l q) (some ⟨2, 0, none⟩) (d16 q).length * 2 ^ b.toNat)) (some ⟨3, 0, none⟩) (d16 (vO (hQ neg E o n c l q) (some ⟨2, 0, none⟩) (d16 q).length * 2 ^ b.toNat)).length)) 1) (some ⟨5, 0, none⟩) (d16 1).length * 2 ^ (dif b 1).toNat)).length (d16 (vO (nxt (nxt (nxt (hQ neg E o n c l q) (vO (hQ neg E o n c l q) (some ⟨2, 0, none⟩) (d16 q).length * 2 ^ b.toNat)) (vO (nxt (hQ neg E o n c l q) (vO (hQ neg E o n c l q) (some ⟨2, 0, none⟩) (d16 q).length * 2 ^ b.toNat)) (aX o) n - vO (nxt (hQ neg E o n c l q) (vO (hQ neg E o n c l q) (some ⟨2, 0, none⟩) (d16 q).length * 2 ^ b.toNat)) (some ⟨3, 0, none⟩) (d16 (vO (hQ neg E o n c l q) (some ⟨2, 0, none⟩) (d16 q).length * 2 ^ b.toNat)).length)) 1) (some ⟨5, 0, none⟩) (d16 1).length * 2 ^ (dif b 1).toNat)).length, true), (okShl (nxt (nxt (nxt (hQ neg E o n c l q) (vO (hQ neg E o n c l q) (some ⟨2, 0, none⟩) (d16 q).length * 2 ^ b.toNat)) (vO (nxt (hQ neg E o n c l q) (vO (hQ neg E o n c l q) (some ⟨2, 0, none⟩) (d16 q).length * 2 ^ b.toNat)) (aX o) n - vO (nxt (hQ neg E o n c l q) (vO (hQ neg E o n c l q) (some ⟨2, 0, none⟩) (d16 q).length * 2 ^ b.toNat)) (some ⟨3, 0, none⟩) (d16 (vO (hQ neg E o n c l q) (some ⟨2, 0, none⟩) (d16 q).length * 2 ^ b.toNat)).length)) 1) (some ⟨5, 0, none⟩) (d16 1).length (d16 1).length (dif b 1), true), (decide (0 < (d16 1).length), true), okOne1, (two16 (nxt (hQ neg E o n c l q) (vO (hQ neg E o n c l q) (some ⟨2, 0, none⟩) (d16 q).length * 2 ^ b.toNat)) (aX o) (some ⟨3, 0, none⟩) n c (d16 (vO (hQ neg E o n c l q) (some ⟨2, 0, none⟩) (d16 q).length * 2 ^ b.toNat)).length (d16 (vO (hQ neg E o n c l q) (some ⟨2, 0, none⟩) (d16 q).length * 2 ^ b.toNat)).length && Nat.ble (vO (nxt (hQ neg E o n c l q) (vO (hQ neg E o n c l q) (some ⟨2, 0, none⟩) (d16 q).length * 2 ^ b.toNat)) (some ⟨3, 0, none⟩) (d16 (vO (hQ neg E o n c l q) (some ⟨2, 0, none⟩) (d16 q).length * 2 ^ b.toNat)).length) (vO (nxt (hQ neg E o n c l q) (vO (hQ neg E o n c l q) (some ⟨2, 0, none⟩) (d16 q).length * 2 ^ b.toNat)) (aX o) n), true), (decide (0 < n), true), (okShl (hQ neg E o n c l q) (some ⟨2, 0, none⟩) (d16 q).length (d16 q).length b, true), (decide (0 < (d16 q).length), true), (decide (b ≤ ((bl (vO (hQ neg E o n c l q) (aX o) n) : Nat) : Int)), true), (okLen (hQ neg E o n c l q) (aX o) n c, true)] := ⟨by kernel_rfl, by kernel_rfl, by kernel_rfl⟩
theorem to_cr2F (neg j : Bool) (E N M b : Int) (o n c q : Nat) (l : List Value) (g : Nat → Value) : GoesT (evL (tabH Tryd.prog extY conN hcW) 200 (tS2 Tryd.f37) ([vRN neg E (sl 0 o n c), .int .i64 N, .int .i64 M, .pointer (some ⟨1, 0, none⟩), undef, undef, nilS, .bool false, .int .i64 b, sOf 2 q, .bool true, .bool false] ++ tl 94 g, (hQ neg E o n c l q), [cmp true, cmp false, cmp true]) ⟨[], [], []⟩) 14 92 none [vRN neg E (sl 0 o n c), .int .i64 N, .int .i64 M, .pointer (some ⟨1, 0, none⟩), undef, undef, nilS, .bool false, .int .i64 b, sOf 2 q, .bool true, .bool false, sOf 3 (vO (hQ neg E o n c l q) (aX o) n - vO (hQ neg E o n c l q) none 0), .bool false] (nxt (hQ neg E o n c l q) (vO (hQ neg E o n c l q) (aX o) n - vO (hQ neg E o n c l q) none 0)) [(two16 (hQ neg E o n c l q) (aX o) none n c 0 0 && Nat.ble (vO (hQ neg E o n c l q) none 0) (vO (hQ neg E o n c l q) (aX o) n), true), (decide (0 < n), true), (rowP (hQ neg E o n c l q) (some ⟨2, 0, none⟩) (d16 q).length (d16 q).length, true), (decide (0 < (d16 q).length), false), (decide (b ≤ ((bl (vO (hQ neg E o n c l q) (aX o) n) : Nat) : Int)), true), (okLen (hQ neg E o n c l q) (aX o) n c, true)] := ⟨by kernel_rfl, by kernel_rfl, by kernel_rfl⟩
theorem to_cr2T (neg j : Bool) (E N M b : Int) (o n c q : Nat) (l : List Value) (g : Nat → Value) : GoesT (evL (tabH Tryd.prog extY conN hcW) 200 (tS2 Tryd.f37) ([vRN neg E (sl 0 o n c), .int .i64 N, .int .i64 M, .pointer (some ⟨1, 0, none⟩), undef, undef, nilS, .bool false, .int .i64 b, sOf 2 q, .bool true, .bool true] ++ tl 94 g, (hQ neg E o n c l q), [cmp true, cmp false, cmp true, cmp true, cmp j]) ⟨[], [], []⟩) 14 92 none [vRN neg E (sl 0 o n c), .int .i64 N, .int .i64 M, .pointer (some ⟨1, 0, none⟩), undef, undef, nilS, .bool false, .int .i64 b, sOf 2 q, .bool true, .bool true, sOf 3 (vO (hQ neg E o n c l q) (aX o) n - vO (hQ neg E o n c l q) none 0), .bool j] (nxt (nxt (nxt (hQ neg E o n c l q) (vO (hQ neg E o n c l q) (aX o) n - vO (hQ neg E o n c l q) none 0)) 1) (vO (nxt (nxt (hQ neg E o n c l q) (vO (hQ neg E o n c l q) (aX o) n - vO (hQ neg E o n c l q) none 0)) 1) (some ⟨4, 0, none⟩) (d16 1).length * 2 ^ (dif b 1).toNat)) [(cmpZ (vO (nxt (nxt (nxt (hQ neg E o n c l q) (vO (hQ neg E o n c l q) (aX o) n - vO (hQ neg E o n c l q) none 0)) 1) (vO (nxt (nxt (hQ neg E o n c l q) (vO (hQ neg E o n c l q) (aX o) n - vO (hQ neg E o n c l q) none 0)) 1) (some ⟨4, 0, none⟩) (d16 1).length * 2 ^ (dif b 1).toNat)) (some ⟨3, 0, none⟩) (d16 (vO (hQ neg E o n c l q) (aX o) n - vO (hQ neg E o n c l q) none 0)).length) (vO (nxt (nxt (nxt (hQ neg E o n c l q) (vO (hQ neg E o n c l q) (aX o) n - vO (hQ neg E o n c l q) none 0)) 1) (vO (nxt (nxt (hQ neg E o n c l q) (vO (hQ neg E o n c l q) (aX o) n - vO (hQ neg E o n c l q) none 0)) 1) (some ⟨4, 0, none⟩) (d16 1).length * 2 ^ (dif b 1).toNat)) (some ⟨5, 0, none⟩) (d16 (vO (nxt (nxt (hQ neg E o n c l q) (vO (hQ neg E o n c l q) (aX o) n - vO (hQ neg E o n c l q) none 0)) 1) (some ⟨4, 0, none⟩) (d16 1).length * 2 ^ (dif b 1).toNat)).length) == 0, j), (two16 (nxt (nxt (nxt (hQ neg E o n c l q) (vO (hQ neg E o n c l q) (aX o) n - vO (hQ neg E o n c l q) none 0)) 1) (vO (nxt (nxt (hQ neg E o n c l q) (vO (hQ neg E o n c l q) (aX o) n - vO (hQ neg E o n c l q) none 0)) 1) (some ⟨4, 0, none⟩) (d16 1).length * 2 ^ (dif b 1).toNat)) (some ⟨3, 0, none⟩) (some ⟨5, 0, none⟩) (d16 (vO (hQ neg E o n c l q) (aX o) n - vO (hQ neg E o n c l q) none 0)).length (d16 (vO (hQ neg E o n c l q) (aX o) n - vO (hQ neg E o n c l q) none 0)).length (d16 (vO (nxt (nxt (hQ neg E o n c l q) (vO (hQ neg E o n c l q) (aX o) n - vO (hQ neg E o n c l q) none 0)) 1) (some ⟨4, 0, none⟩) (d16 1).length * 2 ^ (dif b 1).toNat)).length (d16 (vO (nxt (nxt (hQ neg E o n c l q) (vO (hQ neg E o n c l q) (aX o) n - vO (hQ neg E o n c l q) none 0)) 1) (some ⟨4, 0, none⟩) (d16 1).length * 2 ^ (dif b 1).toNat)).length, true), (okShl (nxt (nxt (hQ neg E o n c l q) (vO (hQ neg E o n c l q) (aX o) n - vO (hQ neg E o n c l q) none 0)) 1) (some ⟨4, 0, none⟩) (d16 1).length (d16 1).length (dif b 1), true), (decide (0 < (d16 1).length), true), okOne1, (two16 (hQ neg E o n c l q) (aX o) none n c 0 0 && Nat.ble (vO (hQ neg E o n c l q) none 0) (vO (hQ neg E o n c l q) (aX o) n), true), (decide (0 < n), true), (rowP (hQ neg E o n c l q) (some ⟨2, 0, none⟩) (d16 q).length (d16 q).length, true), (decide (0 < (d16 q).length), false), (decide (b ≤ ((bl (vO (hQ neg E o n c l q) (aX o) n) : Nat) : Int)), true), (okLen (hQ neg E o n c l q) (aX o) n c, true)] := ⟨by kernel_rfl, by kernel_rfl, by kernel_rfl⟩
theorem to_cn0F (neg j : Bool) (E N M b : Int) (o n c q : Nat) (l : List Value) (g : Nat → Value) : GoesT (evL (tabH Tryd.prog extY conN hcW) 200 (tS2 Tryd.f37) ([vRN neg E (sl 0 o n c), .int .i64 N, .int .i64 M, .pointer (some ⟨1, 0, none⟩), undef, undef, nilS, .bool false, .int .i64 b, nilS, .bool true, .bool false] ++ tl 94 g, (hX neg E o n c l), [cmp false]) ⟨[], [], []⟩) 14 92 none [vRN neg E (sl 0 o n c), .int .i64 N, .int .i64 M, .pointer (some ⟨1, 0, none⟩), undef, undef, nilS, .bool false, .int .i64 b, nilS, .bool true, .bool false, sl 0 o n c, .bool false] (hX neg E o n c l) [(decide (b ≤ ((bl (vO (hX neg E o n c l) (aX o) n) : Nat) : Int)), false), (okLen (hX neg E o n c l) (aX o) n c, true)] := ⟨by kernel_rfl, by kernel_rfl, by kernel_rfl⟩
theorem to_cn0T (neg j : Bool) (E N M b : Int) (o n c q : Nat) (l : List Value) (g : Nat → Value) : GoesT (evL (tabH Tryd.prog extY conN hcW) 200 (tS2 Tryd.f37) ([vRN neg E (sl 0 o n c), .int .i64 N, .int .i64 M, .pointer (some ⟨1, 0, none⟩), undef, undef, nilS, .bool false, .int .i64 b, nilS, .bool true, .bool true] ++ tl 94 g, (hX neg E o n c l), [cmp false, cmp true, cmp j]) ⟨[], [], []⟩) 14 92 none [vRN neg E (sl 0 o n c), .int .i64 N, .int .i64 M, .pointer (some ⟨1, 0, none⟩), undef, undef, nilS, .bool false, .int .i64 b, nilS, .bool true, .bool true, sl 0 o n c, .bool j] (nxt (nxt (hX neg E o n c l) 1) (vO (nxt (hX neg E o n c l) 1) (some ⟨2, 0, none⟩) (d16 1).length * 2 ^ (dif b 1).toNat)) [(cmpZ (vO (nxt (nxt (hX neg E o n c l) 1) (vO (nxt (hX neg E o n c l) 1) (some ⟨2, 0, none⟩) (d16 1).length * 2 ^ (dif b 1).toNat)) (aX o) n) (vO (nxt (nxt (hX neg E o n c l) 1) (vO (nxt (hX neg E o n c l) 1) (some ⟨2, 0, none⟩) (d16 1).length * 2 ^ (dif b 1).toNat)) (some ⟨3, 0, none⟩) (d16 (vO (nxt (hX neg E o n c l) 1) (some ⟨2, 0, none⟩) (d16 1).length * 2 ^ (dif b 1).toNat)).length) == 0, j), (two16 (nxt (nxt (hX neg E o n c l) 1) (vO (nxt (hX neg E o n c l) 1) (some ⟨2, 0, none⟩) (d16 1).length * 2 ^ (dif b 1).toNat)) (aX o) (some ⟨3, 0, none⟩) n c (d16 (vO (nxt (hX neg E o n c l) 1) (some ⟨2, 0, none⟩) (d16 1).length * 2 ^ (dif b 1).toNat)).length (d16 (vO (nxt (hX neg E o n c l) 1) (some ⟨2, 0, none⟩) (d16 1).length * 2 ^ (dif b 1).toNat)).length, true), (okShl (nxt (hX neg E o n c l) 1) (some ⟨2, 0, none⟩) (d16 1).length (d16 1).length (dif b 1), true), (decide (0 < (d16 1).length), true), okOne1, (decide (b ≤ ((bl (vO (hX neg E o n c l) (aX o) n) : Nat) : Int)), false), (okLen (hX neg E o n c l) (aX o) n c, true)] := ⟨by kernel_rfl, by kernel_rfl, by kernel_rfl⟩
theorem to_cn2F (neg j : Bool) (E N M b : Int) (o n c q : Nat) (l : List Value) (g : Nat → Value) : GoesT (evL (tabH Tryd.prog extY conN hcW) 200 (tS2 Tryd.f37) ([vRN neg E (sl 0 o n c), .int .i64 N, .int .i64 M, .pointer (some ⟨1, 0, none⟩), undef, undef, nilS, .bool false, .int .i64 b, nilS, .bool true, .bool false] ++ tl 94 g, (hX neg E o n c l), [cmp true, cmp false, cmp true]) ⟨[], [], []⟩) 14 92 none [vRN neg E (sl 0 o n c), .int .i64 N, .int .i64 M, .pointer (some ⟨1, 0, none⟩), undef, undef, nilS, .bool false, .int .i64 b, nilS, .bool true, .bool false, sOf 2 (vO (hX neg E o n c l) (aX o) n - vO (hX neg E o n c l) none 0), .bool false] (nxt (hX neg E o n c l) (vO (hX neg E o n c l) (aX o) n - vO (hX neg E o n c l) none 0)) [(two16 (hX neg E o n c l) (aX o) none n c 0 0 && Nat.ble (vO (hX neg E o n c l) none 0) (vO (hX neg E o n c l) (aX o) n), true), (decide (0 < n), true), (rowP (hX neg E o n c l) none 0 0, true), (decide (0 < 0), false), (decide (b ≤ ((bl (vO (hX neg E o n c l) (aX o) n) : Nat) : Int)), true), (okLen (hX neg E o n c l) (aX o) n c, true)] := ⟨by kernel_rfl, by kernel_rfl, by kernel_rfl⟩
theorem to_cn2T (neg j : Bool) (E N M b : Int) (o n c q : Nat) (l : List Value) (g : Nat → Value) : GoesT (evL (tabH Tryd.prog extY conN hcW) 200 (tS2 Tryd.f37) ([vRN neg E (sl 0 o n c), .int .i64 N, .int .i64 M, .pointer (some ⟨1, 0, none⟩), undef, undef, nilS, .bool false, .int .i64 b, nilS, .bool true, .bool true] ++ tl 94 g, (hX neg E o n c l), [cmp true, cmp false, cmp true, cmp true, cmp j]) ⟨[], [], []⟩) 14 92 none [vRN neg E (sl 0 o n c), .int .i64 N, .int .i64 M, .pointer (some ⟨1, 0, none⟩), undef, undef, nilS, .bool false, .int .i64 b, nilS, .bool true, .bool true, sOf 2 (vO (hX neg E o n c l) (aX o) n - vO (hX neg E o n c l) none 0), .bool j] (nxt (nxt (nxt (hX neg E o n c l) (vO (hX neg E o n c l) (aX o) n - vO (hX neg E o n c l) none 0)) 1) (vO (nxt (nxt (hX neg E o n c l) (vO (hX neg E o n c l) (aX o) n - vO (hX neg E o n c l) none 0)) 1) (some ⟨3, 0, none⟩) (d16 1).length * 2 ^ (dif b 1).toNat)) [(cmpZ (vO (nxt (nxt (nxt (hX neg E o n c l) (vO (hX neg E o n c l) (aX o) n - vO (hX neg E o n c l) none 0)) 1) (vO (nxt (nxt (hX neg E o n c l) (vO (hX neg E o n c l) (aX o) n - vO (hX neg E o n c l) none 0)) 1) (some ⟨3, 0, none⟩) (d16 1).length * 2 ^ (dif b 1).toNat)) (some ⟨2, 0, none⟩) (d16 (vO (hX neg E o n c l) (aX o) n - vO (hX neg E o n c l) none 0)).length) (vO (nxt (nxt (nxt (hX neg E o n c l) (vO (hX neg E o n c l) (aX o) n - vO (hX neg E o n c l) none 0)) 1) (vO (nxt (nxt (hX neg E o n c l) (vO (hX neg E o n c l) (aX o) n - vO (hX neg E o n c l) none 0)) 1) (some ⟨3, 0, none⟩) (d16 1).length * 2 ^ (dif b 1).toNat)) (some ⟨4, 0, none⟩) (d16 (vO (nxt (nxt (hX neg E o n c l) (vO (hX neg E o n c l) (aX o) n - vO (hX neg E o n c l) none 0)) 1) (some ⟨3, 0, none⟩) (d16 1).length * 2 ^ (dif b 1).toNat)).length) == 0, j), (two16 (nxt (nxt (nxt (hX neg E o n c l) (vO (hX neg E o n c l) (aX o) n - vO (hX neg E o n c l) none 0)) 1) (vO (nxt (nxt (hX neg E o n c l) (vO (hX neg E o n c l) (aX o) n - vO (hX neg E o n c l) none 0)) 1) (some ⟨3, 0, none⟩) (d16 1).length * 2 ^ (dif b 1).toNat)) (some ⟨2, 0, none⟩) (some ⟨4, 0, none⟩) (d16 (vO (hX neg E o n c l) (aX o) n - vO (hX neg E o n c l) none 0)).length (d16 (vO (hX neg E o n c l) (aX o) n - vO (hX neg E o n c l) none 0)).length (d16 (vO (nxt (nxt (hX neg E o n c l) (vO (hX neg E o n c l) (aX o) n - vO (hX neg E o n c l) none 0)) 1) (some ⟨3, 0, none⟩) (d16 1).length * 2 ^ (dif b 1).toNat)).length (d16 (vO (nxt (nxt (hX neg E o n c l) (vO (hX neg E o n c l) (aX o) n - vO (hX neg E o n c l) none 0)) 1) (some ⟨3, 0, none⟩) (d16 1).length * 2 ^ (dif b 1).toNat)).length, true), (okShl (nxt (nxt (hX neg E o n c l) (vO (hX neg E o n c l) (aX o) n - vO (hX neg E o n c l) none 0)) 1) (some ⟨3, 0, none⟩) (d16 1).length (d16 1).length (dif b 1), true), (decide (0 < (d16 1).length), true), okOne1, (two16 (hX neg E o n c l) (aX o) none n c 0 0 && Nat.ble (vO (hX neg E o n c l) none 0) (vO (hX neg E o n c l) (aX o) n), true), (decide (0 < n), true), (rowP (hX neg E o n c l) none 0 0, true), (decide (0 < 0), false), (decide (b ≤ ((bl (vO (hX neg E o n c l) (aX o) n) : Nat) : Int)), true), (okLen (hX neg E o n c l) (aX o) n c, true)] := ⟨by kernel_rfl, by kernel_rfl, by kernel_rfl⟩
theorem to_urF (neg d : Bool) (E N M b x : Int) (o n c q : Nat) (l : List Value) (J : Value) (g : Nat → Value) : GoesT (evC (tabH Tryd.prog extY conN hcW) 200 false (tS3 Tryd.f37) ([vRN neg E (sl 0 o n c), .int .i64 N, .int .i64 M, .pointer (some ⟨1, 0, none⟩), undef, undef, nilS, .bool false, .int .i64 b, sOf 2 q, .bool true, .bool false, J, .bool false] ++ tl 92 g, (hQ neg E o n c l q), []) ⟨[], [], []⟩) 15 91 none [vRN neg E (sl 0 o n c), .int .i64 N, .int .i64 M, .pointer (some ⟨1, 0, none⟩), undef, undef, nilS, .bool false, .int .i64 b, sOf 2 q, .bool true, .bool false, J, .bool false, .bool false] (hQ neg E o n c l q) [] := ⟨by kernel_rfl, by kernel_rfl, by kernel_rfl⟩
theorem to_urTF (neg d : Bool) (E N M b x : Int) (o n c q : Nat) (l : List Value) (J : Value) (g : Nat → Value) : GoesT (evC (tabH Tryd.prog extY conN hcW) 200 false (tS3 Tryd.f37) ([vRN neg E (sl 0 o n c), .int .i64 N, .int .i64 M, .pointer (some ⟨1, 0, none⟩), undef, undef, nilS, .bool false, .int .i64 b, sOf 2 q, .bool true, .bool true, J, .bool false] ++ tl 92 g, (hQ neg E o n c l q), []) ⟨[], [], []⟩) 15 91 none [vRN neg E (sl 0 o n c), .int .i64 N, .int .i64 M, .pointer (some ⟨1, 0, none⟩), undef, undef, nilS, .bool false, .int .i64 b, sOf 2 q, .bool true, .bool true, J, .bool false, .bool true] (hQ neg E o n c l q) [] := ⟨by kernel_rfl, by kernel_rfl, by kernel_rfl⟩
theorem to_unF (neg d : Bool) (E N M b x : Int) (o n c q : Nat) (l : List Value) (J : Value) (g : Nat → Value) : GoesT (evC (tabH Tryd.prog extY conN hcW) 200 false (tS3 Tryd.f37) ([vRN neg E (sl 0 o n c), .int .i64 N, .int .i64 M, .pointer (some ⟨1, 0, none⟩), undef, undef, nilS, .bool false, .int .i64 b, nilS, .bool true, .bool false, J, .bool false] ++ tl 92 g, (hX neg E o n c l), []) ⟨[], [], []⟩) 15 91 none [vRN neg E (sl 0 o n c), .int .i64 N, .int .i64 M, .pointer (some ⟨1, 0, none⟩), undef, undef, nilS, .bool false, .int .i64 b, nilS, .bool true, .bool false, J, .bool false, .bool false] (hX neg E o n c l) [] := ⟨by kernel_rfl, by kernel_rfl, by kernel_rfl⟩
theorem to_unTF (neg d : Bool) (E N M b x : Int) (o n c q : Nat) (l : List Value) (J : Value) (g : Nat → Value) : GoesT (evC (tabH Tryd.prog extY conN hcW) 200 false (tS3 Tryd.f37) ([vRN neg E (sl 0 o n c), .int .i64 N, .int .i64 M, .pointer (some ⟨1, 0, none⟩), undef, undef, nilS, .bool false, .int .i64 b, nilS, .bool true, .bool true, J, .bool false] ++ tl 92 g, (hX neg E o n c l), []) ⟨[], [], []⟩) 15 91 none [vRN neg E (sl 0 o n c), .int .i64 N, .int .i64 M, .pointer (some ⟨1, 0, none⟩), undef, undef, nilS, .bool false, .int .i64 b, nilS, .bool true, .bool true, J, .bool false, .bool true] (hX neg E o n c l) [] := ⟨by kernel_rfl, by kernel_rfl, by kernel_rfl⟩
theorem to_urTT (neg d : Bool) (E N M b x : Int) (o n c q : Nat) (l : List Value) (J : Value) (g : Nat → Value) : GoesT (evC (tabH Tryd.prog extY conN hcW) 200 false (tS3 Tryd.f37) ([vRN neg E (sl 0 o n c), .int .i64 N, .int .i64 M, .pointer (some ⟨1, 0, none⟩), undef, undef, nilS, .bool false, .int .i64 b, sOf 2 q, .bool true, .bool true, J, .bool true] ++ tl 92 g, (hQ neg E o n c l q), [cmp true, at_, val (.int .u32 x), cmp true, cmp d]) ⟨[], [], []⟩) 15 91 none [vRN neg E (sl 0 o n c), .int .i64 N, .int .i64 M, .pointer (some ⟨1, 0, none⟩), undef, undef, nilS, .bool false, .int .i64 b, sOf 2 q, .bool true, .bool true, J, .bool true, .bool d] (hQ neg E o n c l q) [(x.tmod 2 == 1, d), (decide ((2 : Int) = 0), false), (cellIs ((wU (d16 q))[0]?) (.int .u32 x), true), (decide ((0 : Int) ≤ 0 ∧ (0 : Int) < ((d16 q).length : Nat)), true), (decide (((d16 q).length : Int) > 0), true)] := ⟨by kernel_rfl, by kernel_rfl, by kernel_rfl⟩
theorem to_urTT0 (neg d : Bool) (E N M b x : Int) (o n c q : Nat) (l : List Value) (J : Value) (g : Nat → Value) : GoesT (evC (tabH Tryd.prog extY conN hcW) 200 false (tS3 Tryd.f37) ([vRN neg E (sl 0 o n c), .int .i64 N, .int .i64 M, .pointer (some ⟨1, 0, none⟩), undef, undef, nilS, .bool false, .int .i64 b, sOf 2 q, .bool true, .bool true, J, .bool true] ++ tl 92 g, (hQ neg E o n c l q), [cmp false]) ⟨[], [], []⟩) 15 91 none [vRN neg E (sl 0 o n c), .int .i64 N, .int .i64 M, .pointer (some ⟨1, 0, none⟩), undef, undef, nilS, .bool false, .int .i64 b, sOf 2 q, .bool true, .bool true, J, .bool true, .bool false] (hQ neg E o n c l q) [(decide (((d16 q).length : Int) > 0), false)] := ⟨by kernel_rfl, by kernel_rfl, by kernel_rfl⟩
theorem to_unTT0 (neg d : Bool) (E N M b x : Int) (o n c q : Nat) (l : List Value) (J : Value) (g : Nat → Value) : GoesT (evC (tabH Tryd.prog extY conN hcW) 200 false (tS3 Tryd.f37) ([vRN neg E (sl 0 o n c), .int .i64 N, .int .i64 M, .pointer (some ⟨1, 0, none⟩), undef, undef, nilS, .bool false, .int .i64 b, nilS, .bool true, .bool true, J, .bool true] ++ tl 92 g, (hX neg E o n c l), [cmp false]) ⟨[], [], []⟩) 15 91 none [vRN neg E (sl 0 o n c), .int .i64 N, .int .i64 M, .pointer (some ⟨1, 0, none⟩), undef, undef, nilS, .bool false, .int .i64 b, nilS, .bool true, .bool true, J, .bool true, .bool false] (hX neg E o n c l) [(decide (((0 : Nat) : Int) > 0), false)] := ⟨by kernel_rfl, by kernel_rfl, by kernel_rfl⟩
theorem to_mr1 (neg half just up : Bool) (E N M b : Int) (o n c q : Nat) (l : List Value) (J : Value) (g : Nat → Value) : GoesT (evC (tabH Tryd.prog extY conN hcW) 200 false (tS4 Tryd.f37) ([vRN neg E (sl 0 o n c), .int .i64 N, .int .i64 M, .pointer (some ⟨1, 0, none⟩), undef, undef, nilS, .bool false, .int .i64 b, sOf 2 q, .bool true, .bool half, J, .bool just, .bool up] ++ tl 91 g, (hQ neg E o n c l q), [cmp true]) ⟨[], [], []⟩) 15 91 none [vRN neg E (sl 0 o n c), .int .i64 N, .int .i64 M, .pointer (some ⟨1, 0, none⟩), undef, undef, nilS, .bool false, .int .i64 b, sOf 2 q, .bool true, .bool half, J, .bool just, .bool half] (hQ neg E o n c l q) [(M == 1, true)] := ⟨by kernel_rfl, by kernel_rfl, by kernel_rfl⟩
theorem to_mr2 (neg half just up : Bool) (E N M b : Int) (o n c q : Nat) (l : List Value) (J : Value) (g : Nat → Value) : GoesT (evC (tabH Tryd.prog extY conN hcW) 200 false (tS4 Tryd.f37) ([vRN neg E (sl 0 o n c), .int .i64 N, .int .i64 M, .pointer (some ⟨1, 0, none⟩), undef, undef, nilS, .bool false, .int .i64 b, sOf 2 q, .bool true, .bool half, J, .bool just, .bool up] ++ tl 91 g, (hQ neg E o n c l q), [cmp false, cmp true]) ⟨[], [], []⟩) 15 91 none [vRN neg E (sl 0 o n c), .int .i64 N, .int .i64 M, .pointer (some ⟨1, 0, none⟩), undef, undef, nilS, .bool false, .int .i64 b, sOf 2 q, .bool true, .bool half, J, .bool just, .bool false] (hQ neg E o n c l q) [(M == 2, true), (M == 1, false)] := ⟨by kernel_rfl, by kernel_rfl, by kernel_rfl⟩
theorem to_mr3 (neg half just up : Bool) (E N M b : Int) (o n c q : Nat) (l : List Value) (J : Value) (g : Nat → Value) : GoesT (evC (tabH Tryd.prog extY conN hcW) 200 false (tS4 Tryd.f37) ([vRN neg E (sl 0 o n c), .int .i64 N, .int .i64 M, .pointer (some ⟨1, 0, none⟩), undef, undef, nilS, .bool false, .int .i64 b, sOf 2 q, .bool true, .bool half, J, .bool just, .bool up] ++ tl 91 g, (hQ neg E o n c l q), [cmp false, cmp false, cmp true]) ⟨[], [], []⟩) 15 91 none [vRN neg E (sl 0 o n c), .int .i64 N, .int .i64 M, .pointer (some ⟨1, 0, none⟩), undef, undef, nilS, .bool false, .int .i64 b, sOf 2 q, .bool true, .bool half, J, .bool just, .bool (!neg)] (hQ neg E o n c l q) [(M == 3, true), (M == 2, false), (M == 1, false)] := ⟨by kernel_rfl, by kernel_rfl, by kernel_rfl⟩
theorem to_mr4 (neg half just up : Bool) (E N M b : Int) (o n c q : Nat) (l : List Value) (J : Value) (g : Nat → Value) : GoesT (evC (tabH Tryd.prog extY conN hcW) 200 false (tS4 Tryd.f37) ([vRN neg E (sl 0 o n c), .int .i64 N, .int .i64 M, .pointer (some ⟨1, 0, none⟩), undef, undef, nilS, .bool false, .int .i64 b, sOf 2 q, .bool true, .bool half, J, .bool just, .bool up] ++ tl 91 g, (hQ neg E o n c l q), [cmp false, cmp false, cmp false, cmp true]) ⟨[], [], []⟩) 15 91 none [vRN neg E (sl 0 o n c), .int .i64 N, .int .i64 M, .pointer (some ⟨1, 0, none⟩), undef, undef, nilS, .bool false, .int .i64 b, sOf 2 q, .bool true, .bool half, J, .bool just, .bool neg] (hQ neg E o n c l q) [(M == 4, true), (M == 3, false), (M == 2, false), (M == 1, false)] := ⟨by kernel_rfl, by kernel_rfl, by kernel_rfl⟩
theorem to_mr0 (neg half just up : Bool) (E N M b : Int) (o n c q : Nat) (l : List Value) (J : Value) (g : Nat → Value) : GoesT (evC (tabH Tryd.prog extY conN hcW) 200 false (tS4 Tryd.f37) ([vRN neg E (sl 0 o n c), .int .i64 N, .int .i64 M, .pointer (some ⟨1, 0, none⟩), undef, undef, nilS, .bool false, .int .i64 b, sOf 2 q, .bool true, .bool half, J, .bool just, .bool up] ++ tl 91 g, (hQ neg E o n c l q), [cmp false, cmp false, cmp false, cmp false]) ⟨[], [], []⟩) 15 91 none [vRN neg E (sl 0 o n c), .int .i64 N, .int .i64 M, .pointer (some ⟨1, 0, none⟩), undef, undef, nilS, .bool false, .int .i64 b, sOf 2 q, .bool true, .bool half, J, .bool just, .bool up] (hQ neg E o n c l q) [(M == 4, false), (M == 3, false), (M == 2, false), (M == 1, false)] := ⟨by kernel_rfl, by kernel_rfl, by kernel_rfl⟩
theorem to_mn1 (neg half just up : Bool) (E N M b : Int) (o n c q : Nat) (l : List Value) (J : Value) (g : Nat → Value) : GoesT (evC (tabH Tryd.prog extY conN hcW) 200 false (tS4 Tryd.f37) ([vRN neg E (sl 0 o n c), .int .i64 N, .int .i64 M, .pointer (some ⟨1, 0, none⟩), undef, undef, nilS, .bool false, .int .i64 b, nilS, .bool true, .bool half, J, .bool just, .bool up] ++ tl 91 g, (hX neg E o n c l), [cmp true]) ⟨[], [], []⟩) 15 91 none [vRN neg E (sl 0 o n c), .int .i64 N, .int .i64 M, .pointer (some ⟨1, 0, none⟩), undef, undef, nilS, .bool false, .int .i64 b, nilS, .bool true, .bool half, J, .bool just, .bool half] (hX neg E o n c l) [(M == 1, true)] := ⟨by kernel_rfl, by kernel_rfl, by kernel_rfl⟩
theorem to_mn2 (neg half just up : Bool) (E N M b : Int) (o n c q : Nat) (l : List Value) (J : Value) (g : Nat → Value) : GoesT (evC (tabH Tryd.prog extY conN hcW) 200 false (tS4 Tryd.f37) ([vRN neg E (sl 0 o n c), .int .i64 N, .int .i64 M, .pointer (some ⟨1, 0, none⟩), undef, undef, nilS, .bool false, .int .i64 b, nilS, .bool true, .bool half, J, .bool just, .bool up] ++ tl 91 g, (hX neg E o n c l), [cmp false, cmp true]) ⟨[], [], []⟩) 15 91 none [vRN neg E (sl 0 o n c), .int .i64 N, .int .i64 M, .pointer (some ⟨1, 0, none⟩), undef, undef, nilS, .bool false, .int .i64 b, nilS, .bool true, .bool half, J, .bool just, .bool false] (hX neg E o n c l) [(M == 2, true), (M == 1, false)] := ⟨by kernel_rfl, by kernel_rfl, by kernel_rfl⟩
theorem to_mn3 (neg half just up : Bool) (E N M b : Int) (o n c q : Nat) (l : List Value) (J : Value) (g : Nat → Value) : GoesT (evC (tabH Tryd.prog extY conN hcW) 200 false (tS4 Tryd.f37) ([vRN neg E (sl 0 o n c), .int .i64 N, .int .i64 M, .pointer (some ⟨1, 0, none⟩), undef, undef, nilS, .bool false, .int .i64 b, nilS, .bool true, .bool half, J, .bool just, .bool up] ++ tl 91 g, (hX neg E o n c l), [cmp false, cmp false, cmp true]) ⟨[], [], []⟩) 15 91 none [vRN neg E (sl 0 o n c), .int .i64 N, .int .i64 M, .pointer (some ⟨1, 0, none⟩), undef, undef, nilS, .bool false, .int .i64 b, nilS, .bool true, .bool half, J, .bool just, .bool (!neg)] (hX neg E o n c l) [(M == 3, true), (M == 2, false), (M == 1, false)] := ⟨by kernel_rfl, by kernel_rfl, by kernel_rfl⟩
theorem to_mn4 (neg half just up : Bool) (E N M b : Int) (o n c q : Nat) (l : List Value) (J : Value) (g : Nat → Value) : GoesT (evC (tabH Tryd.prog extY conN hcW) 200 false (tS4 Tryd.f37) ([vRN neg E (sl 0 o n c), .int .i64 N, .int .i64 M, .pointer (some ⟨1, 0, none⟩), undef, undef, nilS, .bool false, .int .i64 b, nilS, .bool true, .bool half, J, .bool just, .bool up] ++ tl 91 g, (hX neg E o n c l), [cmp false, cmp false, cmp false, cmp true]) ⟨[], [], []⟩) 15 91 none [vRN neg E (sl 0 o n c), .int .i64 N, .int .i64 M, .pointer (some ⟨1, 0, none⟩), undef, undef, nilS, .bool false, .int .i64 b, nilS, .bool true, .bool half, J, .bool just, .bool neg] (hX neg E o n c l) [(M == 4, true), (M == 3, false), (M == 2, false), (M == 1, false)] := ⟨by kernel_rfl, by kernel_rfl, by kernel_rfl⟩
theorem to_mn0 (neg half just up : Bool) (E N M b : Int) (o n c q : Nat) (l : List Value) (J : Value) (g : Nat → Value) : GoesT (evC (tabH Tryd.prog extY conN hcW) 200 false (tS4 Tryd.f37) ([vRN neg E (sl 0 o n c), .int .i64 N, .int .i64 M, .pointer (some ⟨1, 0, none⟩), undef, undef, nilS, .bool false, .int .i64 b, nilS, .bool true, .bool half, J, .bool just, .bool up] ++ tl 91 g, (hX neg E o n c l), [cmp false, cmp false, cmp false, cmp false]) ⟨[], [], []⟩) 15 91 none [vRN neg E (sl 0 o n c), .int .i64 N, .int .i64 M, .pointer (some ⟨1, 0, none⟩), undef, undef, nilS, .bool false, .int .i64 b, nilS, .bool true, .bool half, J, .bool just, .bool up] (hX neg E o n c l) [(M == 4, false), (M == 3, false), (M == 2, false), (M == 1, false)] := ⟨by kernel_rfl, by kernel_rfl, by kernel_rfl⟩
theorem to_grT (neg half just : Bool) (E N M b : Int) (o n c q : Nat) (l : List Value) (J : Value) (g : Nat → Value) : GoesT (evC (tabH Tryd.prog extY conN hcW) 200 false (tS5 Tryd.f37) ([vRN neg E (sl 0 o n c), .int .i64 N, .int .i64 M, .pointer (some ⟨1, 0, none⟩), undef, undef, nilS, .bool false, .int .i64 b, sOf 2 q, .bool true, .bool half, J, .bool just, .bool true] ++ tl 91 g, (hQ neg E o n c l q), [cmp true]) ⟨[], [], []⟩) 8 98 (some none) [vRN neg E (sl 0 o n c), .int .i64 N, .int .i64 M, .pointer (some ⟨1, 0, none⟩), undef, undef, sOf 4 (vO (nxt (hQ neg E o n c l q) 1) (some ⟨2, 0, none⟩) (d16 q).length + vO (nxt (hQ neg E o n c l q) 1) (some ⟨3, 0, none⟩) (d16 1).length), .bool true] (nxt (nxt (hQ neg E o n c l q) 1) (vO (nxt (hQ neg E o n c l q) 1) (some ⟨2, 0, none⟩) (d16 q).length + vO (nxt (hQ neg E o n c l q) 1) (some ⟨3, 0, none⟩) (d16 1).length)) [(two16 (nxt (hQ neg E o n c l q) 1) (some ⟨2, 0, none⟩) (some ⟨3, 0, none⟩) (d16 q).length (d16 q).length (d16 1).length (d16 1).length, true), (decide (0 < (d16 q).length ∨ 0 < (d16 1).length), true), okOne1] := ⟨by kernel_rfl, by kernel_rfl, by kernel_rfl⟩
theorem to_grF (neg half just : Bool) (E N M b : Int) (o n c q : Nat) (l : List Value) (J : Value) (g : Nat → Value) : GoesT (evC (tabH Tryd.prog extY conN hcW) 200 false (tS5 Tryd.f37) ([vRN neg E (sl 0 o n c), .int .i64 N, .int .i64 M, .pointer (some ⟨1, 0, none⟩), undef, undef, nilS, .bool false, .int .i64 b, sOf 2 q, .bool true, .bool half, J, .bool just, .bool false] ++ tl 91 g, (hQ neg E o n c l q), []) ⟨[], [], []⟩) 8 98 (some none) [vRN neg E (sl 0 o n c), .int .i64 N, .int .i64 M, .pointer (some ⟨1, 0, none⟩), undef, undef, sOf 2 q, .bool true] (hQ neg E o n c l q) [] := ⟨by kernel_rfl, by kernel_rfl, by kernel_rfl⟩
theorem to_gnT (neg half just : Bool) (E N M b : Int) (o n c q : Nat) (l : List Value) (J : Value) (g : Nat → Value) : GoesT (evC (tabH Tryd.prog extY conN hcW) 200 false (tS5 Tryd.f37) ([vRN neg E (sl 0 o n c), .int .i64 N, .int .i64 M, .pointer (some ⟨1, 0, none⟩), undef, undef, nilS, .bool false, .int .i64 b, nilS, .bool true, .bool half, J, .bool just, .bool true] ++ tl 91 g, (hX neg E o n c l), [cmp true]) ⟨[], [], []⟩) 8 98 (some none) [vRN neg E (sl 0 o n c), .int .i64 N, .int .i64 M, .pointer (some ⟨1, 0, none⟩), undef, undef, sOf 3 (vO (nxt (hX neg E o n c l) 1) none 0 + vO (nxt (hX neg E o n c l) 1) (some ⟨2, 0, none⟩) (d16 1).length), .bool true] (nxt (nxt (hX neg E o n c l) 1) (vO (nxt (hX neg E o n c l) 1) none 0 + vO (nxt (hX neg E o n c l) 1) (some ⟨2, 0, none⟩) (d16 1).length)) [(two16 (nxt (hX neg E o n c l) 1) none (some ⟨2, 0, none⟩) 0 0 (d16 1).length (d16 1).length, true), (decide (0 < 0 ∨ 0 < (d16 1).length), true), okOne1] := ⟨by kernel_rfl, by kernel_rfl, by kernel_rfl⟩
theorem to_gnF (neg half just : Bool) (E N M b : Int) (o n c q : Nat) (l : List Value) (J : Value) (g : Nat → Value) : GoesT (evC (tabH Tryd.prog extY conN hcW) 200 false (tS5 Tryd.f37) ([vRN neg E (sl 0 o n c), .int .i64 N, .int .i64 M, .pointer (some ⟨1, 0, none⟩), undef, undef, nilS, .bool false, .int .i64 b, nilS, .bool true, .bool half, J, .bool just, .bool false] ++ tl 91 g, (hX neg E o n c l), []) ⟨[], [], []⟩) 8 98 (some none) [vRN neg E (sl 0 o n c), .int .i64 N, .int .i64 M, .pointer (some ⟨1, 0, none⟩), undef, undef, nilS, .bool true] (hX neg E o n c l) [] := ⟨by kernel_rfl, by kernel_rfl, by kernel_rfl⟩
end Go.Proofs.YtgmfnecdpfdncaaDoor
