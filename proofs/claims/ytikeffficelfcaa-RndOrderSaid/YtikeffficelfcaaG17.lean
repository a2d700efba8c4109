/-
  The document's Of (tillerref04), as a call; rows of numbers that were made.
-/
import Derived.Test.YtikeffficelfcaaG16
import Derived.Test.YtikeffficelfcaaG01
import Derived.Test.YtikeffficelfcaaG14
namespace Go.Proofs.Ytikeffficelfcaa
open Go.KRun Go.Nt Go.Wd
set_option maxRecDepth 100000

/-! ### rows that were made -/
theorem d16_dg (A : Nat) : ∀ x ∈ d16 A, Dg 65536 x := db_dg (by omega) A
theorem d16_len {A k : Nat} (h : A < 2 ^ (16 * k)) : (d16 A).length ≤ k := db_len (by omega) k A (by rw [pow16]; exact h)
theorem rowOf_d16 {h : Hp} {b A : Nat} {ty : TypeId} (hb : h.blk? b = some (wU (d16 A), ty)) : rowOf h (some ⟨b, 0, none⟩) (d16 A).length = d16 A := by
  simp only [rowOf, hb]
  exact cut_wU _
theorem vO_d16 {h : Hp} {b A : Nat} {ty : TypeId} (hb : h.blk? b = some (wU (d16 A), ty)) : vO h (some ⟨b, 0, none⟩) (d16 A).length = A := by
  unfold vO
  rw [rowOf_d16 hb]
  exact vb_db (by omega) A
theorem vO_nil (h : Hp) : vO h none 0 = 0 := rfl
theorem rowP_d16 {h : Hp} {b A : Nat} (hb : h.blk? b = some (wU (d16 A), tU)) (hl : (d16 A).length < 1073741824) : rowP h (some ⟨b, 0, none⟩) (d16 A).length (d16 A).length = true := by
  simp only [rowP, hb, Bool.and_eq_true]
  refine ⟨rowC_wU (fun x hx => ⟨(d16_dg A x hx).1, by have := (d16_dg A x hx).2; omega⟩) (by omega) ?_, List.all_eq_true.2 (wU_still _)⟩
  unfold capOk
  simp only [Bool.or_eq_true, Bool.and_eq_true]
  exact .inl ⟨blt_iff.2 (by unfold dead; omega), Nat.ble_eq_true_of_le (Nat.le_refl _)⟩
theorem dgB_d16 {h : Hp} {b A : Nat} {ty : TypeId} (hb : h.blk? b = some (wU (d16 A), ty)) : dgB (rowOf h (some ⟨b, 0, none⟩) (d16 A).length) = true := by
  rw [rowOf_d16 hb]
  exact dgB_mk (d16_dg A)
theorem two_d16 {h : Hp} {b b' A A' : Nat} (hb : h.blk? b = some (wU (d16 A), tU)) (hb' : h.blk? b' = some (wU (d16 A'), tU)) (hl : (d16 A).length < 1073741800) (hl' : (d16 A').length < 1073741800) : two16 h (some ⟨b, 0, none⟩) (some ⟨b', 0, none⟩) (d16 A).length (d16 A).length (d16 A').length (d16 A').length = true := by
  unfold two16
  rw [rowP_d16 hb (by omega), rowP_d16 hb' (by omega), dgB_d16 hb, dgB_d16 hb']
  simp only [Bool.true_and]
  exact blt_iff.2 (by omega)
theorem two_nil {h : Hp} {b A : Nat} (hb : h.blk? b = some (wU (d16 A), tU)) (hl : (d16 A).length < 1073741800) : two16 h none (some ⟨b, 0, none⟩) 0 0 (d16 A).length (d16 A).length = true := by
  unfold two16
  rw [rowP_d16 hb (by omega), dgB_d16 hb]
  simp only [Bool.and_true]
  exact Bool.and_eq_true_iff.2 ⟨rfl, blt_iff.2 (by omega)⟩
theorem d16_one : (d16 1).length = 1 := by
  unfold d16
  rw [db_pos (by omega) (by omega), show 1 / 65536 = 0 from rfl, db_zero]
  rfl
theorem d16_pos {A : Nat} (h : 0 < (d16 A).length) : A ≠ 0 := by
  rintro rfl
  unfold d16 at h
  rw [db_zero] at h
  simp at h
theorem d16_zero {A : Nat} (h : ¬ 0 < (d16 A).length) : A = 0 := by
  have : d16 A = [] := List.length_eq_zero_iff.1 (by omega)
  exact (db_nil (by omega)).1 this

/-! ### its words -/
theorem w8_eq {x : W4} (hx : x.ok) : w8 x = [x.a % 4294967296, x.a / 4294967296, x.b % 4294967296, x.b / 4294967296, x.c % 4294967296, x.c / 4294967296, x.d % 4294967296, x.d / 4294967296] := by
  obtain ⟨h1, h2, h3, h4⟩ := hx
  have key : ∀ y : Int, 0 ≤ y ∧ y < 18446744073709551616 → IntKind.u32.wrap (y.tmod 4294967296) = y % 4294967296 ∧ IntKind.u32.wrap (IntKind.u64.wrap (y.tdiv 4294967296)) = y / 4294967296 := fun y hy => by
    rw [Int.tmod_eq_emod_of_nonneg hy.1, Int.tdiv_eq_ediv_of_nonneg hy.1, wrap32 (n := y % 4294967296) (by omega) (by omega), wrap64 (by omega) (by omega), wrap32 (by omega) (by omega)]
    exact ⟨rfl, rfl⟩
  unfold w8
  rw [(key _ h1).1, (key _ h1).2, (key _ h2).1, (key _ h2).2, (key _ h3).1, (key _ h3).2, (key _ h4).1, (key _ h4).2]
theorem w8_rng {x : W4} (hx : x.ok) : ∀ y ∈ w8 x, 0 ≤ y ∧ y < 4294967296 := by
  rw [w8_eq hx]
  obtain ⟨h1, h2, h3, h4⟩ := hx
  intro y hy
  simp only [List.mem_cons, List.not_mem_nil, or_false] at hy
  rcases hy with rfl | rfl | rfl | rfl | rfl | rfl | rfl | rfl <;> omega
theorem vb_pair {u : Int} (h : 0 ≤ u) (L : List Int) : vb 4294967296 (u % 4294967296 :: u / 4294967296 :: L) = u.toNat + 18446744073709551616 * vb 4294967296 L := by
  simp only [vb]
  generalize vb 4294967296 L = t
  omega
theorem V8_eq {x : W4} (hx : x.ok) : V8 x = x.nat := by
  have hl : (w8 x).length = 8 := rfl
  have e := cut_wU (w8 x)
  rw [hl] at e
  have hv := W4.nat_val hx
  unfold V8 v32
  rw [e, w8_eq hx]
  obtain ⟨h1, h2, h3, h4⟩ := hx
  rw [vb_pair h1.1, vb_pair h2.1, vb_pair h3.1, vb_pair h4.1]
  unfold W4.val at hv
  simp only [vb]
  omega
theorem lOf_ok {x : W4} (hx : x.ok) : okLog (lOf x) := by
  have hl : (w8 x).length = 8 := rfl
  have hrow := rowC_wU (L := w8 x) (c := grown) (w8_rng hx) (by rw [hl]; omega) (capG _)
  rw [hl] at hrow
  have hst : (wU (w8 x)).all still = true := List.all_eq_true.2 (wU_still _)
  unfold lOf
  exact okTwo (by rw [hrow, hst]; rfl) (okTwo rfl (okTwo rfl (okTwo rfl (okTwo rfl (okTwo rfl (okTwo rfl (okTwo rfl (okTwo rfl (okTwo rfl (okOne rfl))))))))))

/-! ### the call -/
def refT (x : W4) (b : Bool) : Nat := match b with | true => 2 * x.nat + 1 | false => x.nat
def refE (e : Int) (b : Bool) : Int := match b with | true => cl5 e - 1 | false => cl5 e
def vRN (m : Bool) (e : Int) (v : Value) : Value := .agg #[.bool m, .int .i64 e, v]
theorem nat_len {x : W4} (hx : x.ok) : (d16 x.nat).length ≤ 16 := d16_len (k := 16) (W4.nat_lt hx)
theorem d16_dbl {x : W4} (hx : x.ok) : (d16 (2 * x.nat)).length ≤ 17 := by
  have h1 : x.nat < 65536 ^ 16 := by rw [pow16]; exact W4.nat_lt hx
  generalize hP : (65536 : Nat) ^ 16 = P at h1
  refine db_len (by omega) 17 (2 * x.nat) ?_
  rw [Nat.pow_succ, hP]
  omega
theorem rof_runs (m b : Bool) (e : Int) (x : W4) (hx : x.ok) : ∃ k, RunsW (tabH Try.prog extY conN hcW) (seqs (oS1 Try.f8) (oS2 Try.f8)) ([.bool m, .int .i64 e, vA4 x, .bool b] ++ List.replicate 43 undef, ⟨0, []⟩, []) fun ex z => (ex = none ∨ ex = some none) ∧ resS Try.prog Try.f8 z.1 z.2.1 = some (vRN m (refE e b) (sOf k (refT x b))) ∧ ∃ r, z.2.1.blk? k = some (wU (d16 (refT x b)) ++ r, tU) := by
  have hl := nat_len hx
  have hb5 := cl5_bd e
  have ee : e1 (cl5 e) = cl5 e - 1 := wrapI (by omega) (by omega)
  cases b with
  | false =>
    refine ⟨10, goesT_listW (tabH_ok conN_ok hcW_ok) (rof_s1 m false e x) (lOf_ok hx) fun g => ?_⟩
    rw [V8_eq hx]
    unfold hOf
    rw [V8_eq hx]
    refine (goesT_runsW (tabH_ok conN_ok hcW_ok) (rof_f m (cl5 e) _ _ _ _ _ _ _ _ _ _ _ _ _ _ _ _ g) (fun x hx => by cases hx)).mono fun ex z hz => ?_
    obtain ⟨rfl, ⟨g', z1⟩, z2⟩ := hz
    refine ⟨.inr rfl, ?_, ⟨[], ?_⟩⟩
    · rw [z1, z2]; rfl
    · rw [z2, List.append_nil]; rfl
  | true =>
    have r10 : ∀ Z9 Z8 Z7 Z6 Z5 Z4 Z3 Z2 Z0, (hZ (wU (d16 x.nat), tU) Z9 Z8 Z7 Z6 Z5 Z4 Z3 Z2 bNum Z0).blk? 10 = some (wU (d16 x.nat), tU) := fun _ _ _ _ _ _ _ _ _ => rfl
    by_cases hn : 0 < (d16 x.nat).length
    · refine ⟨13, goesT_listW (tabH_ok conN_ok hcW_ok) (rof_s1 m true e x) (lOf_ok hx) fun g => ?_⟩
      rw [V8_eq hx]
      unfold hOf
      rw [V8_eq hx]
      have eA : ∀ Z9 Z8 Z7 Z6 Z5 Z4 Z3 Z2 Z0, dbl (hZ (wU (d16 x.nat), tU) Z9 Z8 Z7 Z6 Z5 Z4 Z3 Z2 bNum Z0) (d16 x.nat).length = 2 * x.nat := fun Z9 Z8 Z7 Z6 Z5 Z4 Z3 Z2 Z0 => by
        unfold dbl
        rw [vO_d16 (r10 Z9 Z8 Z7 Z6 Z5 Z4 Z3 Z2 Z0)]
        simp [Nat.mul_comm]
      have eS : ∀ Z9 Z8 Z7 Z6 Z5 Z4 Z3 Z2 Z0, sm2 (hZ (wU (d16 x.nat), tU) Z9 Z8 Z7 Z6 Z5 Z4 Z3 Z2 bNum Z0) (2 * x.nat) = 2 * x.nat + 1 := fun Z9 Z8 Z7 Z6 Z5 Z4 Z3 Z2 Z0 => by
        unfold sm2
        rw [vO_d16 (A := 2 * x.nat) (ty := tU) rfl, vO_d16 (A := 1) (ty := tU) rfl]
      have h2l : (d16 (2 * x.nat)).length ≤ 17 := d16_dbl hx
      refine (goesT_runsW (tabH_ok conN_ok hcW_ok) (rof_t1 m (cl5 e) _ _ _ _ _ _ _ _ _ _ _ _ _ _ _ _ g) ?_).mono fun ex z hz => ?_
      · rw [eA]
        refine okTwo (two_d16 (A := 2 * x.nat) (A' := 1) rfl rfl (by omega) (by rw [d16_one]; omega)) (okTwo (decide_eq_true (.inr (by rw [d16_one]; omega))) (okTwo (by decide) (okTwo ?_ (okOne (decide_eq_true hn)))))
        rw [rowP_d16 (A := x.nat) rfl (by omega), dgB_d16 (A := x.nat) (ty := tU) rfl]
        simp only [Bool.true_and]
        exact Bool.and_eq_true_iff.2 ⟨blt_iff.2 (by have : (1 : Int).toNat = 1 := rfl; omega), rfl⟩
      · rw [eA, eS, ee] at hz
        obtain ⟨rfl, ⟨g', z1⟩, z2⟩ := hz
        refine ⟨.inr rfl, ?_, ⟨[], ?_⟩⟩
        · rw [z1, z2]; rfl
        · rw [z2, List.append_nil]; rfl
    · have h0 : x.nat = 0 := d16_zero hn
      refine ⟨12, goesT_listW (tabH_ok conN_ok hcW_ok) (rof_s1 m true e x) (lOf_ok hx) fun g => ?_⟩
      rw [V8_eq hx]
      unfold hOf
      rw [V8_eq hx]
      have eS : ∀ Z9 Z8 Z7 Z6 Z5 Z4 Z3 Z2 Z0, sm1 (hZ (wU (d16 x.nat), tU) Z9 Z8 Z7 Z6 Z5 Z4 Z3 Z2 bNum Z0) = 2 * x.nat + 1 := fun Z9 Z8 Z7 Z6 Z5 Z4 Z3 Z2 Z0 => by
        unfold sm1
        rw [vO_nil, vO_d16 (A := 1) (ty := tU) rfl, h0]
      refine (goesT_runsW (tabH_ok conN_ok hcW_ok) (rof_t0 m (cl5 e) _ _ _ _ _ _ _ _ _ _ _ _ _ _ _ _ g) ?_).mono fun ex z hz => ?_
      · exact okTwo (two_nil (A := 1) rfl (by rw [d16_one]; omega)) (okTwo (decide_eq_true (.inr (by rw [d16_one]; omega))) (okTwo (by decide) (okTwo (by dsimp only; exact rowP_d16 (A := x.nat) rfl (by omega)) (okOne (decide_eq_false hn)))))
      · rw [eS, ee] at hz
        obtain ⟨rfl, ⟨g', z1⟩, z2⟩ := hz
        refine ⟨.inr rfl, ?_, ⟨[], ?_⟩⟩
        · rw [z1, z2]; rfl
        · rw [z2, List.append_nil]; rfl
def gRof : AnsH := fun vals h s =>
  match vals with
  | [.bool m, .int .i64 e, sg, .bool b] =>
    match w4 sg with
    | some x => some (vRN m (refE e b) (sOf h.n (refT x b)), h.push (wU (d16 (refT x b))) tU, s, [(decide x.ok, true)])
    | none => none
  | _ => none
theorem gRof_ok : AnsHOk 8 gRof := by
  intro vals h s v h' s' lg hg hl m0 B w E hv
  unfold gRof at hg
  split at hg
  · rename_i m e sg b
    split at hg
    · rename_i x hx4
      cases hg
      have hx := of_decide_eq_true (hl _ (List.mem_singleton.2 rfl))
      obtain ⟨k, r⟩ := rof_runs m b e x hx
      have e2 : rn (fun _ => h.n) (vRN m (refE e b) (sOf k (refT x b))) = vRN m (refE e b) (sOf h.n (refT x b)) := by simp [rn, rn2, rn1, sl, vRN, sOf]
      have q1 : ∀ v ∈ [.bool m, .int .i64 e, vA4 x, .bool b], lt (⟨0, []⟩ : Hp).n v = true := fun v hv => by
        simp only [List.mem_cons, List.not_mem_nil, or_false] at hv
        rcases hv with h1 | h1 | h1 | h1 <;> rw [h1] <;> rfl
      have q2 : oc [k] (vRN m (refE e b) (sOf k (refT x b))) = true := by simp [oc, oc2, oc1, vRN, sOf, sl]
      have q3 : (⟨0, []⟩ : Hp).rows := ⟨rfl, fun b x hx => by have : b < 0 := Hp.blk_lt hx; omega⟩
      have q4 : (⟨0, []⟩ : Hp).fits (fun i => i) h := fun i x hx _ => by have : i < 0 := Hp.blk_lt hx; omega
      have q5 : ro tU = false := by kernel_rfl
      have fin := row_calls1 (T := tabH Try.prog extY conN hcW) Try.func8 rof_body q3 q1 (wU_lt _) q5 r q2 E q4
      rw [e2] at fin
      have ev : List.map (rn fun i => i) [.bool m, .int .i64 e, vA4 x, .bool b] = [.bool m, .int .i64 e, sg, .bool b] := by
        rw [w4_spec hx4]
        simp [rn, rn2, rn1, vA4, vW]
      rw [ev] at fin
      exact fin
    · cases hg
  · cases hg
end Go.Proofs.Ytikeffficelfcaa

/-
  Logs, entry by entry.
-/
namespace Go.Proofs.Ytikeffficelfcaa
open Go.KRun

theorem okL1 {a b : Bool} (h : a = b) : okLog [(a, b)] := fun p hp => by rw [List.mem_singleton.1 hp]; exact h
theorem okCons {a b : Bool} {l : Log} (h : a = b) (hl : okLog l) : okLog ((a, b) :: l) := fun p hp => by
  rcases List.mem_cons.1 hp with rfl | hp
  · exact h
  · exact hl p hp
theorem okCs {a b : Bool} {l : Log} : okLog ((a, b) :: l) ↔ a = b ∧ okLog l := ⟨fun h => ⟨h _ (List.mem_cons_self), fun x hx => h x (List.mem_cons_of_mem _ hx)⟩, fun h => okCons h.1 h.2⟩
theorem okNl : okLog [] := fun x hx => by cases hx
end Go.Proofs.Ytikeffficelfcaa

/-
  Bits moved, in the seat's program, as calls: what wide.Shl and wide.Shr answer, in every world.
-/
namespace Go.Proofs.Ytikeffficelfcaa
open Go.KRun Go.Wd

/-- of a number and an int -/
def g1n (k : W4 → Int → List Dec → Option (Value × List Dec × Log)) : Ans := fun vals s =>
  match vals with
  | [x, .int .i64 n] =>
    match w4 x with
    | some a =>
      match k a n s with
      | some r => some (r.1, r.2.1, (decide (a.ok ∧ -9223372036854775808 ≤ n ∧ n ≤ 9223372036854775807), true) :: r.2.2)
      | none => none
    | none => none
  | _ => none
theorem g1n_ok {f : Nat} {k : W4 → Int → List Dec → Option (Value × List Dec × Log)}
    (hk : ∀ (x : W4) (n : Int), x.ok → -9223372036854775808 ≤ n → n ≤ 9223372036854775807 → ∀ s v s' lg, k x n s = some (v, s', lg) → okLog lg → ∀ w, Calls Try.prog f #[vW x, .int .i64 n] w fun e w' => e = .returned v ∧ Tidy w w') : AnsOk f (g1n k) := by
  intro vals s v s' lg h hl w
  unfold g1n at h
  split at h
  · split at h
    · rename_i a ha
      split at h
      · rename_i r hr
        cases h
        have h1 := hl _ (List.mem_cons_self)
        simp only [decide_eq_true_eq] at h1
        rw [w4_spec ha]
        exact hk a _ h1.1 h1.2.1 h1.2.2 s r.1 r.2.1 r.2.2 hr (fun p hp => hl p (List.mem_cons_of_mem _ hp)) w
      · cases h
    · cases h
  · cases h
def plain1n (k : W4 → Int → Value) : W4 → Int → List Dec → Option (Value × List Dec × Log) := fun x n s => some (k x n, s, [])
theorem plain1n_ok {f : Nat} {k : W4 → Int → Value} (hk : ∀ (x : W4) (n : Int), x.ok → -9223372036854775808 ≤ n → n ≤ 9223372036854775807 → ∀ w, Calls Try.prog f #[vW x, .int .i64 n] w fun e w' => e = .returned (k x n) ∧ Tidy w w') : AnsOk f (g1n (plain1n k)) :=
  g1n_ok fun x n hx h0 h1 s v s' lg h _ w => by
    unfold plain1n at h
    cases h
    exact hk x n hx h0 h1 w

theorem okP1 {p : Bool × Bool} (h : p.1 = p.2) : okLog [p] := fun x hx => by rw [List.mem_singleton.1 hx]; exact h
theorem okPC {p : Bool × Bool} {l : Log} (h : p.1 = p.2) (hl : okLog l) : okLog (p :: l) := fun x hx => by
  rcases List.mem_cons.1 hx with rfl | hx
  · exact h
  · exact hl x hx

/-! ### Shl -/
def lu (n : Int) : Bool × Bool := (decide (prt n < 0), false)
def ld (n : Int) : Bool × Bool := (decide (rem n < 0), false)
def lq (n k : Int) : Log := [(decide ((64 : Int) = 0), false), (decide (IntKind.i64.wrap (n.tdiv 64) = k), true), (decide (n ≥ 256), false), (decide (n < 1), false)]
theorem shl_low (x : W4) (n : Int) : Fits (reckon (tabOf Try.prog extY conN true) 3000 33 [vW x, .int .i64 n] [tst true]) (vW x) [(decide (n < 1), true)] := ⟨by kernel_rfl, by kernel_rfl, by kernel_rfl, by kernel_rfl⟩
theorem shl_high (x : W4) (n : Int) : Fits (reckon (tabOf Try.prog extY conN true) 3000 33 [vW x, .int .i64 n] [tst false, tst true]) (vW ⟨0, 0, 0, 0⟩) [(decide (n ≥ 256), true), (decide (n < 1), false)] := ⟨by kernel_rfl, by kernel_rfl, by kernel_rfl, by kernel_rfl⟩
theorem shl_0 (x : W4) (n : Int) : Fits (reckon (tabOf Try.prog extY conN true) 3000 33 [vW x, .int .i64 n] [tst false, tst false, num 0]) (vW (shl0 x n)) (ld n :: lu n :: ld n :: lu n :: ld n :: lu n :: lu n :: lq n 0) := ⟨by kernel_rfl, by kernel_rfl, by kernel_rfl, by kernel_rfl⟩
theorem shl_1 (x : W4) (n : Int) : Fits (reckon (tabOf Try.prog extY conN true) 3000 33 [vW x, .int .i64 n] [tst false, tst false, num 1]) (vW (shl1 x n)) (ld n :: lu n :: ld n :: lu n :: lu n :: lq n 1) := ⟨by kernel_rfl, by kernel_rfl, by kernel_rfl, by kernel_rfl⟩
theorem shl_2 (x : W4) (n : Int) : Fits (reckon (tabOf Try.prog extY conN true) 3000 33 [vW x, .int .i64 n] [tst false, tst false, num 2]) (vW (shl2 x n)) (ld n :: lu n :: lu n :: lq n 2) := ⟨by kernel_rfl, by kernel_rfl, by kernel_rfl, by kernel_rfl⟩
theorem shl_3 (x : W4) (n : Int) : Fits (reckon (tabOf Try.prog extY conN true) 3000 33 [vW x, .int .i64 n] [tst false, tst false, num 3]) (vW (shl3 x n)) (lu n :: lq n 3) := ⟨by kernel_rfl, by kernel_rfl, by kernel_rfl, by kernel_rfl⟩

def shlW (x : W4) (n : Int) : W4 := if n < 1 then x else if 256 ≤ n then ⟨0, 0, 0, 0⟩ else W4.of (x.val * 2 ^ n.toNat)
def shlV4 (x : W4) (n : Int) : Value := vW (shlW x n)
theorem lu_ok {n : Int} (h : 0 ≤ n) : (lu n).1 = (lu n).2 := by
  have := prt_eq h
  exact decide_eq_false (by omega)
theorem ld_ok {n : Int} (h : 0 ≤ n) : (ld n).1 = (ld n).2 := by
  have := rem_eq h
  exact decide_eq_false (by omega)
theorem lq_ok {n k : Int} (h1 : ¬ n < 1) (h2 : ¬ 256 ≤ n) (h3 : n / 64 = k) : okLog (lq n k) := by
  refine okPC (by rfl) (okPC (decide_eq_true ?_) (okPC (decide_eq_false h2) (okP1 (decide_eq_false h1))))
  rw [Int.tdiv_eq_ediv_of_nonneg (by omega), wrap_i64' (by omega) (by omega)]
  exact h3
theorem ap_ok {a b : Log} (ha : okLog a) (hb : okLog b) : okLog (a ++ b) := fun x hx => by
  rcases List.mem_append.1 hx with h | h
  · exact ha x h
  · exact hb x h

theorem shl_calls (x : W4) (n : Int) (hx : x.ok) (_h0 : -9223372036854775808 ≤ n) (_h9 : n ≤ 9223372036854775807) (w : World) : Calls Try.prog 33 #[vW x, .int .i64 n] w fun e w' => e = .returned (shlV4 x n) ∧ Tidy w w' := by
  unfold shlV4 shlW
  by_cases h1 : n < 1
  · rw [if_pos h1]
    exact fits_calls (tabY_ok conN_ok) (shl_low x n) (okP1 (decide_eq_true h1)) (by rfl) (by rfl) w
  · rw [if_neg h1]
    by_cases h2 : 256 ≤ n
    · rw [if_pos h2]
      exact fits_calls (tabY_ok conN_ok) (shl_high x n) (okPC (decide_eq_true h2) (okP1 (decide_eq_false h1))) (by rfl) (by rfl) w
    · rw [if_neg h2]
      have hn : 0 ≤ n := by omega
      have u := lu_ok hn
      have d := ld_ok hn
      have hj : n / 64 = 0 ∨ n / 64 = 1 ∨ n / 64 = 2 ∨ n / 64 = 3 := by omega
      rcases hj with hj | hj | hj | hj
      · rw [← shl0_eq hx hn hj]
        exact fits_calls (tabY_ok conN_ok) (shl_0 x n) (okPC d (okPC u (okPC d (okPC u (okPC d (okPC u (okPC u (lq_ok h1 h2 hj)))))))) (by rfl) (by rfl) w
      · rw [← shl1_eq hx hn hj]
        exact fits_calls (tabY_ok conN_ok) (shl_1 x n) (okPC d (okPC u (okPC d (okPC u (okPC u (lq_ok h1 h2 hj)))))) (by rfl) (by rfl) w
      · rw [← shl2_eq hx hn hj]
        exact fits_calls (tabY_ok conN_ok) (shl_2 x n) (okPC d (okPC u (okPC u (lq_ok h1 h2 hj)))) (by rfl) (by rfl) w
      · rw [← shl3_eq hx hn hj]
        exact fits_calls (tabY_ok conN_ok) (shl_3 x n) (okPC u (lq_ok h1 h2 hj)) (by rfl) (by rfl) w

/-! ### Shr -/
def conSh : Con := alt 33 (g1n (plain1n shlV4)) conN
theorem conSh_ok : ConOk conSh := alt_ok Try.func33 rfl (plain1n_ok shl_calls) conN_ok
def lk (x : W4) (n : Int) : Bool × Bool := (decide (x.ok ∧ -9223372036854775808 ≤ n ∧ n ≤ 9223372036854775807), true)
def shrR (m x : W4) (n : Int) : Value := .tuple #[vW m, .bool (!(eqW (shlW m n) x))]
theorem shr_low (x : W4) (n : Int) : Fits (reckon (tabOf Try.prog extY conSh true) 3000 43 [vW x, .int .i64 n] [tst true]) (.tuple #[vW x, .bool false]) [(decide (n < 1), true)] := ⟨by kernel_rfl, by kernel_rfl, by kernel_rfl, by kernel_rfl⟩
theorem shr_high (x : W4) (n : Int) : Fits (reckon (tabOf Try.prog extY conSh true) 3000 43 [vW x, .int .i64 n] [tst false, tst true]) (.tuple #[vW ⟨0, 0, 0, 0⟩, .bool (!(eqW x ⟨0, 0, 0, 0⟩))]) [(decide (n ≥ 256), true), (decide (n < 1), false)] := ⟨by kernel_rfl, by kernel_rfl, by kernel_rfl, by kernel_rfl⟩
theorem shr_0 (x : W4) (n : Int) : Fits (reckon (tabOf Try.prog extY conSh true) 3000 43 [vW x, .int .i64 n] [tst false, tst false, num 0]) (shrR (shr0 x n) x n) (lk (shr0 x n) n :: lu n :: ld n :: lu n :: ld n :: lu n :: ld n :: lu n :: lq n 0) := ⟨by kernel_rfl, by kernel_rfl, by kernel_rfl, by kernel_rfl⟩
theorem shr_1 (x : W4) (n : Int) : Fits (reckon (tabOf Try.prog extY conSh true) 3000 43 [vW x, .int .i64 n] [tst false, tst false, num 1]) (shrR (shr1 x n) x n) (lk (shr1 x n) n :: lu n :: ld n :: lu n :: ld n :: lu n :: lq n 1) := ⟨by kernel_rfl, by kernel_rfl, by kernel_rfl, by kernel_rfl⟩
theorem shr_2 (x : W4) (n : Int) : Fits (reckon (tabOf Try.prog extY conSh true) 3000 43 [vW x, .int .i64 n] [tst false, tst false, num 2]) (shrR (shr2 x n) x n) (lk (shr2 x n) n :: lu n :: ld n :: lu n :: lq n 2) := ⟨by kernel_rfl, by kernel_rfl, by kernel_rfl, by kernel_rfl⟩
theorem shr_3 (x : W4) (n : Int) : Fits (reckon (tabOf Try.prog extY conSh true) 3000 43 [vW x, .int .i64 n] [tst false, tst false, num 3]) (shrR (shr3 x n) x n) (lk (shr3 x n) n :: lu n :: lq n 3) := ⟨by kernel_rfl, by kernel_rfl, by kernel_rfl, by kernel_rfl⟩

def shrW (x : W4) (n : Int) : W4 := if n < 1 then x else if 256 ≤ n then ⟨0, 0, 0, 0⟩ else W4.of (x.val / 2 ^ n.toNat)
/-- whether a bit is lost -/
def shrL (x : W4) (n : Int) : Bool := if n < 1 then false else if 256 ≤ n then decide (x.val ≠ 0) else decide (x.val % 2 ^ n.toNat ≠ 0)
def shrV4 (x : W4) (n : Int) : Value := .tuple #[vW (shrW x n), .bool (shrL x n)]
theorem zero_iff {x : W4} (hx : x.ok) : (!(eqW x ⟨0, 0, 0, 0⟩)) = decide (x.val ≠ 0) := by
  rw [Bool.eq_iff_iff]
  simp only [Bool.not_eq_true', decide_eq_true_eq, ← Bool.not_eq_true, eqW_iff]
  constructor
  · intro h h0
    exact h (W4.val_inj hx ⟨z64, z64, z64, z64⟩ (h0.trans (by rfl)))
  · intro h h0
    exact h (by rw [h0]; rfl)
theorem lost_iff {x : W4} (hx : x.ok) {n : Int} (h1 : ¬ n < 1) (h2 : ¬ 256 ≤ n) : (!(eqW (shlW (W4.of (x.val / 2 ^ n.toNat)) n) x)) = decide (x.val % 2 ^ n.toNat ≠ 0) := by
  have hp : (0 : Int) < 2 ^ n.toNat := Int.pow_pos (by omega)
  have b := W4.val_bd hx
  have hm := Int.mul_ediv_add_emod x.val (2 ^ n.toNat)
  have h3 := Int.emod_nonneg x.val (Int.ne_of_gt hp)
  have h4 : 0 ≤ x.val / 2 ^ n.toNat := Int.ediv_nonneg b.1 (by omega)
  have h5 : x.val / 2 ^ n.toNat ≤ x.val := by
    have := mul_le_of 1 (2 ^ n.toNat) (x.val / 2 ^ n.toNat) h4 (by omega)
    rw [Int.mul_one, Int.mul_comm] at this
    omega
  have e : shlW (W4.of (x.val / 2 ^ n.toNat)) n = W4.of (x.val - x.val % 2 ^ n.toNat) := by
    unfold shlW
    rw [if_neg h1, if_neg h2, W4.val_of, Int.emod_eq_of_lt h4 (by omega), Int.mul_comm]
    congr 1
    omega
  rw [e, Bool.eq_iff_iff]
  simp only [Bool.not_eq_true', decide_eq_true_eq, ← Bool.not_eq_true, eqW_iff]
  generalize x.val % 2 ^ n.toNat = l at *
  have h6 : 0 ≤ 2 ^ n.toNat * (x.val / 2 ^ n.toNat) := Int.mul_nonneg (by omega) h4
  constructor
  · intro h h0
    apply h
    rw [h0, Int.sub_zero, W4.of_val hx]
  · intro h h0
    have h7 := congrArg W4.val h0
    rw [W4.val_of, Int.emod_eq_of_lt (by omega) (by omega)] at h7
    omega

theorem lk_ok {x : W4} {n : Int} (h : x.ok) (h0 : -9223372036854775808 ≤ n) (h9 : n ≤ 9223372036854775807) : (lk x n).1 = (lk x n).2 := by
  unfold lk
  exact decide_eq_true ⟨h, h0, h9⟩
set_option maxRecDepth 100000 in
theorem shr_calls (x : W4) (n : Int) (hx : x.ok) (h0 : -9223372036854775808 ≤ n) (h9 : n ≤ 9223372036854775807) (w : World) : Calls Try.prog 43 #[vW x, .int .i64 n] w fun e w' => e = .returned (shrV4 x n) ∧ Tidy w w' := by
  unfold shrV4 shrW shrL
  by_cases h1 : n < 1
  · rw [if_pos h1, if_pos h1]
    exact fits_calls (tabY_ok conSh_ok) (shr_low x n) (okP1 (decide_eq_true h1)) (by rfl) (by rfl) w
  · rw [if_neg h1, if_neg h1]
    by_cases h2 : 256 ≤ n
    · rw [if_pos h2, if_pos h2, ← zero_iff hx]
      exact fits_calls (tabY_ok conSh_ok) (shr_high x n) (okPC (decide_eq_true h2) (okP1 (decide_eq_false h1))) (by rfl) (by rfl) w
    · rw [if_neg h2, if_neg h2]
      have hn : 0 ≤ n := by omega
      have u := lu_ok hn
      have d := ld_ok hn
      have hl := lost_iff hx h1 h2
      have hj : n / 64 = 0 ∨ n / 64 = 1 ∨ n / 64 = 2 ∨ n / 64 = 3 := by omega
      rw [← hl]
      rcases hj with hj | hj | hj | hj
      · obtain ⟨e1, e2⟩ := shr0_eq hx hn hj
        rw [← e1]
        exact fits_calls (tabY_ok conSh_ok) (shr_0 x n) (okPC (lk_ok e2 h0 h9) (okPC u (okPC d (okPC u (okPC d (okPC u (okPC d (okPC u (lq_ok h1 h2 hj))))))))) (by rfl) (by rfl) w
      · obtain ⟨e1, e2⟩ := shr1_eq hx hn hj
        rw [← e1]
        exact fits_calls (tabY_ok conSh_ok) (shr_1 x n) (okPC (lk_ok e2 h0 h9) (okPC u (okPC d (okPC u (okPC d (okPC u (lq_ok h1 h2 hj))))))) (by rfl) (by rfl) w
      · obtain ⟨e1, e2⟩ := shr2_eq hx hn hj
        rw [← e1]
        exact fits_calls (tabY_ok conSh_ok) (shr_2 x n) (okPC (lk_ok e2 h0 h9) (okPC u (okPC d (okPC u (lq_ok h1 h2 hj))))) (by rfl) (by rfl) w
      · obtain ⟨e1, e2⟩ := shr3_eq hx hn hj
        rw [← e1]
        exact fits_calls (tabY_ok conSh_ok) (shr_3 x n) (okPC (lk_ok e2 h0 h9) (okPC u (lq_ok h1 h2 hj))) (by rfl) (by rfl) w
/-- a test that is decided ahead, by another word -/
def pickC (b : Bool) : List Dec → Bool × List Dec × Log
  | .inr (.inr (.inr (.inl d))) :: s => (d, s, [(b, d)])
  | s => (b, s, [])
theorem pickC_ok {b : Bool} {s : List Dec} (h : okLog (pickC b s).2.2) : (pickC b s).1 = b := by
  unfold pickC at *
  split at h
  · rename_i d s
    exact (h (b, d) (List.mem_singleton.2 rfl)).symm
  · rfl
/-- whether a bit is lost is decided ahead -/
def shrB : W4 → Int → List Dec → Option (Value × List Dec × Log) := fun x n s => some (.tuple #[vW (shrW x n), .bool (pickC (shrL x n) s).1], (pickC (shrL x n) s).2.1, (pickC (shrL x n) s).2.2)
theorem shrB_ok : AnsOk 43 (g1n shrB) := g1n_ok fun x n hx h0 h1 s v s' lg h hl w => by
  unfold shrB at h
  cases h
  rw [pickC_ok hl]
  exact shr_calls x n hx h0 h1 w
end Go.Proofs.Ytikeffficelfcaa
