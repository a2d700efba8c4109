/-
  Sums, differences and the order of the seat's program, as calls: what wide.Add, wide.Sub and wide.Cmp answer of any two numbers, in every world.
-/
import Derived.Test.YtbcpnpchioncbaaG05
import Derived.Test.YtbcpnpchioncbaaG14
import Derived.Test.YtbcpnpchioncbaaG16
import Derived.Test.YtbcpnpchioncbaaG07
namespace Go.Proofs.Ytbcpnpchioncbaa
open Go.KRun Go.Wd

def vW (x : W4) : Value := .agg #[.int .u64 x.a, .int .u64 x.b, .int .u64 x.c, .int .u64 x.d]
def w4 : Value → Option W4
  | .agg cs =>
    match cs.toList with
    | [.int .u64 a, .int .u64 b, .int .u64 c, .int .u64 d] => some ⟨a, b, c, d⟩
    | _ => none
  | _ => none
theorem w4_spec {v : Value} {x : W4} (h : w4 v = some x) : v = vW x := by
  unfold w4 at h
  split at h
  · rename_i cs
    split at h
    · rename_i a b c d hc
      cases h
      obtain ⟨l⟩ := cs
      simp only at hc
      subst hc
      rfl
    · cases h
  · cases h

/-- of two numbers -/
def g2 (k : W4 → W4 → List Dec → Option (Value × List Dec × Log)) : Ans := fun vals s =>
  match vals with
  | [x, y] =>
    match w4 x, w4 y with
    | some a, some b =>
      match k a b s with
      | some r => some (r.1, r.2.1, (decide (a.ok ∧ b.ok), true) :: r.2.2)
      | none => none
    | _, _ => none
  | _ => none
theorem g2_ok {f : Nat} {k : W4 → W4 → List Dec → Option (Value × List Dec × Log)}
    (hk : ∀ x y : W4, x.ok → y.ok → ∀ s v s' lg, k x y s = some (v, s', lg) → okLog lg → ∀ w, Calls Try.prog f #[vW x, vW y] w fun e w' => e = .returned v ∧ Tidy w w') : AnsOk f (g2 k) := by
  intro vals s v s' lg h hl w
  unfold g2 at h
  split at h
  · split at h
    · rename_i a b ha hb
      split at h
      · rename_i r hr
        cases h
        have h1 := hl _ (List.mem_cons_self)
        simp only [decide_eq_true_eq] at h1
        rw [w4_spec ha, w4_spec hb]
        exact hk a b h1.1 h1.2 s r.1 r.2.1 r.2.2 hr (fun p hp => hl p (List.mem_cons_of_mem _ hp)) w
      · cases h
    · cases h
  · cases h
/-- an answer that is told outright -/
def plain2 (k : W4 → W4 → Value) : W4 → W4 → List Dec → Option (Value × List Dec × Log) := fun x y s => some (k x y, s, [])
theorem plain2_ok {f : Nat} {k : W4 → W4 → Value} (hk : ∀ x y : W4, x.ok → y.ok → ∀ w, Calls Try.prog f #[vW x, vW y] w fun e w' => e = .returned (k x y) ∧ Tidy w w') : AnsOk f (g2 (plain2 k)) :=
  g2_ok fun x y hx hy s v s' lg h _ w => by
    unfold plain2 at h
    cases h
    exact hk x y hx hy w
/-- a number that is decided ahead -/
def pickN (n : Int) : List Dec → Int × List Dec × Log
  | .inr (.inl k) :: s => (k, s, [(decide (n = k), true)])
  | s => (n, s, [])
theorem pickN_ok {n : Int} {s : List Dec} (h : okLog (pickN n s).2.2) : (pickN n s).1 = n := by
  unfold pickN at *
  split at h
  · rename_i d s
    have := h _ (List.mem_singleton.2 rfl)
    simp only [decide_eq_true_eq] at this
    exact this.symm
  · rfl

theorem okNil : okLog [] := fun _ h => by cases h

/-! ### Add -/
def okA (x y c : Int) : Bool × Bool := (decide (0 ≤ x ∧ 0 ≤ y ∧ 0 ≤ c ∧ c ≤ 1), true)
theorem add_fits (x y : W4) : Fits (reckon (tabOf Try.prog extY conN true) 3000 79 [vW x, vW y] []) (.tuple #[vW (addR x y), .bool (addC x y != 0)])
    [okA x.d y.d (ca x.c y.c (ca x.b y.b (ca x.a y.a 0))), okA x.c y.c (ca x.b y.b (ca x.a y.a 0)), okA x.b y.b (ca x.a y.a 0), okA x.a y.a 0] := ⟨by kernel_rfl, by kernel_rfl, by kernel_rfl, by kernel_rfl⟩
def addV4 (x y : W4) : Value := .tuple #[vW (W4.of (x.val + y.val)), .bool (decide (115792089237316195423570985008687907853269984665640564039457584007913129639936 ≤ x.val + y.val))]
theorem add_calls (x y : W4) (hx : x.ok) (hy : y.ok) (w : World) : Calls Try.prog 79 #[vW x, vW y] w fun e w' => e = .returned (addV4 x y) ∧ Tidy w w' := by
  have h := fits_calls (tabY_ok conN_ok) (add_fits x y) (by
    obtain ⟨h1, h2, h3, h4⟩ := hx
    obtain ⟨k1, k2, k3, k4⟩ := hy
    have b1 : 0 ≤ ca x.a y.a 0 ∧ ca x.a y.a 0 ≤ 1 := by unfold ca; omega
    have b2 : 0 ≤ ca x.b y.b (ca x.a y.a 0) ∧ ca x.b y.b (ca x.a y.a 0) ≤ 1 := by generalize ca x.a y.a 0 = k at *; unfold ca; omega
    have b3 : 0 ≤ ca x.c y.c (ca x.b y.b (ca x.a y.a 0)) ∧ ca x.c y.c (ca x.b y.b (ca x.a y.a 0)) ≤ 1 := by generalize ca x.b y.b (ca x.a y.a 0) = k at *; unfold ca; omega
    intro p hp
    simp only [List.mem_cons, List.not_mem_nil, or_false] at hp
    rcases hp with rfl | rfl | rfl | rfl <;> simp only [okA, decide_eq_true_eq] <;> omega) (by rfl) (by rfl) w
  rw [addR_eq hx hy, addC_eq hx hy] at h
  exact h

/-! ### Sub -/
def okS (x y c : Int) : Bool × Bool := (decide (0 ≤ x ∧ 0 ≤ y ∧ y < 18446744073709551616 ∧ 0 ≤ c ∧ c ≤ 1), true)
theorem sub_fits (x y : W4) : Fits (reckon (tabOf Try.prog extY conN true) 3000 42 [vW x, vW y] []) (.tuple #[vW (subR x y), .bool (subC x y != 0)])
    [okS x.d y.d (bo x.c y.c (bo x.b y.b (bo x.a y.a 0))), okS x.c y.c (bo x.b y.b (bo x.a y.a 0)), okS x.b y.b (bo x.a y.a 0), okS x.a y.a 0] := ⟨by kernel_rfl, by kernel_rfl, by kernel_rfl, by kernel_rfl⟩
def subV4 (x y : W4) : Value := .tuple #[vW (W4.of (x.val - y.val)), .bool (decide (x.val < y.val))]
theorem sub_calls (x y : W4) (hx : x.ok) (hy : y.ok) (w : World) : Calls Try.prog 42 #[vW x, vW y] w fun e w' => e = .returned (subV4 x y) ∧ Tidy w w' := by
  have h := fits_calls (tabY_ok conN_ok) (sub_fits x y) (by
    obtain ⟨h1, h2, h3, h4⟩ := hx
    obtain ⟨k1, k2, k3, k4⟩ := hy
    have b1 := bo_01 x.a y.a 0
    have b2 := bo_01 x.b y.b (bo x.a y.a 0)
    have b3 := bo_01 x.c y.c (bo x.b y.b (bo x.a y.a 0))
    intro p hp
    simp only [List.mem_cons, List.not_mem_nil, or_false] at hp
    rcases hp with rfl | rfl | rfl | rfl <;> simp only [okS, decide_eq_true_eq] <;> omega) (by rfl) (by rfl) w
  rw [subR_eq hx hy, subC_eq hx hy] at h
  exact h

/-! ### Cmp -/
def conS : Con := alt 42 (g2 (plain2 subV4)) conN
theorem conS_ok : ConOk conS := alt_ok Try.func42 rfl (plain2_ok sub_calls) conN_ok
/-- whether it is below 0 is decided ahead -/
def subB : W4 → W4 → List Dec → Option (Value × List Dec × Log) := fun x y s => some (.tuple #[vW (W4.of (x.val - y.val)), .bool (pickB (decide (x.val < y.val)) s).1], (pickB (decide (x.val < y.val)) s).2.1, (pickB (decide (x.val < y.val)) s).2.2)
theorem subB_ok : AnsOk 42 (g2 subB) := g2_ok fun x y hx hy s v s' lg h hl w => by
  unfold subB at h
  cases h
  rw [pickB_ok hl]
  exact sub_calls x y hx hy w
theorem cmp_same (x y : W4) : Fits (reckon (tabOf Try.prog extY conS true) 3000 41 [vW x, vW y] [tst true]) (.int .i64 0) [(eqW x y, true)] := ⟨by kernel_rfl, by kernel_rfl, by kernel_rfl, by kernel_rfl⟩
theorem cmp_less (x y : W4) : Fits (reckon (tabOf Try.prog extY conS true) 3000 41 [vW x, vW y] [tst false, tst true]) (.int .i64 (-1)) [(decide (x.val < y.val), true), (decide (x.ok ∧ y.ok), true), (eqW x y, false)] := ⟨by kernel_rfl, by kernel_rfl, by kernel_rfl, by kernel_rfl⟩
theorem cmp_more (x y : W4) : Fits (reckon (tabOf Try.prog extY conS true) 3000 41 [vW x, vW y] [tst false, tst false]) (.int .i64 1) [(decide (x.val < y.val), false), (decide (x.ok ∧ y.ok), true), (eqW x y, false)] := ⟨by kernel_rfl, by kernel_rfl, by kernel_rfl, by kernel_rfl⟩
def cmpI (x y : W4) : Int := if x.val < y.val then -1 else if x.val = y.val then 0 else 1
def cmpV4 (x y : W4) : Value := .int .i64 (cmpI x y)
theorem cmp_calls (x y : W4) (hx : x.ok) (hy : y.ok) (w : World) : Calls Try.prog 41 #[vW x, vW y] w fun e w' => e = .returned (cmpV4 x y) ∧ Tidy w w' := by
  by_cases he : x = y
  · subst he
    have h := fits_calls (tabY_ok conS_ok) (cmp_same x x) (by
      intro p hp
      simp only [List.mem_cons, List.not_mem_nil, or_false] at hp
      subst hp
      exact eqW_iff.2 rfl) (by rfl) (by rfl) w
    have e : cmpI x x = 0 := by unfold cmpI; rw [if_neg (by omega), if_pos rfl]
    unfold cmpV4
    rw [e]
    exact h
  · have hne : eqW x y = false := by
      cases h : eqW x y
      · rfl
      · exact absurd (eqW_iff.1 h) he
    by_cases hl : x.val < y.val
    · have h := fits_calls (tabY_ok conS_ok) (cmp_less x y) (by
        intro p hp
        simp only [List.mem_cons, List.not_mem_nil, or_false] at hp
        rcases hp with rfl | rfl | rfl
        · simpa using hl
        · simpa using ⟨hx, hy⟩
        · exact hne) (by rfl) (by rfl) w
      have e : cmpI x y = -1 := by unfold cmpI; rw [if_pos hl]
      unfold cmpV4
      rw [e]
      exact h
    · have h := fits_calls (tabY_ok conS_ok) (cmp_more x y) (by
        intro p hp
        simp only [List.mem_cons, List.not_mem_nil, or_false] at hp
        rcases hp with rfl | rfl | rfl
        · simpa using hl
        · simpa using ⟨hx, hy⟩
        · exact hne) (by rfl) (by rfl) w
      have hne' : x.val ≠ y.val := fun h => he (W4.val_inj hx hy h)
      have e : cmpI x y = 1 := by unfold cmpI; rw [if_neg hl, if_neg hne']
      unfold cmpV4
      rw [e]
      exact h
def cmpN : W4 → W4 → List Dec → Option (Value × List Dec × Log) := fun x y s => some (.int .i64 (pickN (cmpI x y) s).1, (pickN (cmpI x y) s).2.1, (pickN (cmpI x y) s).2.2)
theorem cmpN_ok : AnsOk 41 (g2 cmpN) := g2_ok fun x y hx hy s v s' lg h hl w => by
  unfold cmpN at h
  cases h
  rw [pickN_ok hl]
  exact cmp_calls x y hx hy w
end Go.Proofs.Ytbcpnpchioncbaa

/-
  The document's Of (tillerref04), as a call; rows of numbers that were made.
-/
namespace Go.Proofs.Ytbcpnpchioncbaa
open Go.KRun Go.Nt Go.Wd
set_option maxRecDepth 100000

theorem d16_one : (d16 1).length = 1 := by
  unfold d16
  rw [db_pos (by omega) (by omega), show 1 / 65536 = 0 from rfl, db_zero]
  rfl
theorem d16_zero {A : Nat} (h : ¬ 0 < (d16 A).length) : A = 0 := by
  have : d16 A = [] := List.length_eq_zero_iff.1 (by omega)
  exact (db_nil (by omega)).1 this

/-! ### its words -/
theorem w8_eq {x : W4} (hx : x.ok) : w8 x = [x.a % 4294967296, x.a / 4294967296, x.b % 4294967296, x.b / 4294967296, x.c % 4294967296, x.c / 4294967296, x.d % 4294967296, x.d / 4294967296] := by
  obtain ⟨h1, h2, h3, h4⟩ := hx
  have key : ∀ y : Int, 0 ≤ y ∧ y < 18446744073709551616 → IntKind.u32.wrap (y.tmod 4294967296) = y % 4294967296 ∧ IntKind.u32.wrap (IntKind.u64.wrap (y.tdiv 4294967296)) = y / 4294967296 := fun y hy => by
    rw [Int.tmod_eq_emod_of_nonneg hy.1, Int.tdiv_eq_ediv_of_nonneg hy.1, wrap32 (n := y % 4294967296) (by omega) (by omega), wrap64 (by omega) (by omega), wrap32 (by omega) (by omega)]
    exact ⟨rfl, rfl⟩
  unfold w8
  rw [(key _ h1).1, (key _ h1).2, (key _ h2).1, (key _ h2).2, (key _ h3).1, (key _ h3).2, (key _ h4).1, (key _ h4).2]
theorem w8_rng {x : W4} (hx : x.ok) : ∀ y ∈ w8 x, 0 ≤ y ∧ y < 4294967296 := by
  rw [w8_eq hx]
  obtain ⟨h1, h2, h3, h4⟩ := hx
  intro y hy
  simp only [List.mem_cons, List.not_mem_nil, or_false] at hy
  rcases hy with rfl | rfl | rfl | rfl | rfl | rfl | rfl | rfl <;> omega
theorem vb_pair {u : Int} (h : 0 ≤ u) (L : List Int) : vb 4294967296 (u % 4294967296 :: u / 4294967296 :: L) = u.toNat + 18446744073709551616 * vb 4294967296 L := by
  simp only [vb]
  generalize vb 4294967296 L = t
  omega
theorem V8_eq {x : W4} (hx : x.ok) : V8 x = x.nat := by
  have hl : (w8 x).length = 8 := rfl
  have e := cut_wU (w8 x)
  rw [hl] at e
  have hv := W4.nat_val hx
  unfold V8 v32
  rw [e, w8_eq hx]
  obtain ⟨h1, h2, h3, h4⟩ := hx
  rw [vb_pair h1.1, vb_pair h2.1, vb_pair h3.1, vb_pair h4.1]
  unfold W4.val at hv
  simp only [vb]
  omega
theorem lOf_ok {x : W4} (hx : x.ok) : okLog (lOf x) := by
  have hl : (w8 x).length = 8 := rfl
  have hrow := rowC_wU (L := w8 x) (c := grown) (w8_rng hx) (by rw [hl]; omega) (capG _)
  rw [hl] at hrow
  have hst : (wU (w8 x)).all still = true := List.all_eq_true.2 (wU_still _)
  unfold lOf
  exact okTwo (by rw [hrow, hst]; rfl) (okTwo rfl (okTwo rfl (okTwo rfl (okTwo rfl (okTwo rfl (okTwo rfl (okTwo rfl (okTwo rfl (okTwo rfl (okOne rfl))))))))))

/-! ### the call -/
def refT (x : W4) (b : Bool) : Nat := match b with | true => 2 * x.nat + 1 | false => x.nat
def refE (e : Int) (b : Bool) : Int := match b with | true => cl5 e - 1 | false => cl5 e
def vRN (m : Bool) (e : Int) (v : Value) : Value := .agg #[.bool m, .int .i64 e, v]
theorem nat_len {x : W4} (hx : x.ok) : (d16 x.nat).length ≤ 16 := d16_len (k := 16) (W4.nat_lt hx)
theorem d16_dbl {x : W4} (hx : x.ok) : (d16 (2 * x.nat)).length ≤ 17 := by
  have h1 : x.nat < 65536 ^ 16 := by rw [pow16]; exact W4.nat_lt hx
  generalize hP : (65536 : Nat) ^ 16 = P at h1
  refine db_len (by omega) 17 (2 * x.nat) ?_
  rw [Nat.pow_succ, hP]
  omega
end Go.Proofs.Ytbcpnpchioncbaa

/-
  A RUN THAT THE KERNEL RECKONS: the newest blocks of a memory are let go; what a temporary holds that is no more needed is of the world's own.
-/
namespace Go.KRun
open Go.RowKit

theorem blk_base {k n : Nat} {base l : List (List Value × TypeId)} (hn : n = l.length + k) {i : Nat} (hi : i < k) : (⟨n, l ++ base⟩ : Hp).blk? i = (⟨k, base⟩ : Hp).blk? i := by
  unfold Hp.blk?
  rw [if_pos (blt_iff.2 (by show i < n; omega)), if_pos (blt_iff.2 hi)]
  show (l ++ base)[n - 1 - i]? = base[k - 1 - i]?
  rw [List.getElem?_append_right (by omega)]
  congr 1
  omega
theorem RunsW.cut {T : Tab} {c : Code} {x0 : Lf} {ex : Ex} {f1 f2 : List Value} {u : Value} {n k N : Nat} {extra base : List (List Value × TypeId)} (hr : RunsW T c x0 fun e z => e = ex ∧ (∃ g, z.1 = (f1 ++ u :: f2) ++ tl n g) ∧ z.2.1 = ⟨N, extra ++ base⟩)
    (hk : base.length = k) (hN : N = extra.length + k) (h0 : 0 < k) (hb : ∀ x ∈ base, ∀ v ∈ x.1, lt1 k v = true) (h1 : ∀ v ∈ f1, lt k v = true) (h2 : ∀ v ∈ f2, lt k v = true) :
    RunsW T c x0 fun e z => e = ex ∧ (∃ g j, z.1 = (f1 ++ j :: f2) ++ tl n g) ∧ z.2.1 = ⟨k, base⟩ := by
  intro m B a w R Q hQ
  refine hr m B a w R Q fun e z he m' a' w' R' hb' => ?_
  obtain ⟨rfl, ⟨g, hz1⟩, hz2⟩ := he
  obtain ⟨t, h, s⟩ := z
  simp only at hz1 hz2
  subst hz1 hz2
  obtain ⟨g', hg'⟩ := tl_of (J := (tl n g).map (fun v => Value.iface dead (mv m' v))) (n := n) (by simp [tl_len])
  refine hQ e ((f1 ++ Value.iface dead (mv m' u) :: f2) ++ tl n g', ⟨k, base⟩, s) ⟨rfl, ⟨g', _, rfl⟩, rfl⟩ m' a' w' ?_ hb'
  have E := R'.emb
  have sub : ∀ i x, (⟨k, base⟩ : Hp).blk? i = some x → (⟨N, extra ++ base⟩ : Hp).blk? i = some x := fun i x hx => by
    rw [blk_base hN (Hp.blk_lt hx)]
    exact hx
  have mem : ∀ i x, (⟨k, base⟩ : Hp).blk? i = some x → x ∈ base := fun i x hx => by
    unfold Hp.blk? at hx
    split at hx
    · exact List.mem_of_getElem? hx
    · cases hx
  have ltd : ∀ v : Value, lt k (Value.iface dead v) = true := fun v => by simp [lt, lt2, lt1, h0]
  have mvd : ∀ v : Value, mv m' (Value.iface dead (mv m' v)) = mv m' v := fun v => by simp [mv, mv2, mv1]
  refine ⟨?_, R'.dfr, ⟨hk, fun b x hx ht => E.lies b x (sub b x hx) ht, fun b x hx hro => E.low b x (sub b x hx) hro, fun b x hx ht hro => E.ros b x (sub b x hx) ht hro, fun b b' x x' hx hx' hro hro' he => E.inj b b' x x' (sub b x hx) (sub b' x' hx') hro hro' he, fun b x hx v hv => hb x (mem b x hx) v hv, E.base, E.ice, fun b x hx ha => E.abs b x (sub b x hx) ha⟩, ?_⟩
  · rw [R'.tmps]
    simp only [List.map_append, List.map_cons, mvd, ← hg', List.map_map]
    congr 2
  · intro v hv
    rcases List.mem_append.1 hv with hv | hv
    · rcases List.mem_append.1 hv with hv | hv
      · exact h1 v hv
      · rcases List.mem_cons.1 hv with rfl | hv
        · exact ltd _
        · exact h2 v hv
    · rw [← hg'] at hv
      obtain ⟨y, _, rfl⟩ := List.mem_map.1 hv
      exact ltd _
/-- the same, ahead of a piece of code -/
theorem RunsW.pre {T : Tab} {c : Code} {P : Ex → Lf → Prop} {f1 f2 : List Value} {u : Value} {n k N : Nat} {extra base : List (List Value × TypeId)} {s s' : List Dec} {g : Nat → Value} (h : ∀ j g, RunsW T c ((f1 ++ j :: f2) ++ tl n g, ⟨k, base⟩, s') P)
    (hk : base.length = k) (hN : N = extra.length + k) (h0 : 0 < k) (hb : ∀ x ∈ base, ∀ v ∈ x.1, lt1 k v = true) (h1 : ∀ v ∈ f1, lt k v = true) (h2 : ∀ v ∈ f2, lt k v = true) :
    RunsW T c ((f1 ++ u :: f2) ++ tl n g, ⟨N, extra ++ base⟩, s) P := by
  intro m B a w R Q hQ
  obtain ⟨g', hg'⟩ := tl_of (J := (tl n g).map (fun v => Value.iface dead (mv m v))) (n := n) (by simp [tl_len])
  refine h (Value.iface dead (mv m u)) g' m B a w ?_ Q hQ
  have E := R.emb
  have sub : ∀ i x, (⟨k, base⟩ : Hp).blk? i = some x → (⟨N, extra ++ base⟩ : Hp).blk? i = some x := fun i x hx => by
    rw [blk_base hN (Hp.blk_lt hx)]
    exact hx
  have mem : ∀ i x, (⟨k, base⟩ : Hp).blk? i = some x → x ∈ base := fun i x hx => by
    unfold Hp.blk? at hx
    split at hx
    · exact List.mem_of_getElem? hx
    · cases hx
  have ltd : ∀ v : Value, lt k (Value.iface dead v) = true := fun v => by simp [lt, lt2, lt1, h0]
  have mvd : ∀ v : Value, mv m (Value.iface dead (mv m v)) = mv m v := fun v => by simp [mv, mv2, mv1]
  refine ⟨?_, R.dfr, ⟨hk, fun b x hx ht => E.lies b x (sub b x hx) ht, fun b x hx hro => E.low b x (sub b x hx) hro, fun b x hx ht hro => E.ros b x (sub b x hx) ht hro, fun b b' x x' hx hx' hro hro' he => E.inj b b' x x' (sub b x hx) (sub b' x' hx') hro hro' he, fun b x hx v hv => hb x (mem b x hx) v hv, E.base, E.ice, fun b x hx ha => E.abs b x (sub b x hx) ha⟩, ?_⟩
  · rw [R.tmps]
    simp only [List.map_append, List.map_cons, mvd, ← hg', List.map_map]
    congr 2
  · intro v hv
    rcases List.mem_append.1 hv with hv | hv
    · rcases List.mem_append.1 hv with hv | hv
      · exact h1 v hv
      · rcases List.mem_cons.1 hv with rfl | hv
        · exact ltd _
        · exact h2 v hv
    · rw [← hg'] at hv
      obtain ⟨y, _, rfl⟩ := List.mem_map.1 hv
      exact ltd _
/-- a call that keeps one block of its own, whichever it is -/
theorem row_calls2 {T : Tab} {f : Nat} {F : Func} {c : Code} (hF : T.P.funcs[f]? = some F) (hc : F.body = some c) {h0 : Hp} (hr : h0.rows) {vals : List Value} (hvals : ∀ v ∈ vals, lt h0.n v = true) {v : Nat → Value}
    {cs : List Value} {ty : TypeId} (hcs : ∀ u ∈ cs, lt1 0 u = true) (hty : ro ty = false)
    (hrun : RunsW T c (vals ++ List.replicate (F.ntmps - vals.length) undef, h0, []) fun e y => (e = none ∨ e = some none) ∧ ∃ k, resS T.P F y.1 y.2.1 = some (v k) ∧ ∃ r, y.2.1.blk? k = some (cs ++ r, ty))
    (hv0 : ∀ k, oc [k] (v k) = true)
    {m : Mp} {B : Nat} {h : Hp} {w : World} (E : Emb m B h w) {s : Nat → Nat} (hf : h0.fits s h) (hv1 : ∀ k, rn (fun _ => h.n) (v k) = v h.n) :
    Calls T.P f ((vals.map (rn s)).map (mv m)).toArray w fun e w' => ∃ m', e = .returned (mv m' (v h.n)) ∧ Came m B h w (v h.n) (h.push cs ty) m' w' := by
  have E0 := E.small hr hf
  have ev : (vals.map (rn s)).map (mv m) = vals.map (mv fun i => m (s i)) := by
    rw [List.map_map]
    exact List.map_congr_left fun y _ => mv_rn m s y
  rw [ev]
  refine calls_of_wp hF hc ?_
  have R : Rel (fun i => m (s i)) w.heap.size (vals ++ List.replicate (F.ntmps - vals.length) undef, h0, []) { tmps := (vals.map (mv fun i => m (s i))).toArray ++ Array.replicate (F.ntmps - (vals.map (mv fun i => m (s i))).toArray.size) undef, defers := [] } w := by
    refine ⟨?_, rfl, E0, ?_⟩
    · simp [mv_undef]
    · intro y hy
      rcases List.mem_append.1 hy with hy | hy
      · exact hvals y hy
      · rw [List.eq_of_mem_replicate hy]; simp [undef, lt]
  refine hrun _ _ _ w R _ fun e y he m1 a' w' k2 k3 => ?_
  obtain ⟨hex, k, hres, r, hblk⟩ := he
  obtain ⟨r1, r2⟩ := resS_run k2.emb k2.wf hres
  rw [← k2.tmps] at r1
  have td : Tidy w w' := ⟨k3, fun k h1 h2 => k2.emb.ice k h1 h2⟩
  obtain ⟨E', hb⟩ := clean_emb E td
  have hlow : w.heap.size ≤ (m1 k).1 := k2.emb.low k _ hblk hty
  have hlie : lie w' (m1 k) (cs.map (mv1 m)) ty := by
    obtain ⟨r', z, l0, l1, l2⟩ := k2.emb.lies k _ hblk (tomb_ro hty)
    have e : cs.map (mv1 m1) = cs.map (mv1 m) := map_still hcs
    simp only [List.map_append] at l0 l1
    refine ⟨r.map (mv1 m1) ++ r', z, ?_, ?_, l2⟩
    · simp at l0 ⊢; omega
    · rw [← e, l1, List.append_assoc]
  have Ea := E'.adopt cs ty hty (fun u hu => lt1_mono (Nat.zero_le _) (hcs u hu)) hlie (Nat.le_trans E.base hlow) (fun b x hbx hx heq => by
    have := E.here hbx (tomb_ro hx)
    omega)
  have e1 : mv m1 (v k) = mv (upd m h.n (m1 k)) (v h.n) := by
    rw [← hv1 k, mv_rn]
    refine mv_on (fun b hb => ?_) (hv0 k)
    rw [List.mem_singleton.1 hb]
    simp [upd]
  rw [e1] at r1
  have hlt : lt (h.n + 1) (v h.n) = true := by rw [← hv1 k]; exact oc_ren (bs := [k]) (fun b hb => by show h.n < h.n + 1; omega) (hv0 k)
  have post : a'.defers = [] ∧ ∃ v', (results F a'.tmps).run T.P w' = .ok v' w' ∧ ∃ m', Ending.returned v' = .returned (mv m' (v h.n)) ∧ Came m B h w (v h.n) (h.push cs ty) m' w' :=
    ⟨k2.dfr, _, r1, upd m h.n (m1 k), rfl, ⟨upd_agree _ _ _, Ea, hb, Nat.le_succ _, hlt⟩⟩
  rcases hex with rfl | rfl <;> exact post
end Go.KRun
