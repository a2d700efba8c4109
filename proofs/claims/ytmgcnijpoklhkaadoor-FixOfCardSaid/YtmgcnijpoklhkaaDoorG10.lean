/-
  NumFg, NumFh, FiB, RunV, RunW, RunY, FiC, FiD, FiE
-/
import Derived.Test.YtmgcnijpoklhkaaDoorG09
import Derived.OneCell
namespace Go.Fx
/-- the sine's and the cosine's sums, of an angle x in units of which U are 1 -/
def sS (U n x : Nat) : Int := sr U (x * x / U) x 2 n
def cS (U n x : Nat) : Int := sr U (x * x / U) U 1 n
theorem sq_le {U x : Nat} (hU : 0 < U) (hx : x ≤ U) : x * x / U ≤ U := by
  have := Nat.mul_le_mul_left x hx
  exact Nat.le_trans (Nat.div_le_div_right this) (by rw [Nat.mul_div_cancel _ hU]; exact hx)
/-! ### what is left out -/
/-- as many units as are 1 -/
def uP : Nat := 2 ^ 248
theorem uP_pos : 0 < uP := by decide
/-- the bounds: 32 units below (0 at least) and above -/
def lo32 (S : Int) : Nat := (S - 32).toNat
def hi32 (S : Int) : Nat := (S + 32).toNat
/-- the facts of an angle: s, c are the sine and the cosine in units -/
structure Fx (x : Nat) (s c : Rat) : Prop where
  s0 : 0 ≤ s
  c0 : ((uP : Nat) : Rat) ≤ 2 * c
  sl : ((sS uP 29 x : Int) : Rat) ≤ s + 29
  sh : s ≤ ((sS uP 29 x : Int) : Rat) + 31
  cl : ((cS uP 29 x : Int) : Rat) ≤ c + 29
  ch : c ≤ ((cS uP 29 x : Int) : Rat) + 31
end Go.Fx
namespace Go.Proofs.YtmgcnijpoklhkaaDoor
open Go.KRun Go.Wd
set_option maxRecDepth 100000
def conFB : Con := alt 26 (g2 (plain2 fmV4)) (alt 28 gQR conFA)
theorem conFB_ok : ConOk conFB := alt_ok Tryd.func26 rfl (plain2_ok fm_calls) (alt_ok Tryd.func28 rfl gQR_ok conFA_ok)
/-- the divisor of a term -/
def ptD (n : Int) : W4 := ⟨IntKind.u64.wrap (n * IntKind.u64.wrap (n + 1)), 0, 0, 0⟩
def ptW (t s : W4) (n : Int) : W4 := W4.of ((W4.of (fmI t s)).val / (ptD n).val)
theorem pt_fits (t s : W4) (n : Int) : Fits (reckon (tabOf Tryd.prog extY conFB true) 300 55 [vW t, vW s, .int .u64 n] []) (vW (ptW t s n)) [nz2 (W4.of (fmI t s)) (ptD n), nz2 (W4.of (fmI t s)) (ptD n), nz2 (W4.of (fmI t s)) (ptD n), nz2 (W4.of (fmI t s)) (ptD n), nz2 (W4.of (fmI t s)) (ptD n), nz2 (W4.of (fmI t s)) (ptD n), nz2 (W4.of (fmI t s)) (ptD n), nz2 (W4.of (fmI t s)) (ptD n), nz2 (W4.of (fmI t s)) (ptD n), nz2 (W4.of (fmI t s)) (ptD n), nz2 (W4.of (fmI t s)) (ptD n), q2 t s] := ⟨by kernel_rfl, by kernel_rfl, by kernel_rfl, by kernel_rfl⟩
def okPt (t s : W4) (n : Int) : Bool × Bool := (decide (t.ok ∧ s.ok ∧ fmI t s < 115792089237316195423570985008687907853269984665640564039457584007913129639936 ∧ 1 ≤ n ∧ n ≤ 1000), true)
theorem pt_calls (t s : W4) (n : Int) (h : t.ok ∧ s.ok ∧ fmI t s < 115792089237316195423570985008687907853269984665640564039457584007913129639936 ∧ 1 ≤ n ∧ n ≤ 1000) (w : World) : Calls Tryd.prog 55 #[vW t, vW s, .int .u64 n] w fun e w' => e = .returned (vW (W4.of (fmI t s / (n * (n + 1))))) ∧ Tidy w w' := by
  obtain ⟨ht, hs, hf, h1, h2⟩ := h
  have h0 : 0 ≤ fmI t s := Int.ediv_nonneg (mul_bd2 ht hs).1 (by omega)
  have bn : 0 < n * (n + 1) := Int.mul_pos (by omega) (by omega)
  have bm : n * (n + 1) ≤ 1000 * 1001 := Int.mul_le_mul h2 (by omega) (by omega) (by omega)
  have ew : IntKind.u64.wrap (n * IntKind.u64.wrap (n + 1)) = n * (n + 1) := by
    rw [wrap_u64' (n := n + 1) (by omega) (by omega), wrap_u64' (by omega) (by omega)]
  have eD : ptD n = ⟨n * (n + 1), 0, 0, 0⟩ := by unfold ptD; rw [ew]
  have vD : (ptD n).val = n * (n + 1) := by rw [eD]; unfold W4.val; dsimp only; omega
  have oD : (ptD n).ok := by rw [eD]; exact ⟨⟨by dsimp only; omega, by dsimp only; omega⟩, z64, z64, z64⟩
  have e1 : ptW t s n = W4.of (fmI t s / (n * (n + 1))) := by
    unfold ptW
    rw [vD, W4.val_of, Int.emod_eq_of_lt h0 hf]
  have q : (nz2 (W4.of (fmI t s)) (ptD n)).1 = (nz2 (W4.of (fmI t s)) (ptD n)).2 := decide_eq_true ⟨W4.ok_of _, oD, by rw [vD]; omega⟩
  rw [← e1]
  exact fits_calls (tabY_ok conFB_ok) (pt_fits t s n) ((okCons q (okCons q (okCons q (okCons q (okCons q (okCons q (okCons q (okCons q (okCons q (okCons q (okCons q (okL1 (decide_eq_true ⟨ht, hs⟩)))))))))))))) (by rfl) (by rfl) w
def gPrt : Ans := fun vals s =>
  match vals with
  | [x, y, .int .u64 n] =>
    match w4 x, w4 y with
    | some a, some b => some (vW (W4.of (fmI a b / (n * (n + 1)))), s, [okPt a b n])
    | _, _ => none
  | _ => none
theorem gPrt_ok : AnsOk 55 gPrt := by
  intro vals s v s' lg h hl w
  unfold gPrt at h
  split at h
  · split at h
    · rename_i a b ha hb
      cases h
      have h1 := hl _ (List.mem_singleton.2 rfl)
      simp only [okPt, decide_eq_true_eq] at h1
      rw [w4_spec ha, w4_spec hb]
      exact pt_calls a b _ h1 w
    · cases h
  · cases h
/-! ### bounds -/
def conFC : Con := alt 19 (g2 subB) (alt 48 (g2 (plain2 addV4)) conN)
theorem conFC_ok : ConOk conFC := alt_ok Tryd.func19 rfl subB_ok (alt_ok Tryd.func48 rfl (plain2_ok add_calls) conN_ok)
def w32 : W4 := ⟨32, 0, 0, 0⟩
theorem bd_low (x : W4) : Fits (reckon (tabOf Tryd.prog extY conFC true) 300 39 [vW x] [tst true]) (.tuple #[vW ⟨0, 0, 0, 0⟩, vW (W4.of (x.val + w32.val))]) [q2 x w32, q2 x w32, (decide (x.val < w32.val), true)] := ⟨by kernel_rfl, by kernel_rfl, by kernel_rfl, by kernel_rfl⟩
theorem bd_in (x : W4) : Fits (reckon (tabOf Tryd.prog extY conFC true) 300 39 [vW x] [tst false]) (.tuple #[vW (W4.of (x.val - w32.val)), vW (W4.of (x.val + w32.val))]) [q2 x w32, q2 x w32, (decide (x.val < w32.val), false)] := ⟨by kernel_rfl, by kernel_rfl, by kernel_rfl, by kernel_rfl⟩
/-- the bounds of a sum -/
def bdV4 (x : W4) : Value := .tuple #[vW (ofN (Go.Fx.lo32 x.val)), vW (ofN (Go.Fx.hi32 x.val))]
theorem bd_calls (x : W4) (hx : x.ok) (w : World) : Calls Tryd.prog 39 #[vW x] w fun e w' => e = .returned (bdV4 x) ∧ Tidy w w' := by
  have b := W4.val_bd hx
  have v : w32.val = 32 := by rfl
  have o : w32.ok := ⟨⟨by decide, by decide⟩, z64, z64, z64⟩
  have q : (q2 x w32).1 = (q2 x w32).2 := decide_eq_true ⟨hx, o⟩
  have e2 : ofN (Go.Fx.hi32 x.val) = W4.of (x.val + w32.val) := by
    unfold ofN Go.Fx.hi32
    rw [v, Int.toNat_of_nonneg (by omega)]
  unfold bdV4
  rw [e2]
  by_cases c : x.val < w32.val
  · have e1 : ofN (Go.Fx.lo32 x.val) = ⟨0, 0, 0, 0⟩ := by
      unfold Go.Fx.lo32
      rw [show (x.val - 32).toNat = 0 by omega]
      exact ofN_zero
    rw [e1]
    exact fits_calls (tabY_ok conFC_ok) (bd_low x) (okCons q (okCons q (okL1 (decide_eq_true c)))) (by rfl) (by rfl) w
  · have e1 : ofN (Go.Fx.lo32 x.val) = W4.of (x.val - w32.val) := by
      unfold ofN Go.Fx.lo32
      rw [v, Int.toNat_of_nonneg (by omega)]
    rw [e1]
    exact fits_calls (tabY_ok conFC_ok) (bd_in x) (okCons q (okCons q (okL1 (decide_eq_false c)))) (by rfl) (by rfl) w
end Go.Proofs.YtmgcnijpoklhkaaDoor
namespace Go.KRun
open Go.RowKit
theorem tidy_trans {a b c : World} (h1 : Tidy a b) (h2 : Tidy b c) : Tidy a c := by
  refine ⟨h1.1.trans (h2.1.mono h1.1.size), fun k hk hk' => ?_⟩
  by_cases h : k < b.heap.size
  · rw [h2.1.block k h]; exact h1.2 k hk h
  · exact h2.2 k (by omega) hk'
theorem tidy_alloc (w : World) (cs : Array Value) (e : TypeId) : Tidy w (w.alloc (.cells cs e (0, 0))) := by
  refine ⟨Below.alloc (Below.refl _ _) (Nat.le_refl _) _, fun k hk hk' => ?_⟩
  rw [size_alloc'] at hk'
  have : k = w.heap.size := by omega
  subst this
  exact iced_cells (heap_alloc_at w _)
theorem tidy_setCell {a w : World} (h : Tidy a w) {b : Nat} {v : Value} {t : TypeId} (hb : a.heap.size ≤ b) (hc : w.heap[b]? = some (.cells #[v] t (0, 0))) (u : Value) : Tidy a (w.setCell ⟨b, 0, none⟩ u) := by
  refine ⟨Below.setCell h.1 hb u, fun k hk hk' => ?_⟩
  by_cases hkb : k = b
  · subst hkb
    exact iced_cells (one_setCell hc)
  · rw [Below.heap_setCell w ⟨b, 0, none⟩ u k hkb]
    refine h.2 k hk ?_
    have hs : (w.setCell ⟨b, 0, none⟩ u).heap.size = w.heap.size := by simp [World.setCell]
    omega
/-! ### values that point into some blocks alone -/
def oc1 (bs : List Nat) : Value → Bool
  | .pointer (some a) => bs.contains a.block
  | .slice (some a) _ _ => bs.contains a.block
  | .iface t _ => !(Nat.beq t dead)
  | _ => true
def oc2 (bs : List Nat) : Value → Bool
  | .agg cs => cs.toList.all (oc1 bs)
  | v => oc1 bs v
def oc (bs : List Nat) : Value → Bool
  | .tuple vs => vs.toList.all (oc2 bs)
  | v => oc2 bs v
theorem mv1_on {m m' : Mp} {bs : List Nat} (h : ∀ b ∈ bs, m b = m' b) {v : Value} (hv : oc1 bs v = true) : mv1 m v = mv1 m' v := by
  unfold mv1
  split
  · simp only [oc1, List.contains_iff_mem] at hv; simp [mvA, h _ hv]
  · simp only [oc1, List.contains_iff_mem] at hv; simp [mvA, h _ hv]
  · rfl
  · rfl
theorem mv2_on {m m' : Mp} {bs : List Nat} (h : ∀ b ∈ bs, m b = m' b) {v : Value} (hv : oc2 bs v = true) : mv2 m v = mv2 m' v := by
  unfold mv2
  split
  · rename_i cs
    simp only [oc2, List.all_eq_true] at hv
    congr 1
    exact Array.map_congr_left fun x hx => mv1_on h (hv x (by simpa using hx))
  · rename_i hna
    refine mv1_on h ?_
    unfold oc2 at hv
    split at hv
    · rename_i cs; exact absurd rfl (hna cs)
    · exact hv
theorem mv_on {m m' : Mp} {bs : List Nat} (h : ∀ b ∈ bs, m b = m' b) {v : Value} (hv : oc bs v = true) : mv m v = mv m' v := by
  unfold mv
  split
  · rename_i vs
    simp only [oc, List.all_eq_true] at hv
    congr 1
    exact Array.map_congr_left fun x hx => mv2_on h (hv x (by simpa using hx))
  · rename_i hna
    refine mv2_on h ?_
    unfold oc at hv
    split at hv
    · rename_i cs; exact absurd rfl (hna cs)
    · exact hv
theorem oc_ren {bs : List Nat} {f : Nat → Nat} {n : Nat} (hf : ∀ b ∈ bs, f b < n) {v : Value} (hv : oc bs v = true) : lt n (rn f v) = true := by
  have h1 : ∀ v, oc1 bs v = true → lt1 n (rn1 f v) = true := fun v h => by
    cases v with
    | pointer a =>
      cases a with
      | none => rfl
      | some a => simp only [oc1, List.contains_iff_mem] at h; exact blt_iff.2 (hf _ h)
    | slice a l c =>
      cases a with
      | none => rfl
      | some a => simp only [oc1, List.contains_iff_mem] at h; exact blt_iff.2 (hf _ h)
    | iface t u => simp only [oc1, Bool.not_eq_true'] at h; simp [rn1, lt1, h]
    | _ => rfl
  have h2 : ∀ v, oc2 bs v = true → lt2 n (rn2 f v) = true := fun v h => by
    cases v with
    | agg cs =>
      simp only [oc2, lt2, rn2, Array.toList_map, List.all_eq_true, List.mem_map] at *
      rintro _ ⟨y, hy, rfl⟩
      exact h1 y (h y hy)
    | pointer a =>
      cases a with
      | none => rfl
      | some a => exact h1 (.pointer (some a)) h
    | slice a l c =>
      cases a with
      | none => rfl
      | some a => exact h1 (.slice (some a) l c) h
    | iface t u => exact h1 (.iface t u) h
    | _ => rfl
  cases v with
  | tuple cs =>
    simp only [oc, lt, rn, Array.toList_map, List.all_eq_true, List.mem_map] at *
    rintro _ ⟨y, hy, rfl⟩
    exact h2 y (hv y hy)
  | agg cs => exact h2 (.agg cs) hv
  | pointer a =>
    cases a with
    | none => rfl
    | some a => exact h1 (.pointer (some a)) hv
  | slice a l c =>
    cases a with
    | none => rfl
    | some a => exact h1 (.slice (some a) l c) hv
  | iface t u => exact h1 (.iface t u) hv
  | _ => rfl
/-! ### the smallest memory -/
/-- rows that are only read, no address in them -/
def Hp.rows (h : Hp) : Prop := h.l.length = h.n ∧ ∀ b x, h.blk? b = some x → ro x.2 = true ∧ (∀ v ∈ x.1, still v = true) ∧ ab x.2 = false
/-- these rows are there: block i's cells are the first of block s i's -/
def Hp.fits (h0 : Hp) (s : Nat → Nat) (h : Hp) : Prop := ∀ i x, h0.blk? i = some x → tomb x.2 = false → ∃ y r, h.blk? (s i) = some y ∧ tomb y.2 = false ∧ rt y.2 = rt x.2 ∧ y.1 = x.1 ++ r
theorem Emb.small {m : Mp} {B : Nat} {h h0 : Hp} {w : World} {s : Nat → Nat} (E : Emb m B h w) (hr : h0.rows) (hf : h0.fits s h) : Emb (fun i => m (s i)) w.heap.size h0 w where
  len := hr.1
  lies := fun b x hb hx => by
    obtain ⟨y, r, h1, h2, h3, h4⟩ := hf b x hb hx
    obtain ⟨r', z, l0, l1, _⟩ := E.lies _ _ h1 h2
    have calm := (hr.2 b x hb).2.1
    have e : x.1.map (mv1 m) = x.1.map (mv1 fun i => m (s i)) := still_map calm
    rw [h4, List.map_append] at l0 l1
    refine ⟨r.map (mv1 m) ++ r', z, ?_, ?_, fun hro => ?_⟩
    · simp at l0 ⊢; omega
    · rw [← e, l1, List.append_assoc]
    · rw [(hr.2 b x hb).1] at hro; cases hro
  low := fun b x hb hro => by rw [(hr.2 b x hb).1] at hro; cases hro
  ros := fun b x hb hx _ => by
    obtain ⟨y, r, h1, h2, _, _⟩ := hf b x hb hx
    exact E.here h1 h2
  inj := fun b b' x x' hb _ hro => by rw [(hr.2 b x hb).1] at hro; cases hro
  wf := fun b x hb v hv => still_lt (Nat.lt_of_le_of_lt (Nat.zero_le _) (Hp.blk_lt hb)) ((hr.2 b x hb).2.1 v hv)
  base := Nat.le_refl _
  ice := fun k h1 h2 => by omega
  abs := fun b x hb hx => by rw [(hr.2 b x hb).2.2] at hx; cases hx
/-- behind such a call: the value in the caller's numbers; no block of the call's own is kept -/
theorem row_calls {T : Tab} {f : Nat} {F : Func} {c : Code} (hF : T.P.funcs[f]? = some F) (hc : F.body = some c) {h0 : Hp} (hr : h0.rows) {vals : List Value} (hvals : ∀ v ∈ vals, lt h0.n v = true) {v : Value} (hv : oc (List.range h0.n) v = true)
    (hrun : Runs T c (vals ++ List.replicate (F.ntmps - vals.length) undef, h0, []) fun e y => (e = none ∨ e = some none) ∧ resS T.P F y.1 y.2.1 = some v)
    {m : Mp} {B : Nat} {h : Hp} {w : World} (E : Emb m B h w) {s : Nat → Nat} (hs : ∀ i, i < h0.n → s i < h.n) (hf : h0.fits s h) :
    Calls T.P f ((vals.map (rn s)).map (mv m)).toArray w fun e w' => e = .returned (mv m (rn s v)) ∧ Came m B h w (rn s v) h m w' := by
  have E0 := E.small hr hf
  have ev : (vals.map (rn s)).map (mv m) = vals.map (mv fun i => m (s i)) := by
    rw [List.map_map]
    exact List.map_congr_left fun y _ => mv_rn m s y
  rw [ev]
  refine calls_of_wp hF hc ?_
  have R : Rel (fun i => m (s i)) w.heap.size (vals ++ List.replicate (F.ntmps - vals.length) undef, h0, []) { tmps := (vals.map (mv fun i => m (s i))).toArray ++ Array.replicate (F.ntmps - (vals.map (mv fun i => m (s i))).toArray.size) undef, defers := [] } w := by
    refine ⟨?_, rfl, E0, ?_⟩
    · simp [mv_undef]
    · intro y hy
      rcases List.mem_append.1 hy with hy | hy
      · exact hvals y hy
      · rw [List.eq_of_mem_replicate hy]; simp [undef, lt]
  refine hrun _ _ _ w R _ fun e y he a' w' hR => ?_
  obtain ⟨hex, hres⟩ := he
  obtain ⟨m1, k1, k2, k3, _⟩ := hR
  obtain ⟨r1, r2⟩ := resS_run k2.emb k2.wf hres
  rw [← k2.tmps] at r1
  have e1 : mv m1 v = mv m (rn s v) := by
    rw [mv_rn]
    exact mv_on (fun b hb => k1 b (by simpa using hb)) hv
  rw [e1] at r1
  have td : Tidy w w' := ⟨k3, fun k h1 h2 => k2.emb.ice k h1 h2⟩
  obtain ⟨E', hb⟩ := clean_emb E td
  have post : a'.defers = [] ∧ ∃ v', (results F a'.tmps).run T.P w' = .ok v' w' ∧ (Ending.returned v' = .returned (mv m (rn s v)) ∧ Came m B h w (rn s v) h m w') :=
    ⟨k2.dfr, _, r1, rfl, ⟨Agree.refl _ _, E', hb, Nat.le_refl _, oc_ren (fun b hb => hs b (by simpa using hb)) hv⟩⟩
  rcases hex with rfl | rfl <;> exact post
/-- the same, where one block of the call's own is kept: 'k' in the small memory, the next one in the caller's -/
theorem row_calls1 {T : Tab} {f : Nat} {F : Func} {c : Code} (hF : T.P.funcs[f]? = some F) (hc : F.body = some c) {h0 : Hp} (hr : h0.rows) {vals : List Value} (hvals : ∀ v ∈ vals, lt h0.n v = true) {v : Value} {k : Nat}
    {cs : List Value} {ty : TypeId} (hcs : ∀ u ∈ cs, lt1 0 u = true) (hty : ro ty = false)
    (hrun : RunsW T c (vals ++ List.replicate (F.ntmps - vals.length) undef, h0, []) fun e y => (e = none ∨ e = some none) ∧ resS T.P F y.1 y.2.1 = some v ∧ ∃ r, y.2.1.blk? k = some (cs ++ r, ty))
    (hv0 : oc [k] v = true)
    {m : Mp} {B : Nat} {h : Hp} {w : World} (E : Emb m B h w) {s : Nat → Nat} (hf : h0.fits s h) :
    Calls T.P f ((vals.map (rn s)).map (mv m)).toArray w fun e w' => ∃ m', e = .returned (mv m' (rn (fun _ => h.n) v)) ∧ Came m B h w (rn (fun _ => h.n) v) (h.push cs ty) m' w' := by
  have E0 := E.small hr hf
  have ev : (vals.map (rn s)).map (mv m) = vals.map (mv fun i => m (s i)) := by
    rw [List.map_map]
    exact List.map_congr_left fun y _ => mv_rn m s y
  rw [ev]
  refine calls_of_wp hF hc ?_
  have R : Rel (fun i => m (s i)) w.heap.size (vals ++ List.replicate (F.ntmps - vals.length) undef, h0, []) { tmps := (vals.map (mv fun i => m (s i))).toArray ++ Array.replicate (F.ntmps - (vals.map (mv fun i => m (s i))).toArray.size) undef, defers := [] } w := by
    refine ⟨?_, rfl, E0, ?_⟩
    · simp [mv_undef]
    · intro y hy
      rcases List.mem_append.1 hy with hy | hy
      · exact hvals y hy
      · rw [List.eq_of_mem_replicate hy]; simp [undef, lt]
  refine hrun _ _ _ w R _ fun e y he m1 a' w' k2 k3 => ?_
  obtain ⟨hex, hres, r, hblk⟩ := he
  obtain ⟨r1, r2⟩ := resS_run k2.emb k2.wf hres
  rw [← k2.tmps] at r1
  have td : Tidy w w' := ⟨k3, fun k h1 h2 => k2.emb.ice k h1 h2⟩
  obtain ⟨E', hb⟩ := clean_emb E td
  have hlow : w.heap.size ≤ (m1 k).1 := k2.emb.low k _ hblk hty
  have hlie : lie w' (m1 k) (cs.map (mv1 m)) ty := by
    obtain ⟨r', z, l0, l1, l2⟩ := k2.emb.lies k _ hblk (tomb_ro hty)
    have e : cs.map (mv1 m1) = cs.map (mv1 m) := map_still hcs
    simp only [List.map_append] at l0 l1
    refine ⟨r.map (mv1 m1) ++ r', z, ?_, ?_, l2⟩
    · simp at l0 ⊢; omega
    · rw [← e, l1, List.append_assoc]
  have Ea := E'.adopt cs ty hty (fun u hu => lt1_mono (Nat.zero_le _) (hcs u hu)) hlie (Nat.le_trans E.base hlow) (fun b x hbx hx heq => by
    have := E.here hbx (tomb_ro hx)
    omega)
  have e1 : mv m1 v = mv (upd m h.n (m1 k)) (rn (fun _ => h.n) v) := by
    rw [mv_rn]
    refine mv_on (fun b hb => ?_) hv0
    rw [List.mem_singleton.1 hb]
    simp [upd]
  rw [e1] at r1
  have post : a'.defers = [] ∧ ∃ v', (results F a'.tmps).run T.P w' = .ok v' w' ∧ ∃ m', Ending.returned v' = .returned (mv m' (rn (fun _ => h.n) v)) ∧ Came m B h w (rn (fun _ => h.n) v) (h.push cs ty) m' w' :=
    ⟨k2.dfr, _, r1, upd m h.n (m1 k), rfl, ⟨upd_agree _ _ _, Ea, hb, Nat.le_succ _, oc_ren (bs := [k]) (fun b hb => by show h.n < h.n + 1; omega) hv0⟩⟩
  rcases hex with rfl | rfl <;> exact post
theorem compact {m : Mp} {B : Nat} {t t' : List Value} {h h' : Hp} {s : List Dec} {a : Act} {w : World} (R : Rel m B (t, h, s) a w) (f : Nat → Nat) (hl : h'.l.length = h'.n)
    (hb : ∀ i x, h'.blk? i = some x → (∀ v ∈ x.1, still v = true) ∧ ∃ y r, h.blk? (f i) = some y ∧ y.2 = x.2 ∧ y.1 = x.1 ++ r)
    (hi : ∀ i j x y, h'.blk? i = some x → h'.blk? j = some y → ro x.2 = false → ro y.2 = false → f i = f j → i = j)
    (ht : t'.map (mv fun i => m (f i)) = t.map (mv m)) (hw : ∀ v ∈ t', lt h'.n v = true) : Rel (fun i => m (f i)) B (t', h', s) a w := by
  have E := R.emb
  refine ⟨by rw [R.tmps]; simp only; rw [ht], R.dfr, ?_, hw⟩
  refine ⟨hl, ?_, ?_, ?_, ?_, ?_, E.base, E.ice, ?_⟩
  · intro b x hx ht
    obtain ⟨q1, y, r, q2, q3, q4⟩ := hb b x hx
    obtain ⟨r0, z, e1, e2, e3⟩ := E.lies (f b) y q2 (by rw [q3]; exact ht)
    rw [q4, List.map_append, still_map (m' := fun i => m (f i)) q1] at e1 e2
    refine ⟨r.map (mv1 m) ++ r0, z, by rw [← e1]; simp; omega, by rw [e2, List.append_assoc], by rw [← q3]; exact e3⟩
  · intro b x hx hr
    obtain ⟨_, y, r, q2, q3, _⟩ := hb b x hx
    exact E.low (f b) y q2 (by rw [q3]; exact hr)
  · intro b x hx ht hr
    obtain ⟨_, y, r, q2, q3, _⟩ := hb b x hx
    exact E.ros (f b) y q2 (by rw [q3]; exact ht) (by rw [q3]; exact hr)
  · intro b b' x x' hx hx' hr hr' he
    obtain ⟨_, y, r, q2, q3, _⟩ := hb b x hx
    obtain ⟨_, y', r', q2', q3', _⟩ := hb b' x' hx'
    exact hi b b' x x' hx hx' hr hr' (E.inj _ _ y y' q2 q2' (by rw [q3]; exact hr) (by rw [q3']; exact hr') he)
  · intro b x hx v hv
    exact still_lt (Nat.lt_of_le_of_lt (Nat.zero_le _) (Hp.blk_lt hx)) ((hb b x hx).1 v hv)
  · intro b x hx ha
    obtain ⟨q1, y, r, q2, q3, q4⟩ := hb b x hx
    obtain ⟨e1, r0, t0, z, e2, e3⟩ := E.abs (f b) y q2 (by rw [q3]; exact ha)
    rw [q3] at e1 e2 e3
    rw [q4, List.map_append, still_map (m' := fun i => m (f i)) q1] at e2 e3
    exact ⟨e1, r.map (mv1 m) ++ r0, t0, z, by rw [e2, List.append_assoc], by rw [List.length_append]; rw [List.length_append] at e3; omega⟩
/-- the temporaries that are needed, with their blocks' new numbers; the others as the world has them -/
theorem anew {m : Mp} (f : Nat → Nat) {front front' rest : List Value} (h : front'.map (rn f) = front) : (front' ++ rest.map (fun v => Value.iface dead (mv m v))).map (mv fun i => m (f i)) = (front ++ rest).map (mv m) := by
  rw [List.map_append, List.map_append, ← h, List.map_map, List.map_map]
  congr 1
  · exact List.map_congr_left fun v _ => (mv_rn m f v).symm
/-- the memory made small behind a piece of code -/
theorem RunsW.small {T : Tab} {c : Code} {x : Lf} {P : Ex → Lf → Prop} (hr : RunsW T c x P) {P' : Ex → Lf → Prop}
    (hp : ∀ e y, P e y → P' e y ∨ ∃ (front front' rest : List Value) (h h' : Hp) (s : List Dec) (f : Nat → Nat), y = (front ++ rest, h, s) ∧ front'.map (rn f) = front ∧ h'.l.length = h'.n ∧ 0 < h'.n ∧
      (∀ i x, h'.blk? i = some x → (∀ v ∈ x.1, still v = true) ∧ ∃ y r, h.blk? (f i) = some y ∧ y.2 = x.2 ∧ y.1 = x.1 ++ r) ∧
      (∀ i j x y, h'.blk? i = some x → h'.blk? j = some y → ro x.2 = false → ro y.2 = false → f i = f j → i = j) ∧ (∀ v ∈ front', lt h'.n v = true) ∧ ∀ g, P' e (front' ++ tl rest.length g, h', s)) : RunsW T c x P' := by
  intro m B a w R Q hQ
  refine hr m B a w R Q fun e y he m' a' w' R' hb' => ?_
  rcases hp e y he with h1 | ⟨front, front', rest, h, h', s, f, rfl, e1, e2, e3, e4, e5, e6, e7⟩
  · exact hQ e y h1 m' a' w' R' hb'
  · obtain ⟨g, hg⟩ := tl_of (J := rest.map (fun v => Value.iface dead (mv m' v))) (n := rest.length) (by simp)
    refine hQ e _ (e7 g) _ a' w' (compact R' f e2 e4 e5 (by rw [← hg]; exact anew f e1) ?_) hb'
    intro v hv
    rw [← hg] at hv
    rcases List.mem_append.1 hv with hv | hv
    · exact e6 v hv
    · obtain ⟨u, _, rfl⟩ := List.mem_map.1 hv
      simp [lt, lt2, lt1, e3, dead]
/-- a 'for', its memory made small behind each round -/
theorem RunsW.forLoop {T : Tab} {c : Code} {id : Nat} {x : Lf} {P : Lf → Prop} {R : Lf → Prop} (Inv : Nat → Lf → Prop)
    (round : ∀ n x, Inv n x → RunsW T c x fun e y => match e with | none => ∃ n', n' < n ∧ Inv n' y | some none => R y | some (some id') => id' = id ∧ P y) {n : Nat} (h0 : Inv n x) :
    RunsW T (.block id (.loop c)) x fun e y => match e with | none => P y | some none => R y | some (some _) => False := by
  refine RunsW.block (P1 := fun e y => match e with | none => False | some none => R y | some (some id') => id' = id ∧ P y) ?_ (fun y he => he.elim) (fun y he => he) (fun y he => he.2) (fun id' y hid he => absurd he.1 hid)
  refine RunsW.loop Inv (fun n x hI => (round n x hI).mono fun e y he => ?_) h0
  match e, he with
  | none, he => exact he
  | some none, he => exact he
  | some (some id'), he => exact he
theorem goesT_runsW {T : Tab} (hT : TabOk T) {N : Nat} {c : Code} {t : List Value} {h h' : Hp} {s s0 : List Dec} {k n : Nat} {e : Ex} {front : List Value} {cs : Log} (hG : GoesT (evC T N false c (t, h, s) ⟨[], [], []⟩) k n e front h' cs) (hcs : okLog cs) :
    RunsW T c (t, h, s0) fun e' y => e' = e ∧ (∃ g, y.1 = front ++ tl n g) ∧ y.2.1 = h' := (goesT_runs hT hG hcs).w
theorem tl_len (n : Nat) (g : Nat → Value) : (tl n g).length = n := by simp [tl]
/-- two blocks of a memory kept, the first and another one -/
def keep2 (b : Nat) (i : Nat) : Nat := if i = 0 then 0 else b
theorem blkTwo {x y : List Value × TypeId} {i : Nat} {z : List Value × TypeId} (h : (⟨2, [y, x]⟩ : Hp).blk? i = some z) : (i = 0 ∧ z = x) ∨ (i = 1 ∧ z = y) := by
  have : i < 2 := Hp.blk_lt h
  have : i = 0 ∨ i = 1 := by omega
  rcases this with rfl | rfl
  · exact .inl ⟨rfl, (Option.some.inj h).symm⟩
  · exact .inr ⟨rfl, (Option.some.inj h).symm⟩
/-- behind a round: the first block and the newest one are kept -/
theorem RunsW.two {T : Tab} {c : Code} {x0 : Lf} {ex : Ex} {front front' : List Value} {n b : Nat} {h : Hp} {x y : List Value × TypeId} (hr : RunsW T c x0 fun e z => e = ex ∧ (∃ g, z.1 = front ++ tl n g) ∧ z.2.1 = h)
    (hf : front'.map (rn (keep2 b)) = front) (hx : h.blk? 0 = some x) (hy : h.blk? b = some y) (hb : b ≠ 0) (sx : ∀ v ∈ x.1, still v = true) (sy : ∀ v ∈ y.1, still v = true) (hw : ∀ v ∈ front', lt 2 v = true) :
    RunsW T c x0 fun e z => e = ex ∧ (∃ g, z.1 = front' ++ tl n g) ∧ z.2.1 = ⟨2, [y, x]⟩ := by
  refine hr.small fun e z he => .inr ?_
  obtain ⟨rfl, ⟨g, h1⟩, h2⟩ := he
  obtain ⟨t, h', s⟩ := z
  simp only at h1 h2
  subst h1 h2
  refine ⟨front, front', tl n g, h', ⟨2, [y, x]⟩, s, keep2 b, rfl, hf, rfl, (by show 0 < 2; omega), fun i z hz => ?_, fun i j u v hi hj _ _ hij => ?_, hw, fun g' => ⟨rfl, ⟨g', by rw [tl_len]⟩, rfl⟩⟩
  · rcases blkTwo hz with ⟨rfl, rfl⟩ | ⟨rfl, rfl⟩
    · exact ⟨sx, z, [], by simpa [keep2] using hx, rfl, by simp⟩
    · exact ⟨sy, z, [], by simpa [keep2] using hy, rfl, by simp⟩
  · rcases blkTwo hi with ⟨rfl, _⟩ | ⟨rfl, _⟩ <;> rcases blkTwo hj with ⟨rfl, _⟩ | ⟨rfl, _⟩
    · rfl
    · simp [keep2] at hij; exact absurd hij.symm hb
    · simp [keep2] at hij; exact absurd hij hb
    · rfl
/-- the first blocks of a memory kept, and another one -/
def keepK (k b : Nat) (i : Nat) : Nat := if Nat.blt i k = true then i else b
theorem blkK1 {base : List (List Value × TypeId)} {k : Nat} (hk : base.length = k) {y : List Value × TypeId} {i : Nat} {z : List Value × TypeId} (h : (⟨k + 1, y :: base⟩ : Hp).blk? i = some z) : (i < k ∧ (⟨k, base⟩ : Hp).blk? i = some z) ∨ (i = k ∧ z = y) := by
  have hi : i < k + 1 := Hp.blk_lt h
  by_cases h0 : i = k
  · subst h0
    have : (⟨i + 1, y :: base⟩ : Hp).blk? i = some y := by
      unfold Hp.blk?
      rw [if_pos (blt_iff.2 (by show i < i + 1; omega))]
      show (y :: base)[i + 1 - 1 - i]? = some y
      rw [show i + 1 - 1 - i = 0 from by omega]
      rfl
    rw [this] at h
    exact .inr ⟨rfl, (Option.some.inj h).symm⟩
  · refine .inl ⟨by omega, ?_⟩
    unfold Hp.blk? at h ⊢
    rw [if_pos (blt_iff.2 (by show i < k + 1; omega))] at h
    rw [if_pos (blt_iff.2 (by show i < k; omega))]
    have e : k + 1 - 1 - i = (k - 1 - i) + 1 := by omega
    have h' : (y :: base)[k + 1 - 1 - i]? = some z := h
    rw [e, List.getElem?_cons_succ] at h'
    exact h'
/-- behind a round: the first blocks and one more are kept -/
theorem RunsW.kept {T : Tab} {c : Code} {x0 : Lf} {ex : Ex} {front front' : List Value} {n k b : Nat} {h : Hp} {base : List (List Value × TypeId)} {y : List Value × TypeId} (hr : RunsW T c x0 fun e z => e = ex ∧ (∃ g, z.1 = front ++ tl n g) ∧ z.2.1 = h)
    (hk : base.length = k) (hf : front'.map (rn (keepK k b)) = front) (hx : ∀ i x, (⟨k, base⟩ : Hp).blk? i = some x → h.blk? i = some x ∧ ∀ v ∈ x.1, still v = true) (hy : h.blk? b = some y) (hb : k ≤ b) (sy : ∀ v ∈ y.1, still v = true) (hw : ∀ v ∈ front', lt (k + 1) v = true) :
    RunsW T c x0 fun e z => e = ex ∧ (∃ g, z.1 = front' ++ tl n g) ∧ z.2.1 = ⟨k + 1, y :: base⟩ := by
  refine hr.small fun e z he => .inr ?_
  obtain ⟨rfl, ⟨g, h1⟩, h2⟩ := he
  obtain ⟨t, h', s⟩ := z
  simp only at h1 h2
  subst h1 h2
  refine ⟨front, front', tl n g, h', ⟨k + 1, y :: base⟩, s, keepK k b, rfl, hf, by simp [hk], Nat.succ_pos _, fun i z hz => ?_, fun i j u v hi hj _ _ hij => ?_, hw, fun g' => ⟨rfl, ⟨g', by rw [tl_len]⟩, rfl⟩⟩
  · rcases blkK1 hk hz with ⟨hi, hz'⟩ | ⟨rfl, rfl⟩
    · obtain ⟨q1, q2⟩ := hx i z hz'
      exact ⟨q2, z, [], by unfold keepK; rw [if_pos (blt_iff.2 hi)]; exact q1, rfl, by simp⟩
    · exact ⟨sy, z, [], by unfold keepK; rw [if_neg (by rw [blt_iff]; omega)]; exact hy, rfl, by simp⟩
  · unfold keepK at hij
    rcases blkK1 hk hi with ⟨h1, _⟩ | ⟨rfl, _⟩ <;> rcases blkK1 hk hj with ⟨h2, _⟩ | ⟨rfl, _⟩
    · rw [if_pos (blt_iff.2 h1), if_pos (blt_iff.2 h2)] at hij; exact hij
    · rw [if_pos (blt_iff.2 h1), if_neg (by rw [blt_iff]; omega)] at hij; omega
    · rw [if_pos (blt_iff.2 h2), if_neg (by rw [blt_iff]; omega)] at hij; omega
    · rfl
/-- a call with rows whose answer holds no address, and that keeps no block -/
theorem row_calls0 {T : Tab} {f : Nat} {F : Func} {c : Code} (hF : T.P.funcs[f]? = some F) (hc : F.body = some c) {h0 : Hp} (hr : h0.rows) {vals : List Value} (hvals : ∀ v ∈ vals, lt h0.n v = true) {v : Value} (hv : lt 0 v = true)
    (hrun : RunsW T c (vals ++ List.replicate (F.ntmps - vals.length) undef, h0, []) fun e y => (e = none ∨ e = some none) ∧ resS T.P F y.1 y.2.1 = some v)
    {m : Mp} {B : Nat} {h : Hp} {w : World} (E : Emb m B h w) {s : Nat → Nat} (hf : h0.fits s h) :
    Calls T.P f ((vals.map (rn s)).map (mv m)).toArray w fun e w' => ∃ m', e = .returned (mv m' v) ∧ Came m B h w v h m' w' := by
  have E0 := E.small hr hf
  have ev : (vals.map (rn s)).map (mv m) = vals.map (mv fun i => m (s i)) := by
    rw [List.map_map]
    exact List.map_congr_left fun y _ => mv_rn m s y
  rw [ev]
  refine calls_of_wp hF hc ?_
  have R : Rel (fun i => m (s i)) w.heap.size (vals ++ List.replicate (F.ntmps - vals.length) undef, h0, []) { tmps := (vals.map (mv fun i => m (s i))).toArray ++ Array.replicate (F.ntmps - (vals.map (mv fun i => m (s i))).toArray.size) undef, defers := [] } w := by
    refine ⟨?_, rfl, E0, ?_⟩
    · simp [mv_undef]
    · intro y hy
      rcases List.mem_append.1 hy with hy | hy
      · exact hvals y hy
      · rw [List.eq_of_mem_replicate hy]; simp [undef, lt]
  refine hrun _ _ _ w R _ fun e y he m1 a' w' k2 k3 => ?_
  obtain ⟨hex, hres⟩ := he
  obtain ⟨r1, r2⟩ := resS_run k2.emb k2.wf hres
  rw [← k2.tmps, mv_still hv] at r1
  have td : Tidy w w' := ⟨k3, fun k h1 h2 => k2.emb.ice k h1 h2⟩
  obtain ⟨E', hb⟩ := clean_emb E td
  have post : a'.defers = [] ∧ ∃ v', (results F a'.tmps).run T.P w' = .ok v' w' ∧ ∃ m', Ending.returned v' = .returned (mv m' v) ∧ Came m B h w v h m' w' :=
    ⟨k2.dfr, _, r1, m, by rw [mv_still hv], ⟨Agree.refl _ _, E', hb, Nat.le_refl _, lt_mono (Nat.zero_le _) hv⟩⟩
  rcases hex with rfl | rfl <;> exact post
end Go.KRun
namespace Go.Proofs.YtmgcnijpoklhkaaDoor
open Go.KRun Go.Wd
set_option maxRecDepth 100000
def conFS : Con := alt 55 gPrt (alt 26 (g2 (plain2 fmV4)) (alt 19 (g2 (plain2 subV4)) (alt 48 (g2 (plain2 addV4)) conN)))
theorem conFS_ok : ConOk conFS := alt_ok Tryd.func55 rfl gPrt_ok (alt_ok Tryd.func26 rfl (plain2_ok fm_calls) (alt_ok Tryd.func19 rfl (plain2_ok sub_calls) (alt_ok Tryd.func48 rfl (plain2_ok add_calls) conN_ok)))
def srP (F : Func) : List Code := [cFst (cBody F), cFst (cSnd (cBody F)), cFst (cSnd (cSnd (cBody F)))]
def srI (F : Func) : Code := cFst (cFst (cSnd (cSnd (cSnd (cBody F)))))
def srL (F : Func) : Code := cIn (cIn (cSnd (cFst (cSnd (cSnd (cSnd (cBody F)))))))
def srE (F : Func) : Code := cSnd (cSnd (cSnd (cSnd (cBody F))))
theorem sr_body : Tryd.f40.body = some (seqs (srP Tryd.f40) (.seq (.seq (srI Tryd.f40) (.block 0 (.loop (srL Tryd.f40)))) (srE Tryd.f40))) := by kernel_rfl
def aFx (n : Nat) : Value := .pointer (some ⟨n, 0, none⟩)
def kFx (x : W4) : List Value × TypeId := ([.int .u64 x.a, .int .u64 x.b, .int .u64 x.c, .int .u64 x.d], 24)
/-- the memory: the sum, the square, the answer, the angle, the term -/
def srH (t x q y : W4) : Hp := ⟨5, [kFx y, kFx q, kFx ⟨0, 0, 0, 0⟩, kFx x, kFx t]⟩
def srF (v0 v1 : Value) (n : Int) (v5 v8 v10 v11 v12 v13 v14 v15 v16 v17 : Value) (k : Int) : List Value := [v0, v1, .int .u64 n, aFx 0, aFx 1, v5, aFx 2, aFx 3, v8, aFx 4, v10, v11, v12, v13, v14, v15, v16, v17, .int .u64 k]
theorem sr_pre (t x : W4) (n : Int) : GoesT (evL (tabOf Tryd.prog extY conFS true) 300 (srP Tryd.f40) ([vW t, vW x, .int .u64 n] ++ List.replicate 39 undef, ⟨0, []⟩, []) ⟨[], [], []⟩) 18 24 none [vW t, vW x, .int .u64 n, aFx 0, aFx 1, undef, aFx 2, aFx 3, .bool (decide (115792089237316195423570985008687907853269984665640564039457584007913129639936 ≤ fmI x x)), aFx 4, undef, fmV4 x x, vW x, vW x, fmV4 x x, vW (W4.of (fmI x x)), .bool (decide (115792089237316195423570985008687907853269984665640564039457584007913129639936 ≤ fmI x x)), vW t] (srH t x (W4.of (fmI x x)) t) [q2 x x] := ⟨by kernel_rfl, by kernel_rfl, by kernel_rfl⟩
theorem sr_i (v0 v1 v2 v3 v4 v5 v6 v7 v8 v9 v10 v11 v12 v13 v14 v15 v16 v17 : Value) (g : Nat → Value) (h : Hp) : GoesT (evC (tabOf Tryd.prog extY conFS true) 100 false (srI Tryd.f40) ([v0, v1, v2, v3, v4, v5, v6, v7, v8, v9, v10, v11, v12, v13, v14, v15, v16, v17] ++ tl 24 g, h, []) ⟨[], [], []⟩) 19 23 none [v0, v1, v2, v3, v4, v5, v6, v7, v8, v9, v10, v11, v12, v13, v14, v15, v16, v17, .int .u64 0] h [] := ⟨by kernel_rfl, by kernel_rfl, by kernel_rfl⟩
section
variable (v0 v1 v5 v8 v10 v11 v12 v13 v14 v15 v16 v17 : Value) (t x q y : W4) (n k : Int) (g : Nat → Value)
/-- the term that comes -/
def srT (t q : W4) (n k : Int) : W4 := W4.of (fmI t q / (IntKind.u64.wrap (n + IntKind.u64.wrap (2 * k)) * (IntKind.u64.wrap (n + IntKind.u64.wrap (2 * k)) + 1)))
def srO (t q : W4) (n k : Int) : Bool × Bool := okPt t q (IntKind.u64.wrap (n + IntKind.u64.wrap (2 * k)))
theorem sr_out : GoesT (evC (tabOf Tryd.prog extY conFS true) 100 false (srL Tryd.f40) (srF v0 v1 n v5 v8 v10 v11 v12 v13 v14 v15 v16 v17 k ++ tl 23 g, srH t x q y, [cmp false]) ⟨[], [], []⟩) 19 23 (some (some 0)) (srF v0 v1 n v5 v8 v10 v11 v12 v13 v14 v15 v16 v17 k) (srH t x q y) [(decide (k < 28), false)] := ⟨by kernel_rfl, by kernel_rfl, by kernel_rfl⟩
theorem sr_brk : GoesT (evC (tabOf Tryd.prog extY conFS true) 100 false (srL Tryd.f40) (srF v0 v1 n v5 v8 v10 v11 v12 v13 v14 v15 v16 v17 k ++ tl 23 g, srH t x q y, [cmp true, sam true]) ⟨[], [], []⟩) 19 23 (some (some 0)) (srF v0 v1 n v5 v8 (.int .u64 k) v11 v12 v13 v14 v15 v16 v17 k) (srH (srT t q n k) x q y) [(eqW (srT t q n k) ⟨0, 0, 0, 0⟩, true), srO t q n k, (decide (k < 28), true)] := ⟨by kernel_rfl, by kernel_rfl, by kernel_rfl⟩
theorem sr_less : GoesT (evC (tabOf Tryd.prog extY conFS true) 100 false (srL Tryd.f40) (srF v0 v1 n v5 v8 v10 v11 v12 v13 v14 v15 v16 v17 k ++ tl 23 g, srH t x q y, [cmp true, sam false, cmp false, cmp true]) ⟨[], [], []⟩) 19 23 none (srF v0 v1 n v5 v8 (.int .u64 k) v11 v12 v13 v14 v15 v16 v17 (IntKind.u64.wrap (k + 1))) (srH (srT t q n k) x q (W4.of (y.val - (srT t q n k).val))) [q2 y (srT t q n k), (k.tmod 2 == 0, true), (decide ((2 : Int) = 0), false), (eqW (srT t q n k) ⟨0, 0, 0, 0⟩, false), srO t q n k, (decide (k < 28), true)] := ⟨by kernel_rfl, by kernel_rfl, by kernel_rfl⟩
theorem sr_plus : GoesT (evC (tabOf Tryd.prog extY conFS true) 100 false (srL Tryd.f40) (srF v0 v1 n v5 v8 v10 v11 v12 v13 v14 v15 v16 v17 k ++ tl 23 g, srH t x q y, [cmp true, sam false, cmp false, cmp false]) ⟨[], [], []⟩) 19 23 none (srF v0 v1 n v5 v8 (.int .u64 k) v11 v12 v13 v14 v15 v16 v17 (IntKind.u64.wrap (k + 1))) (srH (srT t q n k) x q (W4.of (y.val + (srT t q n k).val))) [q2 y (srT t q n k), (k.tmod 2 == 0, false), (decide ((2 : Int) = 0), false), (eqW (srT t q n k) ⟨0, 0, 0, 0⟩, false), srO t q n k, (decide (k < 28), true)] := ⟨by kernel_rfl, by kernel_rfl, by kernel_rfl⟩
theorem sr_end : GoesT (evC (tabOf Tryd.prog extY conFS true) 100 false (srE Tryd.f40) (srF v0 v1 n v5 v8 v10 v11 v12 v13 v14 v15 v16 v17 k ++ tl 23 g, srH t x q y, []) ⟨[], [], []⟩) 19 23 (some none) (srF v0 v1 n v5 v8 v10 v11 v12 v13 v14 v15 v16 v17 k) ⟨5, [kFx y, kFx q, kFx y, kFx x, kFx t]⟩ [] := ⟨by kernel_rfl, by kernel_rfl, by kernel_rfl⟩
end
theorem uP_is : Go.Fx.uP = 452312848583266388373324160190187140051835877600158453279131187530910662656 := by rfl
theorem of_sub (A b : Int) : W4.of ((W4.of A).val - b) = W4.of (A - b) := by
  rw [W4.val_of, ← of_mod (_ - b), ← of_mod (A - b)]
  congr 1
  omega
theorem of_add (A b : Int) : W4.of ((W4.of A).val + b) = W4.of (A + b) := by
  rw [W4.val_of, ← of_mod (_ + b), ← of_mod (A + b)]
  congr 1
  omega
theorem ofN_val {n : Nat} (h : n ≤ Go.Fx.uP) : (ofN n).val = (n : Int) := by
  rw [uP_is] at h
  unfold ofN
  rw [W4.val_of]
  omega
theorem fmI_of {a b : Nat} (ha : a ≤ Go.Fx.uP) (hb : b ≤ Go.Fx.uP) : fmI (ofN a) (ofN b) = ((a * b / Go.Fx.uP : Nat) : Int) := by
  unfold fmI
  rw [ofN_val ha, ofN_val hb, uP_is]
  omega
theorem ofN_none {n : Nat} (h : n ≤ Go.Fx.uP) : eqW (ofN n) ⟨0, 0, 0, 0⟩ = decide (n = 0) := by
  rw [Bool.eq_iff_iff, eqW_iff, decide_eq_true_eq]
  constructor
  · intro e
    have := congrArg W4.val e
    rw [ofN_val h] at this
    have z : (⟨0, 0, 0, 0⟩ : W4).val = 0 := rfl
    omega
  · rintro rfl
    exact ofN_zero
section
variable (f x n : Nat)
/-- the square; the terms; the sums -/
def sqF : Nat := x * x / Go.Fx.uP
def tF (k : Nat) : Nat := Go.Fx.tm Go.Fx.uP (sqF x) f n k
def yF (k : Nat) : Int := Go.Fx.sr Go.Fx.uP (sqF x) f n k
end
section
variable {f x n : Nat} (hf : f ≤ Go.Fx.uP) (hx : x ≤ Go.Fx.uP) (hn : 1 ≤ n ∧ n ≤ 100)
include hx in
theorem sqF_le : sqF x ≤ Go.Fx.uP := Go.Fx.sq_le Go.Fx.uP_pos hx
include hf hx in
theorem tF_le (k : Nat) : tF f x n k ≤ Go.Fx.uP := Nat.le_trans (Go.Fx.tm_le Go.Fx.uP_pos (sqF_le hx) k) hf
include hf hx hn in
theorem srT_is {k : Nat} (hk : k < 28) : srT (ofN (tF f x n k)) (ofN (sqF x)) (n : Int) (k : Int) = ofN (tF f x n (k + 1)) ∧ (srO (ofN (tF f x n k)) (ofN (sqF x)) (n : Int) (k : Int)).1 = (srO (ofN (tF f x n k)) (ofN (sqF x)) (n : Int) (k : Int)).2 := by
  have ew : IntKind.u64.wrap ((n : Int) + IntKind.u64.wrap (2 * (k : Int))) = ((n + 2 * k : Nat) : Int) := by
    rw [wrap_u64' (n := 2 * (k : Int)) (by omega) (by omega), wrap_u64' (by omega) (by omega)]
    omega
  have hfm := fmI_of (tF_le hf hx k) (sqF_le hx) (a := tF f x n k)
  have hle : tF f x n k * sqF x / Go.Fx.uP ≤ Go.Fx.uP := by
    have := Nat.mul_le_mul (tF_le hf hx k (n := n)) (sqF_le hx)
    exact Nat.le_trans (Nat.div_le_div_right this) (by rw [Nat.mul_div_cancel _ Go.Fx.uP_pos]; exact Nat.le_refl _)
  constructor
  · unfold srT ofN
    rw [ew]
    unfold ofN at hfm
    rw [hfm]
    congr 1
  · unfold srO okPt
    rw [ew]
    have n1 : (1 : Int) ≤ ((n + 2 * k : Nat) : Int) := by omega
    have n2 : ((n + 2 * k : Nat) : Int) ≤ 1000 := by omega
    have hl : fmI (ofN (tF f x n k)) (ofN (sqF x)) < 115792089237316195423570985008687907853269984665640564039457584007913129639936 := by
      rw [hfm]
      clear hfm
      generalize tF f x n k * sqF x / Go.Fx.uP = p at *
      rw [uP_is] at hle
      omega
    dsimp only
    exact decide_eq_true ⟨ofN_ok _, ofN_ok _, hl, n1, n2⟩
/-- what holds at the loop's head -/
def sI (f x n : Nat) (v0 v1 v5 v8 v11 v12 v13 v14 v15 v16 v17 : Value) (k : Nat) (y : Lf) : Prop := ∃ v10 g, y.1 = srF v0 v1 (n : Int) v5 v8 v10 v11 v12 v13 v14 v15 v16 v17 (k : Int) ++ tl 23 g ∧ y.2.1 = srH (ofN (tF f x n k)) (ofN x) (ofN (sqF x)) (W4.of (yF f x n (k + 1)))
def sFinX (f x n : Nat) (v0 v1 v5 v8 v11 v12 v13 v14 v15 v16 v17 : Value) (y : Lf) : Prop := ∃ v10 t k g, y.1 = srF v0 v1 (n : Int) v5 v8 v10 v11 v12 v13 v14 v15 v16 v17 k ++ tl 23 g ∧ y.2.1 = srH t (ofN x) (ofN (sqF x)) (W4.of (yF f x n 29))
include hf hx hn in
theorem sr_round (v0 v1 v5 v8 v11 v12 v13 v14 v15 v16 v17 : Value) {k : Nat} (hk : k ≤ 28) {y : Lf} (h : sI f x n v0 v1 v5 v8 v11 v12 v13 v14 v15 v16 v17 k y) :
    Runs (tabOf Tryd.prog extY conFS true) (srL Tryd.f40) y fun e z => match e with | none => k < 28 ∧ sI f x n v0 v1 v5 v8 v11 v12 v13 v14 v15 v16 v17 (k + 1) z | some none => False | some (some id') => id' = 0 ∧ sFinX f x n v0 v1 v5 v8 v11 v12 v13 v14 v15 v16 v17 z := by
  obtain ⟨t, h', s⟩ := y
  obtain ⟨v10, g, ht, hh⟩ := h
  simp only at ht hh
  subst ht hh
  have T := tabY_ok conFS_ok
  by_cases c : k < 28
  · have hlt : decide ((k : Int) < 28) = true := decide_eq_true (by omega)
    obtain ⟨e1, o1⟩ := srT_is hf hx hn c
    have e2 := ofN_none (tF_le hf hx (n := n) (k + 1))
    have ek : IntKind.u64.wrap ((k : Int) + 1) = ((k + 1 : Nat) : Int) := by rw [wrap_u64' (by omega) (by omega)]; omega
    have oQ : (q2 (W4.of (yF f x n (k + 1))) (ofN (tF f x n (k + 1)))).1 = (q2 (W4.of (yF f x n (k + 1))) (ofN (tF f x n (k + 1)))).2 := decide_eq_true ⟨W4.ok_of _, ofN_ok _⟩
    have hv := ofN_val (tF_le hf hx (n := n) (k + 1))
    by_cases z : tF f x n (k + 1) = 0
    · have hg := sr_brk v0 v1 v5 v8 v10 v11 v12 v13 v14 v15 v16 v17 (ofN (tF f x n k)) (ofN x) (ofN (sqF x)) (W4.of (yF f x n (k + 1))) n k g
      rw [e1] at hg
      refine (goesT_runs (s0 := s) T hg (okPC (by rw [e2]; exact decide_eq_true z) (okPC o1 (okP1 hlt)))).mono fun e w hw => ?_
      obtain ⟨rfl, ⟨g', z1⟩, z2⟩ := hw
      refine ⟨rfl, _, ofN (tF f x n (k + 1)), _, g', z1, ?_⟩
      have : yF f x n 29 = yF f x n (k + 1) := by
        have := Go.Fx.sr_stop z (28 - k)
        rw [show k + 1 + (28 - k) = 29 by omega] at this
        exact this
      rw [z2, this]
    · have e2' : eqW (ofN (tF f x n (k + 1))) ⟨0, 0, 0, 0⟩ = false := by rw [e2]; exact decide_eq_false z
      rcases Nat.mod_two_eq_zero_or_one k with m | m
      · have hg := sr_less v0 v1 v5 v8 v10 v11 v12 v13 v14 v15 v16 v17 (ofN (tF f x n k)) (ofN x) (ofN (sqF x)) (W4.of (yF f x n (k + 1))) n k g
        rw [e1, ek, hv, of_sub] at hg
        have hm : ((k : Int).tmod 2 == 0) = true := by rw [beq_iff_eq, Int.tmod_eq_emod_of_nonneg (by omega)]; omega
        refine (goesT_runs (s0 := s) T hg (okPC oQ (okPC hm (okPC (by decide) (okPC e2' (okPC o1 (okP1 hlt))))))).mono fun e w hw => ?_
        obtain ⟨rfl, ⟨g', z1⟩, z2⟩ := hw
        refine ⟨c, _, g', z1, ?_⟩
        have : yF f x n (k + 1 + 1) = yF f x n (k + 1) - ((tF f x n (k + 1) : Nat) : Int) := by
          show (if (k + 1) % 2 = 0 then _ else _) = _
          rw [if_neg (by omega)]
          rfl
        rw [z2, this]
      · have hg := sr_plus v0 v1 v5 v8 v10 v11 v12 v13 v14 v15 v16 v17 (ofN (tF f x n k)) (ofN x) (ofN (sqF x)) (W4.of (yF f x n (k + 1))) n k g
        rw [e1, ek, hv, of_add] at hg
        have hm : ((k : Int).tmod 2 == 0) = false := by rw [beq_eq_false_iff_ne, Int.tmod_eq_emod_of_nonneg (by omega)]; omega
        refine (goesT_runs (s0 := s) T hg (okPC oQ (okPC hm (okPC (by decide) (okPC e2' (okPC o1 (okP1 hlt))))))).mono fun e w hw => ?_
        obtain ⟨rfl, ⟨g', z1⟩, z2⟩ := hw
        refine ⟨c, _, g', z1, ?_⟩
        have : yF f x n (k + 1 + 1) = yF f x n (k + 1) + ((tF f x n (k + 1) : Nat) : Int) := by
          show (if (k + 1) % 2 = 0 then _ else _) = _
          rw [if_pos (by omega)]
          rfl
        rw [z2, this]
  · have e : k = 28 := by omega
    subst e
    refine (goesT_runs (s0 := s) T (sr_out v0 v1 v5 v8 v10 v11 v12 v13 v14 v15 v16 v17 (ofN (tF f x n 28)) (ofN x) (ofN (sqF x)) (W4.of (yF f x n (28 + 1))) n ((28 : Nat) : Int) g) (okL1 (by decide))).mono fun e w hw => ?_
    obtain ⟨rfl, ⟨g', z1⟩, z2⟩ := hw
    exact ⟨rfl, _, _, _, g', z1, z2⟩
include hf hx hn in
theorem series_calls (w : World) : Calls Tryd.prog 40 #[vW (ofN f), vW (ofN x), .int .u64 (n : Int)] w fun e w' => e = .returned (vW (W4.of (yF f x n 29))) ∧ Tidy w w' := by
  have T := tabY_ok conFS_ok
  refine calls_of_runs (T := tabOf Tryd.prog extY conFS true) Tryd.func40 sr_body (vals := [vW (ofN f), vW (ofN x), .int .u64 (n : Int)]) (by rfl) (by rfl) ?_ w
  refine goesT_list T (sr_pre (ofN f) (ofN x) n) (okL1 (decide_eq_true ⟨ofN_ok _, ofN_ok _⟩)) fun g => ?_
  have es : W4.of (fmI (ofN x) (ofN x)) = ofN (sqF x) := by rw [fmI_of hx hx]; rfl
  rw [es]
  refine Runs.seq (P1 := fun e y => e = none ∧ ∃ v0 v1 v5 v8 v11 v12 v13 v14 v15 v16 v17, sFinX f x n v0 v1 v5 v8 v11 v12 v13 v14 v15 v16 v17 y) ?_ ?_ (fun e y he => by cases he.1)
  · refine Runs.seq (goesT_runs T (sr_i _ _ _ _ _ _ _ _ _ _ _ _ _ _ _ _ _ _ g _) okNil) ?_ (fun e y he => by cases he.1)
    rintro ⟨t, h', s⟩ ⟨_, ⟨g', ht⟩, hh⟩
    simp only at ht hh
    subst ht hh
    refine (Runs.forLoop (T := tabOf Tryd.prog extY conFS true) (c := srL Tryd.f40) (id := 0) (R := fun _ => False) (P := fun y => ∃ v0 v1 v5 v8 v11 v12 v13 v14 v15 v16 v17, sFinX f x n v0 v1 v5 v8 v11 v12 v13 v14 v15 v16 v17 y) (fun j y => ∃ k, j = 28 - k ∧ k ≤ 28 ∧ sI f x n _ _ _ _ _ _ _ _ _ _ _ k y) ?_ (n := 28) ⟨0, by omega, by omega, _, g', rfl, ?_⟩).mono fun e z hz => ?_
    · rintro j y ⟨k, hj, hk, hI⟩
      refine (sr_round hf hx hn _ _ _ _ _ _ _ _ _ _ _ hk hI).mono fun e z hz => ?_
      match e, hz with
      | none, hz => exact ⟨28 - (k + 1), by omega, k + 1, rfl, by omega, hz.2⟩
      | some none, hz => exact hz.elim
      | some (some _), hz => exact ⟨hz.1, _, _, _, _, _, _, _, _, _, _, _, hz.2⟩
    · have : yF f x n (0 + 1) = (f : Int) := by
        show (0 : Int) + ((f : Nat) : Int) = _
        omega
      rw [this]
      rfl
    · match e, hz with
      | none, hz => exact ⟨rfl, hz⟩
      | some none, hz => exact hz.elim
      | some (some _), hz => exact hz.elim
  · rintro ⟨t, h', s⟩ ⟨_, v0, v1, v5, v8, v11, v12, v13, v14, v15, v16, v17, v10, tt, k, g', ht, hh⟩
    simp only at ht hh
    subst ht hh
    refine (goesT_runs T (sr_end v0 v1 v5 v8 v10 v11 v12 v13 v14 v15 v16 v17 tt (ofN x) (ofN (sqF x)) (W4.of (yF f x n 29)) n k g') okNil).mono fun e z hz => ?_
    obtain ⟨rfl, ⟨g2, z1⟩, z2⟩ := hz
    refine ⟨.inr rfl, ?_⟩
    rw [z1, z2]
    rfl
end
def okSer (a b : W4) (n : Int) : Bool × Bool := (decide (a.ok ∧ b.ok ∧ a.nat ≤ Go.Fx.uP ∧ b.nat ≤ Go.Fx.uP ∧ 1 ≤ n ∧ n ≤ 100), true)
def serW (a b : W4) (n : Int) : W4 := W4.of (yF a.nat b.nat n.toNat 29)
def gSer : Ans := fun vals s =>
  match vals with
  | [x, y, .int .u64 n] =>
    match w4 x, w4 y with
    | some a, some b => some (vW (serW a b n), s, [okSer a b n])
    | _, _ => none
  | _ => none
theorem gSer_ok : AnsOk 40 gSer := by
  intro vals s v s' lg h hl w
  unfold gSer at h
  split at h
  · rename_i x y n
    split at h
    · rename_i a b ha hb
      cases h
      have h1 := hl _ (List.mem_singleton.2 rfl)
      simp only [okSer, decide_eq_true_eq] at h1
      obtain ⟨k1, k2, k3, k4, k5, k6⟩ := h1
      rw [w4_spec ha, w4_spec hb]
      have := series_calls (n := Int.toNat n) k3 k4 ⟨by omega, by omega⟩ w
      rw [ofN_self k1, ofN_self k2, Int.toNat_of_nonneg (by omega)] at this
      exact this
    · cases h
  · cases h
def conFO : Con := alt 29 (g1n (plain1n shlV4)) conN
theorem conFO_ok : ConOk conFO := alt_ok Tryd.func29 rfl (plain1n_ok shl_calls) conN_ok
/-- 1 -/
def oneW : W4 := ⟨0, 0, 0, 72057594037927936⟩
def g0 (k : Value) : Ans := fun vals s => match vals with | [] => some (k, s, []) | _ => none
theorem g0_ok {f : Nat} {k : Value} (hk : ∀ w, Calls Tryd.prog f #[] w fun e w' => e = .returned k ∧ Tidy w w') : AnsOk f (g0 k) := by
  intro vals s v s' lg h hl w
  unfold g0 at h
  split at h
  · cases h
    exact hk w
  · cases h
theorem one_fits : Fits (reckon (tabOf Tryd.prog extY conFO true) 300 38 [] []) (vW (shlW ⟨1, 0, 0, 0⟩ 248)) [qk ⟨1, 0, 0, 0⟩ 248] := ⟨by kernel_rfl, by kernel_rfl, by kernel_rfl, by kernel_rfl⟩
theorem one_calls (w : World) : Calls Tryd.prog 38 #[] w fun e w' => e = .returned (vW oneW) ∧ Tidy w w' := by
  have e : shlW ⟨1, 0, 0, 0⟩ 248 = oneW := eqW_iff.1 (by decide +kernel)
  have := fits_calls (tabY_ok conFO_ok) one_fits (okL1 (by decide)) (by rfl) (by rfl) w
  rw [e] at this
  exact this
def conFT : Con := alt 38 (g0 (vW oneW)) (alt 17 (g2 (plain2 cmpV4)) (alt 40 gSer (alt 39 (g1 bdV4) conN)))
theorem conFT_ok : ConOk conFT := alt_ok Tryd.func38 rfl (g0_ok one_calls) (alt_ok Tryd.func17 rfl (plain2_ok cmp_calls) (alt_ok Tryd.func40 rfl gSer_ok (alt_ok Tryd.func39 rfl (g1_ok bd_calls) conN_ok)))
def cg1 (x : W4) (d : Bool) : Bool × Bool := (decide (cmpI x oneW > 0), d)
def oW (x : W4) : Bool × Bool := (decide x.ok, true)
theorem sin_big (x : W4) : Fits (reckon (tabOf Tryd.prog extY conFT true) 300 15 [vW x] [cmp true]) (.tuple #[vW ⟨0, 0, 0, 0⟩, vW ⟨0, 0, 0, 0⟩, .iface 57 (.int .i64 1)]) [cg1 x true, q2 x oneW] := ⟨by kernel_rfl, by kernel_rfl, by kernel_rfl, by kernel_rfl⟩
theorem sin_in (x : W4) : Fits (reckon (tabOf Tryd.prog extY conFT true) 300 15 [vW x] [cmp false]) (.tuple #[vW (ofN (Go.Fx.lo32 (serW x x 2).val)), vW (ofN (Go.Fx.hi32 (serW x x 2).val)), .nilIface]) [oW (serW x x 2), okSer x x 2, cg1 x false, q2 x oneW] := ⟨by kernel_rfl, by kernel_rfl, by kernel_rfl, by kernel_rfl⟩
theorem cos_big (x : W4) : Fits (reckon (tabOf Tryd.prog extY conFT true) 300 16 [vW x] [cmp true]) (.tuple #[vW ⟨0, 0, 0, 0⟩, vW ⟨0, 0, 0, 0⟩, .iface 57 (.int .i64 1)]) [cg1 x true, q2 x oneW] := ⟨by kernel_rfl, by kernel_rfl, by kernel_rfl, by kernel_rfl⟩
theorem cos_in (x : W4) : Fits (reckon (tabOf Tryd.prog extY conFT true) 300 16 [vW x] [cmp false]) (.tuple #[vW (ofN (Go.Fx.lo32 (serW oneW x 1).val)), vW (ofN (Go.Fx.hi32 (serW oneW x 1).val)), .nilIface]) [oW (serW oneW x 1), okSer oneW x 1, oW (serW oneW x 1), okSer oneW x 1, oW (serW oneW x 1), oW (serW oneW x 1), okSer oneW x 1, oW (serW oneW x 1), okSer oneW x 1, oW (serW oneW x 1), okSer oneW x 1, oW (serW oneW x 1), oW (serW oneW x 1), okSer oneW x 1, oW (serW oneW x 1), okSer oneW x 1, oW (serW oneW x 1), oW (serW oneW x 1), okSer oneW x 1, oW (serW oneW x 1), okSer oneW x 1, oW (serW oneW x 1), oW (serW oneW x 1), okSer oneW x 1, oW (serW oneW x 1), oW (serW oneW x 1), oW (serW oneW x 1), oW (serW oneW x 1), oW (serW oneW x 1), okSer oneW x 1, cg1 x false, q2 x oneW] := ⟨by kernel_rfl, by kernel_rfl, by kernel_rfl, by kernel_rfl⟩
theorem oneW_ok : oneW.ok := by decide
theorem oneW_nat : oneW.nat = Go.Fx.uP := by rfl
theorem cg1_iff {x : W4} (hx : x.ok) : cmpI x oneW > 0 ↔ Go.Fx.uP < x.nat := by
  have h := W4.nat_val hx
  have e : oneW.val = 452312848583266388373324160190187140051835877600158453279131187530910662656 := by rfl
  rw [uP_is]
  unfold cmpI
  rw [e, h]
  split
  · omega
  · split <;> omega
theorem serW_val {a b n : Nat} (ha : a ≤ Go.Fx.uP) (hb : b ≤ Go.Fx.uP) : (W4.of (yF a b n 29)).val = yF a b n 29 := by
  have h : 0 ≤ yF a b n 29 ∧ yF a b n 29 ≤ (a : Int) := Go.Fx.sr_bd Go.Fx.uP_pos (Go.Fx.sq_le Go.Fx.uP_pos hb) 29
  rw [uP_is] at ha
  rw [W4.val_of, Int.emod_eq_of_lt h.1 (by omega)]
/-- the bounds -/
def slN (x : W4) : Nat := Go.Fx.lo32 (Go.Fx.sS Go.Fx.uP 29 x.nat)
def shN (x : W4) : Nat := Go.Fx.hi32 (Go.Fx.sS Go.Fx.uP 29 x.nat)
def clN (x : W4) : Nat := Go.Fx.lo32 (Go.Fx.cS Go.Fx.uP 29 x.nat)
def chN (x : W4) : Nat := Go.Fx.hi32 (Go.Fx.cS Go.Fx.uP 29 x.nat)
def tooV : Value := .tuple #[vW ⟨0, 0, 0, 0⟩, vW ⟨0, 0, 0, 0⟩, .iface 57 (.int .i64 1)]
def sinV (x : W4) : Value := .tuple #[vW (ofN (slN x)), vW (ofN (shN x)), .nilIface]
def cosV (x : W4) : Value := .tuple #[vW (ofN (clN x)), vW (ofN (chN x)), .nilIface]
/-- of an angle: above 1 an error; told ahead -/
def gAng (k : W4 → Value) : Ans := fun vals s =>
  match vals, s with
  | [x], .inr (.inr (.inr (.inl d))) :: s' =>
    match w4 x, d with
    | some a, true => some (tooV, s', [(decide (Go.Fx.uP < a.nat), true), (decide a.ok, true)])
    | some a, false => some (k a, s', [(decide (Go.Fx.uP < a.nat), false), (decide a.ok, true)])
    | _, _ => none
  | _, _ => none
theorem gAng_ok {f : Nat} {k : W4 → Value} (hk : ∀ x : W4, x.ok → ∀ w, Calls Tryd.prog f #[vW x] w fun e w' => e = .returned (if Go.Fx.uP < x.nat then tooV else k x) ∧ Tidy w w') : AnsOk f (gAng k) := by
  intro vals s v s' lg h hl w
  unfold gAng at h
  split at h
  · rename_i x d s2
    split at h
    · rename_i a ha
      cases h
      have h1 := of_decide_eq_true (hl _ List.mem_cons_self)
      have h2 := of_decide_eq_true (hl _ (List.mem_cons_of_mem _ (List.mem_singleton.2 rfl)))
      have := hk a h2 w
      rw [if_pos h1] at this
      rw [w4_spec ha]
      exact this
    · rename_i a ha
      cases h
      have h1 := of_decide_eq_false (hl _ List.mem_cons_self)
      have h2 := of_decide_eq_true (hl _ (List.mem_cons_of_mem _ (List.mem_singleton.2 rfl)))
      have := hk a h2 w
      rw [if_neg h1] at this
      rw [w4_spec ha]
      exact this
    · cases h
  · cases h
theorem sin_calls (x : W4) (hx : x.ok) (w : World) : Calls Tryd.prog 15 #[vW x] w fun e w' => e = .returned (if Go.Fx.uP < x.nat then tooV else sinV x) ∧ Tidy w w' := by
  have T := tabY_ok conFT_ok
  have h2 : (q2 x oneW).1 = (q2 x oneW).2 := decide_eq_true ⟨hx, oneW_ok⟩
  by_cases c : Go.Fx.uP < x.nat
  · rw [if_pos c]
    have h1 : (cg1 x true).1 = (cg1 x true).2 := decide_eq_true ((cg1_iff hx).2 c)
    exact fits_calls T (sin_big x) (okPC h1 (okPC h2 okNil)) (by rfl) (by rfl) w
  · rw [if_neg c]
    have h1 : (cg1 x false).1 = (cg1 x false).2 := decide_eq_false fun h => c ((cg1_iff hx).1 h)
    have hl : x.nat ≤ Go.Fx.uP := by omega
    have h3 : (okSer x x 2).1 = (okSer x x 2).2 := decide_eq_true ⟨hx, hx, hl, hl, by decide, by decide⟩
    have h4 : (oW (serW x x 2)).1 = (oW (serW x x 2)).2 := decide_eq_true (W4.ok_of _)
    have e : (serW x x 2).val = Go.Fx.sS Go.Fx.uP 29 x.nat := serW_val hl hl
    have := fits_calls T (sin_in x) (okPC h4 (okPC h3 (okPC h1 (okPC h2 okNil)))) (by rfl) (by rfl) w
    rw [e] at this
    exact this
theorem cos_calls (x : W4) (hx : x.ok) (w : World) : Calls Tryd.prog 16 #[vW x] w fun e w' => e = .returned (if Go.Fx.uP < x.nat then tooV else cosV x) ∧ Tidy w w' := by
  have T := tabY_ok conFT_ok
  have h2 : (q2 x oneW).1 = (q2 x oneW).2 := decide_eq_true ⟨hx, oneW_ok⟩
  by_cases c : Go.Fx.uP < x.nat
  · rw [if_pos c]
    have h1 : (cg1 x true).1 = (cg1 x true).2 := decide_eq_true ((cg1_iff hx).2 c)
    exact fits_calls T (cos_big x) (okPC h1 (okPC h2 okNil)) (by rfl) (by rfl) w
  · rw [if_neg c]
    have h1 : (cg1 x false).1 = (cg1 x false).2 := decide_eq_false fun h => c ((cg1_iff hx).1 h)
    have hl : x.nat ≤ Go.Fx.uP := by omega
    have h3 : (okSer oneW x 1).1 = (okSer oneW x 1).2 := decide_eq_true ⟨oneW_ok, hx, Nat.le_of_eq oneW_nat, hl, by decide, by decide⟩
    have h4 : (oW (serW oneW x 1)).1 = (oW (serW oneW x 1)).2 := decide_eq_true (W4.ok_of _)
    have e : (serW oneW x 1).val = Go.Fx.cS Go.Fx.uP 29 x.nat := serW_val (Nat.le_of_eq oneW_nat) hl
    have := fits_calls T (cos_in x) (okPC h4 (okPC h3 (okPC h4 (okPC h3 (okPC h4 (okPC h4 (okPC h3 (okPC h4 (okPC h3 (okPC h4 (okPC h3 (okPC h4 (okPC h4 (okPC h3 (okPC h4 (okPC h3 (okPC h4 (okPC h4 (okPC h3 (okPC h4 (okPC h3 (okPC h4 (okPC h4 (okPC h3 (okPC h4 (okPC h4 (okPC h4 (okPC h4 (okPC h4 (okPC h3 (okPC h1 (okPC h2 okNil)))))))))))))))))))))))))))))))) (by rfl) (by rfl) w
    rw [e] at this
    exact this
end Go.Proofs.YtmgcnijpoklhkaaDoor
