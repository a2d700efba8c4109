/-
  A RUN THAT THE KERNEL RECKONS: the newest blocks of a memory are let go; what a temporary holds that is no more needed is of the world's own.
-/
import Derived.Test.YtnolcojnodoecaaG07
import Derived.Test.YtnolcojnodoecaaG08
namespace Go.KRun
open Go.RowKit

theorem blk_base {k n : Nat} {base l : List (List Value × TypeId)} (hn : n = l.length + k) {i : Nat} (hi : i < k) : (⟨n, l ++ base⟩ : Hp).blk? i = (⟨k, base⟩ : Hp).blk? i := by
  unfold Hp.blk?
  rw [if_pos (blt_iff.2 (by show i < n; omega)), if_pos (blt_iff.2 hi)]
  show (l ++ base)[n - 1 - i]? = base[k - 1 - i]?
  rw [List.getElem?_append_right (by omega)]
  congr 1
  omega
theorem RunsW.cut {T : Tab} {c : Code} {x0 : Lf} {ex : Ex} {f1 f2 : List Value} {u : Value} {n k N : Nat} {extra base : List (List Value × TypeId)} (hr : RunsW T c x0 fun e z => e = ex ∧ (∃ g, z.1 = (f1 ++ u :: f2) ++ tl n g) ∧ z.2.1 = ⟨N, extra ++ base⟩)
    (hk : base.length = k) (hN : N = extra.length + k) (h0 : 0 < k) (hb : ∀ x ∈ base, ∀ v ∈ x.1, lt1 k v = true) (h1 : ∀ v ∈ f1, lt k v = true) (h2 : ∀ v ∈ f2, lt k v = true) :
    RunsW T c x0 fun e z => e = ex ∧ (∃ g j, z.1 = (f1 ++ j :: f2) ++ tl n g) ∧ z.2.1 = ⟨k, base⟩ := by
  intro m B a w R Q hQ
  refine hr m B a w R Q fun e z he m' a' w' R' hb' => ?_
  obtain ⟨rfl, ⟨g, hz1⟩, hz2⟩ := he
  obtain ⟨t, h, s⟩ := z
  simp only at hz1 hz2
  subst hz1 hz2
  obtain ⟨g', hg'⟩ := tl_of (J := (tl n g).map (fun v => Value.iface dead (mv m' v))) (n := n) (by simp [tl_len])
  refine hQ e ((f1 ++ Value.iface dead (mv m' u) :: f2) ++ tl n g', ⟨k, base⟩, s) ⟨rfl, ⟨g', _, rfl⟩, rfl⟩ m' a' w' ?_ hb'
  have E := R'.emb
  have sub : ∀ i x, (⟨k, base⟩ : Hp).blk? i = some x → (⟨N, extra ++ base⟩ : Hp).blk? i = some x := fun i x hx => by
    rw [blk_base hN (Hp.blk_lt hx)]
    exact hx
  have mem : ∀ i x, (⟨k, base⟩ : Hp).blk? i = some x → x ∈ base := fun i x hx => by
    unfold Hp.blk? at hx
    split at hx
    · exact List.mem_of_getElem? hx
    · cases hx
  have ltd : ∀ v : Value, lt k (Value.iface dead v) = true := fun v => by simp [lt, lt2, lt1, h0]
  have mvd : ∀ v : Value, mv m' (Value.iface dead (mv m' v)) = mv m' v := fun v => by simp [mv, mv2, mv1]
  refine ⟨?_, R'.dfr, ⟨hk, fun b x hx ht => E.lies b x (sub b x hx) ht, fun b x hx hro => E.low b x (sub b x hx) hro, fun b x hx ht hro => E.ros b x (sub b x hx) ht hro, fun b b' x x' hx hx' hro hro' he => E.inj b b' x x' (sub b x hx) (sub b' x' hx') hro hro' he, fun b x hx v hv => hb x (mem b x hx) v hv, E.base, E.ice, fun b x hx ha => E.abs b x (sub b x hx) ha⟩, ?_⟩
  · rw [R'.tmps]
    simp only [List.map_append, List.map_cons, mvd, ← hg', List.map_map]
    congr 2
  · intro v hv
    rcases List.mem_append.1 hv with hv | hv
    · rcases List.mem_append.1 hv with hv | hv
      · exact h1 v hv
      · rcases List.mem_cons.1 hv with rfl | hv
        · exact ltd _
        · exact h2 v hv
    · rw [← hg'] at hv
      obtain ⟨y, _, rfl⟩ := List.mem_map.1 hv
      exact ltd _
/-- the same, ahead of a piece of code -/
theorem RunsW.pre {T : Tab} {c : Code} {P : Ex → Lf → Prop} {f1 f2 : List Value} {u : Value} {n k N : Nat} {extra base : List (List Value × TypeId)} {s s' : List Dec} {g : Nat → Value} (h : ∀ j g, RunsW T c ((f1 ++ j :: f2) ++ tl n g, ⟨k, base⟩, s') P)
    (hk : base.length = k) (hN : N = extra.length + k) (h0 : 0 < k) (hb : ∀ x ∈ base, ∀ v ∈ x.1, lt1 k v = true) (h1 : ∀ v ∈ f1, lt k v = true) (h2 : ∀ v ∈ f2, lt k v = true) :
    RunsW T c ((f1 ++ u :: f2) ++ tl n g, ⟨N, extra ++ base⟩, s) P := by
  intro m B a w R Q hQ
  obtain ⟨g', hg'⟩ := tl_of (J := (tl n g).map (fun v => Value.iface dead (mv m v))) (n := n) (by simp [tl_len])
  refine h (Value.iface dead (mv m u)) g' m B a w ?_ Q hQ
  have E := R.emb
  have sub : ∀ i x, (⟨k, base⟩ : Hp).blk? i = some x → (⟨N, extra ++ base⟩ : Hp).blk? i = some x := fun i x hx => by
    rw [blk_base hN (Hp.blk_lt hx)]
    exact hx
  have mem : ∀ i x, (⟨k, base⟩ : Hp).blk? i = some x → x ∈ base := fun i x hx => by
    unfold Hp.blk? at hx
    split at hx
    · exact List.mem_of_getElem? hx
    · cases hx
  have ltd : ∀ v : Value, lt k (Value.iface dead v) = true := fun v => by simp [lt, lt2, lt1, h0]
  have mvd : ∀ v : Value, mv m (Value.iface dead (mv m v)) = mv m v := fun v => by simp [mv, mv2, mv1]
  refine ⟨?_, R.dfr, ⟨hk, fun b x hx ht => E.lies b x (sub b x hx) ht, fun b x hx hro => E.low b x (sub b x hx) hro, fun b x hx ht hro => E.ros b x (sub b x hx) ht hro, fun b b' x x' hx hx' hro hro' he => E.inj b b' x x' (sub b x hx) (sub b' x' hx') hro hro' he, fun b x hx v hv => hb x (mem b x hx) v hv, E.base, E.ice, fun b x hx ha => E.abs b x (sub b x hx) ha⟩, ?_⟩
  · rw [R.tmps]
    simp only [List.map_append, List.map_cons, mvd, ← hg', List.map_map]
    congr 2
  · intro v hv
    rcases List.mem_append.1 hv with hv | hv
    · rcases List.mem_append.1 hv with hv | hv
      · exact h1 v hv
      · rcases List.mem_cons.1 hv with rfl | hv
        · exact ltd _
        · exact h2 v hv
    · rw [← hg'] at hv
      obtain ⟨y, _, rfl⟩ := List.mem_map.1 hv
      exact ltd _
/-- a call that keeps one block of its own, whichever it is -/
theorem row_calls2 {T : Tab} {f : Nat} {F : Func} {c : Code} (hF : T.P.funcs[f]? = some F) (hc : F.body = some c) {h0 : Hp} (hr : h0.rows) {vals : List Value} (hvals : ∀ v ∈ vals, lt h0.n v = true) {v : Nat → Value}
    {cs : List Value} {ty : TypeId} (hcs : ∀ u ∈ cs, lt1 0 u = true) (hty : ro ty = false)
    (hrun : RunsW T c (vals ++ List.replicate (F.ntmps - vals.length) undef, h0, []) fun e y => (e = none ∨ e = some none) ∧ ∃ k, resS T.P F y.1 y.2.1 = some (v k) ∧ ∃ r, y.2.1.blk? k = some (cs ++ r, ty))
    (hv0 : ∀ k, oc [k] (v k) = true)
    {m : Mp} {B : Nat} {h : Hp} {w : World} (E : Emb m B h w) {s : Nat → Nat} (hf : h0.fits s h) (hv1 : ∀ k, rn (fun _ => h.n) (v k) = v h.n) :
    Calls T.P f ((vals.map (rn s)).map (mv m)).toArray w fun e w' => ∃ m', e = .returned (mv m' (v h.n)) ∧ Came m B h w (v h.n) (h.push cs ty) m' w' := by
  have E0 := E.small hr hf
  have ev : (vals.map (rn s)).map (mv m) = vals.map (mv fun i => m (s i)) := by
    rw [List.map_map]
    exact List.map_congr_left fun y _ => mv_rn m s y
  rw [ev]
  refine calls_of_wp hF hc ?_
  have R : Rel (fun i => m (s i)) w.heap.size (vals ++ List.replicate (F.ntmps - vals.length) undef, h0, []) { tmps := (vals.map (mv fun i => m (s i))).toArray ++ Array.replicate (F.ntmps - (vals.map (mv fun i => m (s i))).toArray.size) undef, defers := [] } w := by
    refine ⟨?_, rfl, E0, ?_⟩
    · simp [mv_undef]
    · intro y hy
      rcases List.mem_append.1 hy with hy | hy
      · exact hvals y hy
      · rw [List.eq_of_mem_replicate hy]; simp [undef, lt]
  refine hrun _ _ _ w R _ fun e y he m1 a' w' k2 k3 => ?_
  obtain ⟨hex, k, hres, r, hblk⟩ := he
  obtain ⟨r1, r2⟩ := resS_run k2.emb k2.wf hres
  rw [← k2.tmps] at r1
  have td : Tidy w w' := ⟨k3, fun k h1 h2 => k2.emb.ice k h1 h2⟩
  obtain ⟨E', hb⟩ := clean_emb E td
  have hlow : w.heap.size ≤ (m1 k).1 := k2.emb.low k _ hblk hty
  have hlie : lie w' (m1 k) (cs.map (mv1 m)) ty := by
    obtain ⟨r', z, l0, l1, l2⟩ := k2.emb.lies k _ hblk (tomb_ro hty)
    have e : cs.map (mv1 m1) = cs.map (mv1 m) := map_still hcs
    simp only [List.map_append] at l0 l1
    refine ⟨r.map (mv1 m1) ++ r', z, ?_, ?_, l2⟩
    · simp at l0 ⊢; omega
    · rw [← e, l1, List.append_assoc]
  have Ea := E'.adopt cs ty hty (fun u hu => lt1_mono (Nat.zero_le _) (hcs u hu)) hlie (Nat.le_trans E.base hlow) (fun b x hbx hx heq => by
    have := E.here hbx (tomb_ro hx)
    omega)
  have e1 : mv m1 (v k) = mv (upd m h.n (m1 k)) (v h.n) := by
    rw [← hv1 k, mv_rn]
    refine mv_on (fun b hb => ?_) (hv0 k)
    rw [List.mem_singleton.1 hb]
    simp [upd]
  rw [e1] at r1
  have hlt : lt (h.n + 1) (v h.n) = true := by rw [← hv1 k]; exact oc_ren (bs := [k]) (fun b hb => by show h.n < h.n + 1; omega) (hv0 k)
  have post : a'.defers = [] ∧ ∃ v', (results F a'.tmps).run T.P w' = .ok v' w' ∧ ∃ m', Ending.returned v' = .returned (mv m' (v h.n)) ∧ Came m B h w (v h.n) (h.push cs ty) m' w' :=
    ⟨k2.dfr, _, r1, upd m h.n (m1 k), rfl, ⟨upd_agree _ _ _, Ea, hb, Nat.le_succ _, hlt⟩⟩
  rcases hex with rfl | rfl <;> exact post
end Go.KRun

/-
  PLAIN ARITHMETIC: how many bits a number has; of digits to the base 65536.
-/
namespace Go.Nt

/-- how many bits -/
def bl (V : Nat) : Nat := if _h : V = 0 then 0 else bl (V / 2) + 1
  termination_by V
  decreasing_by omega
theorem bl_zero : bl 0 = 0 := by rw [bl]; simp
theorem bl_pos {V : Nat} (h : V ≠ 0) : bl V = bl (V / 2) + 1 := by rw [bl]; rw [dif_neg h]
theorem bl_lt (V : Nat) : V < 2 ^ bl V := by
  induction V using Nat.strongRecOn with
  | ind V ih =>
    by_cases h : V = 0
    · subst h; rw [bl_zero]; decide
    · rw [bl_pos h, Nat.pow_succ]
      have := ih (V / 2) (by omega)
      omega
theorem bl_le {V : Nat} (h : V ≠ 0) : 2 ^ (bl V - 1) ≤ V := by
  induction V using Nat.strongRecOn with
  | ind V ih =>
    rw [bl_pos h, Nat.add_sub_cancel]
    by_cases h2 : V / 2 = 0
    · rw [h2, bl_zero]; omega
    · have i := ih (V / 2) (by omega) h2
      have e : bl (V / 2) = (bl (V / 2) - 1) + 1 := by
        have := bl_pos h2
        omega
      rw [e, Nat.pow_succ]
      omega
theorem bl_uniq {V k : Nat} (h0 : 2 ^ k ≤ V) (h1 : V < 2 ^ (k + 1)) : bl V = k + 1 := by
  have hp : 0 < 2 ^ k := Nat.pow_pos (by omega)
  have hV : V ≠ 0 := by omega
  have a1 := bl_lt V
  have a2 := bl_le hV
  have a3 : bl V ≠ 0 := by have := bl_pos hV; omega
  rcases Nat.lt_or_ge (bl V) (k + 1) with h | h
  · have := Nat.pow_le_pow_right (show 0 < 2 by omega) (show bl V ≤ k by omega)
    omega
  · rcases Nat.lt_or_ge (k + 1) (bl V) with h' | h'
    · have := Nat.pow_le_pow_right (show 0 < 2 by omega) (show k + 1 ≤ bl V - 1 by omega)
      omega
    · omega
theorem bl_le_of {V k : Nat} (h : V < 2 ^ k) : bl V ≤ k := by
  by_cases hV : V = 0
  · subst hV; rw [bl_zero]; omega
  · have a := bl_le hV
    rcases Nat.lt_or_ge k (bl V) with h' | h'
    · have := Nat.pow_le_pow_right (show 0 < 2 by omega) (show k ≤ bl V - 1 by omega)
      omega
    · exact h'
theorem pow16 (k : Nat) : 65536 ^ k = 2 ^ (16 * k) := by rw [show (65536 : Nat) = 2 ^ 16 from rfl, ← Nat.pow_mul]
/-- the bits of a number by its highest part -/
theorem bl_top {t lo k : Nat} (ht : t ≠ 0) (hlo : lo < 65536 ^ k) : bl (lo + 65536 ^ k * t) = 16 * k + bl t := by
  have a1 := bl_lt t
  have a2 := bl_le ht
  have a3 : bl t ≠ 0 := by have := bl_pos ht; omega
  rw [pow16] at *
  have e : 16 * k + bl t = (16 * k + (bl t - 1)) + 1 := by omega
  rw [e]
  refine bl_uniq ?_ ?_
  · rw [Nat.pow_add]
    have := Nat.mul_le_mul_left (2 ^ (16 * k)) a2
    omega
  · rw [Nat.add_assoc, show bl t - 1 + 1 = bl t by omega, Nat.pow_add]
    have := Nat.mul_le_mul_left (2 ^ (16 * k)) (show t + 1 ≤ 2 ^ bl t by omega)
    rw [Nat.mul_add, Nat.mul_one] at this
    omega
end Go.Nt

/-
  PLAIN ARITHMETIC: digits to the base 65536, moved down; a bit.
-/
namespace Go.Nt

def dgS (L : List Int) (i : Nat) : Nat := (L.getD i 0).toNat
theorem pow_split16 (k : Nat) : 2 ^ k = 65536 ^ (k / 16) * 2 ^ (k % 16) := by
  rw [pow16, ← Nat.pow_add]
  congr 1
  omega
theorem dg_lt {L : List Int} (h : ∀ x ∈ L, Dg 65536 x) (i : Nat) : dgS L i < 65536 := by
  unfold dgS
  by_cases hi : i < L.length
  · have := h (L.getD i 0) (by simp [List.getD, List.getElem?_eq_getElem hi])
    omega
  · simp [List.getD, List.getElem?_eq_none (show L.length ≤ i by omega)]
theorem vb_cut {L : List Int} (h : ∀ x ∈ L, Dg 65536 x) (z : Nat) : vb 65536 L / 65536 ^ z = vb 65536 (L.drop z) ∧ vb 65536 L % 65536 ^ z = vb 65536 (L.take z) := by
  have hp : 0 < 65536 ^ z := Nat.pow_pos (by omega)
  by_cases hz : z ≤ L.length
  · have e : vb 65536 L = vb 65536 (L.take z) + 65536 ^ z * vb 65536 (L.drop z) := by
      conv => lhs; rw [← List.take_append_drop z L]
      rw [vb_append, List.length_take, show min z L.length = z by omega]
    have hl : vb 65536 (L.take z) < 65536 ^ z := by
      have := vb_lt (b := 65536) (by omega) (L.take z) (fun x hx => h x (List.mem_of_mem_take hx))
      rw [List.length_take, show min z L.length = z by omega] at this
      exact this
    rw [e]
    exact ⟨by rw [Nat.add_mul_div_left _ _ hp, Nat.div_eq_of_lt hl, Nat.zero_add], by rw [Nat.add_mul_mod_self_left, Nat.mod_eq_of_lt hl]⟩
  · have hl : vb 65536 L < 65536 ^ z := by
      have h1 := vb_lt (b := 65536) (by omega) L h
      have h2 := Nat.pow_le_pow_right (show 0 < 65536 by omega) (show L.length ≤ z by omega)
      omega
    rw [List.drop_of_length_le (by omega), List.take_of_length_le (by omega)]
    exact ⟨Nat.div_eq_of_lt hl, Nat.mod_eq_of_lt hl⟩
theorem vb_drop {L : List Int} {z : Nat} : vb 65536 (L.drop z) = dgS L z + 65536 * vb 65536 (L.drop (z + 1)) := by
  by_cases hz : z < L.length
  · rw [List.drop_eq_getElem_cons hz]
    simp only [vb, dgS]
    simp [List.getD, List.getElem?_eq_getElem hz]
  · rw [List.drop_of_length_le (by omega), List.drop_of_length_le (by omega)]
    simp [vb, dgS, List.getD, List.getElem?_eq_none (show L.length ≤ z by omega)]
theorem dvd_pow {s : Nat} (h : s ≤ 16) : 2 ^ s * 2 ^ (16 - s) = 65536 := by rw [← Nat.pow_add, show s + (16 - s) = 16 by omega]
/-- a bit by its digit -/
theorem bit_dg {L : List Int} (h : ∀ x ∈ L, Dg 65536 x) (k : Nat) : vb 65536 L / 2 ^ k % 2 = dgS L (k / 16) / 2 ^ (k % 16) % 2 := by
  obtain ⟨e, _⟩ := vb_cut h (k / 16)
  rw [pow_split16, ← Nat.div_div_eq_div_mul, e, vb_drop]
  have hd := dvd_pow (s := k % 16 + 1) (by omega)
  have e2 : 65536 * vb 65536 (L.drop (k / 16 + 1)) = 2 ^ (k % 16) * (2 * (2 ^ (16 - (k % 16 + 1)) * vb 65536 (L.drop (k / 16 + 1)))) := by
    rw [← hd, Nat.pow_succ]
    simp only [Nat.mul_assoc]
  have hp : 0 < 2 ^ (k % 16) := Nat.pow_pos (by omega)
  rw [e2, Nat.add_mul_div_left _ _ hp]
  omega
/-- what is cut off -/
theorem lost_iff {L : List Int} (h : ∀ x ∈ L, Dg 65536 x) (k : Nat) : (vb 65536 L % 2 ^ k ≠ 0) ↔ (vb 65536 (L.take (k / 16)) ≠ 0 ∨ dgS L (k / 16) % 2 ^ (k % 16) ≠ 0) := by
  obtain ⟨e1, e2⟩ := vb_cut h (k / 16)
  have hp : 0 < 65536 ^ (k / 16) := Nat.pow_pos (by omega)
  rw [pow_split16, Nat.mod_mul, e1, e2, vb_drop]
  have hd := dvd_pow (s := k % 16) (by omega)
  have e3 : (dgS L (k / 16) + 65536 * vb 65536 (L.drop (k / 16 + 1))) % 2 ^ (k % 16) = dgS L (k / 16) % 2 ^ (k % 16) := by
    rw [← hd, Nat.mul_assoc, Nat.add_mul_mod_self_left]
  rw [e3]
  generalize dgS L (k / 16) % 2 ^ (k % 16) = r
  generalize vb 65536 (L.take (k / 16)) = u
  constructor
  · intro h0
    by_cases hu : u = 0
    · right
      intro hr
      apply h0
      rw [hu, hr, Nat.mul_zero]
    · exact .inl hu
  · rintro (h0 | h0) hh
    · omega
    · have : 0 < 65536 ^ (k / 16) * r := Nat.mul_pos hp (by omega)
      omega
/-- the digits of a number moved down: one more -/
theorem down_step {O : List Int} {P R y x0 x1 j W : Nat} (hPR : P * R = 65536) (hO : O.length = j) (h : vb 65536 O * P + y = W + 65536 ^ j * (x0 % P)) :
    vb 65536 (O ++ [((x0 / P + x1 % P * R : Nat) : Int)]) * P + y = (W + 65536 ^ j * x0) + 65536 ^ (j + 1) * (x1 % P) := by
  have e : vb 65536 (O ++ [((x0 / P + x1 % P * R : Nat) : Int)]) = vb 65536 O + 65536 ^ j * (x0 / P + x1 % P * R) := by
    rw [vb_snoc, hO, Int.toNat_natCast]
  have e2 := Nat.div_add_mod x0 P
  have e3 : 65536 ^ j * (x0 / P + x1 % P * R) * P = 65536 ^ j * (P * (x0 / P)) + 65536 ^ (j + 1) * (x1 % P) := by
    rw [Nat.mul_assoc, Nat.add_mul, Nat.mul_add, Nat.mul_comm (x0 / P) P, Nat.mul_assoc (x1 % P), Nat.mul_comm R P, hPR, Nat.pow_succ, Nat.mul_comm (x1 % P), Nat.mul_assoc]
  have e4 : 65536 ^ j * x0 = 65536 ^ j * (P * (x0 / P)) + 65536 ^ j * (x0 % P) := by rw [← Nat.mul_add, e2]
  rw [e, Nat.add_mul, e3]
  omega
theorem down_lt {P R x0 x1 : Nat} (hP : 0 < P) (hPR : P * R = 65536) (h0 : x0 < 65536) : x0 / P + x1 % P * R < 65536 := by
  have h1 : x0 / P < R := Nat.div_lt_of_lt_mul (by omega)
  have h2 : x1 % P + 1 ≤ P := Nat.mod_lt _ hP
  have h3 := Nat.mul_le_mul_right R h2
  rw [Nat.add_mul, Nat.one_mul, hPR] at h3
  omega
theorem down_end {L : List Int} (h : ∀ x ∈ L, Dg 65536 x) {k V' : Nat} (e : V' * 2 ^ (k % 16) + dgS L (k / 16) % 2 ^ (k % 16) = vb 65536 (L.drop (k / 16))) : V' = vb 65536 L / 2 ^ k := by
  have hp : 0 < 2 ^ (k % 16) := Nat.pow_pos (by omega)
  obtain ⟨e1, _⟩ := vb_cut h (k / 16)
  rw [pow_split16, ← Nat.div_div_eq_div_mul, e1, ← e, Nat.add_comm, Nat.mul_comm, Nat.add_mul_div_left _ _ hp, Nat.div_eq_of_lt (Nat.mod_lt _ hp), Nat.zero_add]
end Go.Nt
