/-
  A RUN THAT THE KERNEL RECKONS: the newest blocks of a memory are let go; what a temporary holds that is no more needed is of the world's own.
-/
import Derived.Test.YtfmfcbnhmkkibaaG09
import GoSem.Core.Sem
import Derived.Laws.MathBits
import Derived.Test.YtfmfcbnhmkkibaaG04
namespace Go.KRun
open Go.RowKit

theorem blk_base {k n : Nat} {base l : List (List Value × TypeId)} (hn : n = l.length + k) {i : Nat} (hi : i < k) : (⟨n, l ++ base⟩ : Hp).blk? i = (⟨k, base⟩ : Hp).blk? i := by
  unfold Hp.blk?
  rw [if_pos (blt_iff.2 (by show i < n; omega)), if_pos (blt_iff.2 hi)]
  show (l ++ base)[n - 1 - i]? = base[k - 1 - i]?
  rw [List.getElem?_append_right (by omega)]
  congr 1
  omega
theorem RunsW.cut {T : Tab} {c : Code} {x0 : Lf} {ex : Ex} {f1 f2 : List Value} {u : Value} {n k N : Nat} {extra base : List (List Value × TypeId)} (hr : RunsW T c x0 fun e z => e = ex ∧ (∃ g, z.1 = (f1 ++ u :: f2) ++ tl n g) ∧ z.2.1 = ⟨N, extra ++ base⟩)
    (hk : base.length = k) (hN : N = extra.length + k) (h0 : 0 < k) (hb : ∀ x ∈ base, ∀ v ∈ x.1, lt1 k v = true) (h1 : ∀ v ∈ f1, lt k v = true) (h2 : ∀ v ∈ f2, lt k v = true) :
    RunsW T c x0 fun e z => e = ex ∧ (∃ g j, z.1 = (f1 ++ j :: f2) ++ tl n g) ∧ z.2.1 = ⟨k, base⟩ := by
  intro m B a w R Q hQ
  refine hr m B a w R Q fun e z he m' a' w' R' hb' => ?_
  obtain ⟨rfl, ⟨g, hz1⟩, hz2⟩ := he
  obtain ⟨t, h, s⟩ := z
  simp only at hz1 hz2
  subst hz1 hz2
  obtain ⟨g', hg'⟩ := tl_of (J := (tl n g).map (fun v => Value.iface dead (mv m' v))) (n := n) (by simp [tl_len])
  refine hQ e ((f1 ++ Value.iface dead (mv m' u) :: f2) ++ tl n g', ⟨k, base⟩, s) ⟨rfl, ⟨g', _, rfl⟩, rfl⟩ m' a' w' ?_ hb'
  have E := R'.emb
  have sub : ∀ i x, (⟨k, base⟩ : Hp).blk? i = some x → (⟨N, extra ++ base⟩ : Hp).blk? i = some x := fun i x hx => by
    rw [blk_base hN (Hp.blk_lt hx)]
    exact hx
  have mem : ∀ i x, (⟨k, base⟩ : Hp).blk? i = some x → x ∈ base := fun i x hx => by
    unfold Hp.blk? at hx
    split at hx
    · exact List.mem_of_getElem? hx
    · cases hx
  have ltd : ∀ v : Value, lt k (Value.iface dead v) = true := fun v => by simp [lt, lt2, lt1, h0]
  have mvd : ∀ v : Value, mv m' (Value.iface dead (mv m' v)) = mv m' v := fun v => by simp [mv, mv2, mv1]
  refine ⟨?_, R'.dfr, ⟨hk, fun b x hx ht => E.lies b x (sub b x hx) ht, fun b x hx hro => E.low b x (sub b x hx) hro, fun b x hx ht hro => E.ros b x (sub b x hx) ht hro, fun b b' x x' hx hx' hro hro' he => E.inj b b' x x' (sub b x hx) (sub b' x' hx') hro hro' he, fun b x hx v hv => hb x (mem b x hx) v hv, E.base, E.ice, fun b x hx ha => E.abs b x (sub b x hx) ha⟩, ?_⟩
  · rw [R'.tmps]
    simp only [List.map_append, List.map_cons, mvd, ← hg', List.map_map]
    congr 2
  · intro v hv
    rcases List.mem_append.1 hv with hv | hv
    · rcases List.mem_append.1 hv with hv | hv
      · exact h1 v hv
      · rcases List.mem_cons.1 hv with rfl | hv
        · exact ltd _
        · exact h2 v hv
    · rw [← hg'] at hv
      obtain ⟨y, _, rfl⟩ := List.mem_map.1 hv
      exact ltd _
/-- the same, ahead of a piece of code -/
theorem RunsW.pre {T : Tab} {c : Code} {P : Ex → Lf → Prop} {f1 f2 : List Value} {u : Value} {n k N : Nat} {extra base : List (List Value × TypeId)} {s s' : List Dec} {g : Nat → Value} (h : ∀ j g, RunsW T c ((f1 ++ j :: f2) ++ tl n g, ⟨k, base⟩, s') P)
    (hk : base.length = k) (hN : N = extra.length + k) (h0 : 0 < k) (hb : ∀ x ∈ base, ∀ v ∈ x.1, lt1 k v = true) (h1 : ∀ v ∈ f1, lt k v = true) (h2 : ∀ v ∈ f2, lt k v = true) :
    RunsW T c ((f1 ++ u :: f2) ++ tl n g, ⟨N, extra ++ base⟩, s) P := by
  intro m B a w R Q hQ
  obtain ⟨g', hg'⟩ := tl_of (J := (tl n g).map (fun v => Value.iface dead (mv m v))) (n := n) (by simp [tl_len])
  refine h (Value.iface dead (mv m u)) g' m B a w ?_ Q hQ
  have E := R.emb
  have sub : ∀ i x, (⟨k, base⟩ : Hp).blk? i = some x → (⟨N, extra ++ base⟩ : Hp).blk? i = some x := fun i x hx => by
    rw [blk_base hN (Hp.blk_lt hx)]
    exact hx
  have mem : ∀ i x, (⟨k, base⟩ : Hp).blk? i = some x → x ∈ base := fun i x hx => by
    unfold Hp.blk? at hx
    split at hx
    · exact List.mem_of_getElem? hx
    · cases hx
  have ltd : ∀ v : Value, lt k (Value.iface dead v) = true := fun v => by simp [lt, lt2, lt1, h0]
  have mvd : ∀ v : Value, mv m (Value.iface dead (mv m v)) = mv m v := fun v => by simp [mv, mv2, mv1]
  refine ⟨?_, R.dfr, ⟨hk, fun b x hx ht => E.lies b x (sub b x hx) ht, fun b x hx hro => E.low b x (sub b x hx) hro, fun b x hx ht hro => E.ros b x (sub b x hx) ht hro, fun b b' x x' hx hx' hro hro' he => E.inj b b' x x' (sub b x hx) (sub b' x' hx') hro hro' he, fun b x hx v hv => hb x (mem b x hx) v hv, E.base, E.ice, fun b x hx ha => E.abs b x (sub b x hx) ha⟩, ?_⟩
  · rw [R.tmps]
    simp only [List.map_append, List.map_cons, mvd, ← hg', List.map_map]
    congr 2
  · intro v hv
    rcases List.mem_append.1 hv with hv | hv
    · rcases List.mem_append.1 hv with hv | hv
      · exact h1 v hv
      · rcases List.mem_cons.1 hv with rfl | hv
        · exact ltd _
        · exact h2 v hv
    · rw [← hg'] at hv
      obtain ⟨y, _, rfl⟩ := List.mem_map.1 hv
      exact ltd _
/-- a call that keeps one block of its own, whichever it is -/
theorem row_calls2 {T : Tab} {f : Nat} {F : Func} {c : Code} (hF : T.P.funcs[f]? = some F) (hc : F.body = some c) {h0 : Hp} (hr : h0.rows) {vals : List Value} (hvals : ∀ v ∈ vals, lt h0.n v = true) {v : Nat → Value}
    {cs : List Value} {ty : TypeId} (hcs : ∀ u ∈ cs, lt1 0 u = true) (hty : ro ty = false)
    (hrun : RunsW T c (vals ++ List.replicate (F.ntmps - vals.length) undef, h0, []) fun e y => (e = none ∨ e = some none) ∧ ∃ k, resS T.P F y.1 y.2.1 = some (v k) ∧ ∃ r, y.2.1.blk? k = some (cs ++ r, ty))
    (hv0 : ∀ k, oc [k] (v k) = true)
    {m : Mp} {B : Nat} {h : Hp} {w : World} (E : Emb m B h w) {s : Nat → Nat} (hf : h0.fits s h) (hv1 : ∀ k, rn (fun _ => h.n) (v k) = v h.n) :
    Calls T.P f ((vals.map (rn s)).map (mv m)).toArray w fun e w' => ∃ m', e = .returned (mv m' (v h.n)) ∧ Came m B h w (v h.n) (h.push cs ty) m' w' := by
  have E0 := E.small hr hf
  have ev : (vals.map (rn s)).map (mv m) = vals.map (mv fun i => m (s i)) := by
    rw [List.map_map]
    exact List.map_congr_left fun y _ => mv_rn m s y
  rw [ev]
  refine calls_of_wp hF hc ?_
  have R : Rel (fun i => m (s i)) w.heap.size (vals ++ List.replicate (F.ntmps - vals.length) undef, h0, []) { tmps := (vals.map (mv fun i => m (s i))).toArray ++ Array.replicate (F.ntmps - (vals.map (mv fun i => m (s i))).toArray.size) undef, defers := [] } w := by
    refine ⟨?_, rfl, E0, ?_⟩
    · simp [mv_undef]
    · intro y hy
      rcases List.mem_append.1 hy with hy | hy
      · exact hvals y hy
      · rw [List.eq_of_mem_replicate hy]; simp [undef, lt]
  refine hrun _ _ _ w R _ fun e y he m1 a' w' k2 k3 => ?_
  obtain ⟨hex, k, hres, r, hblk⟩ := he
  obtain ⟨r1, r2⟩ := resS_run k2.emb k2.wf hres
  rw [← k2.tmps] at r1
  have td : Tidy w w' := ⟨k3, fun k h1 h2 => k2.emb.ice k h1 h2⟩
  obtain ⟨E', hb⟩ := clean_emb E td
  have hlow : w.heap.size ≤ (m1 k).1 := k2.emb.low k _ hblk hty
  have hlie : lie w' (m1 k) (cs.map (mv1 m)) ty := by
    obtain ⟨r', z, l0, l1, l2⟩ := k2.emb.lies k _ hblk (tomb_ro hty)
    have e : cs.map (mv1 m1) = cs.map (mv1 m) := map_still hcs
    simp only [List.map_append] at l0 l1
    refine ⟨r.map (mv1 m1) ++ r', z, ?_, ?_, l2⟩
    · simp at l0 ⊢; omega
    · rw [← e, l1, List.append_assoc]
  have Ea := E'.adopt cs ty hty (fun u hu => lt1_mono (Nat.zero_le _) (hcs u hu)) hlie (Nat.le_trans E.base hlow) (fun b x hbx hx heq => by
    have := E.here hbx (tomb_ro hx)
    omega)
  have e1 : mv m1 (v k) = mv (upd m h.n (m1 k)) (v h.n) := by
    rw [← hv1 k, mv_rn]
    refine mv_on (fun b hb => ?_) (hv0 k)
    rw [List.mem_singleton.1 hb]
    simp [upd]
  rw [e1] at r1
  have hlt : lt (h.n + 1) (v h.n) = true := by rw [← hv1 k]; exact oc_ren (bs := [k]) (fun b hb => by show h.n < h.n + 1; omega) (hv0 k)
  have post : a'.defers = [] ∧ ∃ v', (results F a'.tmps).run T.P w' = .ok v' w' ∧ ∃ m', Ending.returned v' = .returned (mv m' (v h.n)) ∧ Came m B h w (v h.n) (h.push cs ty) m' w' :=
    ⟨k2.dfr, _, r1, upd m h.n (m1 k), rfl, ⟨upd_agree _ _ _, Ea, hb, Nat.le_succ _, hlt⟩⟩
  rcases hex with rfl | rfl <;> exact post
end Go.KRun

/-
  PLAIN ARITHMETIC: a size T times 2^E, rounded to a multiple of 2^e by a mode, and to the pattern next to it, with the flags. No program is named here.
-/
namespace Go.Rn

/-- whether it goes up: c: what is beyond a multiple: 0 nothing, 1 below a half, 2 a half, 3 above it -/
def upR (m : Int) (neg odd : Bool) (c : Int) : Bool :=
  if c = 0 then false else if m = 2 then false else if m = 3 then !neg else if m = 4 then neg else if m = 1 then decide (2 ≤ c) else decide (2 < c) || (decide (c = 2) && odd)
def restC (r P : Nat) : Int := if r = 0 then 0 else if 2 * r < P then 1 else if 2 * r = P then 2 else 3
def odd (q : Nat) : Bool := decide (q % 2 = 1)
def rq (m : Int) (neg : Bool) (T k : Nat) : Nat := T / 2 ^ k + (if upR m neg (odd (T / 2 ^ k)) (restC (T % 2 ^ k) (2 ^ k)) = true then 1 else 0)
def toQ (m : Int) (neg : Bool) (T : Nat) (E e : Int) : Nat := if e ≤ E then T * 2 ^ (E - e).toNat else rq m neg T (e - E).toNat
def toL (T : Nat) (E e : Int) : Bool := if e ≤ E then false else decide (T % 2 ^ (e - E).toNat ≠ 0)
def lgN (T : Nat) (E : Int) : Int := E + (bitLen T : Nat) - 1
def lowE (T : Nat) (E : Int) : Int := if lgN T E - 52 ≤ -1074 then -1074 else lgN T E - 52
/-- the pattern, as if there were no greatest -/
def p0 (m : Int) (neg : Bool) (T : Nat) (E : Int) : Int := (lowE T E + 1074) * 4503599627370496 + (toQ m neg T E (lowE T E) : Nat)
def tiny (m : Int) (neg : Bool) (T : Nat) (E : Int) : Bool := if lgN T E = -1023 then decide (toQ m neg T E (-1075) < 9007199254740992) else decide (lgN T E < -1022)
def bey (m : Int) (neg : Bool) : Int := if upR m neg true 3 = true then 9218868437227405312 else 9218868437227405311
def rnP (m : Int) (neg : Bool) (T : Nat) (E : Int) : Int := if T = 0 then 0 else if 9218868437227405312 ≤ p0 m neg T E then bey m neg else p0 m neg T E
def rnF (m : Int) (neg : Bool) (T : Nat) (E : Int) : Int := if T = 0 then 0 else if 9218868437227405312 ≤ p0 m neg T E then 20 else if toL T E (lowE T E) = true then (if tiny m neg T E = true then 24 else 16) else 0

/-! ### the two signs -/
def swM (m : Int) : Int := if m = 3 then 4 else if m = 4 then 3 else m
theorem upR_swM (m : Int) (neg o : Bool) (c : Int) : upR (swM m) (!neg) o c = upR m neg o c := by
  unfold upR swM
  by_cases h3 : m = 3
  · subst h3; simp
  · by_cases h4 : m = 4
    · subst h4; simp
    · simp [h3, h4]
theorem toQ_swM (m : Int) (neg : Bool) (T : Nat) (E e : Int) : toQ (swM m) (!neg) T E e = toQ m neg T E e := by
  unfold toQ rq
  simp only [upR_swM]
theorem rnP_swM (m : Int) (neg : Bool) (T : Nat) (E : Int) : rnP (swM m) (!neg) T E = rnP m neg T E := by
  unfold rnP p0 bey
  simp only [upR_swM, toQ_swM]
theorem rnF_swM (m : Int) (neg : Bool) (T : Nat) (E : Int) : rnF (swM m) (!neg) T E = rnF m neg T E := by
  unfold rnF p0 tiny
  simp only [toQ_swM]

/-! ### bits -/
theorem len_pos {T : Nat} (h : T ≠ 0) : 1 ≤ bitLen T := by unfold bitLen; rw [if_neg h]; omega
theorem len_uniq {T k : Nat} (h0 : 2 ^ k ≤ T) (h1 : T < 2 ^ (k + 1)) : bitLen T = k + 1 := by
  have hp : 0 < 2 ^ k := Nat.pow_pos (by omega)
  obtain ⟨a1, a2⟩ := bitLen_spec T
  have a2 := a2 (by omega)
  have a3 := len_pos (show T ≠ 0 by omega)
  rcases Nat.lt_or_ge (bitLen T) (k + 1) with h | h
  · have := Nat.pow_le_pow_right (show 0 < 2 by omega) (show bitLen T ≤ k by omega)
    omega
  · rcases Nat.lt_or_ge (k + 1) (bitLen T) with h' | h'
    · have := Nat.pow_le_pow_right (show 0 < 2 by omega) (show k + 1 ≤ bitLen T - 1 by omega)
      omega
    · omega
theorem len_le {T k : Nat} (h : T < 2 ^ k) : bitLen T ≤ k := by
  by_cases h0 : T = 0
  · subst h0; simp [bitLen]
  · have a2 := (bitLen_spec T).2 h0
    rcases Nat.lt_or_ge k (bitLen T) with h' | h'
    · have := Nat.pow_le_pow_right (show 0 < 2 by omega) (show k ≤ bitLen T - 1 by omega)
      omega
    · exact h'
theorem le_len {T k : Nat} (h : 2 ^ k ≤ T) : k + 1 ≤ bitLen T := by
  have a1 := (bitLen_spec T).1
  rcases Nat.lt_or_ge (bitLen T) (k + 1) with h' | h'
  · have := Nat.pow_le_pow_right (show 0 < 2 by omega) (show bitLen T ≤ k by omega)
    omega
  · exact h'
theorem len_mul {T : Nat} (h : T ≠ 0) (j : Nat) : bitLen (T * 2 ^ j) = bitLen T + j := by
  have hp : 0 < 2 ^ j := Nat.pow_pos (by omega)
  obtain ⟨a1, a2⟩ := bitLen_spec T
  have a2 := a2 h
  have a3 := len_pos h
  have e : bitLen T + j = (bitLen T - 1 + j) + 1 := by omega
  rw [e]
  apply len_uniq
  · rw [Nat.pow_add]; exact Nat.mul_le_mul_right _ a2
  · rw [show bitLen T - 1 + j + 1 = bitLen T + j by omega, Nat.pow_add]; exact Nat.mul_lt_mul_of_pos_right a1 hp
theorem len_mono {T U : Nat} (h : T ≤ U) : bitLen T ≤ bitLen U := len_le (Nat.lt_of_le_of_lt h (bitLen_spec U).1)

/-! ### what is beyond -/
theorem upR_zero (m : Int) (neg o : Bool) : upR m neg o 0 = false := by simp [upR]
theorem restC_zero (P : Nat) : restC 0 P = 0 := by simp [restC]
theorem restC_bd (r P : Nat) : 0 ≤ restC r P ∧ restC r P ≤ 3 := by unfold restC; split <;> (try split) <;> (try split) <;> omega
theorem restC_iff {r P : Nat} : restC r P = 0 ↔ r = 0 := by
  unfold restC
  split
  · simp_all
  · rename_i h; simp only [h, iff_false]; split <;> (try split) <;> omega
theorem restC_mono {r s P : Nat} (h : r ≤ s) : restC r P ≤ restC s P := by
  unfold restC
  by_cases h0 : r = 0
  · rw [if_pos h0]; split <;> (try split) <;> (try split) <;> omega
  · rw [if_neg h0, if_neg (show ¬ s = 0 by omega)]
    split <;> (try split) <;> (try split) <;> (try split) <;> omega
theorem restC_scale (r P j : Nat) : restC (r * 2 ^ j) (P * 2 ^ j) = restC r P := by
  have hp : 0 < 2 ^ j := Nat.pow_pos (by omega)
  unfold restC
  have e0 : (r * 2 ^ j = 0) ↔ r = 0 := by rw [Nat.mul_eq_zero]; omega
  have e1 : (2 * (r * 2 ^ j) < P * 2 ^ j) ↔ 2 * r < P := by rw [← Nat.mul_assoc]; exact Nat.mul_lt_mul_right hp
  have e2 : (2 * (r * 2 ^ j) = P * 2 ^ j) ↔ 2 * r = P := by rw [← Nat.mul_assoc]; exact Nat.mul_left_inj (by omega)
  simp only [e0, e1, e2]
theorem upR_mono {m : Int} {neg o : Bool} {c d : Int} (h0 : 0 ≤ c) (h : c ≤ d) (hu : upR m neg o c = true) : upR m neg o d = true := by
  unfold upR at *
  by_cases hc : c = 0
  · rw [if_pos hc] at hu; cases hu
  · rw [if_neg hc] at hu
    rw [if_neg (show ¬ d = 0 by omega)]
    by_cases h2 : m = 2
    · rw [if_pos h2] at hu; cases hu
    · rw [if_neg h2] at hu ⊢
      by_cases h3 : m = 3
      · rw [if_pos h3] at hu ⊢; exact hu
      · rw [if_neg h3] at hu ⊢
        by_cases h4 : m = 4
        · rw [if_pos h4] at hu ⊢; exact hu
        · rw [if_neg h4] at hu ⊢
          by_cases h1 : m = 1
          · rw [if_pos h1] at hu ⊢
            simp only [decide_eq_true_eq] at *
            omega
          · rw [if_neg h1] at hu ⊢
            simp only [Bool.or_eq_true, Bool.and_eq_true, decide_eq_true_eq] at *
            rcases hu with hu | ⟨hu, ho⟩
            · left; omega
            · by_cases hd : d = 2
              · right; exact ⟨hd, ho⟩
              · left; omega

/-! ### multiples -/
theorem rq_bd (m : Int) (neg : Bool) (T k : Nat) : T / 2 ^ k ≤ rq m neg T k ∧ rq m neg T k ≤ T / 2 ^ k + 1 := by unfold rq; split <;> omega
theorem rq_exact {m : Int} {neg : Bool} {T k : Nat} (h : T % 2 ^ k = 0) : rq m neg T k = T / 2 ^ k := by
  unfold rq
  rw [h, restC_zero, upR_zero]
  simp
theorem rq_scale (m : Int) (neg : Bool) (T k j : Nat) : rq m neg (T * 2 ^ j) (k + j) = rq m neg T k := by
  have hp : 0 < 2 ^ j := Nat.pow_pos (by omega)
  unfold rq
  rw [Nat.pow_add, Nat.mul_div_mul_right _ _ hp, Nat.mul_mod_mul_right, restC_scale]
theorem rq_mono {m : Int} {neg : Bool} {T U : Nat} (k : Nat) (h : T ≤ U) : rq m neg T k ≤ rq m neg U k := by
  have hp : 0 < 2 ^ k := Nat.pow_pos (by omega)
  have hd : T / 2 ^ k ≤ U / 2 ^ k := Nat.div_le_div_right h
  have b1 := rq_bd m neg T k
  have b2 := rq_bd m neg U k
  by_cases he : T / 2 ^ k = U / 2 ^ k
  · have m1 := Nat.div_add_mod T (2 ^ k)
    have m2 := Nat.div_add_mod U (2 ^ k)
    have hr : T % 2 ^ k ≤ U % 2 ^ k := by rw [he] at m1; omega
    unfold rq
    rw [he]
    by_cases hu : upR m neg (odd (U / 2 ^ k)) (restC (T % 2 ^ k) (2 ^ k)) = true
    · rw [if_pos hu, if_pos (upR_mono (restC_bd _ _).1 (restC_mono hr) hu)]
      omega
    · rw [if_neg hu]; split <;> omega
  · omega
/-- scale: the same number told in two ways -/
theorem toQ_scale (m : Int) (neg : Bool) (T j : Nat) (E e : Int) : toQ m neg (T * 2 ^ j) (E - j) e = toQ m neg T E e := by
  unfold toQ
  by_cases h1 : e ≤ E
  · rw [if_pos h1]
    by_cases h2 : e ≤ E - j
    · rw [if_pos h2, Nat.mul_assoc, ← Nat.pow_add]
      congr 2; omega
    · rw [if_neg h2]
      have ej : j = (E - e).toNat + (e - (E - j)).toNat := by omega
      have e1 : T * 2 ^ j = T * 2 ^ (E - e).toNat * 2 ^ (e - (E - j)).toNat := by rw [Nat.mul_assoc, ← Nat.pow_add, ← ej]
      have hp : 0 < 2 ^ (e - (E - j)).toNat := Nat.pow_pos (by omega)
      rw [e1, rq_exact (Nat.mul_mod_left _ _), Nat.mul_div_cancel _ hp]
  · rw [if_neg h1, if_neg (by omega), show (e - (E - j)).toNat = (e - E).toNat + j by omega, rq_scale]
theorem toL_scale (T j : Nat) (E e : Int) : toL (T * 2 ^ j) (E - j) e = toL T E e := by
  have hp : 0 < 2 ^ j := Nat.pow_pos (by omega)
  unfold toL
  by_cases h1 : e ≤ E
  · rw [if_pos h1]
    by_cases h2 : e ≤ E - j
    · rw [if_pos h2]
    · rw [if_neg h2]
      have ej : j = (E - e).toNat + (e - (E - j)).toNat := by omega
      have e1 : T * 2 ^ j = T * 2 ^ (E - e).toNat * 2 ^ (e - (E - j)).toNat := by rw [Nat.mul_assoc, ← Nat.pow_add, ← ej]
      rw [e1, Nat.mul_mod_left]
      simp
  · rw [if_neg h1, if_neg (by omega), show (e - (E - j)).toNat = (e - E).toNat + j by omega, Nat.pow_add, Nat.mul_mod_mul_right]
    congr 1
    rw [ne_eq, ne_eq, Nat.mul_eq_zero]
    simp only [eq_iff_iff]
    omega
theorem lgN_scale {T : Nat} (h : T ≠ 0) (j : Nat) (E : Int) : lgN (T * 2 ^ j) (E - j) = lgN T E := by
  unfold lgN
  rw [len_mul h]
  omega
theorem lowE_scale {T : Nat} (h : T ≠ 0) (j : Nat) (E : Int) : lowE (T * 2 ^ j) (E - j) = lowE T E := by unfold lowE; rw [lgN_scale h]
theorem p0_scale {T : Nat} (h : T ≠ 0) (m : Int) (neg : Bool) (j : Nat) (E : Int) : p0 m neg (T * 2 ^ j) (E - j) = p0 m neg T E := by unfold p0; rw [lowE_scale h, toQ_scale]
theorem tiny_scale {T : Nat} (h : T ≠ 0) (m : Int) (neg : Bool) (j : Nat) (E : Int) : tiny m neg (T * 2 ^ j) (E - j) = tiny m neg T E := by unfold tiny; rw [lgN_scale h, toQ_scale]
theorem scale_ne {T : Nat} (j : Nat) : (T * 2 ^ j = 0) = (T = 0) := by
  have hp : 0 < 2 ^ j := Nat.pow_pos (by omega)
  rw [Nat.mul_eq_zero]
  simp only [eq_iff_iff]
  omega
theorem rnP_scale (m : Int) (neg : Bool) (T j : Nat) (E : Int) : rnP m neg (T * 2 ^ j) (E - j) = rnP m neg T E := by
  unfold rnP
  simp only [scale_ne]
  by_cases h : T = 0
  · rw [if_pos h, if_pos h]
  · rw [if_neg h, if_neg h, p0_scale h]
theorem rnF_scale (m : Int) (neg : Bool) (T j : Nat) (E : Int) : rnF m neg (T * 2 ^ j) (E - j) = rnF m neg T E := by
  unfold rnF
  simp only [scale_ne]
  by_cases h : T = 0
  · rw [if_pos h, if_pos h]
  · rw [if_neg h, if_neg h, p0_scale h, tiny_scale h, lowE_scale h, toL_scale]
end Go.Rn

/-
  PLAIN ARITHMETIC: rounding keeps the order; by all modes a number lies between two patterns next to one another; a pattern's own number is rounded to it.
-/
namespace Go.Rn
open Go.Pt

/-! ### how great a multiple's number is -/
theorem toQ_le {m : Int} {neg : Bool} {T : Nat} {E e : Int} {n : Nat} (h : (bitLen T : Int) + (E - e) ≤ n) : toQ m neg T E e ≤ 2 ^ n := by
  have a1 := (bitLen_spec T).1
  unfold toQ
  by_cases he : e ≤ E
  · rw [if_pos he]
    have hp : 0 < 2 ^ (E - e).toNat := Nat.pow_pos (by omega)
    have := Nat.mul_le_mul_right (2 ^ (E - e).toNat) (Nat.le_of_lt a1)
    rw [← Nat.pow_add] at this
    have h2 := Nat.pow_le_pow_right (show 0 < 2 by omega) (show bitLen T + (E - e).toNat ≤ n by omega)
    omega
  · rw [if_neg he]
    have b := (rq_bd m neg T (e - E).toNat).2
    have h2 := Nat.pow_le_pow_right (show 0 < 2 by omega) (show bitLen T ≤ n + (e - E).toNat by omega)
    have h3 : T / 2 ^ (e - E).toNat < 2 ^ n := by
      apply Nat.div_lt_of_lt_mul
      rw [Nat.pow_add, Nat.mul_comm] at h2
      omega
    omega
theorem toQ_ge {m : Int} {neg : Bool} {T : Nat} {E e : Int} {n : Nat} (hT : T ≠ 0) (h : (n : Int) + 1 ≤ (bitLen T : Int) + (E - e)) : 2 ^ n ≤ toQ m neg T E e := by
  have a2 := (bitLen_spec T).2 hT
  have a3 := len_pos hT
  unfold toQ
  by_cases he : e ≤ E
  · rw [if_pos he]
    have := Nat.mul_le_mul_right (2 ^ (E - e).toNat) a2
    rw [← Nat.pow_add] at this
    have h2 := Nat.pow_le_pow_right (show 0 < 2 by omega) (show n ≤ bitLen T - 1 + (E - e).toNat by omega)
    omega
  · rw [if_neg he]
    have b := (rq_bd m neg T (e - E).toNat).1
    have hp : 0 < 2 ^ (e - E).toNat := Nat.pow_pos (by omega)
    have h2 := Nat.pow_le_pow_right (show 0 < 2 by omega) (show n + (e - E).toNat ≤ bitLen T - 1 by omega)
    have h3 : 2 ^ n ≤ T / 2 ^ (e - E).toNat := by
      rw [Nat.le_div_iff_mul_le hp, ← Nat.pow_add]
      omega
    omega
theorem low_hi (m : Int) (neg : Bool) (T : Nat) (E : Int) : toQ m neg T E (lowE T E) ≤ 9007199254740992 := by
  refine toQ_le (n := 53) ?_
  unfold lowE lgN
  split <;> omega
theorem low_lo {m : Int} {neg : Bool} {T : Nat} {E : Int} (hT : T ≠ 0) (h : -1074 ≤ lgN T E - 52) : 4503599627370496 ≤ toQ m neg T E (lowE T E) := by
  refine toQ_ge (n := 52) hT ?_
  unfold lowE lgN at *
  split <;> omega

/-! ### order -/
theorem toQ_mono {m : Int} {neg : Bool} {T U : Nat} {E : Int} (e : Int) (h : T ≤ U) : toQ m neg T E e ≤ toQ m neg U E e := by
  unfold toQ
  split
  · exact Nat.mul_le_mul_right _ h
  · exact rq_mono _ h
theorem lgN_mono {T U : Nat} (E : Int) (h : T ≤ U) : lgN T E ≤ lgN U E := by
  have := len_mono h
  unfold lgN
  omega
theorem p0_mono {m : Int} {neg : Bool} {T U : Nat} {E : Int} (hT : T ≠ 0) (h : T ≤ U) : p0 m neg T E ≤ p0 m neg U E := by
  have hl := lgN_mono E h
  unfold p0
  by_cases he : lowE T E = lowE U E
  · rw [he]
    have := toQ_mono (m := m) (neg := neg) (E := E) (lowE U E) h
    omega
  · have h1 := low_hi m neg T E
    have h3 : -1074 ≤ lgN U E - 52 ∧ lowE T E + 1 ≤ lowE U E := by
      unfold lowE at he ⊢
      split at he <;> split at he <;> (try split) <;> (try split) <;> omega
    have h2 := low_lo (m := m) (neg := neg) (T := U) (E := E) (by omega) h3.1
    omega
theorem lowE_ge (T : Nat) (E : Int) : -1074 ≤ lowE T E := by unfold lowE; split <;> omega
theorem p0_nonneg (m : Int) (neg : Bool) (T : Nat) (E : Int) : 0 ≤ p0 m neg T E := by
  have := lowE_ge T E
  unfold p0
  omega
theorem bey_or (m : Int) (neg : Bool) : bey m neg = 9218868437227405312 ∨ bey m neg = 9218868437227405311 := by unfold bey; split <;> simp
theorem rnP_bd (m : Int) (neg : Bool) (T : Nat) (E : Int) : 0 ≤ rnP m neg T E ∧ rnP m neg T E ≤ 9218868437227405312 := by
  have h := p0_nonneg m neg T E
  have hb := bey_or m neg
  unfold rnP
  split
  · omega
  · split <;> omega
theorem rnP_mono {m : Int} {neg : Bool} {T U : Nat} {E : Int} (h : T ≤ U) : rnP m neg T E ≤ rnP m neg U E := by
  have hU := rnP_bd m neg U E
  by_cases hT : T = 0
  · unfold rnP at *
    rw [if_pos hT]
    exact hU.1
  · have hp := p0_mono (m := m) (neg := neg) (E := E) hT h
    have hb := bey_or m neg
    unfold rnP
    rw [if_neg hT, if_neg (show ¬ U = 0 by omega)]
    split <;> split <;> omega

/-! ### between -/
/-- it goes up by a mode -/
def gup (m : Int) (neg : Bool) (T : Nat) (E e : Int) : Bool := if e ≤ E then false else upR m neg (odd (T / 2 ^ (e - E).toNat)) (restC (T % 2 ^ (e - E).toNat) (2 ^ (e - E).toNat))
theorem toQ_gup (m : Int) (neg : Bool) (T : Nat) (E e : Int) : toQ m neg T E e = toQ 2 neg T E e + (if gup m neg T E e = true then 1 else 0) := by
  unfold toQ gup
  by_cases he : e ≤ E
  · simp [he]
  · simp only [if_neg he]
    unfold rq
    have : ∀ o c, upR 2 neg o c = false := fun o c => by unfold upR; split <;> simp
    rw [this]
    simp
theorem gup_lost {m : Int} {neg : Bool} {T : Nat} {E e : Int} (h : toL T E e = false) : gup m neg T E e = false := by
  unfold gup toL at *
  by_cases he : e ≤ E
  · rw [if_pos he]
  · rw [if_neg he] at *
    have : T % 2 ^ (e - E).toNat = 0 := by simpa using h
    rw [this, restC_zero, upR_zero]
theorem gup_side {neg : Bool} {T : Nat} {E e : Int} (h : toL T E e = true) : gup 3 neg T E e = (!neg) ∧ gup 4 neg T E e = neg ∧ gup 2 neg T E e = false := by
  unfold gup toL at *
  by_cases he : e ≤ E
  · rw [if_pos he] at h; cases h
  · rw [if_neg he] at h
    simp only [if_neg he]
    have h0 : ¬ restC (T % 2 ^ (e - E).toNat) (2 ^ (e - E).toNat) = 0 := by rw [restC_iff]; simpa using h
    unfold upR
    simp [h0]
/-- not the pattern's own number -/
def inex (T : Nat) (E : Int) : Bool := decide (T ≠ 0) && (decide (9218868437227405312 ≤ p0 2 false T E) || toL T E (lowE T E))
theorem p0_cut (neg : Bool) (T : Nat) (E : Int) : p0 2 neg T E = p0 2 false T E := by
  have : ∀ n o c, upR 2 n o c = false := fun n o c => by unfold upR; split <;> simp
  unfold p0 toQ rq
  simp only [this]
def cutP (T : Nat) (E : Int) : Int := rnP 2 false T E
theorem rnP_cut (neg : Bool) (T : Nat) (E : Int) : rnP 2 neg T E = cutP T E := by
  unfold cutP rnP
  rw [p0_cut neg]
  simp [bey, upR]
theorem p0_gup (m : Int) (neg : Bool) (T : Nat) (E : Int) : p0 m neg T E = p0 2 false T E + (if gup m neg T E (lowE T E) = true then 1 else 0) := by
  have h := toQ_gup m neg T E (lowE T E)
  rw [← p0_cut neg]
  unfold p0
  rw [h]
  split <;> omega
theorem cutP_eq {T : Nat} {E : Int} (hT : T ≠ 0) : cutP T E = if 9218868437227405312 ≤ p0 2 false T E then 9218868437227405311 else p0 2 false T E := by
  unfold cutP rnP
  rw [if_neg hT]
  simp [bey, upR]
theorem exact_of {m : Int} {neg : Bool} {T : Nat} {E : Int} (h : inex T E = false) : rnP m neg T E = cutP T E ∧ rnF m neg T E = 0 := by
  by_cases hT : T = 0
  · unfold cutP rnP rnF; simp [hT]
  · have h' := h
    unfold inex at h'
    simp only [ne_eq, hT, not_false_eq_true, decide_true, Bool.true_and, Bool.or_eq_false_iff, decide_eq_false_iff_not] at h'
    have hg := gup_lost (m := m) (neg := neg) h'.2
    have hp := p0_gup m neg T E
    rw [hg] at hp
    simp only [Bool.false_eq_true, if_false, Int.add_zero] at hp
    rw [cutP_eq hT]
    unfold rnP rnF
    rw [hp]
    simp [hT, h'.1, h'.2]
theorem inex_F {m : Int} {neg : Bool} {T : Nat} {E : Int} (h : inex T E = true) : rnF m neg T E = 16 ∨ rnF m neg T E = 20 ∨ rnF m neg T E = 24 := by
  unfold inex at h
  simp only [ne_eq, Bool.and_eq_true, Bool.or_eq_true, decide_eq_true_eq] at h
  have hp := p0_gup m neg T E
  unfold rnF
  rw [if_neg h.1]
  split
  · simp
  · rename_i h2
    rcases h.2 with h3 | h3
    · exfalso; apply h2; rw [hp]; split <;> omega
    · rw [if_pos h3]
      split <;> simp
theorem cut_bd {T : Nat} {E : Int} (h : inex T E = true) : 0 ≤ cutP T E ∧ cutP T E ≤ 9218868437227405311 := by
  have h0 := p0_nonneg 2 false T E
  unfold inex at h
  simp only [ne_eq, Bool.and_eq_true, Bool.or_eq_true, decide_eq_true_eq] at h
  rw [cutP_eq h.1]
  split <;> omega
theorem inex_P {m : Int} {neg : Bool} {T : Nat} {E : Int} (h : inex T E = true) : rnP m neg T E = cutP T E ∨ rnP m neg T E = cutP T E + 1 := by
  have hi := h
  unfold inex at h
  simp only [ne_eq, Bool.and_eq_true, Bool.or_eq_true, decide_eq_true_eq] at h
  have hb := bey_or m neg
  have hp := p0_gup m neg T E
  rw [cutP_eq h.1]
  unfold rnP
  rw [if_neg h.1, hp]
  by_cases hg : gup m neg T E (lowE T E) = true
  · rw [if_pos hg]
    by_cases h4 : 9218868437227405312 ≤ p0 2 false T E
    · rw [if_pos h4, if_pos (by omega)]; omega
    · rw [if_neg h4]
      by_cases h5 : 9218868437227405312 ≤ p0 2 false T E + 1
      · rw [if_pos h5]; omega
      · rw [if_neg h5]; omega
  · rw [if_neg hg]
    by_cases h4 : 9218868437227405312 ≤ p0 2 false T E
    · rw [if_pos h4, if_pos (by omega)]; omega
    · rw [if_neg h4, if_neg (by omega)]; omega
theorem inex_side {neg : Bool} {T : Nat} {E : Int} (h : inex T E = true) : rnP 3 neg T E = cutP T E + (if neg = true then 0 else 1) ∧ rnP 4 neg T E = cutP T E + (if neg = true then 1 else 0) := by
  have hi := h
  unfold inex at h
  simp only [ne_eq, Bool.and_eq_true, Bool.or_eq_true, decide_eq_true_eq] at h
  have hp3 := p0_gup 3 neg T E
  have hp4 := p0_gup 4 neg T E
  rw [cutP_eq h.1]
  unfold rnP
  rw [if_neg h.1, if_neg h.1]
  by_cases h4 : 9218868437227405312 ≤ p0 2 false T E
  · rw [if_pos (show 9218868437227405312 ≤ p0 3 neg T E by rw [hp3]; split <;> omega), if_pos (show 9218868437227405312 ≤ p0 4 neg T E by rw [hp4]; split <;> omega), if_pos h4]
    cases neg <;> simp [bey, upR]
  · rw [if_neg h4]
    have hl : toL T E (lowE T E) = true := by
      rcases h.2 with h5 | h5
      · exact absurd h5 h4
      · exact h5
    obtain ⟨g3, g4, _⟩ := gup_side (neg := neg) hl
    rw [g3] at hp3
    rw [g4] at hp4
    cases neg
    · simp only [Bool.not_false, if_true, Bool.false_eq_true, if_false, Int.add_zero] at *
      rw [hp3, hp4, if_neg h4]
      refine ⟨?_, rfl⟩
      split
      · simp [bey, upR]; omega
      · rfl
    · simp only [Bool.not_true, if_true, Bool.false_eq_true, if_false, Int.add_zero] at *
      rw [hp3, hp4, if_neg h4]
      refine ⟨rfl, ?_⟩
      split
      · simp [bey, upR]; omega
      · rfl

/-! ### a pattern's own number -/
theorem own_eq {m : Int} {neg : Bool} {S : Nat} {x : Int} (hx : -1074 ≤ x) (hS : S < 9007199254740992) (h : x = -1074 ∨ 4503599627370496 ≤ S) (hb : (x + 1074) * 4503599627370496 + (S : Int) < 9218868437227405312) (h0 : S = 0 → x = -1074) :
    rnP m neg S x = (x + 1074) * 4503599627370496 + (S : Int) ∧ rnF m neg S x = 0 := by
  by_cases hz : S = 0
  · have := h0 hz
    subst hz
    subst this
    simp [rnP, rnF]
  · have hl : bitLen S ≤ 53 := len_le hS
    have he : lowE S x = x := by
      unfold lowE lgN
      rcases h with h | h
      · rw [if_pos (by omega)]; omega
      · have := le_len (T := S) (k := 52) h
        split <;> omega
    have hq : ∀ n, toQ n neg S x x = S := fun n => by unfold toQ; rw [if_pos (by omega), Int.sub_self]; simp
    have ht : toL S x x = false := by unfold toL; rw [if_pos (by omega)]
    unfold rnP rnF p0
    rw [he, hq, ht, if_neg hz, if_neg hz, if_neg (by omega), if_neg (by omega)]
    simp
theorem own_pat {m : Int} {neg : Bool} {p : Int} (h : ex p ≠ 2047) : rnP m neg (sg p).toNat (xp p) = mag p ∧ rnF m neg (sg p).toNat (xp p) = 0 := by
  have h1 := ex_lt p
  have h2 := fr_lt p
  have h3 := ex_mag p
  have h4 : mag p = 4503599627370496 * ex p + fr p := by unfold mag ex fr; omega
  unfold sg xp
  by_cases h0 : ex p = 0
  · simp only [if_pos h0]
    obtain ⟨a, b⟩ := own_eq (m := m) (neg := neg) (S := (fr p).toNat) (x := -1074) (by omega) (by omega) (by omega) (by omega) (by omega)
    refine ⟨?_, b⟩
    rw [a]
    omega
  · simp only [if_neg h0, if_neg h]
    obtain ⟨a, b⟩ := own_eq (m := m) (neg := neg) (S := (fr p + 4503599627370496).toNat) (x := ex p - 1075) (by omega) (by omega) (by omega) (by omega) (by omega)
    refine ⟨?_, b⟩
    rw [a]
    omega
end Go.Rn
