/-
  A RUN THAT THE KERNEL RECKONS: the newest blocks of a memory are let go; what a temporary holds that is no more needed is of the world's own.
-/
import Derived.Test.YtecemjilmlagdaaDoorG08
import Derived.Test.YtecemjilmlagdaaDoorG06
namespace Go.KRun
open Go.RowKit

theorem blk_base {k n : Nat} {base l : List (List Value × TypeId)} (hn : n = l.length + k) {i : Nat} (hi : i < k) : (⟨n, l ++ base⟩ : Hp).blk? i = (⟨k, base⟩ : Hp).blk? i := by
  unfold Hp.blk?
  rw [if_pos (blt_iff.2 (by show i < n; omega)), if_pos (blt_iff.2 hi)]
  show (l ++ base)[n - 1 - i]? = base[k - 1 - i]?
  rw [List.getElem?_append_right (by omega)]
  congr 1
  omega
theorem RunsW.cut {T : Tab} {c : Code} {x0 : Lf} {ex : Ex} {f1 f2 : List Value} {u : Value} {n k N : Nat} {extra base : List (List Value × TypeId)} (hr : RunsW T c x0 fun e z => e = ex ∧ (∃ g, z.1 = (f1 ++ u :: f2) ++ tl n g) ∧ z.2.1 = ⟨N, extra ++ base⟩)
    (hk : base.length = k) (hN : N = extra.length + k) (h0 : 0 < k) (hb : ∀ x ∈ base, ∀ v ∈ x.1, lt1 k v = true) (h1 : ∀ v ∈ f1, lt k v = true) (h2 : ∀ v ∈ f2, lt k v = true) :
    RunsW T c x0 fun e z => e = ex ∧ (∃ g j, z.1 = (f1 ++ j :: f2) ++ tl n g) ∧ z.2.1 = ⟨k, base⟩ := by
  intro m B a w R Q hQ
  refine hr m B a w R Q fun e z he m' a' w' R' hb' => ?_
  obtain ⟨rfl, ⟨g, hz1⟩, hz2⟩ := he
  obtain ⟨t, h, s⟩ := z
  simp only at hz1 hz2
  subst hz1 hz2
  obtain ⟨g', hg'⟩ := tl_of (J := (tl n g).map (fun v => Value.iface dead (mv m' v))) (n := n) (by simp [tl_len])
  refine hQ e ((f1 ++ Value.iface dead (mv m' u) :: f2) ++ tl n g', ⟨k, base⟩, s) ⟨rfl, ⟨g', _, rfl⟩, rfl⟩ m' a' w' ?_ hb'
  have E := R'.emb
  have sub : ∀ i x, (⟨k, base⟩ : Hp).blk? i = some x → (⟨N, extra ++ base⟩ : Hp).blk? i = some x := fun i x hx => by
    rw [blk_base hN (Hp.blk_lt hx)]
    exact hx
  have mem : ∀ i x, (⟨k, base⟩ : Hp).blk? i = some x → x ∈ base := fun i x hx => by
    unfold Hp.blk? at hx
    split at hx
    · exact List.mem_of_getElem? hx
    · cases hx
  have ltd : ∀ v : Value, lt k (Value.iface dead v) = true := fun v => by simp [lt, lt2, lt1, h0]
  have mvd : ∀ v : Value, mv m' (Value.iface dead (mv m' v)) = mv m' v := fun v => by simp [mv, mv2, mv1]
  refine ⟨?_, R'.dfr, ⟨hk, fun b x hx ht => E.lies b x (sub b x hx) ht, fun b x hx hro => E.low b x (sub b x hx) hro, fun b x hx ht hro => E.ros b x (sub b x hx) ht hro, fun b b' x x' hx hx' hro hro' he => E.inj b b' x x' (sub b x hx) (sub b' x' hx') hro hro' he, fun b x hx v hv => hb x (mem b x hx) v hv, E.base, E.ice, fun b x hx ha => E.abs b x (sub b x hx) ha⟩, ?_⟩
  · rw [R'.tmps]
    simp only [List.map_append, List.map_cons, mvd, ← hg', List.map_map]
    congr 2
  · intro v hv
    rcases List.mem_append.1 hv with hv | hv
    · rcases List.mem_append.1 hv with hv | hv
      · exact h1 v hv
      · rcases List.mem_cons.1 hv with rfl | hv
        · exact ltd _
        · exact h2 v hv
    · rw [← hg'] at hv
      obtain ⟨y, _, rfl⟩ := List.mem_map.1 hv
      exact ltd _
/-- the same, ahead of a piece of code -/
theorem RunsW.pre {T : Tab} {c : Code} {P : Ex → Lf → Prop} {f1 f2 : List Value} {u : Value} {n k N : Nat} {extra base : List (List Value × TypeId)} {s s' : List Dec} {g : Nat → Value} (h : ∀ j g, RunsW T c ((f1 ++ j :: f2) ++ tl n g, ⟨k, base⟩, s') P)
    (hk : base.length = k) (hN : N = extra.length + k) (h0 : 0 < k) (hb : ∀ x ∈ base, ∀ v ∈ x.1, lt1 k v = true) (h1 : ∀ v ∈ f1, lt k v = true) (h2 : ∀ v ∈ f2, lt k v = true) :
    RunsW T c ((f1 ++ u :: f2) ++ tl n g, ⟨N, extra ++ base⟩, s) P := by
  intro m B a w R Q hQ
  obtain ⟨g', hg'⟩ := tl_of (J := (tl n g).map (fun v => Value.iface dead (mv m v))) (n := n) (by simp [tl_len])
  refine h (Value.iface dead (mv m u)) g' m B a w ?_ Q hQ
  have E := R.emb
  have sub : ∀ i x, (⟨k, base⟩ : Hp).blk? i = some x → (⟨N, extra ++ base⟩ : Hp).blk? i = some x := fun i x hx => by
    rw [blk_base hN (Hp.blk_lt hx)]
    exact hx
  have mem : ∀ i x, (⟨k, base⟩ : Hp).blk? i = some x → x ∈ base := fun i x hx => by
    unfold Hp.blk? at hx
    split at hx
    · exact List.mem_of_getElem? hx
    · cases hx
  have ltd : ∀ v : Value, lt k (Value.iface dead v) = true := fun v => by simp [lt, lt2, lt1, h0]
  have mvd : ∀ v : Value, mv m (Value.iface dead (mv m v)) = mv m v := fun v => by simp [mv, mv2, mv1]
  refine ⟨?_, R.dfr, ⟨hk, fun b x hx ht => E.lies b x (sub b x hx) ht, fun b x hx hro => E.low b x (sub b x hx) hro, fun b x hx ht hro => E.ros b x (sub b x hx) ht hro, fun b b' x x' hx hx' hro hro' he => E.inj b b' x x' (sub b x hx) (sub b' x' hx') hro hro' he, fun b x hx v hv => hb x (mem b x hx) v hv, E.base, E.ice, fun b x hx ha => E.abs b x (sub b x hx) ha⟩, ?_⟩
  · rw [R.tmps]
    simp only [List.map_append, List.map_cons, mvd, ← hg', List.map_map]
    congr 2
  · intro v hv
    rcases List.mem_append.1 hv with hv | hv
    · rcases List.mem_append.1 hv with hv | hv
      · exact h1 v hv
      · rcases List.mem_cons.1 hv with rfl | hv
        · exact ltd _
        · exact h2 v hv
    · rw [← hg'] at hv
      obtain ⟨y, _, rfl⟩ := List.mem_map.1 hv
      exact ltd _
/-- a call that keeps one block of its own, whichever it is -/
theorem row_calls2 {T : Tab} {f : Nat} {F : Func} {c : Code} (hF : T.P.funcs[f]? = some F) (hc : F.body = some c) {h0 : Hp} (hr : h0.rows) {vals : List Value} (hvals : ∀ v ∈ vals, lt h0.n v = true) {v : Nat → Value}
    {cs : List Value} {ty : TypeId} (hcs : ∀ u ∈ cs, lt1 0 u = true) (hty : ro ty = false)
    (hrun : RunsW T c (vals ++ List.replicate (F.ntmps - vals.length) undef, h0, []) fun e y => (e = none ∨ e = some none) ∧ ∃ k, resS T.P F y.1 y.2.1 = some (v k) ∧ ∃ r, y.2.1.blk? k = some (cs ++ r, ty))
    (hv0 : ∀ k, oc [k] (v k) = true)
    {m : Mp} {B : Nat} {h : Hp} {w : World} (E : Emb m B h w) {s : Nat → Nat} (hf : h0.fits s h) (hv1 : ∀ k, rn (fun _ => h.n) (v k) = v h.n) :
    Calls T.P f ((vals.map (rn s)).map (mv m)).toArray w fun e w' => ∃ m', e = .returned (mv m' (v h.n)) ∧ Came m B h w (v h.n) (h.push cs ty) m' w' := by
  have E0 := E.small hr hf
  have ev : (vals.map (rn s)).map (mv m) = vals.map (mv fun i => m (s i)) := by
    rw [List.map_map]
    exact List.map_congr_left fun y _ => mv_rn m s y
  rw [ev]
  refine calls_of_wp hF hc ?_
  have R : Rel (fun i => m (s i)) w.heap.size (vals ++ List.replicate (F.ntmps - vals.length) undef, h0, []) { tmps := (vals.map (mv fun i => m (s i))).toArray ++ Array.replicate (F.ntmps - (vals.map (mv fun i => m (s i))).toArray.size) undef, defers := [] } w := by
    refine ⟨?_, rfl, E0, ?_⟩
    · simp [mv_undef]
    · intro y hy
      rcases List.mem_append.1 hy with hy | hy
      · exact hvals y hy
      · rw [List.eq_of_mem_replicate hy]; simp [undef, lt]
  refine hrun _ _ _ w R _ fun e y he m1 a' w' k2 k3 => ?_
  obtain ⟨hex, k, hres, r, hblk⟩ := he
  obtain ⟨r1, r2⟩ := resS_run k2.emb k2.wf hres
  rw [← k2.tmps] at r1
  have td : Tidy w w' := ⟨k3, fun k h1 h2 => k2.emb.ice k h1 h2⟩
  obtain ⟨E', hb⟩ := clean_emb E td
  have hlow : w.heap.size ≤ (m1 k).1 := k2.emb.low k _ hblk hty
  have hlie : lie w' (m1 k) (cs.map (mv1 m)) ty := by
    obtain ⟨r', z, l0, l1, l2⟩ := k2.emb.lies k _ hblk (tomb_ro hty)
    have e : cs.map (mv1 m1) = cs.map (mv1 m) := map_still hcs
    simp only [List.map_append] at l0 l1
    refine ⟨r.map (mv1 m1) ++ r', z, ?_, ?_, l2⟩
    · simp at l0 ⊢; omega
    · rw [← e, l1, List.append_assoc]
  have Ea := E'.adopt cs ty hty (fun u hu => lt1_mono (Nat.zero_le _) (hcs u hu)) hlie (Nat.le_trans E.base hlow) (fun b x hbx hx heq => by
    have := E.here hbx (tomb_ro hx)
    omega)
  have e1 : mv m1 (v k) = mv (upd m h.n (m1 k)) (v h.n) := by
    rw [← hv1 k, mv_rn]
    refine mv_on (fun b hb => ?_) (hv0 k)
    rw [List.mem_singleton.1 hb]
    simp [upd]
  rw [e1] at r1
  have hlt : lt (h.n + 1) (v h.n) = true := by rw [← hv1 k]; exact oc_ren (bs := [k]) (fun b hb => by show h.n < h.n + 1; omega) (hv0 k)
  have post : a'.defers = [] ∧ ∃ v', (results F a'.tmps).run T.P w' = .ok v' w' ∧ ∃ m', Ending.returned v' = .returned (mv m' (v h.n)) ∧ Came m B h w (v h.n) (h.push cs ty) m' w' :=
    ⟨k2.dfr, _, r1, upd m h.n (m1 k), rfl, ⟨upd_agree _ _ _, Ea, hb, Nat.le_succ _, hlt⟩⟩
  rcases hex with rfl | rfl <;> exact post
end Go.KRun

/-
  PLAIN ARITHMETIC: numbers of words of 32 bits, the lowest first.
-/
namespace Go.Nt

def vN : List Int → Int
  | [] => 0
  | x :: r => x + 4294967296 * vN r
/-- the lowest m words of a number -/
def dg : Nat → Int → List Int
  | 0, _ => []
  | m + 1, V => V % 4294967296 :: dg m (V / 4294967296)
def wds (L : List Int) : Prop := ∀ x ∈ L, 0 ≤ x ∧ x < 4294967296
theorem dg_len : ∀ (m : Nat) (V : Int), (dg m V).length = m
  | 0, _ => rfl
  | m + 1, V => by simp [dg, dg_len m]
theorem dg_wds : ∀ (m : Nat) (V : Int), wds (dg m V)
  | 0, _ => fun x hx => by cases hx
  | m + 1, V => fun x hx => by
    simp only [dg, List.mem_cons] at hx
    rcases hx with rfl | hx
    · omega
    · exact dg_wds m _ x hx
theorem wds_tail {x : Int} {L : List Int} (h : wds (x :: L)) : (0 ≤ x ∧ x < 4294967296) ∧ wds L := ⟨h x List.mem_cons_self, fun y hy => h y (List.mem_cons_of_mem _ hy)⟩
theorem dg_vN : ∀ L : List Int, wds L → dg L.length (vN L) = L
  | [], _ => rfl
  | x :: r, h => by
    obtain ⟨h1, h2⟩ := wds_tail h
    have ih := dg_vN r h2
    simp only [List.length_cons, dg, vN]
    have e1 : (x + 4294967296 * vN r) % 4294967296 = x := by omega
    have e2 : (x + 4294967296 * vN r) / 4294967296 = vN r := by omega
    rw [e1, e2, ih]
theorem pw (k : Nat) : (4294967296 : Int) ^ (k + 1) = 4294967296 * 4294967296 ^ k := by rw [Int.pow_succ, Int.mul_comm]
theorem pw_pos (k : Nat) : (0 : Int) < 4294967296 ^ k := Int.pow_pos (by omega)
theorem pw_le {i j : Nat} (h : i ≤ j) : (4294967296 : Int) ^ i ≤ 4294967296 ^ j := by
  have h1 : ∀ k : Nat, ((4294967296 ^ k : Nat) : Int) = 4294967296 ^ k := fun k => by simp
  rw [← h1, ← h1]
  have := Nat.pow_le_pow_right (n := 4294967296) (by omega) h
  omega
theorem vN_bd : ∀ L : List Int, wds L → 0 ≤ vN L ∧ vN L < 4294967296 ^ L.length
  | [], _ => by simp [vN]
  | x :: r, h => by
    obtain ⟨h1, h2⟩ := wds_tail h
    have ih := vN_bd r h2
    simp only [List.length_cons, vN]
    rw [pw]
    omega
theorem vN_snoc : ∀ (L : List Int) (d : Int), vN (L ++ [d]) = vN L + 4294967296 ^ L.length * d
  | [], d => by simp [vN]
  | x :: r, d => by
    have ih := vN_snoc r d
    simp only [List.cons_append, vN, List.length_cons]
    rw [ih, pw, Int.mul_assoc, Int.mul_add]
    omega
theorem vN_app : ∀ (L M : List Int), vN (L ++ M) = vN L + 4294967296 ^ L.length * vN M
  | [], M => by simp [vN]
  | x :: r, M => by
    have ih := vN_app r M
    simp only [List.cons_append, vN, List.length_cons]
    rw [ih, pw, Int.mul_assoc, Int.mul_add]
    omega
theorem wds_app {L M : List Int} (h1 : wds L) (h2 : wds M) : wds (L ++ M) := fun x hx => by
  rcases List.mem_append.1 hx with hx | hx
  · exact h1 x hx
  · exact h2 x hx
/-- one word more of a sum -/
theorem sum_step {P a b c x y d e A B : Int} (he : x + y + c = d + 4294967296 * e) (h : a + P * (x + 4294967296 * A + (y + 4294967296 * B) + c) = b) : a + P * d + 4294967296 * P * (A + B + e) = b := by
  rw [← h]
  have e1 : x + 4294967296 * A + (y + 4294967296 * B) + c = d + 4294967296 * (A + B + e) := by omega
  rw [e1]
  generalize A + B + e = Z
  rw [Int.mul_add P d, ← Int.mul_assoc P 4294967296 Z, Int.mul_comm P 4294967296]
  omega
end Go.Nt

/-
  bits.Len of a small number, and nat.Of, as contracts.
-/
namespace Go.Proofs.YtecemjilmlagdaaDoor
open Go.KRun Go.Nt
set_option maxRecDepth 100000
set_option linter.unusedVariables false

theorem lns_0 (u : Int) : Fits (reckon (tabOf Tryd.prog extY conN true) 3000 52 [.int .u64 u] [tst false, tst false, tst false, tst false]) (lenE 0 u) [lt8 u, geq u 256 false, geq u 65536 false, geq u 4294967296 false, nz] := ⟨by kernel_rfl, by kernel_rfl, by kernel_rfl, by kernel_rfl⟩
theorem lns_1 (u : Int) : Fits (reckon (tabOf Tryd.prog extY conN true) 3000 52 [.int .u64 u] [tst false, tst false, tst false, tst true]) (lenE 8 (shd u 8)) [lt8 (shd u 8), nz, geq u 256 true, geq u 65536 false, geq u 4294967296 false, nz] := ⟨by kernel_rfl, by kernel_rfl, by kernel_rfl, by kernel_rfl⟩
theorem lns_calls (u : Int) (h0 : 0 ≤ u) (h1 : u < 65536) (w : World) : Calls Tryd.prog 52 #[.int .u64 u] w fun e w' => e = .returned (.int .i64 (bitLen u.toNat : Nat)) ∧ Tidy w w' := by
  obtain ⟨U, rfl⟩ := Int.eq_ofNat_of_zero_le h0
  rw [Int.toNat_natCast]
  have p8 : (2 : Nat) ^ 8 = 256 := rfl
  have step : ∀ {v : Value} {s : List Dec} {cs : Log}, Fits (reckon (tabOf Tryd.prog extY conN true) 3000 52 [.int .u64 (U : Int)] s) v cs → okLog cs → v = .int .i64 (bitLen U : Nat) → Calls Tryd.prog 52 #[.int .u64 (U : Int)] w fun e w' => e = .returned (.int .i64 (bitLen U : Nat)) ∧ Tidy w w' :=
    fun {v s cs} hf hc hv => by subst hv; exact fits_calls (tabY_ok conN_ok) hf hc (by rfl) (by rfl) w
  by_cases c : U < 256
  · obtain ⟨e1, e2⟩ := lenE_eq (m := 0) (by omega) (by omega) c
    exact step (lns_0 U) (okTwo e2 (okTwo (geq_f (by omega)) (okTwo (geq_f (by omega)) (okTwo (geq_f (by omega)) (okOne nz_ok))))) (by rw [e1]; congr 1; omega)
  · have l := len_up U 8 (by omega)
    obtain ⟨e1, e2⟩ := lenE_eq (m := 8) (Z := U / 2 ^ 8) (by omega) (by omega) (by omega)
    rw [← shd_eq] at e1 e2
    exact step (lns_1 U) (okTwo e2 (okTwo nz_ok (okTwo (geq_t (by omega)) (okTwo (geq_f (by omega)) (okTwo (geq_f (by omega)) (okOne nz_ok)))))) (by rw [e1]; congr 1; omega)
def gLenS : Ans := fun vals s =>
  match vals with
  | [.int .u64 x] => some (.int .i64 (bitLen x.toNat : Nat), s, [(decide (0 ≤ x ∧ x < 65536), true)])
  | _ => none
theorem gLenS_ok : AnsOk 52 gLenS := by
  intro vals s v s' lg h hl w
  unfold gLenS at h
  split at h
  · cases h
    have hr := hl _ (List.mem_singleton.2 rfl)
    simp only [decide_eq_true_eq] at hr
    exact lns_calls _ hr.1 hr.2 w
  · cases h
def conPw : Con := alt 52 gLenS conN
theorem conPw_ok : ConOk conPw := alt_ok Tryd.func52 rfl gLenS_ok conN_ok
/-! ### nat.Of -/
def hcOf : Hc := altH 41 gTrim hcN
theorem hcOf_ok : HcOk hcOf := altH_ok Tryd.func41 rfl gTrim_ok hcN_ok
theorem of_body : Tryd.f51.body = some (cBody Tryd.f51) := by kernel_rfl
end Go.Proofs.YtecemjilmlagdaaDoor
