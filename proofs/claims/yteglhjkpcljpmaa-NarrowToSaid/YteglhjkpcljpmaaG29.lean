/-
  A RUN THAT THE KERNEL RECKONS: the newest blocks of a memory are let go; what a temporary holds that is no more needed is of the world's own.
-/
import Derived.Test.YteglhjkpcljpmaaG22
import Derived.Test.YteglhjkpcljpmaaG28
import Derived.Test.YteglhjkpcljpmaaG12
namespace Go.KRun
open Go.RowKit

theorem blk_base {k n : Nat} {base l : List (List Value × TypeId)} (hn : n = l.length + k) {i : Nat} (hi : i < k) : (⟨n, l ++ base⟩ : Hp).blk? i = (⟨k, base⟩ : Hp).blk? i := by
  unfold Hp.blk?
  rw [if_pos (blt_iff.2 (by show i < n; omega)), if_pos (blt_iff.2 hi)]
  show (l ++ base)[n - 1 - i]? = base[k - 1 - i]?
  rw [List.getElem?_append_right (by omega)]
  congr 1
  omega
theorem RunsW.cut {T : Tab} {c : Code} {x0 : Lf} {ex : Ex} {f1 f2 : List Value} {u : Value} {n k N : Nat} {extra base : List (List Value × TypeId)} (hr : RunsW T c x0 fun e z => e = ex ∧ (∃ g, z.1 = (f1 ++ u :: f2) ++ tl n g) ∧ z.2.1 = ⟨N, extra ++ base⟩)
    (hk : base.length = k) (hN : N = extra.length + k) (h0 : 0 < k) (hb : ∀ x ∈ base, ∀ v ∈ x.1, lt1 k v = true) (h1 : ∀ v ∈ f1, lt k v = true) (h2 : ∀ v ∈ f2, lt k v = true) :
    RunsW T c x0 fun e z => e = ex ∧ (∃ g j, z.1 = (f1 ++ j :: f2) ++ tl n g) ∧ z.2.1 = ⟨k, base⟩ := by
  intro m B a w R Q hQ
  refine hr m B a w R Q fun e z he m' a' w' R' hb' => ?_
  obtain ⟨rfl, ⟨g, hz1⟩, hz2⟩ := he
  obtain ⟨t, h, s⟩ := z
  simp only at hz1 hz2
  subst hz1 hz2
  obtain ⟨g', hg'⟩ := tl_of (J := (tl n g).map (fun v => Value.iface dead (mv m' v))) (n := n) (by simp [tl_len])
  refine hQ e ((f1 ++ Value.iface dead (mv m' u) :: f2) ++ tl n g', ⟨k, base⟩, s) ⟨rfl, ⟨g', _, rfl⟩, rfl⟩ m' a' w' ?_ hb'
  have E := R'.emb
  have sub : ∀ i x, (⟨k, base⟩ : Hp).blk? i = some x → (⟨N, extra ++ base⟩ : Hp).blk? i = some x := fun i x hx => by
    rw [blk_base hN (Hp.blk_lt hx)]
    exact hx
  have mem : ∀ i x, (⟨k, base⟩ : Hp).blk? i = some x → x ∈ base := fun i x hx => by
    unfold Hp.blk? at hx
    split at hx
    · exact List.mem_of_getElem? hx
    · cases hx
  have ltd : ∀ v : Value, lt k (Value.iface dead v) = true := fun v => by simp [lt, lt2, lt1, h0]
  have mvd : ∀ v : Value, mv m' (Value.iface dead (mv m' v)) = mv m' v := fun v => by simp [mv, mv2, mv1]
  refine ⟨?_, R'.dfr, ⟨hk, fun b x hx ht => E.lies b x (sub b x hx) ht, fun b x hx hro => E.low b x (sub b x hx) hro, fun b x hx ht hro => E.ros b x (sub b x hx) ht hro, fun b b' x x' hx hx' hro hro' he => E.inj b b' x x' (sub b x hx) (sub b' x' hx') hro hro' he, fun b x hx v hv => hb x (mem b x hx) v hv, E.base, E.ice, fun b x hx ha => E.abs b x (sub b x hx) ha⟩, ?_⟩
  · rw [R'.tmps]
    simp only [List.map_append, List.map_cons, mvd, ← hg', List.map_map]
    congr 2
  · intro v hv
    rcases List.mem_append.1 hv with hv | hv
    · rcases List.mem_append.1 hv with hv | hv
      · exact h1 v hv
      · rcases List.mem_cons.1 hv with rfl | hv
        · exact ltd _
        · exact h2 v hv
    · rw [← hg'] at hv
      obtain ⟨y, _, rfl⟩ := List.mem_map.1 hv
      exact ltd _
/-- the same, ahead of a piece of code -/
theorem RunsW.pre {T : Tab} {c : Code} {P : Ex → Lf → Prop} {f1 f2 : List Value} {u : Value} {n k N : Nat} {extra base : List (List Value × TypeId)} {s s' : List Dec} {g : Nat → Value} (h : ∀ j g, RunsW T c ((f1 ++ j :: f2) ++ tl n g, ⟨k, base⟩, s') P)
    (hk : base.length = k) (hN : N = extra.length + k) (h0 : 0 < k) (hb : ∀ x ∈ base, ∀ v ∈ x.1, lt1 k v = true) (h1 : ∀ v ∈ f1, lt k v = true) (h2 : ∀ v ∈ f2, lt k v = true) :
    RunsW T c ((f1 ++ u :: f2) ++ tl n g, ⟨N, extra ++ base⟩, s) P := by
  intro m B a w R Q hQ
  obtain ⟨g', hg'⟩ := tl_of (J := (tl n g).map (fun v => Value.iface dead (mv m v))) (n := n) (by simp [tl_len])
  refine h (Value.iface dead (mv m u)) g' m B a w ?_ Q hQ
  have E := R.emb
  have sub : ∀ i x, (⟨k, base⟩ : Hp).blk? i = some x → (⟨N, extra ++ base⟩ : Hp).blk? i = some x := fun i x hx => by
    rw [blk_base hN (Hp.blk_lt hx)]
    exact hx
  have mem : ∀ i x, (⟨k, base⟩ : Hp).blk? i = some x → x ∈ base := fun i x hx => by
    unfold Hp.blk? at hx
    split at hx
    · exact List.mem_of_getElem? hx
    · cases hx
  have ltd : ∀ v : Value, lt k (Value.iface dead v) = true := fun v => by simp [lt, lt2, lt1, h0]
  have mvd : ∀ v : Value, mv m (Value.iface dead (mv m v)) = mv m v := fun v => by simp [mv, mv2, mv1]
  refine ⟨?_, R.dfr, ⟨hk, fun b x hx ht => E.lies b x (sub b x hx) ht, fun b x hx hro => E.low b x (sub b x hx) hro, fun b x hx ht hro => E.ros b x (sub b x hx) ht hro, fun b b' x x' hx hx' hro hro' he => E.inj b b' x x' (sub b x hx) (sub b' x' hx') hro hro' he, fun b x hx v hv => hb x (mem b x hx) v hv, E.base, E.ice, fun b x hx ha => E.abs b x (sub b x hx) ha⟩, ?_⟩
  · rw [R.tmps]
    simp only [List.map_append, List.map_cons, mvd, ← hg', List.map_map]
    congr 2
  · intro v hv
    rcases List.mem_append.1 hv with hv | hv
    · rcases List.mem_append.1 hv with hv | hv
      · exact h1 v hv
      · rcases List.mem_cons.1 hv with rfl | hv
        · exact ltd _
        · exact h2 v hv
    · rw [← hg'] at hv
      obtain ⟨y, _, rfl⟩ := List.mem_map.1 hv
      exact ltd _
/-- a call that keeps one block of its own, whichever it is -/
theorem row_calls2 {T : Tab} {f : Nat} {F : Func} {c : Code} (hF : T.P.funcs[f]? = some F) (hc : F.body = some c) {h0 : Hp} (hr : h0.rows) {vals : List Value} (hvals : ∀ v ∈ vals, lt h0.n v = true) {v : Nat → Value}
    {cs : List Value} {ty : TypeId} (hcs : ∀ u ∈ cs, lt1 0 u = true) (hty : ro ty = false)
    (hrun : RunsW T c (vals ++ List.replicate (F.ntmps - vals.length) undef, h0, []) fun e y => (e = none ∨ e = some none) ∧ ∃ k, resS T.P F y.1 y.2.1 = some (v k) ∧ ∃ r, y.2.1.blk? k = some (cs ++ r, ty))
    (hv0 : ∀ k, oc [k] (v k) = true)
    {m : Mp} {B : Nat} {h : Hp} {w : World} (E : Emb m B h w) {s : Nat → Nat} (hf : h0.fits s h) (hv1 : ∀ k, rn (fun _ => h.n) (v k) = v h.n) :
    Calls T.P f ((vals.map (rn s)).map (mv m)).toArray w fun e w' => ∃ m', e = .returned (mv m' (v h.n)) ∧ Came m B h w (v h.n) (h.push cs ty) m' w' := by
  have E0 := E.small hr hf
  have ev : (vals.map (rn s)).map (mv m) = vals.map (mv fun i => m (s i)) := by
    rw [List.map_map]
    exact List.map_congr_left fun y _ => mv_rn m s y
  rw [ev]
  refine calls_of_wp hF hc ?_
  have R : Rel (fun i => m (s i)) w.heap.size (vals ++ List.replicate (F.ntmps - vals.length) undef, h0, []) { tmps := (vals.map (mv fun i => m (s i))).toArray ++ Array.replicate (F.ntmps - (vals.map (mv fun i => m (s i))).toArray.size) undef, defers := [] } w := by
    refine ⟨?_, rfl, E0, ?_⟩
    · simp [mv_undef]
    · intro y hy
      rcases List.mem_append.1 hy with hy | hy
      · exact hvals y hy
      · rw [List.eq_of_mem_replicate hy]; simp [undef, lt]
  refine hrun _ _ _ w R _ fun e y he m1 a' w' k2 k3 => ?_
  obtain ⟨hex, k, hres, r, hblk⟩ := he
  obtain ⟨r1, r2⟩ := resS_run k2.emb k2.wf hres
  rw [← k2.tmps] at r1
  have td : Tidy w w' := ⟨k3, fun k h1 h2 => k2.emb.ice k h1 h2⟩
  obtain ⟨E', hb⟩ := clean_emb E td
  have hlow : w.heap.size ≤ (m1 k).1 := k2.emb.low k _ hblk hty
  have hlie : lie w' (m1 k) (cs.map (mv1 m)) ty := by
    obtain ⟨r', z, l0, l1, l2⟩ := k2.emb.lies k _ hblk (tomb_ro hty)
    have e : cs.map (mv1 m1) = cs.map (mv1 m) := map_still hcs
    simp only [List.map_append] at l0 l1
    refine ⟨r.map (mv1 m1) ++ r', z, ?_, ?_, l2⟩
    · simp at l0 ⊢; omega
    · rw [← e, l1, List.append_assoc]
  have Ea := E'.adopt cs ty hty (fun u hu => lt1_mono (Nat.zero_le _) (hcs u hu)) hlie (Nat.le_trans E.base hlow) (fun b x hbx hx heq => by
    have := E.here hbx (tomb_ro hx)
    omega)
  have e1 : mv m1 (v k) = mv (upd m h.n (m1 k)) (v h.n) := by
    rw [← hv1 k, mv_rn]
    refine mv_on (fun b hb => ?_) (hv0 k)
    rw [List.mem_singleton.1 hb]
    simp [upd]
  rw [e1] at r1
  have hlt : lt (h.n + 1) (v h.n) = true := by rw [← hv1 k]; exact oc_ren (bs := [k]) (fun b hb => by show h.n < h.n + 1; omega) (hv0 k)
  have post : a'.defers = [] ∧ ∃ v', (results F a'.tmps).run T.P w' = .ok v' w' ∧ ∃ m', Ending.returned v' = .returned (mv m' (v h.n)) ∧ Came m B h w (v h.n) (h.push cs ty) m' w' :=
    ⟨k2.dfr, _, r1, upd m h.n (m1 k), rfl, ⟨upd_agree _ _ _, Ea, hb, Nat.le_succ _, hlt⟩⟩
  rcases hex with rfl | rfl <;> exact post
end Go.KRun

/-
  The document's To (tillerref04): a size rounded to multiples of a power of two: its pieces.
-/
namespace Go.Proofs.Yteglhjkpcljpmaa
open Go.KRun Go.Nt Go.Wd
set_option maxRecDepth 100000
set_option linter.unusedVariables false

def tC (F : Func) : Nat → Code
  | 0 => cBody F
  | n + 1 => cSnd (tC F n)
def tS1 (F : Func) : List Code := [cFst (tC F 0), cFst (tC F 1), cFst (tC F 2), cFst (tC F 3), cFst (tC F 4), cFst (tC F 5)]
def tS2 (F : Func) : List Code := [cFst (tC F 6), cFst (tC F 7), cFst (tC F 8)]
def tS3 (F : Func) : Code := cFst (tC F 9)
def tS4 (F : Func) : Code := cFst (tC F 10)
def tS5 (F : Func) : Code := tC F 11
theorem to_body : Try.f22.body = some (cBody Try.f22) := by kernel_rfl
theorem to_body3 : Try.f22.body = some (seqs (tS1 Try.f22) (seqs (tS2 Try.f22) (.seq (tS3 Try.f22) (.seq (tS4 Try.f22) (tS5 Try.f22))))) := by kernel_rfl
def bX (neg : Bool) (E : Int) (o n c : Nat) : List Value × TypeId := bOf neg E (sl 0 o n c)
def hX (neg : Bool) (E : Int) (o n c : Nat) (l : List Value) : Hp := ⟨2, [bX neg E o n c, (l, tR)]⟩
def hQ (neg : Bool) (E : Int) (o n c : Nat) (l : List Value) (q : Nat) : Hp := ⟨3, [(wU (d16 q), tU), bX neg E o n c, (l, tR)]⟩
def aX (o : Nat) : Option Addr := some ⟨0, o, none⟩
def dif (x y : Int) : Int := IntKind.i64.wrap (x - y)
def okShl (h : Hp) (p : Option Addr) (n c : Nat) (k : Int) : Bool := rowP h p n c && dgB (rowOf h p n) && Nat.blt (k.toNat / 16 + n + 3) 1073741824 && decide (0 ≤ k)
def okLen (h : Hp) (p : Option Addr) (n c : Nat) : Bool := rowP h p n c && canB (rowOf h p n) && Nat.blt n 1073741824
theorem to_upT (neg : Bool) (E N M : Int) (o n c : Nat) (l : List Value) : GoesT (evC (tabH Try.prog extY conN hcW) 200 false (cBody Try.f22) ([vRN neg E (sl 0 o n c), .int .i64 N, .int .i64 M] ++ List.replicate 103 undef, ⟨1, [(l, tR)]⟩, [cmp true, cmp true]) ⟨[], [], []⟩) 8 98 (some none) [vRN neg E (sl 0 o n c), .int .i64 N, .int .i64 M, .pointer (some ⟨1, 0, none⟩), undef, undef, sOf 2 ((vO (hX neg E o n c l) (aX o) n) * 2 ^ (dif E N).toNat), .bool false] (nxt (hX neg E o n c l) ((vO (hX neg E o n c l) (aX o) n) * 2 ^ (dif E N).toNat)) [(okShl (hX neg E o n c l) (aX o) n c (dif E N), true), (decide (0 < n), true), (decide (E ≥ N), true)] := ⟨by kernel_rfl, by kernel_rfl, by kernel_rfl⟩
theorem to_upF (neg : Bool) (E N M : Int) (o n c : Nat) (l : List Value) : GoesT (evC (tabH Try.prog extY conN hcW) 200 false (cBody Try.f22) ([vRN neg E (sl 0 o n c), .int .i64 N, .int .i64 M] ++ List.replicate 103 undef, ⟨1, [(l, tR)]⟩, [cmp true, cmp false]) ⟨[], [], []⟩) 8 98 (some none) [vRN neg E (sl 0 o n c), .int .i64 N, .int .i64 M, .pointer (some ⟨1, 0, none⟩), undef, undef, nilS, .bool false] (hX neg E o n c l) [(rowP (hX neg E o n c l) (aX o) n c, true), (decide (0 < n), false), (decide (E ≥ N), true)] := ⟨by kernel_rfl, by kernel_rfl, by kernel_rfl⟩
theorem to_dnT (neg : Bool) (E N M : Int) (o n c : Nat) (l : List Value) : GoesT (evC (tabH Try.prog extY conN hcW) 200 false (cBody Try.f22) ([vRN neg E (sl 0 o n c), .int .i64 N, .int .i64 M] ++ List.replicate 103 undef, ⟨1, [(l, tR)]⟩, [cmp false, cmp true, cmp false]) ⟨[], [], []⟩) 8 98 (some none) [vRN neg E (sl 0 o n c), .int .i64 N, .int .i64 M, .pointer (some ⟨1, 0, none⟩), undef, undef, sOf 2 ((vO (hX neg E o n c l) (aX o) n) / 2 ^ (dif N E).toNat), .bool false] (nxt (hX neg E o n c l) ((vO (hX neg E o n c l) (aX o) n) / 2 ^ (dif N E).toNat)) [(decide ((vO (hX neg E o n c l) (aX o) n) % 2 ^ (dif N E).toNat ≠ 0), false), (decide ((dif N E).toNat / 16 < n), true), (okShr (hX neg E o n c l) (aX o) n c (dif N E), true), (decide (E ≥ N), false)] := ⟨by kernel_rfl, by kernel_rfl, by kernel_rfl⟩
theorem to_dnF (neg : Bool) (E N M : Int) (o n c : Nat) (l : List Value) : GoesT (evC (tabH Try.prog extY conN hcW) 200 false (cBody Try.f22) ([vRN neg E (sl 0 o n c), .int .i64 N, .int .i64 M] ++ List.replicate 103 undef, ⟨1, [(l, tR)]⟩, [cmp false, cmp false, cmp false]) ⟨[], [], []⟩) 8 98 (some none) [vRN neg E (sl 0 o n c), .int .i64 N, .int .i64 M, .pointer (some ⟨1, 0, none⟩), undef, undef, nilS, .bool false] (hX neg E o n c l) [(decide ((vO (hX neg E o n c l) (aX o) n) % 2 ^ (dif N E).toNat ≠ 0), false), (decide ((dif N E).toNat / 16 < n), false), (okShr (hX neg E o n c l) (aX o) n c (dif N E), true), (decide (E ≥ N), false)] := ⟨by kernel_rfl, by kernel_rfl, by kernel_rfl⟩
theorem to_s1T (neg d : Bool) (E N M : Int) (o n c : Nat) (l : List Value) : GoesT (evL (tabH Try.prog extY conN hcW) 200 (tS1 Try.f22) ([vRN neg E (sl 0 o n c), .int .i64 N, .int .i64 M] ++ List.replicate 103 undef, ⟨1, [(l, tR)]⟩, [cmp false, cmp true, cmp true, cmp d]) ⟨[], [], []⟩) 12 94 none [vRN neg E (sl 0 o n c), .int .i64 N, .int .i64 M, .pointer (some ⟨1, 0, none⟩), undef, undef, nilS, .bool false, .int .i64 (dif N E), sOf 2 ((vO (hX neg E o n c l) (aX o) n) / 2 ^ (dif N E).toNat), .bool true, .bool d] (nxt (hX neg E o n c l) ((vO (hX neg E o n c l) (aX o) n) / 2 ^ (dif N E).toNat)) [(((vO (nxt (hX neg E o n c l) ((vO (hX neg E o n c l) (aX o) n) / 2 ^ (dif N E).toNat)) (aX o) n / 2 ^ (dif (dif N E) 1).toNat % 2 : Nat) : Int) == 1, d), (rowD (nxt (hX neg E o n c l) ((vO (hX neg E o n c l) (aX o) n) / 2 ^ (dif N E).toNat)) (aX o) n c, true), (decide (0 ≤ dif (dif N E) 1 ∧ dif (dif N E) 1 < 4611686018427387904), true), (decide ((vO (hX neg E o n c l) (aX o) n) % 2 ^ (dif N E).toNat ≠ 0), true), (decide ((dif N E).toNat / 16 < n), true), (okShr (hX neg E o n c l) (aX o) n c (dif N E), true), (decide (E ≥ N), false)] := ⟨by kernel_rfl, by kernel_rfl, by kernel_rfl⟩
theorem to_s1F (neg d : Bool) (E N M : Int) (o n c : Nat) (l : List Value) : GoesT (evL (tabH Try.prog extY conN hcW) 200 (tS1 Try.f22) ([vRN neg E (sl 0 o n c), .int .i64 N, .int .i64 M] ++ List.replicate 103 undef, ⟨1, [(l, tR)]⟩, [cmp false, cmp false, cmp true, cmp d]) ⟨[], [], []⟩) 12 94 none [vRN neg E (sl 0 o n c), .int .i64 N, .int .i64 M, .pointer (some ⟨1, 0, none⟩), undef, undef, nilS, .bool false, .int .i64 (dif N E), nilS, .bool true, .bool d] (hX neg E o n c l) [(((vO (hX neg E o n c l) (aX o) n / 2 ^ (dif (dif N E) 1).toNat % 2 : Nat) : Int) == 1, d), (rowD (hX neg E o n c l) (aX o) n c, true), (decide (0 ≤ dif (dif N E) 1 ∧ dif (dif N E) 1 < 4611686018427387904), true), (decide ((vO (hX neg E o n c l) (aX o) n) % 2 ^ (dif N E).toNat ≠ 0), true), (decide ((dif N E).toNat / 16 < n), false), (okShr (hX neg E o n c l) (aX o) n c (dif N E), true), (decide (E ≥ N), false)] := ⟨by kernel_rfl, by kernel_rfl, by kernel_rfl⟩
theorem to_cr0F (neg j : Bool) (E N M b : Int) (o n c q : Nat) (l : List Value) (g : Nat → Value) : GoesT (evL (tabH Try.prog extY conN hcW) 200 (tS2 Try.f22) ([vRN neg E (sl 0 o n c), .int .i64 N, .int .i64 M, .pointer (some ⟨1, 0, none⟩), undef, undef, nilS, .bool false, .int .i64 b, sOf 2 q, .bool true, .bool false] ++ tl 94 g, (hQ neg E o n c l q), [cmp false]) ⟨[], [], []⟩) 14 92 none [vRN neg E (sl 0 o n c), .int .i64 N, .int .i64 M, .pointer (some ⟨1, 0, none⟩), undef, undef, nilS, .bool false, .int .i64 b, sOf 2 q, .bool true, .bool false, sl 0 o n c, .bool false] (hQ neg E o n c l q) [(decide (b ≤ ((bl (vO (hQ neg E o n c l q) (aX o) n) : Nat) : Int)), false), (okLen (hQ neg E o n c l q) (aX o) n c, true)] := ⟨by kernel_rfl, by kernel_rfl, by kernel_rfl⟩
theorem to_cr0T (neg j : Bool) (E N M b : Int) (o n c q : Nat) (l : List Value) (g : Nat → Value) : GoesT (evL (tabH Try.prog extY conN hcW) 200 (tS2 Try.f22) ([vRN neg E (sl 0 o n c), .int .i64 N, .int .i64 M, .pointer (some ⟨1, 0, none⟩), undef, undef, nilS, .bool false, .int .i64 b, sOf 2 q, .bool true, .bool true] ++ tl 94 g, (hQ neg E o n c l q), [cmp false, cmp true, cmp j]) ⟨[], [], []⟩) 14 92 none [vRN neg E (sl 0 o n c), .int .i64 N, .int .i64 M, .pointer (some ⟨1, 0, none⟩), undef, undef, nilS, .bool false, .int .i64 b, sOf 2 q, .bool true, .bool true, sl 0 o n c, .bool j] (nxt (nxt (hQ neg E o n c l q) 1) (vO (nxt (hQ neg E o n c l q) 1) (some ⟨3, 0, none⟩) (d16 1).length * 2 ^ (dif b 1).toNat)) [(cmpZ (vO (nxt (nxt (hQ neg E o n c l q) 1) (vO (nxt (hQ neg E o n c l q) 1) (some ⟨3, 0, none⟩) (d16 1).length * 2 ^ (dif b 1).toNat)) (aX o) n) (vO (nxt (nxt (hQ neg E o n c l q) 1) (vO (nxt (hQ neg E o n c l q) 1) (some ⟨3, 0, none⟩) (d16 1).length * 2 ^ (dif b 1).toNat)) (some ⟨4, 0, none⟩) (d16 (vO (nxt (hQ neg E o n c l q) 1) (some ⟨3, 0, none⟩) (d16 1).length * 2 ^ (dif b 1).toNat)).length) == 0, j), (two16 (nxt (nxt (hQ neg E o n c l q) 1) (vO (nxt (hQ neg E o n c l q) 1) (some ⟨3, 0, none⟩) (d16 1).length * 2 ^ (dif b 1).toNat)) (aX o) (some ⟨4, 0, none⟩) n c (d16 (vO (nxt (hQ neg E o n c l q) 1) (some ⟨3, 0, none⟩) (d16 1).length * 2 ^ (dif b 1).toNat)).length (d16 (vO (nxt (hQ neg E o n c l q) 1) (some ⟨3, 0, none⟩) (d16 1).length * 2 ^ (dif b 1).toNat)).length, true), (okShl (nxt (hQ neg E o n c l q) 1) (some ⟨3, 0, none⟩) (d16 1).length (d16 1).length (dif b 1), true), (decide (0 < (d16 1).length), true), okOne1, (decide (b ≤ ((bl (vO (hQ neg E o n c l q) (aX o) n) : Nat) : Int)), false), (okLen (hQ neg E o n c l q) (aX o) n c, true)] := ⟨by kernel_rfl, by kernel_rfl, by kernel_rfl⟩
theorem to_cr1F (neg j : Bool) (E N M b : Int) (o n c q : Nat) (l : List Value) (g : Nat → Value) : GoesT (evL (tabH Try.prog extY conN hcW) 200 (tS2 Try.f22) ([vRN neg E (sl 0 o n c), .int .i64 N, .int .i64 M, .pointer (some ⟨1, 0, none⟩), undef, undef, nilS, .bool false, .int .i64 b, sOf 2 q, .bool true, .bool false] ++ tl 94 g, (hQ neg E o n c l q), [cmp true, cmp true, cmp true]) ⟨[], [], []⟩) 14 92 none [vRN neg E (sl 0 o n c), .int .i64 N, .int .i64 M, .pointer (some ⟨1, 0, none⟩), undef, undef, nilS, .bool false, .int .i64 b, sOf 2 q, .bool true, .bool false, sOf 4 (vO (nxt (hQ neg E o n c l q) (vO (hQ neg E o n c l q) (some ⟨2, 0, none⟩) (d16 q).length * 2 ^ b.toNat)) (aX o) n - vO (nxt (hQ neg E o n c l q) (vO (hQ neg E o n c l q) (some ⟨2, 0, none⟩) (d16 q).length * 2 ^ b.toNat)) (some ⟨3, 0, none⟩) (d16 (vO (hQ neg E o n c l q) (some ⟨2, 0, none⟩) (d16 q).length * 2 ^ b.toNat)).length), .bool false] (nxt (nxt (hQ neg E o n c l q) (vO (hQ neg E o n c l q) (some ⟨2, 0, none⟩) (d16 q).length * 2 ^ b.toNat)) (vO (nxt (hQ neg E o n c l q) (vO (hQ neg E o n c l q) (some ⟨2, 0, none⟩) (d16 q).length * 2 ^ b.toNat)) (aX o) n - vO (nxt (hQ neg E o n c l q) (vO (hQ neg E o n c l q) (some ⟨2, 0, none⟩) (d16 q).length * 2 ^ b.toNat)) (some ⟨3, 0, none⟩) (d16 (vO (hQ neg E o n c l q) (some ⟨2, 0, none⟩) (d16 q).length * 2 ^ b.toNat)).length)) [(two16 (nxt (hQ neg E o n c l q) (vO (hQ neg E o n c l q) (some ⟨2, 0, none⟩) (d16 q).length * 2 ^ b.toNat)) (aX o) (some ⟨3, 0, none⟩) n c (d16 (vO (hQ neg E o n c l q) (some ⟨2, 0, none⟩) (d16 q).length * 2 ^ b.toNat)).length (d16 (vO (hQ neg E o n c l q) (some ⟨2, 0, none⟩) (d16 q).length * 2 ^ b.toNat)).length && Nat.ble (vO (nxt (hQ neg E o n c l q) (vO (hQ neg E o n c l q) (some ⟨2, 0, none⟩) (d16 q).length * 2 ^ b.toNat)) (some ⟨3, 0, none⟩) (d16 (vO (hQ neg E o n c l q) (some ⟨2, 0, none⟩) (d16 q).length * 2 ^ b.toNat)).length) (vO (nxt (hQ neg E o n c l q) (vO (hQ neg E o n c l q) (some ⟨2, 0, none⟩) (d16 q).length * 2 ^ b.toNat)) (aX o) n), true), (decide (0 < n), true), (okShl (hQ neg E o n c l q) (some ⟨2, 0, none⟩) (d16 q).length (d16 q).length b, true), (decide (0 < (d16 q).length), true), (decide (b ≤ ((bl (vO (hQ neg E o n c l q) (aX o) n) : Nat) : Int)), true), (okLen (hQ neg E o n c l q) (aX o) n c, true)] := ⟨by kernel_rfl, by kernel_rfl, by kernel_rfl⟩
theorem to_cr1T (neg j : Bool) (E N M b : Int) (o n c q : Nat) (l : List Value) (g : Nat → Value) : GoesT (evL (tabH Try.prog extY conN hcW) 200 (tS2 Try.f22) ([vRN neg E (sl 0 o n c), .int .i64 N, .int .i64 M, .pointer (some ⟨1, 0, none⟩), undef, undef, nilS, .bool false, .int .i64 b, sOf 2 q, .bool true, .bool true] ++ tl 94 g, (hQ neg E o n c l q), [cmp true, cmp true, cmp true, cmp true, cmp j]) ⟨[], [], []⟩) 14 92 none [vRN neg E (sl 0 o n c), .int .i64 N, .int .i64 M, .pointer (some ⟨1, 0, none⟩), undef, undef, nilS, .bool false, .int .i64 b, sOf 2 q, .bool true, .bool true, sOf 4 (vO (nxt (hQ neg E o n c l q) (vO (hQ neg E o n c l q) (some ⟨2, 0, none⟩) (d16 q).length * 2 ^ b.toNat)) (aX o) n - vO (nxt (hQ neg E o n c l q) (vO (hQ neg E o n c l q) (some ⟨2, 0, none⟩) (d16 q).length * 2 ^ b.toNat)) (some ⟨3, 0, none⟩) (d16 (vO (hQ neg E o n c l q) (some ⟨2, 0, none⟩) (d16 q).length * 2 ^ b.toNat)).length), .bool j] (nxt (nxt (nxt (nxt (hQ neg E o n c l q) (vO (hQ neg E o n c l q) (some ⟨2, 0, none⟩) (d16 q).length * 2 ^ b.toNat)) (vO (nxt (hQ neg E o n c l q) (vO (hQ neg E o n c l q) (some ⟨2, 0, none⟩) (d16 q).length * 2 ^ b.toNat)) (aX o) n - vO (nxt (hQ neg E o n c l q) (vO (hQ neg E o n c l q) (some ⟨2, 0, none⟩) (d16 q).length * 2 ^ b.toNat)) (some ⟨3, 0, none⟩) (d16 (vO (hQ neg E o n c l q) (some ⟨2, 0, none⟩) (d16 q).length * 2 ^ b.toNat)).length)) 1) (vO (nxt (nxt (nxt (hQ neg E o n c l q) (vO (hQ neg E o n c l q) (some ⟨2, 0, none⟩) (d16 q).length * 2 ^ b.toNat)) (vO (nxt (hQ neg E o n c l q) (vO (hQ neg E o n c l q) (some ⟨2, 0, none⟩) (d16 q).length * 2 ^ b.toNat)) (aX o) n - vO (nxt (hQ neg E o n c l q) (vO (hQ neg E o n c l q) (some ⟨2, 0, none⟩) (d16 q).length * 2 ^ b.toNat)) (some ⟨3, 0, none⟩) (d16 (vO (hQ neg E o n c l q) (some ⟨2, 0, none⟩) (d16 q).length * 2 ^ b.toNat)).length)) 1) (some ⟨5, 0, none⟩) (d16 1).length * 2 ^ (dif b 1).toNat)) [(cmpZ (vO (nxt (nxt (nxt (nxt (hQ neg E o n c l q) (vO (hQ neg E o n c l q) (some ⟨2, 0, none⟩) (d16 q).length * 2 ^ b.toNat)) (vO (nxt (hQ neg E o n c l q) (vO (hQ neg E o n c l q) (some ⟨2, 0, none⟩) (d16 q).length * 2 ^ b.toNat)) (aX o) n - vO (nxt (hQ neg E o n c l q) (vO (hQ neg E o n c l q) (some ⟨2, 0, none⟩) (d16 q).length * 2 ^ b.toNat)) (some ⟨3, 0, none⟩) (d16 (vO (hQ neg E o n c l q) (some ⟨2, 0, none⟩) (d16 q).length * 2 ^ b.toNat)).length)) 1) (vO (nxt (nxt (nxt (hQ neg E o n c l q) (vO (hQ neg E o n c l q) (some ⟨2, 0, none⟩) (d16 q).length * 2 ^ b.toNat)) (vO (nxt (hQ neg E o n c l q) (vO (hQ neg E o n c l q) (some ⟨2, 0, none⟩) (d16 q).length * 2 ^ b.toNat)) (aX o) n - vO (nxt (hQ neg E o n c l q) (vO (hQ neg E o n c l q) (some ⟨2, 0, none⟩) (d16 q).length * 2 ^ b.toNat)) (some ⟨3, 0, none⟩) (d16 (vO (hQ neg E o n c l q) (some ⟨2, 0, none⟩) (d16 q).length * 2 ^ b.toNat)).length)) 1) (some ⟨5, 0, none⟩) (d16 1).length * 2 ^ (dif b 1).toNat)) (some ⟨4, 0, none⟩) (d16 (vO (nxt (hQ neg E o n c l q) (vO (hQ neg E o n c l q) (some ⟨2, 0, none⟩) (d16 q).length * 2 ^ b.toNat)) (aX o) n - vO (nxt (hQ neg E o n c l q) (vO (hQ neg E o n c l q) (some ⟨2, 0, none⟩) (d16 q).length * 2 ^ b.toNat)) (some ⟨3, 0, none⟩) (d16 (vO (hQ neg E o n c l q) (some ⟨2, 0, none⟩) (d16 q).length * 2 ^ b.toNat)).length)).length) (vO (nxt (nxt (nxt (nxt (hQ neg E o n c l q) (vO (hQ neg E o n c l q) (some ⟨2, 0, none⟩) (d16 q).length * 2 ^ b.toNat)) (vO (nxt (hQ neg E o n c l q) (vO (hQ neg E o n c l q) (some ⟨2, 0, none⟩) (d16 q).length * 2 ^ b.toNat)) (aX o) n - vO (nxt (hQ neg E o n c l q) (vO (hQ neg E o n c l q) (some ⟨2, 0, none⟩) (d16 q).length * 2 ^ b.toNat)) (some ⟨3, 0, none⟩) (d16 (vO (hQ neg E o n c l q) (some ⟨2, 0, none⟩) (d16 q).length * 2 ^ b.toNat)).length)) 1) (vO (nxt (nxt (nxt (hQ neg E o n c l q) (vO (hQ neg E o n c l q) (some ⟨2, 0, none⟩) (d16 q).length * 2 ^ b.toNat)) (vO (nxt (hQ neg E o n c l q) (vO (hQ neg E o n c l q) (some ⟨2, 0, none⟩) (d16 q).length * 2 ^ b.toNat)) (aX o) n - vO (nxt (hQ neg E o n c l q) (vO (hQ neg E o n c l q) (some ⟨2, 0, none⟩) (d16 q).length * 2 ^ b.toNat)) (some ⟨3, 0, none⟩) (d16 (vO (hQ neg E o n c l q) (some ⟨2, 0, none⟩) (d16 q).length * 2 ^ b.toNat)).length)) 1) (some ⟨5, 0, none⟩) (d16 1).length * 2 ^ (dif b 1).toNat)) (some ⟨6, 0, none⟩) (d16 (vO (nxt (nxt (nxt (hQ neg E o n c l q) (vO (hQ neg E o n c l q) (some ⟨2, 0, none⟩) (d16 q).length * 2 ^ b.toNat)) (vO (nxt (hQ neg E o n c l q) (vO (hQ neg E o n c l q) (some ⟨2, 0, none⟩) (d16 q).length * 2 ^ b.toNat)) (aX o) n - vO (nxt (hQ neg E o n c l q) (vO (hQ neg E o n c l q) (some ⟨2, 0, none⟩) (d16 q).length * 2 ^ b.toNat)) (some ⟨3, 0, none⟩) (d16 (vO (hQ neg E o n c l q) (some ⟨2, 0, none⟩) (d16 q).length * 2 ^ b.toNat)).length)) 1) (some ⟨5, 0, none⟩) (d16 1).length * 2 ^ (dif b 1).toNat)).length) == 0, j), (two16 (nxt (nxt (nxt (nxt (hQ neg E o n c l q) (vO (hQ neg E o n c l q) (some ⟨2, 0, none⟩) (d16 q).length * 2 ^ b.toNat)) (vO (nxt (hQ neg E o n c l q) (vO (hQ neg E o n c l q) (some ⟨2, 0, none⟩) (d16 q).length * 2 ^ b.toNat)) (aX o) n - vO (nxt (hQ neg E o n c l q) (vO (hQ neg E o n c l q) (some ⟨2, 0, none⟩) (d16 q).length * 2 ^ b.toNat)) (some ⟨3, 0, none⟩) (d16 (vO (hQ neg E o n c l q) (some ⟨2, 0, none⟩) (d16 q).length * 2 ^ b.toNat)).length)) 1) (vO (nxt (nxt (nxt (hQ neg E o n c l q) (vO (hQ neg E o n c l q) (some ⟨2, 0, none⟩) (d16 q).length * 2 ^ b.toNat)) (vO (nxt (hQ neg E o n c l q) (vO (hQ neg E o n c l q) (some ⟨2, 0, none⟩) (d16 q).length * 2 ^ b.toNat)) (aX o) n - vO (nxt (hQ neg E o n c l q) (vO (hQ neg E o n c l q) (some ⟨2, 0, none⟩) (d16 q).length * 2 ^ b.toNat)) (some ⟨3, 0, none⟩) (d16 (vO (hQ neg E o n c l q) (some ⟨2, 0, none⟩) (d16 q).length * 2 ^ b.toNat)).length)) 1) (some ⟨5, 0, none⟩) (d16 1).length * 2 ^ (dif b 1).toNat)) (some ⟨4, 0, none⟩) (some ⟨6, 0, none⟩) (d16 (vO (nxt (hQ neg E o n c l q) (vO (hQ neg E o n c l q) (some ⟨2, 0, none⟩) (d16 q).length * 2 ^ b.toNat)) (aX o) n - vO (nxt (hQ neg E o n c l q) (vO (hQ neg E o n c l q) (some ⟨2, 0, none⟩) (d16 q).length * 2 ^ b.toNat)) (some ⟨3, 0, none⟩) (d16 (vO (hQ neg E o n c l q) (some ⟨2, 0, none⟩) (d16 q).length * 2 ^ b.toNat)).length)).length (d16 (vO (nxt (hQ neg E o n c l q) (vO (hQ neg E o n c l q) (some ⟨2, 0, none⟩) (d16 q).length * 2 ^ b.toNat)) (aX o) n - vO (nxt (hQ neg E o n c l q) (vO (hQ neg E o n c l q) (some ⟨2, 0, none⟩) (d16 q).length * 2 ^ b.toNat)) (some ⟨3, 0, none⟩) (d16 (vO (hQ neg E o n c l q) (some ⟨2, 0, none⟩) (d16 q).length * 2 ^ b.toNat)).length)).length (d16 (vO (nxt (nxt (nxt (hQ neg E o n c l q) (vO (hQ neg E o n c l q) (some ⟨2, 0, none⟩) (d16 q).length * 2 ^ b.toNat)) (vO (nxt (hQ neg E o n c l q) (vO (hQ neg E o n c l q) (some ⟨2, 0, none⟩) (d16 q).length * 2 ^ b.toNat)) (aX o) n - vO (nxt (hQ neg E o n c l q) (vO (hQ neg E o n c l q) (some ⟨2, 0, none⟩) (d16 q).length * 2 ^ b.toNat)) (some ⟨3, 0, none⟩) (d16 (vO (hQ neg E o n c l q) (some ⟨2, 0, none⟩) (d16 q).length * 2 ^ b.toNat)).length)) 1) (some ⟨5, 0, none⟩) (d16 1).length * 2 ^ (dif b 1).toNat)).length (d16 (vO (nxt (nxt (nxt (hQ neg E o n c l q) (vO (hQ neg E o n c l q) (some ⟨2, 0, none⟩) (d16 q).length * 2 ^ b.toNat)) (vO (nxt (hQ neg E o n c l q) (vO (hQ neg E o n c l q) (some ⟨2, 0, none⟩) (d16 q).length * 2 ^ b.toNat)) (aX o) n - vO (nxt (hQ neg E o n c l q) (vO (hQ neg E o n c l q) (some ⟨2, 0, none⟩) (d16 q).length * 2 ^ b.toNat)) (some ⟨3, 0, none⟩) (d16 (vO (hQ neg E o n c l q) (some ⟨2, 0, none⟩) (d16 q).length * 2 ^ b.toNat)).length)) 1) (some ⟨5, 0, none⟩) (d16 1).length * 2 ^ (dif b 1).toNat)).length, true), (okShl (nxt (nxt (nxt (hQ neg E o n c l q) (vO (hQ neg E o n c l q) (some ⟨2, 0, none⟩) (d16 q).length * 2 ^ b.toNat)) (vO (nxt (hQ neg E o n c l q) (vO (hQ neg E o n c l q) (some ⟨2, 0, none⟩) (d16 q).length * 2 ^ b.toNat)) (aX o) n - vO (nxt (hQ neg E o n c l q) (vO (hQ neg E o n c l q) (some ⟨2, 0, none⟩) (d16 q).length * 2 ^ b.toNat)) (some ⟨3, 0, none⟩) (d16 (vO (hQ neg E o n c l q) (some ⟨2, 0, none⟩) (d16 q).length * 2 ^ b.toNat)).length)) 1) (some ⟨5, 0, none⟩) (d16 1).length (d16 1).length (dif b 1), true), (decide (0 < (d16 1).length), true), okOne1, (two16 (nxt (hQ neg E o n c l q) (vO (hQ neg E o n c l q) (some ⟨2, 0, none⟩) (d16 q).length * 2 ^ b.toNat)) (aX o) (some ⟨3, 0, none⟩) n c (d16 (vO (hQ neg E o n c l q) (some ⟨2, 0, none⟩) (d16 q).length * 2 ^ b.toNat)).length (d16 (vO (hQ neg E o n c l q) (some ⟨2, 0, none⟩) (d16 q).length * 2 ^ b.toNat)).length && Nat.ble (vO (nxt (hQ neg E o n c l q) (vO (hQ neg E o n c l q) (some ⟨2, 0, none⟩) (d16 q).length * 2 ^ b.toNat)) (some ⟨3, 0, none⟩) (d16 (vO (hQ neg E o n c l q) (some ⟨2, 0, none⟩) (d16 q).length * 2 ^ b.toNat)).length) (vO (nxt (hQ neg E o n c l q) (vO (hQ neg E o n c l q) (some ⟨2, 0, none⟩) (d16 q).length * 2 ^ b.toNat)) (aX o) n), true), (decide (0 < n), true), (okShl (hQ neg E o n c l q) (some ⟨2, 0, none⟩) (d16 q).length (d16 q).length b, true), (decide (0 < (d16 q).length), true), (decide (b ≤ ((bl (vO (hQ neg E o n c l q) (aX o) n) : Nat) : Int)), true), (okLen (hQ neg E o n c l q) (aX o) n c, true)] := ⟨by kernel_rfl, by kernel_rfl, by kernel_rfl⟩
theorem to_cr2F (neg j : Bool) (E N M b : Int) (o n c q : Nat) (l : List Value) (g : Nat → Value) : GoesT (evL (tabH Try.prog extY conN hcW) 200 (tS2 Try.f22) ([vRN neg E (sl 0 o n c), .int .i64 N, .int .i64 M, .pointer (some ⟨1, 0, none⟩), undef, undef, nilS, .bool false, .int .i64 b, sOf 2 q, .bool true, .bool false] ++ tl 94 g, (hQ neg E o n c l q), [cmp true, cmp false, cmp true]) ⟨[], [], []⟩) 14 92 none [vRN neg E (sl 0 o n c), .int .i64 N, .int .i64 M, .pointer (some ⟨1, 0, none⟩), undef, undef, nilS, .bool false, .int .i64 b, sOf 2 q, .bool true, .bool false, sOf 3 (vO (hQ neg E o n c l q) (aX o) n - vO (hQ neg E o n c l q) none 0), .bool false] (nxt (hQ neg E o n c l q) (vO (hQ neg E o n c l q) (aX o) n - vO (hQ neg E o n c l q) none 0)) [(two16 (hQ neg E o n c l q) (aX o) none n c 0 0 && Nat.ble (vO (hQ neg E o n c l q) none 0) (vO (hQ neg E o n c l q) (aX o) n), true), (decide (0 < n), true), (rowP (hQ neg E o n c l q) (some ⟨2, 0, none⟩) (d16 q).length (d16 q).length, true), (decide (0 < (d16 q).length), false), (decide (b ≤ ((bl (vO (hQ neg E o n c l q) (aX o) n) : Nat) : Int)), true), (okLen (hQ neg E o n c l q) (aX o) n c, true)] := ⟨by kernel_rfl, by kernel_rfl, by kernel_rfl⟩
theorem to_cr2T (neg j : Bool) (E N M b : Int) (o n c q : Nat) (l : List Value) (g : Nat → Value) : GoesT (evL (tabH Try.prog extY conN hcW) 200 (tS2 Try.f22) ([vRN neg E (sl 0 o n c), .int .i64 N, .int .i64 M, .pointer (some ⟨1, 0, none⟩), undef, undef, nilS, .bool false, .int .i64 b, sOf 2 q, .bool true, .bool true] ++ tl 94 g, (hQ neg E o n c l q), [cmp true, cmp false, cmp true, cmp true, cmp j]) ⟨[], [], []⟩) 14 92 none [vRN neg E (sl 0 o n c), .int .i64 N, .int .i64 M, .pointer (some ⟨1, 0, none⟩), undef, undef, nilS, .bool false, .int .i64 b, sOf 2 q, .bool true, .bool true, sOf 3 (vO (hQ neg E o n c l q) (aX o) n - vO (hQ neg E o n c l q) none 0), .bool j] (nxt (nxt (nxt (hQ neg E o n c l q) (vO (hQ neg E o n c l q) (aX o) n - vO (hQ neg E o n c l q) none 0)) 1) (vO (nxt (nxt (hQ neg E o n c l q) (vO (hQ neg E o n c l q) (aX o) n - vO (hQ neg E o n c l q) none 0)) 1) (some ⟨4, 0, none⟩) (d16 1).length * 2 ^ (dif b 1).toNat)) [(cmpZ (vO (nxt (nxt (nxt (hQ neg E o n c l q) (vO (hQ neg E o n c l q) (aX o) n - vO (hQ neg E o n c l q) none 0)) 1) (vO (nxt (nxt (hQ neg E o n c l q) (vO (hQ neg E o n c l q) (aX o) n - vO (hQ neg E o n c l q) none 0)) 1) (some ⟨4, 0, none⟩) (d16 1).length * 2 ^ (dif b 1).toNat)) (some ⟨3, 0, none⟩) (d16 (vO (hQ neg E o n c l q) (aX o) n - vO (hQ neg E o n c l q) none 0)).length) (vO (nxt (nxt (nxt (hQ neg E o n c l q) (vO (hQ neg E o n c l q) (aX o) n - vO (hQ neg E o n c l q) none 0)) 1) (vO (nxt (nxt (hQ neg E o n c l q) (vO (hQ neg E o n c l q) (aX o) n - vO (hQ neg E o n c l q) none 0)) 1) (some ⟨4, 0, none⟩) (d16 1).length * 2 ^ (dif b 1).toNat)) (some ⟨5, 0, none⟩) (d16 (vO (nxt (nxt (hQ neg E o n c l q) (vO (hQ neg E o n c l q) (aX o) n - vO (hQ neg E o n c l q) none 0)) 1) (some ⟨4, 0, none⟩) (d16 1).length * 2 ^ (dif b 1).toNat)).length) == 0, j), (two16 (nxt (nxt (nxt (hQ neg E o n c l q) (vO (hQ neg E o n c l q) (aX o) n - vO (hQ neg E o n c l q) none 0)) 1) (vO (nxt (nxt (hQ neg E o n c l q) (vO (hQ neg E o n c l q) (aX o) n - vO (hQ neg E o n c l q) none 0)) 1) (some ⟨4, 0, none⟩) (d16 1).length * 2 ^ (dif b 1).toNat)) (some ⟨3, 0, none⟩) (some ⟨5, 0, none⟩) (d16 (vO (hQ neg E o n c l q) (aX o) n - vO (hQ neg E o n c l q) none 0)).length (d16 (vO (hQ neg E o n c l q) (aX o) n - vO (hQ neg E o n c l q) none 0)).length (d16 (vO (nxt (nxt (hQ neg E o n c l q) (vO (hQ neg E o n c l q) (aX o) n - vO (hQ neg E o n c l q) none 0)) 1) (some ⟨4, 0, none⟩) (d16 1).length * 2 ^ (dif b 1).toNat)).length (d16 (vO (nxt (nxt (hQ neg E o n c l q) (vO (hQ neg E o n c l q) (aX o) n - vO (hQ neg E o n c l q) none 0)) 1) (some ⟨4, 0, none⟩) (d16 1).length * 2 ^ (dif b 1).toNat)).length, true), (okShl (nxt (nxt (hQ neg E o n c l q) (vO (hQ neg E o n c l q) (aX o) n - vO (hQ neg E o n c l q) none 0)) 1) (some ⟨4, 0, none⟩) (d16 1).length (d16 1).length (dif b 1), true), (decide (0 < (d16 1).length), true), okOne1, (two16 (hQ neg E o n c l q) (aX o) none n c 0 0 && Nat.ble (vO (hQ neg E o n c l q) none 0) (vO (hQ neg E o n c l q) (aX o) n), true), (decide (0 < n), true), (rowP (hQ neg E o n c l q) (some ⟨2, 0, none⟩) (d16 q).length (d16 q).length, true), (decide (0 < (d16 q).length), false), (decide (b ≤ ((bl (vO (hQ neg E o n c l q) (aX o) n) : Nat) : Int)), true), (okLen (hQ neg E o n c l q) (aX o) n c, true)] := ⟨by kernel_rfl, by kernel_rfl, by kernel_rfl⟩
theorem to_cn0F (neg j : Bool) (E N M b : Int) (o n c q : Nat) (l : List Value) (g : Nat → Value) : GoesT (evL (tabH Try.prog extY conN hcW) 200 (tS2 Try.f22) ([vRN neg E (sl 0 o n c), .int .i64 N, .int .i64 M, .pointer (some ⟨1, 0, none⟩), undef, undef, nilS, .bool false, .int .i64 b, nilS, .bool true, .bool false] ++ tl 94 g, (hX neg E o n c l), [cmp false]) ⟨[], [], []⟩) 14 92 none [vRN neg E (sl 0 o n c), .int .i64 N, .int .i64 M, .pointer (some ⟨1, 0, none⟩), undef, undef, nilS, .bool false, .int .i64 b, nilS, .bool true, .bool false, sl 0 o n c, .bool false] (hX neg E o n c l) [(decide (b ≤ ((bl (vO (hX neg E o n c l) (aX o) n) : Nat) : Int)), false), (okLen (hX neg E o n c l) (aX o) n c, true)] := ⟨by kernel_rfl, by kernel_rfl, by kernel_rfl⟩
theorem to_cn0T (neg j : Bool) (E N M b : Int) (o n c q : Nat) (l : List Value) (g : Nat → Value) : GoesT (evL (tabH Try.prog extY conN hcW) 200 (tS2 Try.f22) ([vRN neg E (sl 0 o n c), .int .i64 N, .int .i64 M, .pointer (some ⟨1, 0, none⟩), undef, undef, nilS, .bool false, .int .i64 b, nilS, .bool true, .bool true] ++ tl 94 g, (hX neg E o n c l), [cmp false, cmp true, cmp j]) ⟨[], [], []⟩) 14 92 none [vRN neg E (sl 0 o n c), .int .i64 N, .int .i64 M, .pointer (some ⟨1, 0, none⟩), undef, undef, nilS, .bool false, .int .i64 b, nilS, .bool true, .bool true, sl 0 o n c, .bool j] (nxt (nxt (hX neg E o n c l) 1) (vO (nxt (hX neg E o n c l) 1) (some ⟨2, 0, none⟩) (d16 1).length * 2 ^ (dif b 1).toNat)) [(cmpZ (vO (nxt (nxt (hX neg E o n c l) 1) (vO (nxt (hX neg E o n c l) 1) (some ⟨2, 0, none⟩) (d16 1).length * 2 ^ (dif b 1).toNat)) (aX o) n) (vO (nxt (nxt (hX neg E o n c l) 1) (vO (nxt (hX neg E o n c l) 1) (some ⟨2, 0, none⟩) (d16 1).length * 2 ^ (dif b 1).toNat)) (some ⟨3, 0, none⟩) (d16 (vO (nxt (hX neg E o n c l) 1) (some ⟨2, 0, none⟩) (d16 1).length * 2 ^ (dif b 1).toNat)).length) == 0, j), (two16 (nxt (nxt (hX neg E o n c l) 1) (vO (nxt (hX neg E o n c l) 1) (some ⟨2, 0, none⟩) (d16 1).length * 2 ^ (dif b 1).toNat)) (aX o) (some ⟨3, 0, none⟩) n c (d16 (vO (nxt (hX neg E o n c l) 1) (some ⟨2, 0, none⟩) (d16 1).length * 2 ^ (dif b 1).toNat)).length (d16 (vO (nxt (hX neg E o n c l) 1) (some ⟨2, 0, none⟩) (d16 1).length * 2 ^ (dif b 1).toNat)).length, true), (okShl (nxt (hX neg E o n c l) 1) (some ⟨2, 0, none⟩) (d16 1).length (d16 1).length (dif b 1), true), (decide (0 < (d16 1).length), true), okOne1, (decide (b ≤ ((bl (vO (hX neg E o n c l) (aX o) n) : Nat) : Int)), false), (okLen (hX neg E o n c l) (aX o) n c, true)] := ⟨by kernel_rfl, by kernel_rfl, by kernel_rfl⟩
theorem to_cn2F (neg j : Bool) (E N M b : Int) (o n c q : Nat) (l : List Value) (g : Nat → Value) : GoesT (evL (tabH Try.prog extY conN hcW) 200 (tS2 Try.f22) ([vRN neg E (sl 0 o n c), .int .i64 N, .int .i64 M, .pointer (some ⟨1, 0, none⟩), undef, undef, nilS, .bool false, .int .i64 b, nilS, .bool true, .bool false] ++ tl 94 g, (hX neg E o n c l), [cmp true, cmp false, cmp true]) ⟨[], [], []⟩) 14 92 none [vRN neg E (sl 0 o n c), .int .i64 N, .int .i64 M, .pointer (some ⟨1, 0, none⟩), undef, undef, nilS, .bool false, .int .i64 b, nilS, .bool true, .bool false, sOf 2 (vO (hX neg E o n c l) (aX o) n - vO (hX neg E o n c l) none 0), .bool false] (nxt (hX neg E o n c l) (vO (hX neg E o n c l) (aX o) n - vO (hX neg E o n c l) none 0)) [(two16 (hX neg E o n c l) (aX o) none n c 0 0 && Nat.ble (vO (hX neg E o n c l) none 0) (vO (hX neg E o n c l) (aX o) n), true), (decide (0 < n), true), (rowP (hX neg E o n c l) none 0 0, true), (decide (0 < 0), false), (decide (b ≤ ((bl (vO (hX neg E o n c l) (aX o) n) : Nat) : Int)), true), (okLen (hX neg E o n c l) (aX o) n c, true)] := ⟨by kernel_rfl, by kernel_rfl, by kernel_rfl⟩
theorem to_cn2T (neg j : Bool) (E N M b : Int) (o n c q : Nat) (l : List Value) (g : Nat → Value) : GoesT (evL (tabH Try.prog extY conN hcW) 200 (tS2 Try.f22) ([vRN neg E (sl 0 o n c), .int .i64 N, .int .i64 M, .pointer (some ⟨1, 0, none⟩), undef, undef, nilS, .bool false, .int .i64 b, nilS, .bool true, .bool true] ++ tl 94 g, (hX neg E o n c l), [cmp true, cmp false, cmp true, cmp true, cmp j]) ⟨[], [], []⟩) 14 92 none [vRN neg E (sl 0 o n c), .int .i64 N, .int .i64 M, .pointer (some ⟨1, 0, none⟩), undef, undef, nilS, .bool false, .int .i64 b, nilS, .bool true, .bool true, sOf 2 (vO (hX neg E o n c l) (aX o) n - vO (hX neg E o n c l) none 0), .bool j] (nxt (nxt (nxt (hX neg E o n c l) (vO (hX neg E o n c l) (aX o) n - vO (hX neg E o n c l) none 0)) 1) (vO (nxt (nxt (hX neg E o n c l) (vO (hX neg E o n c l) (aX o) n - vO (hX neg E o n c l) none 0)) 1) (some ⟨3, 0, none⟩) (d16 1).length * 2 ^ (dif b 1).toNat)) [(cmpZ (vO (nxt (nxt (nxt (hX neg E o n c l) (vO (hX neg E o n c l) (aX o) n - vO (hX neg E o n c l) none 0)) 1) (vO (nxt (nxt (hX neg E o n c l) (vO (hX neg E o n c l) (aX o) n - vO (hX neg E o n c l) none 0)) 1) (some ⟨3, 0, none⟩) (d16 1).length * 2 ^ (dif b 1).toNat)) (some ⟨2, 0, none⟩) (d16 (vO (hX neg E o n c l) (aX o) n - vO (hX neg E o n c l) none 0)).length) (vO (nxt (nxt (nxt (hX neg E o n c l) (vO (hX neg E o n c l) (aX o) n - vO (hX neg E o n c l) none 0)) 1) (vO (nxt (nxt (hX neg E o n c l) (vO (hX neg E o n c l) (aX o) n - vO (hX neg E o n c l) none 0)) 1) (some ⟨3, 0, none⟩) (d16 1).length * 2 ^ (dif b 1).toNat)) (some ⟨4, 0, none⟩) (d16 (vO (nxt (nxt (hX neg E o n c l) (vO (hX neg E o n c l) (aX o) n - vO (hX neg E o n c l) none 0)) 1) (some ⟨3, 0, none⟩) (d16 1).length * 2 ^ (dif b 1).toNat)).length) == 0, j), (two16 (nxt (nxt (nxt (hX neg E o n c l) (vO (hX neg E o n c l) (aX o) n - vO (hX neg E o n c l) none 0)) 1) (vO (nxt (nxt (hX neg E o n c l) (vO (hX neg E o n c l) (aX o) n - vO (hX neg E o n c l) none 0)) 1) (some ⟨3, 0, none⟩) (d16 1).length * 2 ^ (dif b 1).toNat)) (some ⟨2, 0, none⟩) (some ⟨4, 0, none⟩) (d16 (vO (hX neg E o n c l) (aX o) n - vO (hX neg E o n c l) none 0)).length (d16 (vO (hX neg E o n c l) (aX o) n - vO (hX neg E o n c l) none 0)).length (d16 (vO (nxt (nxt (hX neg E o n c l) (vO (hX neg E o n c l) (aX o) n - vO (hX neg E o n c l) none 0)) 1) (some ⟨3, 0, none⟩) (d16 1).length * 2 ^ (dif b 1).toNat)).length (d16 (vO (nxt (nxt (hX neg E o n c l) (vO (hX neg E o n c l) (aX o) n - vO (hX neg E o n c l) none 0)) 1) (some ⟨3, 0, none⟩) (d16 1).length * 2 ^ (dif b 1).toNat)).length, true), (okShl (nxt (nxt (hX neg E o n c l) (vO (hX neg E o n c l) (aX o) n - vO (hX neg E o n c l) none 0)) 1) (some ⟨3, 0, none⟩) (d16 1).length (d16 1).length (dif b 1), true), (decide (0 < (d16 1).length), true), okOne1, (two16 (hX neg E o n c l) (aX o) none n c 0 0 && Nat.ble (vO (hX neg E o n c l) none 0) (vO (hX neg E o n c l) (aX o) n), true), (decide (0 < n), true), (rowP (hX neg E o n c l) none 0 0, true), (decide (0 < 0), false), (decide (b ≤ ((bl (vO (hX neg E o n c l) (aX o) n) : Nat) : Int)), true), (okLen (hX neg E o n c l) (aX o) n c, true)] := ⟨by kernel_rfl, by kernel_rfl, by kernel_rfl⟩
theorem to_urF (neg d : Bool) (E N M b x : Int) (o n c q : Nat) (l : List Value) (J : Value) (g : Nat → Value) : GoesT (evC (tabH Try.prog extY conN hcW) 200 false (tS3 Try.f22) ([vRN neg E (sl 0 o n c), .int .i64 N, .int .i64 M, .pointer (some ⟨1, 0, none⟩), undef, undef, nilS, .bool false, .int .i64 b, sOf 2 q, .bool true, .bool false, J, .bool false] ++ tl 92 g, (hQ neg E o n c l q), []) ⟨[], [], []⟩) 15 91 none [vRN neg E (sl 0 o n c), .int .i64 N, .int .i64 M, .pointer (some ⟨1, 0, none⟩), undef, undef, nilS, .bool false, .int .i64 b, sOf 2 q, .bool true, .bool false, J, .bool false, .bool false] (hQ neg E o n c l q) [] := ⟨by kernel_rfl, by kernel_rfl, by kernel_rfl⟩
theorem to_urTF (neg d : Bool) (E N M b x : Int) (o n c q : Nat) (l : List Value) (J : Value) (g : Nat → Value) : GoesT (evC (tabH Try.prog extY conN hcW) 200 false (tS3 Try.f22) ([vRN neg E (sl 0 o n c), .int .i64 N, .int .i64 M, .pointer (some ⟨1, 0, none⟩), undef, undef, nilS, .bool false, .int .i64 b, sOf 2 q, .bool true, .bool true, J, .bool false] ++ tl 92 g, (hQ neg E o n c l q), []) ⟨[], [], []⟩) 15 91 none [vRN neg E (sl 0 o n c), .int .i64 N, .int .i64 M, .pointer (some ⟨1, 0, none⟩), undef, undef, nilS, .bool false, .int .i64 b, sOf 2 q, .bool true, .bool true, J, .bool false, .bool true] (hQ neg E o n c l q) [] := ⟨by kernel_rfl, by kernel_rfl, by kernel_rfl⟩
theorem to_unF (neg d : Bool) (E N M b x : Int) (o n c q : Nat) (l : List Value) (J : Value) (g : Nat → Value) : GoesT (evC (tabH Try.prog extY conN hcW) 200 false (tS3 Try.f22) ([vRN neg E (sl 0 o n c), .int .i64 N, .int .i64 M, .pointer (some ⟨1, 0, none⟩), undef, undef, nilS, .bool false, .int .i64 b, nilS, .bool true, .bool false, J, .bool false] ++ tl 92 g, (hX neg E o n c l), []) ⟨[], [], []⟩) 15 91 none [vRN neg E (sl 0 o n c), .int .i64 N, .int .i64 M, .pointer (some ⟨1, 0, none⟩), undef, undef, nilS, .bool false, .int .i64 b, nilS, .bool true, .bool false, J, .bool false, .bool false] (hX neg E o n c l) [] := ⟨by kernel_rfl, by kernel_rfl, by kernel_rfl⟩
theorem to_unTF (neg d : Bool) (E N M b x : Int) (o n c q : Nat) (l : List Value) (J : Value) (g : Nat → Value) : GoesT (evC (tabH Try.prog extY conN hcW) 200 false (tS3 Try.f22) ([vRN neg E (sl 0 o n c), .int .i64 N, .int .i64 M, .pointer (some ⟨1, 0, none⟩), undef, undef, nilS, .bool false, .int .i64 b, nilS, .bool true, .bool true, J, .bool false] ++ tl 92 g, (hX neg E o n c l), []) ⟨[], [], []⟩) 15 91 none [vRN neg E (sl 0 o n c), .int .i64 N, .int .i64 M, .pointer (some ⟨1, 0, none⟩), undef, undef, nilS, .bool false, .int .i64 b, nilS, .bool true, .bool true, J, .bool false, .bool true] (hX neg E o n c l) [] := ⟨by kernel_rfl, by kernel_rfl, by kernel_rfl⟩
theorem to_urTT (neg d : Bool) (E N M b x : Int) (o n c q : Nat) (l : List Value) (J : Value) (g : Nat → Value) : GoesT (evC (tabH Try.prog extY conN hcW) 200 false (tS3 Try.f22) ([vRN neg E (sl 0 o n c), .int .i64 N, .int .i64 M, .pointer (some ⟨1, 0, none⟩), undef, undef, nilS, .bool false, .int .i64 b, sOf 2 q, .bool true, .bool true, J, .bool true] ++ tl 92 g, (hQ neg E o n c l q), [cmp true, at_, val (.int .u32 x), cmp true, cmp d]) ⟨[], [], []⟩) 15 91 none [vRN neg E (sl 0 o n c), .int .i64 N, .int .i64 M, .pointer (some ⟨1, 0, none⟩), undef, undef, nilS, .bool false, .int .i64 b, sOf 2 q, .bool true, .bool true, J, .bool true, .bool d] (hQ neg E o n c l q) [(x.tmod 2 == 1, d), (decide ((2 : Int) = 0), false), (cellIs ((wU (d16 q))[0]?) (.int .u32 x), true), (decide ((0 : Int) ≤ 0 ∧ (0 : Int) < ((d16 q).length : Nat)), true), (decide (((d16 q).length : Int) > 0), true)] := ⟨by kernel_rfl, by kernel_rfl, by kernel_rfl⟩
theorem to_urTT0 (neg d : Bool) (E N M b x : Int) (o n c q : Nat) (l : List Value) (J : Value) (g : Nat → Value) : GoesT (evC (tabH Try.prog extY conN hcW) 200 false (tS3 Try.f22) ([vRN neg E (sl 0 o n c), .int .i64 N, .int .i64 M, .pointer (some ⟨1, 0, none⟩), undef, undef, nilS, .bool false, .int .i64 b, sOf 2 q, .bool true, .bool true, J, .bool true] ++ tl 92 g, (hQ neg E o n c l q), [cmp false]) ⟨[], [], []⟩) 15 91 none [vRN neg E (sl 0 o n c), .int .i64 N, .int .i64 M, .pointer (some ⟨1, 0, none⟩), undef, undef, nilS, .bool false, .int .i64 b, sOf 2 q, .bool true, .bool true, J, .bool true, .bool false] (hQ neg E o n c l q) [(decide (((d16 q).length : Int) > 0), false)] := ⟨by kernel_rfl, by kernel_rfl, by kernel_rfl⟩
theorem to_unTT0 (neg d : Bool) (E N M b x : Int) (o n c q : Nat) (l : List Value) (J : Value) (g : Nat → Value) : GoesT (evC (tabH Try.prog extY conN hcW) 200 false (tS3 Try.f22) ([vRN neg E (sl 0 o n c), .int .i64 N, .int .i64 M, .pointer (some ⟨1, 0, none⟩), undef, undef, nilS, .bool false, .int .i64 b, nilS, .bool true, .bool true, J, .bool true] ++ tl 92 g, (hX neg E o n c l), [cmp false]) ⟨[], [], []⟩) 15 91 none [vRN neg E (sl 0 o n c), .int .i64 N, .int .i64 M, .pointer (some ⟨1, 0, none⟩), undef, undef, nilS, .bool false, .int .i64 b, nilS, .bool true, .bool true, J, .bool true, .bool false] (hX neg E o n c l) [(decide (((0 : Nat) : Int) > 0), false)] := ⟨by kernel_rfl, by kernel_rfl, by kernel_rfl⟩
theorem to_mr1 (neg half just up : Bool) (E N M b : Int) (o n c q : Nat) (l : List Value) (J : Value) (g : Nat → Value) : GoesT (evC (tabH Try.prog extY conN hcW) 200 false (tS4 Try.f22) ([vRN neg E (sl 0 o n c), .int .i64 N, .int .i64 M, .pointer (some ⟨1, 0, none⟩), undef, undef, nilS, .bool false, .int .i64 b, sOf 2 q, .bool true, .bool half, J, .bool just, .bool up] ++ tl 91 g, (hQ neg E o n c l q), [cmp true]) ⟨[], [], []⟩) 15 91 none [vRN neg E (sl 0 o n c), .int .i64 N, .int .i64 M, .pointer (some ⟨1, 0, none⟩), undef, undef, nilS, .bool false, .int .i64 b, sOf 2 q, .bool true, .bool half, J, .bool just, .bool half] (hQ neg E o n c l q) [(M == 1, true)] := ⟨by kernel_rfl, by kernel_rfl, by kernel_rfl⟩
theorem to_mr2 (neg half just up : Bool) (E N M b : Int) (o n c q : Nat) (l : List Value) (J : Value) (g : Nat → Value) : GoesT (evC (tabH Try.prog extY conN hcW) 200 false (tS4 Try.f22) ([vRN neg E (sl 0 o n c), .int .i64 N, .int .i64 M, .pointer (some ⟨1, 0, none⟩), undef, undef, nilS, .bool false, .int .i64 b, sOf 2 q, .bool true, .bool half, J, .bool just, .bool up] ++ tl 91 g, (hQ neg E o n c l q), [cmp false, cmp true]) ⟨[], [], []⟩) 15 91 none [vRN neg E (sl 0 o n c), .int .i64 N, .int .i64 M, .pointer (some ⟨1, 0, none⟩), undef, undef, nilS, .bool false, .int .i64 b, sOf 2 q, .bool true, .bool half, J, .bool just, .bool false] (hQ neg E o n c l q) [(M == 2, true), (M == 1, false)] := ⟨by kernel_rfl, by kernel_rfl, by kernel_rfl⟩
theorem to_mr3 (neg half just up : Bool) (E N M b : Int) (o n c q : Nat) (l : List Value) (J : Value) (g : Nat → Value) : GoesT (evC (tabH Try.prog extY conN hcW) 200 false (tS4 Try.f22) ([vRN neg E (sl 0 o n c), .int .i64 N, .int .i64 M, .pointer (some ⟨1, 0, none⟩), undef, undef, nilS, .bool false, .int .i64 b, sOf 2 q, .bool true, .bool half, J, .bool just, .bool up] ++ tl 91 g, (hQ neg E o n c l q), [cmp false, cmp false, cmp true]) ⟨[], [], []⟩) 15 91 none [vRN neg E (sl 0 o n c), .int .i64 N, .int .i64 M, .pointer (some ⟨1, 0, none⟩), undef, undef, nilS, .bool false, .int .i64 b, sOf 2 q, .bool true, .bool half, J, .bool just, .bool (!neg)] (hQ neg E o n c l q) [(M == 3, true), (M == 2, false), (M == 1, false)] := ⟨by kernel_rfl, by kernel_rfl, by kernel_rfl⟩
theorem to_mr4 (neg half just up : Bool) (E N M b : Int) (o n c q : Nat) (l : List Value) (J : Value) (g : Nat → Value) : GoesT (evC (tabH Try.prog extY conN hcW) 200 false (tS4 Try.f22) ([vRN neg E (sl 0 o n c), .int .i64 N, .int .i64 M, .pointer (some ⟨1, 0, none⟩), undef, undef, nilS, .bool false, .int .i64 b, sOf 2 q, .bool true, .bool half, J, .bool just, .bool up] ++ tl 91 g, (hQ neg E o n c l q), [cmp false, cmp false, cmp false, cmp true]) ⟨[], [], []⟩) 15 91 none [vRN neg E (sl 0 o n c), .int .i64 N, .int .i64 M, .pointer (some ⟨1, 0, none⟩), undef, undef, nilS, .bool false, .int .i64 b, sOf 2 q, .bool true, .bool half, J, .bool just, .bool neg] (hQ neg E o n c l q) [(M == 4, true), (M == 3, false), (M == 2, false), (M == 1, false)] := ⟨by kernel_rfl, by kernel_rfl, by kernel_rfl⟩
theorem to_mr0 (neg half just up : Bool) (E N M b : Int) (o n c q : Nat) (l : List Value) (J : Value) (g : Nat → Value) : GoesT (evC (tabH Try.prog extY conN hcW) 200 false (tS4 Try.f22) ([vRN neg E (sl 0 o n c), .int .i64 N, .int .i64 M, .pointer (some ⟨1, 0, none⟩), undef, undef, nilS, .bool false, .int .i64 b, sOf 2 q, .bool true, .bool half, J, .bool just, .bool up] ++ tl 91 g, (hQ neg E o n c l q), [cmp false, cmp false, cmp false, cmp false]) ⟨[], [], []⟩) 15 91 none [vRN neg E (sl 0 o n c), .int .i64 N, .int .i64 M, .pointer (some ⟨1, 0, none⟩), undef, undef, nilS, .bool false, .int .i64 b, sOf 2 q, .bool true, .bool half, J, .bool just, .bool up] (hQ neg E o n c l q) [(M == 4, false), (M == 3, false), (M == 2, false), (M == 1, false)] := ⟨by kernel_rfl, by kernel_rfl, by kernel_rfl⟩
theorem to_mn1 (neg half just up : Bool) (E N M b : Int) (o n c q : Nat) (l : List Value) (J : Value) (g : Nat → Value) : GoesT (evC (tabH Try.prog extY conN hcW) 200 false (tS4 Try.f22) ([vRN neg E (sl 0 o n c), .int .i64 N, .int .i64 M, .pointer (some ⟨1, 0, none⟩), undef, undef, nilS, .bool false, .int .i64 b, nilS, .bool true, .bool half, J, .bool just, .bool up] ++ tl 91 g, (hX neg E o n c l), [cmp true]) ⟨[], [], []⟩) 15 91 none [vRN neg E (sl 0 o n c), .int .i64 N, .int .i64 M, .pointer (some ⟨1, 0, none⟩), undef, undef, nilS, .bool false, .int .i64 b, nilS, .bool true, .bool half, J, .bool just, .bool half] (hX neg E o n c l) [(M == 1, true)] := ⟨by kernel_rfl, by kernel_rfl, by kernel_rfl⟩
theorem to_mn2 (neg half just up : Bool) (E N M b : Int) (o n c q : Nat) (l : List Value) (J : Value) (g : Nat → Value) : GoesT (evC (tabH Try.prog extY conN hcW) 200 false (tS4 Try.f22) ([vRN neg E (sl 0 o n c), .int .i64 N, .int .i64 M, .pointer (some ⟨1, 0, none⟩), undef, undef, nilS, .bool false, .int .i64 b, nilS, .bool true, .bool half, J, .bool just, .bool up] ++ tl 91 g, (hX neg E o n c l), [cmp false, cmp true]) ⟨[], [], []⟩) 15 91 none [vRN neg E (sl 0 o n c), .int .i64 N, .int .i64 M, .pointer (some ⟨1, 0, none⟩), undef, undef, nilS, .bool false, .int .i64 b, nilS, .bool true, .bool half, J, .bool just, .bool false] (hX neg E o n c l) [(M == 2, true), (M == 1, false)] := ⟨by kernel_rfl, by kernel_rfl, by kernel_rfl⟩
theorem to_mn3 (neg half just up : Bool) (E N M b : Int) (o n c q : Nat) (l : List Value) (J : Value) (g : Nat → Value) : GoesT (evC (tabH Try.prog extY conN hcW) 200 false (tS4 Try.f22) ([vRN neg E (sl 0 o n c), .int .i64 N, .int .i64 M, .pointer (some ⟨1, 0, none⟩), undef, undef, nilS, .bool false, .int .i64 b, nilS, .bool true, .bool half, J, .bool just, .bool up] ++ tl 91 g, (hX neg E o n c l), [cmp false, cmp false, cmp true]) ⟨[], [], []⟩) 15 91 none [vRN neg E (sl 0 o n c), .int .i64 N, .int .i64 M, .pointer (some ⟨1, 0, none⟩), undef, undef, nilS, .bool false, .int .i64 b, nilS, .bool true, .bool half, J, .bool just, .bool (!neg)] (hX neg E o n c l) [(M == 3, true), (M == 2, false), (M == 1, false)] := ⟨by kernel_rfl, by kernel_rfl, by kernel_rfl⟩
theorem to_mn4 (neg half just up : Bool) (E N M b : Int) (o n c q : Nat) (l : List Value) (J : Value) (g : Nat → Value) : GoesT (evC (tabH Try.prog extY conN hcW) 200 false (tS4 Try.f22) ([vRN neg E (sl 0 o n c), .int .i64 N, .int .i64 M, .pointer (some ⟨1, 0, none⟩), undef, undef, nilS, .bool false, .int .i64 b, nilS, .bool true, .bool half, J, .bool just, .bool up] ++ tl 91 g, (hX neg E o n c l), [cmp false, cmp false, cmp false, cmp true]) ⟨[], [], []⟩) 15 91 none [vRN neg E (sl 0 o n c), .int .i64 N, .int .i64 M, .pointer (some ⟨1, 0, none⟩), undef, undef, nilS, .bool false, .int .i64 b, nilS, .bool true, .bool half, J, .bool just, .bool neg] (hX neg E o n c l) [(M == 4, true), (M == 3, false), (M == 2, false), (M == 1, false)] := ⟨by kernel_rfl, by kernel_rfl, by kernel_rfl⟩
theorem to_mn0 (neg half just up : Bool) (E N M b : Int) (o n c q : Nat) (l : List Value) (J : Value) (g : Nat → Value) : GoesT (evC (tabH Try.prog extY conN hcW) 200 false (tS4 Try.f22) ([vRN neg E (sl 0 o n c), .int .i64 N, .int .i64 M, .pointer (some ⟨1, 0, none⟩), undef, undef, nilS, .bool false, .int .i64 b, nilS, .bool true, .bool half, J, .bool just, .bool up] ++ tl 91 g, (hX neg E o n c l), [cmp false, cmp false, cmp false, cmp false]) ⟨[], [], []⟩) 15 91 none [vRN neg E (sl 0 o n c), .int .i64 N, .int .i64 M, .pointer (some ⟨1, 0, none⟩), undef, undef, nilS, .bool false, .int .i64 b, nilS, .bool true, .bool half, J, .bool just, .bool up] (hX neg E o n c l) [(M == 4, false), (M == 3, false), (M == 2, false), (M == 1, false)] := ⟨by kernel_rfl, by kernel_rfl, by kernel_rfl⟩
theorem to_grT (neg half just : Bool) (E N M b : Int) (o n c q : Nat) (l : List Value) (J : Value) (g : Nat → Value) : GoesT (evC (tabH Try.prog extY conN hcW) 200 false (tS5 Try.f22) ([vRN neg E (sl 0 o n c), .int .i64 N, .int .i64 M, .pointer (some ⟨1, 0, none⟩), undef, undef, nilS, .bool false, .int .i64 b, sOf 2 q, .bool true, .bool half, J, .bool just, .bool true] ++ tl 91 g, (hQ neg E o n c l q), [cmp true]) ⟨[], [], []⟩) 8 98 (some none) [vRN neg E (sl 0 o n c), .int .i64 N, .int .i64 M, .pointer (some ⟨1, 0, none⟩), undef, undef, sOf 4 (vO (nxt (hQ neg E o n c l q) 1) (some ⟨2, 0, none⟩) (d16 q).length + vO (nxt (hQ neg E o n c l q) 1) (some ⟨3, 0, none⟩) (d16 1).length), .bool true] (nxt (nxt (hQ neg E o n c l q) 1) (vO (nxt (hQ neg E o n c l q) 1) (some ⟨2, 0, none⟩) (d16 q).length + vO (nxt (hQ neg E o n c l q) 1) (some ⟨3, 0, none⟩) (d16 1).length)) [(two16 (nxt (hQ neg E o n c l q) 1) (some ⟨2, 0, none⟩) (some ⟨3, 0, none⟩) (d16 q).length (d16 q).length (d16 1).length (d16 1).length, true), (decide (0 < (d16 q).length ∨ 0 < (d16 1).length), true), okOne1] := ⟨by kernel_rfl, by kernel_rfl, by kernel_rfl⟩
theorem to_grF (neg half just : Bool) (E N M b : Int) (o n c q : Nat) (l : List Value) (J : Value) (g : Nat → Value) : GoesT (evC (tabH Try.prog extY conN hcW) 200 false (tS5 Try.f22) ([vRN neg E (sl 0 o n c), .int .i64 N, .int .i64 M, .pointer (some ⟨1, 0, none⟩), undef, undef, nilS, .bool false, .int .i64 b, sOf 2 q, .bool true, .bool half, J, .bool just, .bool false] ++ tl 91 g, (hQ neg E o n c l q), []) ⟨[], [], []⟩) 8 98 (some none) [vRN neg E (sl 0 o n c), .int .i64 N, .int .i64 M, .pointer (some ⟨1, 0, none⟩), undef, undef, sOf 2 q, .bool true] (hQ neg E o n c l q) [] := ⟨by kernel_rfl, by kernel_rfl, by kernel_rfl⟩
theorem to_gnT (neg half just : Bool) (E N M b : Int) (o n c q : Nat) (l : List Value) (J : Value) (g : Nat → Value) : GoesT (evC (tabH Try.prog extY conN hcW) 200 false (tS5 Try.f22) ([vRN neg E (sl 0 o n c), .int .i64 N, .int .i64 M, .pointer (some ⟨1, 0, none⟩), undef, undef, nilS, .bool false, .int .i64 b, nilS, .bool true, .bool half, J, .bool just, .bool true] ++ tl 91 g, (hX neg E o n c l), [cmp true]) ⟨[], [], []⟩) 8 98 (some none) [vRN neg E (sl 0 o n c), .int .i64 N, .int .i64 M, .pointer (some ⟨1, 0, none⟩), undef, undef, sOf 3 (vO (nxt (hX neg E o n c l) 1) none 0 + vO (nxt (hX neg E o n c l) 1) (some ⟨2, 0, none⟩) (d16 1).length), .bool true] (nxt (nxt (hX neg E o n c l) 1) (vO (nxt (hX neg E o n c l) 1) none 0 + vO (nxt (hX neg E o n c l) 1) (some ⟨2, 0, none⟩) (d16 1).length)) [(two16 (nxt (hX neg E o n c l) 1) none (some ⟨2, 0, none⟩) 0 0 (d16 1).length (d16 1).length, true), (decide (0 < 0 ∨ 0 < (d16 1).length), true), okOne1] := ⟨by kernel_rfl, by kernel_rfl, by kernel_rfl⟩
theorem to_gnF (neg half just : Bool) (E N M b : Int) (o n c q : Nat) (l : List Value) (J : Value) (g : Nat → Value) : GoesT (evC (tabH Try.prog extY conN hcW) 200 false (tS5 Try.f22) ([vRN neg E (sl 0 o n c), .int .i64 N, .int .i64 M, .pointer (some ⟨1, 0, none⟩), undef, undef, nilS, .bool false, .int .i64 b, nilS, .bool true, .bool half, J, .bool just, .bool false] ++ tl 91 g, (hX neg E o n c l), []) ⟨[], [], []⟩) 8 98 (some none) [vRN neg E (sl 0 o n c), .int .i64 N, .int .i64 M, .pointer (some ⟨1, 0, none⟩), undef, undef, nilS, .bool true] (hX neg E o n c l) [] := ⟨by kernel_rfl, by kernel_rfl, by kernel_rfl⟩
end Go.Proofs.Yteglhjkpcljpmaa

/-
  The document's To (tillerref04), as a call: where something is left over.
-/
namespace Go.Proofs.Yteglhjkpcljpmaa
open Go.KRun Go.Nt Go.Wd Go.Rn
set_option maxRecDepth 100000
set_option linter.unusedVariables false

section
variable {l : List Value} {o c : Nat} {A : List Int}
theorem vO_fst (hF : Fst l o c A) {h : Hp} (hh : h.blk? 0 = some (l, tR)) : vO h (aX o) A.length = vb 65536 A := by
  unfold vO aX
  rw [(hF h hh).2]
theorem okLen_fst (hF : Fst l o c A) (hC : Canon 65536 A) (hn : A.length < 1073741824) {h : Hp} (hh : h.blk? 0 = some (l, tR)) : okLen h (aX o) A.length c = true := by
  unfold okLen aX
  rw [(hF h hh).1, (hF h hh).2, canB_mk hC, blt_iff.2 hn]
  rfl
theorem okShl_d16 {h : Hp} {b A : Nat} {k : Int} (hb : h.blk? b = some (wU (d16 A), tU)) (hk : 0 ≤ k) (hl : k.toNat / 16 + (d16 A).length + 3 < 1073741824) : okShl h (some ⟨b, 0, none⟩) (d16 A).length (d16 A).length k = true := by
  unfold okShl
  rw [rowP_d16 hb (by omega), dgB_d16 hb, blt_iff.2 hl, decide_eq_true hk]
  rfl
theorem two_fst (hF : Fst l o c A) (hC : Canon 65536 A) (hn : A.length < 1073741800) {h : Hp} (hh : h.blk? 0 = some (l, tR)) {b V : Nat} (hb : h.blk? b = some (wU (d16 V), tU)) (hl : (d16 V).length < 1073741800) : two16 h (aX o) (some ⟨b, 0, none⟩) A.length c (d16 V).length (d16 V).length = true := by
  unfold two16 aX
  rw [(hF h hh).1, (hF h hh).2, dgB_mk hC.1, rowP_d16 hb (by omega), dgB_d16 hb, blt_iff.2 (by omega)]
  rfl
theorem two_fst0 (hF : Fst l o c A) (hC : Canon 65536 A) (hn : A.length < 1073741800) {h : Hp} (hh : h.blk? 0 = some (l, tR)) : two16 h (aX o) none A.length c 0 0 = true := by
  unfold two16 aX
  rw [(hF h hh).1, (hF h hh).2, dgB_mk hC.1, blt_iff.2 (by omega)]
  rfl
/-- the front of To, as far as its second piece -/
def fT (neg : Bool) (E N M : Int) (o n c : Nat) (b : Int) (Q : Value) : List Value := [vRN neg E (sl 0 o n c), .int .i64 N, .int .i64 M, .pointer (some ⟨1, 0, none⟩), undef, undef, nilS, .bool false, .int .i64 b, Q]
def hS (s : Bool) (neg : Bool) (E : Int) (o n c : Nat) (l : List Value) (q : Nat) : Hp := match s with | true => hQ neg E o n c l q | false => hX neg E o n c l
def qS (s : Bool) (q : Nat) : Value := match s with | true => sOf 2 q | false => nilS
/-- To's last piece: one more, or not -/
theorem to_last (s : Bool) {neg : Bool} {E N M : Int} {q : Nat} {half just u : Bool} {b : Int} {J : Value} (hq : (d16 q).length < 1073741800) (hq0 : s = false → q = 0) (g : Nat → Value) :
    RunsW (tabH Try.prog extY conN hcW) (tS5 Try.f22) (fT neg E N M o A.length c b (qS s q) ++ [.bool true, .bool half, J, .bool just, .bool u] ++ tl 91 g, hS s neg E o A.length c l q, []) fun ex z => (ex = none ∨ ex = some none) ∧
      ((s = true ∨ u = true) → ∃ k, resS Try.prog Try.f22 z.1 z.2.1 = some (.tuple #[sOf k (q + (if u = true then 1 else 0)), .bool true]) ∧ ∃ r, z.2.1.blk? k = some (wU (d16 (q + (if u = true then 1 else 0))) ++ r, tU)) ∧
      ((s = false ∧ u = false) → resS Try.prog Try.f22 z.1 z.2.1 = some (.tuple #[nilS, .bool true])) := by
  cases s with
  | true =>
    cases u with
    | true =>
      have e1 : vO (nxt (hQ neg E o A.length c l q) 1) (some ⟨2, 0, none⟩) (d16 q).length + vO (nxt (hQ neg E o A.length c l q) 1) (some ⟨3, 0, none⟩) (d16 1).length = q + 1 := by
        rw [vO_d16 (A := q) (ty := tU) rfl, vO_d16 (A := 1) (ty := tU) rfl]
      refine (goesT_runsW (tabH_ok conN_ok hcW_ok) (to_grT neg half just E N M b o A.length c q l J g) (okTwo (two_d16 (A := q) (A' := 1) rfl rfl hq (by rw [d16_one]; omega)) (okTwo (decide_eq_true (.inr (by rw [d16_one]; omega))) (okOne (by decide))))).mono fun ex z hz => ?_
      rw [e1] at hz
      obtain ⟨rfl, ⟨g', z1⟩, z2⟩ := hz
      refine ⟨.inr rfl, fun _ => ⟨4, ?_, [], ?_⟩, fun h => by cases h.1⟩
      · rw [z1, z2]; rfl
      · rw [z2, List.append_nil]; rfl
    | false =>
      refine (goesT_runsW (tabH_ok conN_ok hcW_ok) (to_grF neg half just E N M b o A.length c q l J g) (fun x hx => by cases hx)).mono fun ex z hz => ?_
      obtain ⟨rfl, ⟨g', z1⟩, z2⟩ := hz
      refine ⟨.inr rfl, fun _ => ⟨2, ?_, [], ?_⟩, fun h => by cases h.1⟩
      · rw [z1, z2]; rfl
      · rw [z2, List.append_nil]; rfl
  | false =>
    have hq1 := hq0 rfl
    subst hq1
    cases u with
    | true =>
      have e1 : vO (nxt (hX neg E o A.length c l) 1) none 0 + vO (nxt (hX neg E o A.length c l) 1) (some ⟨2, 0, none⟩) (d16 1).length = 0 + 1 := by
        rw [vO_nil, vO_d16 (A := 1) (ty := tU) rfl]
      refine (goesT_runsW (tabH_ok conN_ok hcW_ok) (to_gnT neg half just E N M b o A.length c 0 l J g) (okTwo (two_nil (A := 1) rfl (by rw [d16_one]; omega)) (okTwo (decide_eq_true (.inr (by rw [d16_one]; omega))) (okOne (by decide))))).mono fun ex z hz => ?_
      rw [e1] at hz
      obtain ⟨rfl, ⟨g', z1⟩, z2⟩ := hz
      refine ⟨.inr rfl, fun _ => ⟨3, ?_, [], ?_⟩, fun h => by cases h.2⟩
      · rw [z1, z2]; rfl
      · rw [z2, List.append_nil]; rfl
    | false =>
      refine (goesT_runsW (tabH_ok conN_ok hcW_ok) (to_gnF neg half just E N M b o A.length c 0 l J g) (fun x hx => by cases hx)).mono fun ex z hz => ?_
      obtain ⟨rfl, ⟨g', z1⟩, z2⟩ := hz
      refine ⟨.inr rfl, (fun h => by rcases h with h | h <;> cases h), fun _ => ?_⟩
      rw [z1, z2]; rfl
/-- by the mode -/
def upM (M : Int) (neg half ev : Bool) : Bool := if M = 2 then false else if M = 3 then !neg else if M = 4 then neg else if M = 1 then half else ev
theorem to_mode (s : Bool) {neg : Bool} {E N M : Int} {n q : Nat} {half just u : Bool} {b : Int} {J : Value} (g : Nat → Value) :
    RunsW (tabH Try.prog extY conN hcW) (tS4 Try.f22) (fT neg E N M o n c b (qS s q) ++ [.bool true, .bool half, J, .bool just, .bool u] ++ tl 91 g, hS s neg E o n c l q, []) fun ex z => ex = none ∧ (∃ g, z.1 = fT neg E N M o n c b (qS s q) ++ [.bool true, .bool half, J, .bool just, .bool (upM M neg half u)] ++ tl 91 g) ∧ z.2.1 = hS s neg E o n c l q := by
  unfold upM
  by_cases h1 : M = 1
  · have n2 : ¬ M = 2 := by omega
    have n3 : ¬ M = 3 := by omega
    have n4 : ¬ M = 4 := by omega
    rw [if_neg n2, if_neg n3, if_neg n4, if_pos h1]
    cases s with
    | true => exact goesT_runsW (tabH_ok conN_ok hcW_ok) (to_mr1 neg half just u E N M b o n c q l J g) (okOne (by rw [h1]; rfl))
    | false => exact goesT_runsW (tabH_ok conN_ok hcW_ok) (to_mn1 neg half just u E N M b o n c q l J g) (okOne (by rw [h1]; rfl))
  · have b1 : (M == 1) = false := by simp [h1]
    by_cases h2 : M = 2
    · rw [if_pos h2]
      cases s with
      | true => exact goesT_runsW (tabH_ok conN_ok hcW_ok) (to_mr2 neg half just u E N M b o n c q l J g) (okTwo (by rw [h2]; rfl) (okOne b1))
      | false => exact goesT_runsW (tabH_ok conN_ok hcW_ok) (to_mn2 neg half just u E N M b o n c q l J g) (okTwo (by rw [h2]; rfl) (okOne b1))
    · have b2 : (M == 2) = false := by simp [h2]
      rw [if_neg h2]
      by_cases h3 : M = 3
      · rw [if_pos h3]
        cases s with
        | true => exact goesT_runsW (tabH_ok conN_ok hcW_ok) (to_mr3 neg half just u E N M b o n c q l J g) (okTwo (by rw [h3]; rfl) (okTwo b2 (okOne b1)))
        | false => exact goesT_runsW (tabH_ok conN_ok hcW_ok) (to_mn3 neg half just u E N M b o n c q l J g) (okTwo (by rw [h3]; rfl) (okTwo b2 (okOne b1)))
      · have b3 : (M == 3) = false := by simp [h3]
        rw [if_neg h3]
        by_cases h4 : M = 4
        · rw [if_pos h4]
          cases s with
          | true => exact goesT_runsW (tabH_ok conN_ok hcW_ok) (to_mr4 neg half just u E N M b o n c q l J g) (okTwo (by rw [h4]; rfl) (okTwo b3 (okTwo b2 (okOne b1))))
          | false => exact goesT_runsW (tabH_ok conN_ok hcW_ok) (to_mn4 neg half just u E N M b o n c q l J g) (okTwo (by rw [h4]; rfl) (okTwo b3 (okTwo b2 (okOne b1))))
        · have b4 : (M == 4) = false := by simp [h4]
          rw [if_neg h4, if_neg h1]
          cases s with
          | true => exact goesT_runsW (tabH_ok conN_ok hcW_ok) (to_mr0 neg half just u E N M b o n c q l J g) (okTwo b4 (okTwo b3 (okTwo b2 (okOne b1))))
          | false => exact goesT_runsW (tabH_ok conN_ok hcW_ok) (to_mn0 neg half just u E N M b o n c q l J g) (okTwo b4 (okTwo b3 (okTwo b2 (okOne b1))))
/-- whether the even one is above: the third piece -/
theorem to_even (s : Bool) {neg : Bool} {E N M : Int} {n q : Nat} {half just : Bool} {b : Int} {J : Value} (hq0 : s = false → q = 0) (hj : half = false → just = false) (g : Nat → Value) :
    RunsW (tabH Try.prog extY conN hcW) (tS3 Try.f22) (fT neg E N M o n c b (qS s q) ++ [.bool true, .bool half, J, .bool just] ++ tl 92 g, hS s neg E o n c l q, []) fun ex z => ex = none ∧ (∃ g, z.1 = fT neg E N M o n c b (qS s q) ++ [.bool true, .bool half, J, .bool just, .bool (half && (!just || odd q))] ++ tl 91 g) ∧ z.2.1 = hS s neg E o n c l q := by
  cases half with
  | false =>
    have := hj rfl
    subst this
    cases s with
    | true => exact goesT_runsW (tabH_ok conN_ok hcW_ok) (to_urF neg false E N M b 0 o n c q l J g) (fun x hx => by cases hx)
    | false => exact goesT_runsW (tabH_ok conN_ok hcW_ok) (to_unF neg false E N M b 0 o n c q l J g) (fun x hx => by cases hx)
  | true =>
    cases just with
    | false =>
      cases s with
      | true => exact goesT_runsW (tabH_ok conN_ok hcW_ok) (to_urTF neg false E N M b 0 o n c q l J g) (fun x hx => by cases hx)
      | false => exact goesT_runsW (tabH_ok conN_ok hcW_ok) (to_unTF neg false E N M b 0 o n c q l J g) (fun x hx => by cases hx)
    | true =>
      simp only [Bool.true_and, Bool.not_true, Bool.false_or]
      cases s with
      | true =>
        by_cases hl : 0 < (d16 q).length
        · have hne := d16_pos hl
          have hd : d16 q = ((q % 65536 : Nat) : Int) :: db 65536 (q / 65536) := db_pos (by omega) hne
          have ho : (((q % 65536 : Nat) : Int).tmod 2 == 1) = odd q := by
            unfold odd
            rw [Int.tmod_eq_emod_of_nonneg (by omega), Bool.eq_iff_iff]
            simp only [beq_iff_eq, decide_eq_true_eq]
            omega
          have hcell : cellIs ((wU (d16 q))[0]?) (.int .u32 ((q % 65536 : Nat) : Int)) = true := by
            rw [hd]
            simp [wU, cellIs]
          exact goesT_runsW (tabH_ok conN_ok hcW_ok) (to_urTT neg (odd q) E N M b ((q % 65536 : Nat) : Int) o n c q l J g) (okTwo ho (okTwo rfl (okTwo hcell (okTwo (decide_eq_true ⟨by omega, by omega⟩) (okOne (decide_eq_true (by omega)))))))
        · have h0 := d16_zero hl
          have ho : odd q = false := by rw [h0]; rfl
          rw [ho]
          exact goesT_runsW (tabH_ok conN_ok hcW_ok) (to_urTT0 neg false E N M b 0 o n c q l J g) (okOne (decide_eq_false (by omega)))
      | false =>
        have ho : odd q = false := by rw [hq0 rfl]; rfl
        rw [ho]
        exact goesT_runsW (tabH_ok conN_ok hcW_ok) (to_unTT0 neg false E N M b 0 o n c q l J g) (okOne rfl)
end
end Go.Proofs.Yteglhjkpcljpmaa
