/-
  A RUN THAT THE KERNEL RECKONS: behind a round a part of a row is kept; a call that keeps two rows of its own.
-/
import Derived.Test.YtbcpnpchioncbaaG17
import Derived.Test.YtbcpnpchioncbaaG27
import Derived.Test.YtbcpnpchioncbaaG10
import Derived.Test.YtbcpnpchioncbaaG11
import Derived.Test.YtbcpnpchioncbaaG19
namespace Go.KRun
open Go.RowKit

/-- behind a round: the first blocks and one more are kept, of that one its first cells -/
theorem RunsW.keptP {T : Tab} {c : Code} {x0 : Lf} {ex : Ex} {front front' : List Value} {n k b : Nat} {h : Hp} {base : List (List Value × TypeId)} {y : List Value × TypeId} {r : List Value} (hr : RunsW T c x0 fun e z => e = ex ∧ (∃ g, z.1 = front ++ tl n g) ∧ z.2.1 = h)
    (hk : base.length = k) (hf : front'.map (rn (keepK k b)) = front) (hx : ∀ i x, (⟨k, base⟩ : Hp).blk? i = some x → h.blk? i = some x ∧ ∀ v ∈ x.1, still v = true) (hy : h.blk? b = some (y.1 ++ r, y.2)) (hb : k ≤ b) (sy : ∀ v ∈ y.1, still v = true) (hw : ∀ v ∈ front', lt (k + 1) v = true) :
    RunsW T c x0 fun e z => e = ex ∧ (∃ g, z.1 = front' ++ tl n g) ∧ z.2.1 = ⟨k + 1, y :: base⟩ := by
  refine hr.small fun e z he => .inr ?_
  obtain ⟨rfl, ⟨g, h1⟩, h2⟩ := he
  obtain ⟨t, h', s⟩ := z
  simp only at h1 h2
  subst h1 h2
  refine ⟨front, front', tl n g, h', ⟨k + 1, y :: base⟩, s, keepK k b, rfl, hf, by simp [hk], Nat.succ_pos _, fun i z hz => ?_, fun i j u v hi hj _ _ hij => ?_, hw, fun g' => ⟨rfl, ⟨g', by rw [tl_len]⟩, rfl⟩⟩
  · rcases blkK1 hk hz with ⟨hi, hz'⟩ | ⟨rfl, rfl⟩
    · obtain ⟨q1, q2⟩ := hx i z hz'
      exact ⟨q2, z, [], by unfold keepK; rw [if_pos (blt_iff.2 hi)]; exact q1, rfl, by simp⟩
    · exact ⟨sy, (z.1 ++ r, z.2), r, by unfold keepK; rw [if_neg (by rw [blt_iff]; omega)]; exact hy, rfl, rfl⟩
  · unfold keepK at hij
    rcases blkK1 hk hi with ⟨h1, _⟩ | ⟨rfl, _⟩ <;> rcases blkK1 hk hj with ⟨h2, _⟩ | ⟨rfl, _⟩
    · rw [if_pos (blt_iff.2 h1), if_pos (blt_iff.2 h2)] at hij; exact hij
    · rw [if_pos (blt_iff.2 h1), if_neg (by rw [blt_iff]; omega)] at hij; omega
    · rw [if_pos (blt_iff.2 h2), if_neg (by rw [blt_iff]; omega)] at hij; omega
    · rfl
/-- a call that leaves the small memory as it is, and whose answer holds no address -/
theorem hcalls_keep {T : Tab} {f : Nat} {F : Func} {c : Code} (hF : T.P.funcs[f]? = some F) (hc : F.body = some c) {vals : List Value} {v : Value} {h : Hp} (hv : lt 0 v = true)
    (hr : Runs T c (vals ++ List.replicate (F.ntmps - vals.length) undef, h, []) fun e y => (e = none ∨ e = some none) ∧ resS T.P F y.1 y.2.1 = some v ∧ y.2.1 = h) (m : Mp) (B : Nat) (w : World) (E : Emb m B h w) (hvals : ∀ v ∈ vals, lt h.n v = true) :
    Calls T.P f (vals.map (mv m)).toArray w fun e w' => ∃ m', e = .returned (mv m' v) ∧ Came m B h w v h m' w' := by
  refine calls_of_wp hF hc ?_
  have R : Rel m B (vals ++ List.replicate (F.ntmps - vals.length) undef, h, []) { tmps := (vals.map (mv m)).toArray ++ Array.replicate (F.ntmps - (vals.map (mv m)).toArray.size) undef, defers := [] } w := by
    refine ⟨?_, rfl, E, ?_⟩
    · simp [mv_undef]
    · intro y hy
      rcases List.mem_append.1 hy with hy | hy
      · exact hvals y hy
      · rw [List.eq_of_mem_replicate hy]; simp [undef, lt]
  refine hr _ _ _ w R _ fun e y he a' w' hR => ?_
  obtain ⟨hex, hres, hh⟩ := he
  obtain ⟨m1, k1, k2, k3, _⟩ := hR
  obtain ⟨r1, r2⟩ := resS_run k2.emb k2.wf hres
  rw [← k2.tmps] at r1
  have Ek : Emb m1 B h w' := by
    have := k2.emb
    rw [hh] at this
    exact this
  have post : a'.defers = [] ∧ ∃ v', (results F a'.tmps).run T.P w' = .ok v' w' ∧ ∃ m', Ending.returned v' = .returned (mv m' v) ∧ Came m B h w v h m' w' :=
    ⟨k2.dfr, _, r1, m1, rfl, ⟨k1, Ek, k3, Nat.le_refl _, lt_mono (Nat.zero_le _) hv⟩⟩
  rcases hex with rfl | rfl <;> exact post
/-- a call that keeps two blocks of its own -/
theorem row_callsT {T : Tab} {f : Nat} {F : Func} {c : Code} (hF : T.P.funcs[f]? = some F) (hc : F.body = some c) {h0 : Hp} (hr : h0.rows) {vals : List Value} (hvals : ∀ v ∈ vals, lt h0.n v = true) {v : Nat → Nat → Value}
    {cs ds : List Value} {ty : TypeId} (hcs : ∀ u ∈ cs, lt1 0 u = true) (hds : ∀ u ∈ ds, lt1 0 u = true) (hty : ro ty = false)
    (hrun : RunsW T c (vals ++ List.replicate (F.ntmps - vals.length) undef, h0, []) fun e y => (e = none ∨ e = some none) ∧ ∃ k j, k ≠ j ∧ resS T.P F y.1 y.2.1 = some (v k j) ∧ (∃ r, y.2.1.blk? k = some (cs ++ r, ty)) ∧ ∃ r, y.2.1.blk? j = some (ds ++ r, ty))
    (hv0 : ∀ k j, oc [k, j] (v k j) = true)
    {m : Mp} {B : Nat} {h : Hp} {w : World} (E : Emb m B h w) {s : Nat → Nat} (hf : h0.fits s h) (hv1 : ∀ k j, ∀ g : Nat → Nat, rn g (v k j) = v (g k) (g j)) :
    Calls T.P f ((vals.map (rn s)).map (mv m)).toArray w fun e w' => ∃ m', e = .returned (mv m' (v h.n (h.n + 1))) ∧ Came m B h w (v h.n (h.n + 1)) ((h.push cs ty).push ds ty) m' w' := by
  have E0 := E.small hr hf
  have ev : (vals.map (rn s)).map (mv m) = vals.map (mv fun i => m (s i)) := by
    rw [List.map_map]
    exact List.map_congr_left fun y _ => mv_rn m s y
  rw [ev]
  refine calls_of_wp hF hc ?_
  have R : Rel (fun i => m (s i)) w.heap.size (vals ++ List.replicate (F.ntmps - vals.length) undef, h0, []) { tmps := (vals.map (mv fun i => m (s i))).toArray ++ Array.replicate (F.ntmps - (vals.map (mv fun i => m (s i))).toArray.size) undef, defers := [] } w := by
    refine ⟨?_, rfl, E0, ?_⟩
    · simp [mv_undef]
    · intro y hy
      rcases List.mem_append.1 hy with hy | hy
      · exact hvals y hy
      · rw [List.eq_of_mem_replicate hy]; simp [undef, lt]
  refine hrun _ _ _ w R _ fun e y he m1 a' w' k2 k3 => ?_
  obtain ⟨hex, k, j, hkj, hres, ⟨r, hblk⟩, r', hblj⟩ := he
  obtain ⟨r1, r2⟩ := resS_run k2.emb k2.wf hres
  rw [← k2.tmps] at r1
  have td : Tidy w w' := ⟨k3, fun k h1 h2 => k2.emb.ice k h1 h2⟩
  obtain ⟨E', hb⟩ := clean_emb E td
  have low : ∀ {k : Nat} {x : List Value × TypeId}, y.2.1.blk? k = some x → ro x.2 = false → w.heap.size ≤ (m1 k).1 := fun h1 h2 => k2.emb.low _ _ h1 h2
  have hlie : ∀ {k : Nat} {cs r : List Value}, (∀ u ∈ cs, lt1 0 u = true) → y.2.1.blk? k = some (cs ++ r, ty) → ∀ m' : Mp, lie w' (m1 k) (cs.map (mv1 m')) ty := fun {k cs r} hcs hblk m' => by
    obtain ⟨r', z, l0, l1, l2⟩ := k2.emb.lies k _ hblk (tomb_ro hty)
    have e : cs.map (mv1 m1) = cs.map (mv1 m') := map_still hcs
    simp only [List.map_append] at l0 l1
    refine ⟨r.map (mv1 m1) ++ r', z, ?_, ?_, l2⟩
    · simp at l0 ⊢; omega
    · rw [← e, l1, List.append_assoc]
  have lk := low hblk hty
  have lj := low hblj hty
  have Ea := E'.adopt cs ty hty (fun u hu => lt1_mono (Nat.zero_le _) (hcs u hu)) (hlie hcs hblk m) (Nat.le_trans E.base lk) (fun b x hbx hx heq => by
    have := E.here hbx (tomb_ro hx)
    omega)
  have Eb := Ea.adopt ds ty hty (fun u hu => lt1_mono (Nat.zero_le _) (hds u hu)) (hlie hds hblj (upd m h.n (m1 k))) (Nat.le_trans E.base lj) (fun b x hbx hx heq => by
    rw [Hp.blk_push E.len] at hbx
    by_cases h1 : b = h.n
    · subst h1
      simp only [upd, if_pos] at heq
      exact hkj (k2.emb.inj k j _ _ hblk hblj hty hty heq)
    · rw [if_neg h1] at hbx
      simp only [upd, if_neg h1] at heq
      have := E.here hbx (tomb_ro hx)
      omega)
  have hn : (h.push cs ty).n = h.n + 1 := rfl
  rw [hn] at Eb
  have e1 : mv m1 (v k j) = mv (upd (upd m h.n (m1 k)) (h.n + 1) (m1 j)) (v h.n (h.n + 1)) := by
    have e2 := hv1 k j (fun b => if b = k then h.n else h.n + 1)
    simp only [if_pos, if_neg (Ne.symm hkj)] at e2
    rw [← e2, mv_rn]
    refine mv_on (fun b hb => ?_) (hv0 k j)
    simp only [List.mem_cons, List.not_mem_nil, or_false] at hb
    rcases hb with rfl | rfl
    · simp [upd]
    · simp [upd, Ne.symm hkj]
  rw [e1] at r1
  have hlt : lt (h.n + 2) (v h.n (h.n + 1)) = true := by
    have e2 := hv1 k j (fun b => if b = k then h.n else h.n + 1)
    simp only [if_pos, if_neg (Ne.symm hkj)] at e2
    rw [← e2]
    exact oc_ren (bs := [k, j]) (fun b hb => by split <;> omega) (hv0 k j)
  have post : a'.defers = [] ∧ ∃ v', (results F a'.tmps).run T.P w' = .ok v' w' ∧ ∃ m', Ending.returned v' = .returned (mv m' (v h.n (h.n + 1))) ∧ Came m B h w (v h.n (h.n + 1)) ((h.push cs ty).push ds ty) m' w' :=
    ⟨k2.dfr, _, r1, _, rfl, ⟨(upd_agree m h.n (m1 k)).trans (upd_agree _ _ _) (by omega), Eb, hb, by show h.n ≤ h.n + 1 + 1; omega, hlt⟩⟩
  rcases hex with rfl | rfl <;> exact post
end Go.KRun

/-
  The document's quotient and rest (tillerref02.Parts), I: piece by piece.
-/
namespace Go.Proofs.Ytbcpnpchioncbaa
open Go.KRun Go.Nt
set_option maxRecDepth 100000
set_option linter.unusedVariables false

def paP (F : Func) : List Code := [cFst (cBody F), cFst (cSnd (cBody F)), cFst (cSnd (cSnd (cBody F))), cFst (cSnd (cSnd (cSnd (cBody F))))]
def paS (F : Func) : Code := cSnd (cSnd (cSnd (cSnd (cBody F))))
def paB (F : Func) : Code := cFst (paS F)
def paL (F : Func) : Code := cIn (cIn (cSnd (paB F)))
def paE (F : Func) : Code := cSnd (paS F)
def paH (F : Func) : Code := cFst (paL F)
def paX (F : Func) : Code := cIn (cFst (cSnd (paL F)))
def paI (F : Func) : Code := cSnd (cSnd (paL F))
def x7 (F : Func) : Code := cFst (paX F)
def x8 (F : Func) : Code := cFst (cSnd (paX F))
def x9 (F : Func) : Code := cFst (cSnd (cSnd (paX F)))
def x10 (F : Func) : Code := cFst (cSnd (cSnd (cSnd (paX F))))
def x11 (F : Func) : Code := cFst (cSnd (cSnd (cSnd (cSnd (paX F)))))
def xT (F : Func) : Code := cSnd (cSnd (cSnd (cSnd (cSnd (paX F)))))
def yL (F : Func) : Code := cIn (cIn (cFst (xT F)))
def yH (F : Func) : Code := cFst (yL F)
def yB (F : Func) : Code := cIn (cSnd (yL F))
def xE (F : Func) : Code := cSnd (xT F)
def hcP : Hc := altH 45 gUsm (altH 26 gUcmp (altH 27 gUsub (altH 44 gAt (altH 43 gUtrim hcN))))
def pFr (o n c o' n' c' z : Nat) (r : Value) (i : Int) (v10 v11 : Value) : List Value := [sl 0 o n c, sl 1 o' n' c', undef, undef, nilS, nilS, r, sl 2 0 z z, .int .i64 n', .int .i64 i, v10, v11]
def hB3 (wq lb la : List Value) : Hp := ⟨3, [(wq, tU), (lb, tR), (la, tR)]⟩
def hB4 (wr wq lb la : List Value) : Hp := ⟨4, [(wr, tU), (wq, tU), (lb, tR), (la, tR)]⟩
def hB5 (wp wr wq lb la : List Value) : Hp := ⟨5, [(wp, tU), (wr, tU), (wq, tU), (lb, tR), (la, tR)]⟩
theorem hcP_ok : HcOk hcP := altH_ok Try.func45 rfl gUsm_ok (altH_ok Try.func26 rfl gUcmp_ok (altH_ok Try.func27 rfl gUsub_ok (altH_ok Try.func44 rfl gAt_ok (altH_ok Try.func43 rfl gUtrim_ok hcN_ok))))
theorem pa_body : Try.f25.body = some (seqs (paP Try.f25) (.seq (.seq (cFst (paB Try.f25)) (.block 0 (.loop (paL Try.f25)))) (paE Try.f25))) := by kernel_rfl
theorem pa_loop : paL Try.f25 = .seq (paH Try.f25) (.seq (.block 1 (paX Try.f25)) (paI Try.f25)) := by kernel_rfl
theorem pa_x : paX Try.f25 = .seq (x7 Try.f25) (.seq (x8 Try.f25) (.seq (x9 Try.f25) (.seq (x10 Try.f25) (.seq (x11 Try.f25) (.seq (.block 2 (.loop (yL Try.f25))) (xE Try.f25)))))) := by kernel_rfl
theorem pa_y : yL Try.f25 = .seq (yH Try.f25) (.block 3 (yB Try.f25)) := by kernel_rfl
def aP (b o : Nat) : Option Addr := some ⟨b, o, none⟩
def inP (i : Int) (n : Nat) : Bool × Bool := (decide (0 ≤ i ∧ i < (n : Int)), true)
def ceP (l : List Value) (o : Nat) (i x : Int) : Bool × Bool := (cellIs (l[o + i.toNat * 1]?) (.int .u32 x), true)
def tR3 (R : List Int) (n' : Nat) : Int := IntKind.u64.wrap (IntKind.u64.wrap (IntKind.u64.wrap (IntKind.u64.wrap (atN R n') * 2 ^ min (Int.toNat 32) 64) + IntKind.u64.wrap (IntKind.u64.wrap (atN R (IntKind.i64.wrap ((n' : Int) - 1))) * 2 ^ min (Int.toNat 16) 64)) + IntKind.u64.wrap (atN R (IntKind.i64.wrap ((n' : Int) - 2))))
def tB2 (x : Int) (L : List Int) (n' : Nat) : Int := IntKind.u64.wrap (IntKind.u64.wrap (IntKind.u64.wrap x * 2 ^ min (Int.toNat 16) 64) + IntKind.u64.wrap (atN L (IntKind.i64.wrap ((n' : Int) - 2))))
def minG (q : Int) : Int := if 65535 < q then 65535 else q
theorem pa_pre (o n c o' n' c' : Nat) (la lb : List Value) : GoesT (evL (tabH Try.prog extY conN hcP) 200 (paP Try.f25) ([sl 0 o n c, sl 1 o' n' c'] ++ List.replicate 93 undef, ⟨2, [(lb, tR), (la, tR)]⟩, [at_]) ⟨[], [], []⟩) 12 83 none [sl 0 o n c, sl 1 o' n' c', undef, undef, nilS, nilS, nilS, sl 2 0 (n : Int).toNat (n : Int).toNat, .int .i64 n', undef, undef, undef] (hB3 (List.replicate (n : Int).toNat (.int .u32 0)) lb la) [(okMakeB 4 (n : Int) (n : Int), true)] := ⟨by kernel_rfl, by kernel_rfl, by kernel_rfl⟩
theorem pa_r4 (o n c o' n' c' z : Nat) (r v9 v10 v11 : Value) (h : Hp) (g : Nat → Value) : GoesT (evC (tabH Try.prog extY conN hcP) 200 false (cFst (paB Try.f25)) ([sl 0 o n c, sl 1 o' n' c', undef, undef, nilS, nilS, r, sl 2 0 z z, .int .i64 n', v9, v10, v11] ++ tl 83 g, h, []) ⟨[], [], []⟩) 12 83 none (pFr o n c o' n' c' z r (IntKind.i64.wrap ((n : Int) - 1)) v10 v11) h [] := ⟨by kernel_rfl, by kernel_rfl, by kernel_rfl⟩
theorem pa_h1 (o n c o' n' c' z : Nat) (r v10 v11 : Value) (i : Int) (h : Hp) (g : Nat → Value) : GoesT (evC (tabH Try.prog extY conN hcP) 200 false (paH Try.f25) (pFr o n c o' n' c' z r i v10 v11 ++ tl 83 g, h, [cmp true]) ⟨[], [], []⟩) 12 83 none (pFr o n c o' n' c' z r i v10 v11) h [(decide (i ≥ 0), true)] := ⟨by kernel_rfl, by kernel_rfl, by kernel_rfl⟩
theorem pa_h0 (o n c o' n' c' z : Nat) (r v10 v11 : Value) (i : Int) (h : Hp) (g : Nat → Value) : GoesT (evC (tabH Try.prog extY conN hcP) 200 false (paH Try.f25) (pFr o n c o' n' c' z r i v10 v11 ++ tl 83 g, h, [cmp false]) ⟨[], [], []⟩) 12 83 (some (some 0)) (pFr o n c o' n' c' z r i v10 v11) h [(decide (i ≥ 0), false)] := ⟨by kernel_rfl, by kernel_rfl, by kernel_rfl⟩
theorem pa_7n (o n c o' n' c' z : Nat) (v10 v11 : Value) (i d : Int) (wq lb la : List Value) (g : Nat → Value) : GoesT (evC (tabH Try.prog extY conN hcP) 200 false (x7 Try.f25) (pFr o n c o' n' c' z nilS i v10 v11 ++ tl 83 g, hB3 wq lb la, [at_, val (.int .u32 d)]) ⟨[], [], []⟩) 12 83 none (pFr o n c o' n' c' z (sl 3 0 (trimN (cutI [.int .u32 d] 0 1)) (trimN (cutI [.int .u32 d] 0 1))) i v10 v11) (hB4 [.int .u32 d] wq lb la) [(rowC tU [.int .u32 d] 0 1 1, true), ceP la o i d, inP i n] := ⟨by kernel_rfl, by kernel_rfl, by kernel_rfl⟩
theorem pa_7e (o n c o' n' c' z : Nat) (v10 v11 : Value) (i d : Int) (wr wq lb la : List Value) (g : Nat → Value) : GoesT (evC (tabH Try.prog extY conN hcP) 200 false (x7 Try.f25) (pFr o n c o' n' c' z (sl 3 0 0 0) i v10 v11 ++ tl 83 g, hB4 wr wq lb la, [at_, val (.int .u32 d)]) ⟨[], [], []⟩) 12 83 none (pFr o n c o' n' c' z (sl 4 0 (trimN (cutI [.int .u32 d] 0 1)) (trimN (cutI [.int .u32 d] 0 1))) i v10 v11) (hB5 [.int .u32 d] wr wq lb la) [(rowC tU [.int .u32 d] 0 1 1, true), ceP la o i d, inP i n] := ⟨by kernel_rfl, by kernel_rfl, by kernel_rfl⟩
theorem pa_7s (o n c o' n' c' z k : Nat) (v10 v11 : Value) (i d : Int) (wr wq lb la : List Value) (g : Nat → Value) : GoesT (evC (tabH Try.prog extY conN hcP) 200 false (x7 Try.f25) (pFr o n c o' n' c' z (sl 3 0 k k) i v10 v11 ++ tl 83 g, hB4 wr wq lb la, [at_, val (.int .u32 d), num 0]) ⟨[], [], []⟩) 12 83 none (pFr o n c o' n' c' z (sl 5 0 (trimN (cutI ([.int .u32 d] ++ List.take k (List.drop 0 wr)) 0 (1 + k))) (trimN (cutI ([.int .u32 d] ++ List.take k (List.drop 0 wr)) 0 (1 + k)))) i v10 v11) ⟨6, [(([.int .u32 d] ++ List.take k (List.drop 0 wr)), tU), ([.int .u32 d], tU), (wr, tU), (wq, tU), (lb, tR), (la, tR)]⟩ [(rowC tU ([.int .u32 d] ++ List.take k (List.drop 0 wr)) 0 (1 + k) grown, true), (appChz ([.int .u32 d], tU) (wr, tU) 1 1 0 k, true), ceP la o i d, inP i n] := ⟨by kernel_rfl, by kernel_rfl, by kernel_rfl⟩
theorem pa_8t (o n c o' n' c' z k : Nat) (v10 v11 : Value) (i : Int) (wr wq lb la : List Value) (g : Nat → Value) : GoesT (evC (tabH Try.prog extY conN hcP) 200 false (x8 Try.f25) (pFr o n c o' n' c' z (sl 3 0 k k) i v10 v11 ++ tl 83 g, hB4 wr wq lb la, [cmp true]) ⟨[], [], []⟩) 12 83 (some (some 1)) (pFr o n c o' n' c' z (sl 3 0 k k) i v10 v11) (hB4 wr wq lb la) [(decide (cmpZ (vO (hB4 wr wq lb la) (aP 3 0) k) (vO (hB4 wr wq lb la) (aP 1 o') n') < 0), true), (two16 (hB4 wr wq lb la) (aP 3 0) (aP 1 o') k k n' c', true)] := ⟨by kernel_rfl, by kernel_rfl, by kernel_rfl⟩
theorem pa_8f (o n c o' n' c' z k : Nat) (v10 v11 : Value) (i : Int) (wr wq lb la : List Value) (g : Nat → Value) : GoesT (evC (tabH Try.prog extY conN hcP) 200 false (x8 Try.f25) (pFr o n c o' n' c' z (sl 3 0 k k) i v10 v11 ++ tl 83 g, hB4 wr wq lb la, [cmp false]) ⟨[], [], []⟩) 12 83 none (pFr o n c o' n' c' z (sl 3 0 k k) i v10 v11) (hB4 wr wq lb la) [(decide (cmpZ (vO (hB4 wr wq lb la) (aP 3 0) k) (vO (hB4 wr wq lb la) (aP 1 o') n') < 0), false), (two16 (hB4 wr wq lb la) (aP 3 0) (aP 1 o') k k n' c', true)] := ⟨by kernel_rfl, by kernel_rfl, by kernel_rfl⟩
theorem pa_i (o n c o' n' c' z : Nat) (r v10 v11 : Value) (i : Int) (h : Hp) (g : Nat → Value) : GoesT (evC (tabH Try.prog extY conN hcP) 200 false (paI Try.f25) (pFr o n c o' n' c' z r i v10 v11 ++ tl 83 g, h, []) ⟨[], [], []⟩) 12 83 none (pFr o n c o' n' c' z r (IntKind.i64.wrap (i - 1)) v10 v11) h [] := ⟨by kernel_rfl, by kernel_rfl, by kernel_rfl⟩
theorem pa_9 (o n c o' n' c' z k : Nat) (v10 v11 : Value) (i : Int) (wr wq lb la : List Value) (g : Nat → Value) : GoesT (evC (tabH Try.prog extY conN hcP) 200 false (x9 Try.f25) (pFr o n c o' n' c' z (sl 3 0 k k) i v10 v11 ++ tl 83 g, hB4 wr wq lb la, []) ⟨[], [], []⟩) 12 83 none (pFr o n c o' n' c' z (sl 3 0 k k) i (.int .u64 (tR3 (rowOf (hB4 wr wq lb la) (aP 3 0) k) n')) v11) (hB4 wr wq lb la) [(rowP (hB4 wr wq lb la) (aP 3 0) k k, true), (decide ((16 : Int) < 0), false), (rowP (hB4 wr wq lb la) (aP 3 0) k k, true), (decide ((32 : Int) < 0), false), (rowP (hB4 wr wq lb la) (aP 3 0) k k, true)] := ⟨by kernel_rfl, by kernel_rfl, by kernel_rfl⟩
theorem pa_10 (o n c o' n' c' z k : Nat) (v11 : Value) (i t x q : Int) (wr wq lb la : List Value) (g : Nat → Value) : GoesT (evC (tabH Try.prog extY conN hcP) 200 false (x10 Try.f25) (pFr o n c o' n' c' z (sl 3 0 k k) i (.int .u64 t) v11 ++ tl 83 g, hB4 wr wq lb la, [at_, val (.int .u32 x), num q]) ⟨[], [], []⟩) 12 83 none (pFr o n c o' n' c' z (sl 3 0 k k) i (.int .u64 t) (.int .u64 (minG q))) (hB4 wr wq lb la) [(decide ((tB2 x (rowOf (hB4 wr wq lb la) (aP 1 o') n') n') = 0), false), (decide (IntKind.u64.wrap (t.tdiv (tB2 x (rowOf (hB4 wr wq lb la) (aP 1 o') n') n')) = q), true), (rowP (hB4 wr wq lb la) (aP 1 o') n' c', true), (decide ((16 : Int) < 0), false), ceP lb o' (IntKind.i64.wrap ((n' : Int) - 1)) x, inP (IntKind.i64.wrap ((n' : Int) - 1)) n'] := ⟨by kernel_rfl, by kernel_rfl, by kernel_rfl⟩
def pV (h : Hp) (o' n' : Nat) (e : Int) : Nat := vO h (aP 1 o') n' * (IntKind.u32.wrap e).toNat + Int.toNat 0
theorem pa_11 (o n c o' n' c' z k : Nat) (v10 : Value) (i e : Int) (wr wq lb la : List Value) (g : Nat → Value) : GoesT (evC (tabH Try.prog extY conN hcP) 200 false (x11 Try.f25) (pFr o n c o' n' c' z (sl 3 0 k k) i v10 (.int .u64 e) ++ tl 83 g, hB4 wr wq lb la, [cmp true]) ⟨[], [], []⟩) 13 82 none (pFr o n c o' n' c' z (sl 3 0 k k) i v10 (.int .u64 e) ++ [sl 4 0 (d16 (pV (hB4 wr wq lb la) o' n' e)).length (d16 (pV (hB4 wr wq lb la) o' n' e)).length]) (hB5 (wU (d16 (pV (hB4 wr wq lb la) o' n' e))) wr wq lb la) [(okSml (hB4 wr wq lb la) (aP 1 o') n' c' (IntKind.u32.wrap e) 0, true), (decide (0 < n' ∨ (0 : Int) < 0), true)] := ⟨by kernel_rfl, by kernel_rfl, by kernel_rfl⟩
theorem pa_yt (o n c o' n' c' z k j : Nat) (v10 : Value) (i e : Int) (wp wr wq lb la : List Value) (g : Nat → Value) : GoesT (evC (tabH Try.prog extY conN hcP) 200 false (yH Try.f25) (pFr o n c o' n' c' z (sl 3 0 k k) i v10 (.int .u64 e) ++ [sl 4 0 j j] ++ tl 82 g, hB5 wp wr wq lb la, [cmp true]) ⟨[], [], []⟩) 13 82 none (pFr o n c o' n' c' z (sl 3 0 k k) i v10 (.int .u64 e) ++ [sl 4 0 j j]) (hB5 wp wr wq lb la) [(decide (cmpZ (vO (hB5 wp wr wq lb la) (aP 4 0) j) (vO (hB5 wp wr wq lb la) (aP 3 0) k) > 0), true), (two16 (hB5 wp wr wq lb la) (aP 4 0) (aP 3 0) j j k k, true)] := ⟨by kernel_rfl, by kernel_rfl, by kernel_rfl⟩
theorem pa_yf (o n c o' n' c' z k j : Nat) (v10 : Value) (i e : Int) (wp wr wq lb la : List Value) (g : Nat → Value) : GoesT (evC (tabH Try.prog extY conN hcP) 200 false (yH Try.f25) (pFr o n c o' n' c' z (sl 3 0 k k) i v10 (.int .u64 e) ++ [sl 4 0 j j] ++ tl 82 g, hB5 wp wr wq lb la, [cmp false]) ⟨[], [], []⟩) 13 82 (some (some 2)) (pFr o n c o' n' c' z (sl 3 0 k k) i v10 (.int .u64 e) ++ [sl 4 0 j j]) (hB5 wp wr wq lb la) [(decide (cmpZ (vO (hB5 wp wr wq lb la) (aP 4 0) j) (vO (hB5 wp wr wq lb la) (aP 3 0) k) > 0), false), (two16 (hB5 wp wr wq lb la) (aP 4 0) (aP 3 0) j j k k, true)] := ⟨by kernel_rfl, by kernel_rfl, by kernel_rfl⟩
theorem pa_yb (o n c o' n' c' z k j : Nat) (v10 : Value) (i e : Int) (wp wr wq lb la : List Value) (g : Nat → Value) : GoesT (evC (tabH Try.prog extY conN hcP) 200 false (yB Try.f25) (pFr o n c o' n' c' z (sl 3 0 k k) i v10 (.int .u64 e) ++ [sl 4 0 j j] ++ tl 82 g, hB5 wp wr wq lb la, [cmp true]) ⟨[], [], []⟩) 13 82 none (pFr o n c o' n' c' z (sl 3 0 k k) i v10 (.int .u64 (IntKind.u64.wrap (e - 1))) ++ [sl 5 0 (d16 (vO (hB5 wp wr wq lb la) (aP 4 0) j - vO (hB5 wp wr wq lb la) (aP 1 o') n')).length (d16 (vO (hB5 wp wr wq lb la) (aP 4 0) j - vO (hB5 wp wr wq lb la) (aP 1 o') n')).length]) ⟨6, [(wU (d16 (vO (hB5 wp wr wq lb la) (aP 4 0) j - vO (hB5 wp wr wq lb la) (aP 1 o') n')), tU), (wp, tU), (wr, tU), (wq, tU), (lb, tR), (la, tR)]⟩ [(two16 (hB5 wp wr wq lb la) (aP 4 0) (aP 1 o') j j n' c' && Nat.ble (vO (hB5 wp wr wq lb la) (aP 1 o') n') (vO (hB5 wp wr wq lb la) (aP 4 0) j), true), (decide (0 < j), true)] := ⟨by kernel_rfl, by kernel_rfl, by kernel_rfl⟩
theorem pa_e (o n c o' n' c' z k j : Nat) (v10 : Value) (i e : Int) (wp wr wq lb la : List Value) (g : Nat → Value) : GoesT (evC (tabH Try.prog extY conN hcP) 200 false (xE Try.f25) (pFr o n c o' n' c' z (sl 3 0 k k) i v10 (.int .u64 e) ++ [sl 4 0 j j] ++ tl 82 g, hB5 wp wr wq lb la, [cmp true, at_, at_]) ⟨[], [], []⟩) 12 83 none (pFr o n c o' n' c' z (sl 5 0 (d16 (vO (hB5 wp wr wq lb la) (aP 3 0) k - vO (hB5 wp wr wq lb la) (aP 4 0) j)).length (d16 (vO (hB5 wp wr wq lb la) (aP 3 0) k - vO (hB5 wp wr wq lb la) (aP 4 0) j)).length) i v10 (.int .u64 e)) ⟨6, [(wU (d16 (vO (hB5 wp wr wq lb la) (aP 3 0) k - vO (hB5 wp wr wq lb la) (aP 4 0) j)), tU), (wp, tU), (wr, tU), (wq.set (0 + i.toNat * 1) (.int .u32 (IntKind.u32.wrap e)), tU), (lb, tR), (la, tR)]⟩ [(decide (0 + i.toNat * 1 < wq.length), true), inP i z, (two16 (hB5 wp wr wq lb la) (aP 3 0) (aP 4 0) k k j j && Nat.ble (vO (hB5 wp wr wq lb la) (aP 4 0) j) (vO (hB5 wp wr wq lb la) (aP 3 0) k), true), (decide (0 < k), true)] := ⟨by kernel_rfl, by kernel_rfl, by kernel_rfl⟩
theorem pa_end (o n c o' n' c' z k : Nat) (v9 v10 v11 : Value) (wr wq lb la : List Value) (g : Nat → Value) : GoesT (evC (tabH Try.prog extY conN hcP) 200 false (paE Try.f25) ([sl 0 o n c, sl 1 o' n' c', undef, undef, nilS, nilS, sl 3 0 k k, sl 2 0 z z, .int .i64 n', v9, v10, v11] ++ tl 83 g, hB4 wr wq lb la, []) ⟨[], [], []⟩) 6 89 (some none) [sl 0 o n c, sl 1 o' n' c', undef, undef, sl 2 0 (trimN (cutI wq 0 z)) (trimN (cutI wq 0 z)), sl 3 0 k k] (hB4 wr wq lb la) [(rowC tU wq 0 z z, true)] := ⟨by kernel_rfl, by kernel_rfl, by kernel_rfl⟩
end Go.Proofs.Ytbcpnpchioncbaa

/-
  The document's quotient and rest (tillerref02.Parts), II: its numbers, its loops.
-/
namespace Go.Proofs.Ytbcpnpchioncbaa
open Go.KRun Go.Nt
set_option maxRecDepth 100000
set_option linter.unusedVariables false

theorem RunsW.next {T : Tab} {c1 c2 : Code} {x : Lf} {front : List Value} {n : Nat} {h : Hp} {P : Ex → Lf → Prop} (h1 : RunsW T c1 x fun e y => e = none ∧ (∃ g, y.1 = front ++ tl n g) ∧ y.2.1 = h) (h2 : ∀ g s, RunsW T c2 (front ++ tl n g, h, s) P) : RunsW T (.seq c1 c2) x P := by
  refine RunsW.seq h1 (fun y hy => ?_) (fun e y hy => by cases hy.1)
  obtain ⟨_, ⟨g, e1⟩, e2⟩ := hy
  obtain ⟨t, hh, s⟩ := y
  simp only at e1 e2
  subst e1 e2
  exact h2 g s
/-! ### rows of numbers -/
theorem rowOf_P {h : Hp} {b A : Nat} {ty : TypeId} (hb : h.blk? b = some (wU (d16 A), ty)) : rowOf h (aP b 0) (d16 A).length = d16 A := by
  unfold rowOf aP
  simp only [hb]
  exact cut_wU _
theorem vO_P {h : Hp} {b A : Nat} {ty : TypeId} (hb : h.blk? b = some (wU (d16 A), ty)) : vO h (aP b 0) (d16 A).length = A := by
  unfold vO
  rw [rowOf_P hb]
  exact vb_db (by omega) A
theorem d16_rng (A : Nat) : ∀ x ∈ d16 A, 0 ≤ x ∧ x < 4294967296 := fun x hx => ⟨(d16_dg A x hx).1, by have := (d16_dg A x hx).2; omega⟩
theorem capS {n : Nat} (h : n < 1000000000) : capOk 0 n n = true := by
  unfold capOk
  have : smallC n = true := by unfold smallC; exact blt_iff.2 (by have : dead = 4611686018427387904 := rfl; omega)
  rw [this, Nat.ble_eq_true_of_le (Nat.le_refl n)]
  rfl
theorem rowP_P {h : Hp} {b A : Nat} (hb : h.blk? b = some (wU (d16 A), tU)) (hl : (d16 A).length < 1000000000) : rowP h (aP b 0) (d16 A).length (d16 A).length = true := by
  unfold rowP aP
  simp only [hb]
  rw [rowC_wU (d16_rng A) (by omega) (capS hl), List.all_eq_true.2 (wU_still _)]
  rfl
theorem two16_mk {h : Hp} {p q : Option Addr} {n c n' c' : Nat} (h1 : rowP h p n c = true) (h2 : rowP h q n' c' = true) (h3 : ∀ x ∈ rowOf h p n, Dg 65536 x) (h4 : ∀ x ∈ rowOf h q n', Dg 65536 x) (h5 : max n n' + 2 < 1073741824) : two16 h p q n c n' c' = true := by
  unfold two16
  rw [h1, h2, dgB_mk h3, dgB_mk h4, blt_iff.2 h5]
  rfl
theorem len_le16 {A k : Nat} (h : A < 65536 ^ k) : (d16 A).length ≤ k := db_len (by omega) k A h
theorem atN_db (V : Nat) (i : Int) : atN (d16 V) i = if 0 ≤ i then ((V / 65536 ^ i.toNat % 65536 : Nat) : Int) else 0 := by
  unfold atN
  split
  · have h1 := getD_db i.toNat V
    have h2 := at_dg (d16_dg V) i.toNat
    have h3 : ((d16 V).getD i.toNat 0).toNat = V / 65536 ^ i.toNat % 65536 := h1
    have := h2.1
    omega
  · rfl
theorem w64 {n : Int} (h0 : 0 ≤ n) (h1 : n < 18446744073709551616) : IntKind.u64.wrap n = n := by simp [IntKind.wrap, IntKind.bits, IntKind.signed]; omega
theorem tR3_eq (V n : Nat) (hn : 1 ≤ n) (hn2 : n < 1000000) : tR3 (d16 V) n = (topP V n : Int) := by
  have e1 : IntKind.i64.wrap ((n : Int) - 1) = ((n - 1 : Nat) : Int) := by rw [wrapI (by omega) (by omega)]; omega
  have e2 : IntKind.i64.wrap ((n : Int) - 2) = (n : Int) - 2 := wrapI (by omega) (by omega)
  have p32 : (2 : Int) ^ min (Int.toNat 32) 64 = 4294967296 := rfl
  have p16 : (2 : Int) ^ min (Int.toNat 16) 64 = 65536 := rfl
  have m1 := Nat.mod_lt (V / 65536 ^ n) (show 0 < 65536 by omega)
  have m2 := Nat.mod_lt (V / 65536 ^ (n - 1)) (show 0 < 65536 by omega)
  have m3 := Nat.mod_lt (V / 65536 ^ (n - 2)) (show 0 < 65536 by omega)
  unfold tR3 topP
  rw [e1, e2, p32, p16, atN_db, atN_db, atN_db, if_pos (by omega), if_pos (by omega), Int.toNat_natCast, Int.toNat_natCast]
  by_cases h2 : 2 ≤ n
  · have e3 : ((n : Int) - 2).toNat = n - 2 := by omega
    rw [if_pos (by omega), if_pos h2, e3]
    generalize V / 65536 ^ n % 65536 = a at *
    generalize V / 65536 ^ (n - 1) % 65536 = b at *
    generalize V / 65536 ^ (n - 2) % 65536 = d at *
    rw [w64 (n := (a : Int)) (by omega) (by omega), w64 (n := (a : Int) * 4294967296) (by omega) (by omega), w64 (n := (b : Int)) (by omega) (by omega), w64 (n := (b : Int) * 65536) (by omega) (by omega), w64 (n := (d : Int)) (by omega) (by omega), w64 (n := (a : Int) * 4294967296 + (b : Int) * 65536) (by omega) (by omega), w64 (by omega) (by omega)]
    omega
  · rw [if_neg (by omega), if_neg h2]
    generalize V / 65536 ^ n % 65536 = a at *
    generalize V / 65536 ^ (n - 1) % 65536 = b at *
    rw [w64 (n := (a : Int)) (by omega) (by omega), w64 (n := (a : Int) * 4294967296) (by omega) (by omega), w64 (n := (b : Int)) (by omega) (by omega), w64 (n := (b : Int) * 65536) (by omega) (by omega), w64 (n := (0 : Int)) (by omega) (by omega), w64 (n := (a : Int) * 4294967296 + (b : Int) * 65536) (by omega) (by omega), w64 (by omega) (by omega)]
    omega
theorem tB2_eq {L : List Int} (hC : Canon 65536 L) (hn : 1 ≤ L.length) (hn2 : L.length < 1000000) : tB2 (L.getD (L.length - 1) 0) L L.length = (topB (vb 65536 L) L.length : Int) := by
  have e2 : IntKind.i64.wrap ((L.length : Int) - 2) = (L.length : Int) - 2 := wrapI (by omega) (by omega)
  have p16 : (2 : Int) ^ min (Int.toNat 16) 64 = 65536 := rfl
  obtain ⟨B, hB⟩ : ∃ B, B = vb 65536 L := ⟨_, rfl⟩
  have eL : L = d16 B := by rw [hB]; exact (db_can (by omega) hC).symm
  have ex : L.getD (L.length - 1) 0 = ((B / 65536 ^ (L.length - 1) % 65536 : Nat) : Int) := by
    have h1 := getD_db (L.length - 1) B
    have h2 := (at_dg hC.1 (L.length - 1)).1
    have h3 : (L.getD (L.length - 1) 0).toNat = B / 65536 ^ (L.length - 1) % 65536 := by
      rw [← h1]
      show (L.getD _ 0).toNat = ((d16 B).getD _ 0).toNat
      rw [← eL]
    omega
  have ea : atN L ((L.length : Int) - 2) = if 0 ≤ (L.length : Int) - 2 then ((B / 65536 ^ ((L.length : Int) - 2).toNat % 65536 : Nat) : Int) else 0 := by
    have := atN_db B ((L.length : Int) - 2)
    rw [← eL] at this
    exact this
  have m2 := Nat.mod_lt (B / 65536 ^ (L.length - 1)) (show 0 < 65536 by omega)
  have m3 := Nat.mod_lt (B / 65536 ^ (L.length - 2)) (show 0 < 65536 by omega)
  unfold tB2 topB
  rw [← hB, e2, p16, ea, ex]
  by_cases h2 : 2 ≤ L.length
  · have e3 : ((L.length : Int) - 2).toNat = L.length - 2 := by omega
    rw [if_pos (by omega), if_pos h2, e3]
    generalize B / 65536 ^ (L.length - 1) % 65536 = b at *
    generalize B / 65536 ^ (L.length - 2) % 65536 = d at *
    rw [w64 (n := (b : Int)) (by omega) (by omega), w64 (n := (b : Int) * 65536) (by omega) (by omega), w64 (n := (d : Int)) (by omega) (by omega), w64 (by omega) (by omega)]
    omega
  · rw [if_neg (by omega), if_neg h2]
    generalize B / 65536 ^ (L.length - 1) % 65536 = b at *
    rw [w64 (n := (b : Int)) (by omega) (by omega), w64 (n := (b : Int) * 65536) (by omega) (by omega), w64 (n := (0 : Int)) (by omega) (by omega), w64 (by omega) (by omega)]
    omega
/-- what is known of the two rows -/
structure Two (la lb : List Value) (o o' c' : Nat) (A L : List Int) : Prop where
  ra : Row la o A
  rb : Row lb o' L
  dA : ∀ x ∈ A, Dg 65536 x
  cL : Canon 65536 L
  n1 : 1 ≤ L.length
  n2 : L.length < 1000000
  a1 : 1 ≤ A.length
  a2 : A.length < 1000000
  cb : rowC tR lb o' L.length c' = true
  sb : ∀ v ∈ lb, still v = true
  sa : ∀ v ∈ la, still v = true
  eb : cutI lb o' L.length = L
section
variable {la lb : List Value} {o c o' c' : Nat} {A L : List Int}
theorem Two.row (H : Two la lb o o' c' A L) {h : Hp} (hb : h.blk? 1 = some (lb, tR)) : rowP h (aP 1 o') L.length c' = true ∧ rowOf h (aP 1 o') L.length = L ∧ vO h (aP 1 o') L.length = vb 65536 L := by
  have e : rowOf h (aP 1 o') L.length = L := by
    unfold rowOf aP
    simp only [hb]
    exact H.eb
  refine ⟨?_, e, by unfold vO; rw [e]⟩
  unfold rowP aP
  simp only [hb]
  rw [H.cb, List.all_eq_true.2 H.sb]
  rfl
theorem Two.bnd (H : Two la lb o o' c' A L) : 65536 ^ (L.length - 1) ≤ vb 65536 L ∧ vb 65536 L < 65536 ^ L.length ∧ 0 < vb 65536 L := by
  have h1 := can_lo H.cL H.n1
  have h2 := vb_lt (b := 65536) (by omega) L H.cL.1
  have : 0 < 65536 ^ (L.length - 1) := Nat.pow_pos (by omega)
  exact ⟨h1, h2, by omega⟩
theorem T0_ok : TabOk (tabH Try.prog extY conN hcP) := tabH_ok conN_ok hcP_ok
/-- the row that is left, with the next part ahead of it -/
theorem next_row (V : Nat) {d : Int} (hd : Dg 65536 d) : trimN (d :: d16 V) = (d16 (d.toNat + 65536 * V)).length ∧ wU (d :: d16 V) = wU (d16 (d.toNat + 65536 * V)) ++ wU ((d :: d16 V).drop (trimN (d :: d16 V))) := by
  have hD : ∀ x ∈ d :: d16 V, Dg 65536 x := fun x hx => by
    rcases List.mem_cons.1 hx with rfl | hx
    · exact hd
    · exact d16_dg V x hx
  have ev : vb 65536 (d :: d16 V) = d.toNat + 65536 * V := by
    simp only [vb]
    rw [show vb 65536 (d16 V) = V from vb_db (by omega) V]
  have h1 := trim_len (b := 65536) (by omega) hD
  have h2 := take_trim (b := 65536) (by omega) _ hD
  rw [ev] at h1 h2
  refine ⟨h1, ?_⟩
  rw [← wU_append]
  congr 1
  show _ = db 65536 _ ++ _
  rw [← h2, List.take_append_drop]
theorem rng_of {d : Int} (hd : Dg 65536 d) : ∀ x ∈ d :: ([] : List Int), 0 ≤ x ∧ x < 4294967296 := fun x hx => by
  rw [List.mem_singleton.1 hx]
  exact ⟨hd.1, by have := hd.2; omega⟩
theorem base3 {wq : List Value} (hq : ∀ v ∈ wq, still v = true) (hb : ∀ v ∈ lb, still v = true) (ha : ∀ v ∈ la, still v = true) {h : Hp} (h0 : h.blk? 0 = some (la, tR)) (h1 : h.blk? 1 = some (lb, tR)) (h2 : h.blk? 2 = some (wq, tU)) : ∀ i x, (⟨3, [(wq, tU), (lb, tR), (la, tR)]⟩ : Hp).blk? i = some x → h.blk? i = some x ∧ ∀ v ∈ x.1, still v = true := by
  intro i x hx
  have hi : i < 3 := Hp.blk_lt hx
  have h3 : i = 0 ∨ i = 1 ∨ i = 2 := by omega
  rcases h3 with rfl | rfl | rfl
  · have : (la, tR) = x := Option.some.inj hx
    subst this; exact ⟨h0, ha⟩
  · have : (lb, tR) = x := Option.some.inj hx
    subst this; exact ⟨h1, hb⟩
  · have : (wq, tU) = x := Option.some.inj hx
    subst this; exact ⟨h2, hq⟩
theorem pFr_lt {n n' z t : Nat} {i : Int} {v10 v11 : Value} (k1 : KRun.lt 4 v10 = true) (k2 : KRun.lt 4 v11 = true) : ∀ v ∈ pFr o n c o' n' c' z (sl 3 0 t t) i v10 v11, KRun.lt 4 v = true := by
  intro v hv
  simp only [pFr, List.mem_cons, List.not_mem_nil, or_false] at hv
  rcases hv with rfl | rfl | rfl | rfl | rfl | rfl | rfl | rfl | rfl | rfl | rfl | rfl
  · rfl
  · rfl
  · rfl
  · rfl
  · rfl
  · rfl
  · rfl
  · rfl
  · rfl
  · rfl
  · exact k1
  · exact k2
end
end Go.Proofs.Ytbcpnpchioncbaa
