/-
  AsNum, RunK, FiM, FiN, FiO, FiP, FiQ, RunO
-/
import Derived.Test.YtdlpffgekmidnaaDoorG16
namespace Go.Proofs.YtdlpffgekmidnaaDoor
open Go.KRun Go.RowKit
set_option maxRecDepth 100000
def known (w : World) : Prop := w.cell? ⟨0, 0, none⟩ = some errT
set_option maxHeartbeats 4000000 in
theorem num_calls (n : Int) (w : World) (hg : known w) : Calls Tryd.prog 10 #[.iface 57 (.int .i64 n)] w fun e w' => e = .returned (.int .i64 n) ∧ Tidy w w' := by
  have hlt : 0 < w.heap.size := by
    rcases Nat.eq_zero_or_pos w.heap.size with h0 | h
    · unfold known at hg
      simp [World.cell?, h0] at hg
    · exact h
  have hg1 : (w.alloc (.cells #[.int .i64 0] 57)).cell? ⟨0, 0, none⟩ = some errT := by
    rw [World.cell?_alloc_lt _ _ ⟨0, 0, none⟩ hlt]; exact hg
  have ht1 : (w.alloc (.cells #[.int .i64 0] 57)).cell? ⟨w.heap.size, 0, none⟩ = some (.int .i64 0) := by simp
  have hf1 : (w.alloc (.cells #[.int .i64 0] 57)).frozen? ⟨w.heap.size, 0, none⟩ = false := by simp
  have hit := as_hit n ⟨w.heap.size, 0, none⟩ (.int .i64 0) _ hg1 ht1 hf1
  have hb : (w.alloc (.cells #[.int .i64 0] 57)).heap[w.heap.size]? = some (.cells #[.int .i64 0] 57 (0, 0)) := heap_alloc_at w _
  have hcell : (asW n ⟨w.heap.size, 0, none⟩ (w.alloc (.cells #[.int .i64 0] 57))).cell? ⟨w.heap.size, 0, none⟩ = some (.int .i64 n) ∧ Tidy w (asW n ⟨w.heap.size, 0, none⟩ (w.alloc (.cells #[.int .i64 0] 57))) := by
    unfold asW
    have t1 := tidy_alloc w #[.int .i64 0] 57
    generalize hw1 : w.alloc (.cells #[.int .i64 0] 57) = w1 at *
    have s1 : w.heap.size < w1.heap.size := by rw [← hw1, size_alloc']; omega
    have t2 := tidy_alloc w1 #[.pointer (some ⟨w.heap.size, 0, none⟩)] 67
    have q2 := heap_alloc_ne w1 (.cells #[.pointer (some ⟨w.heap.size, 0, none⟩)] 67) w.heap.size (by omega)
    have s2 := size_alloc' w1 (.cells #[.pointer (some ⟨w.heap.size, 0, none⟩)] 67)
    generalize w1.alloc (.cells #[.pointer (some ⟨w.heap.size, 0, none⟩)] 67) = w2 at *
    have t3 := tidy_alloc w2 #[.pointer (some ⟨3, 67, none⟩), .pointer (some ⟨w1.heap.size, 0, none⟩), .int .u64 150] 85
    have q3 := heap_alloc_ne w2 (.cells #[.pointer (some ⟨3, 67, none⟩), .pointer (some ⟨w1.heap.size, 0, none⟩), .int .u64 150] 85) w.heap.size (by omega)
    have s3 := size_alloc' w2 (.cells #[.pointer (some ⟨3, 67, none⟩), .pointer (some ⟨w1.heap.size, 0, none⟩), .int .u64 150] 85)
    generalize w2.alloc (.cells #[.pointer (some ⟨3, 67, none⟩), .pointer (some ⟨w1.heap.size, 0, none⟩), .int .u64 150] 85) = w3 at *
    have t4 := tidy_alloc w3 #[.pointer (some ⟨3, 67, none⟩), .pointer (some ⟨w1.heap.size, 0, none⟩), .int .u64 150] 85
    have q4 := heap_alloc_ne w3 (.cells #[.pointer (some ⟨3, 67, none⟩), .pointer (some ⟨w1.heap.size, 0, none⟩), .int .u64 150] 85) w.heap.size (by omega)
    have s4 := size_alloc' w3 (.cells #[.pointer (some ⟨3, 67, none⟩), .pointer (some ⟨w1.heap.size, 0, none⟩), .int .u64 150] 85)
    generalize w3.alloc (.cells #[.pointer (some ⟨3, 67, none⟩), .pointer (some ⟨w1.heap.size, 0, none⟩), .int .u64 150] 85) = w4 at *
    have t5 := tidy_alloc w4 #[.int .i64 n] 57
    have q5 := heap_alloc_ne w4 (.cells #[.int .i64 n] 57) w.heap.size (by omega)
    generalize w4.alloc (.cells #[.int .i64 n] 57) = w5 at *
    have hb5 : w5.heap[w.heap.size]? = some (.cells #[.int .i64 0] 57 (0, 0)) := by rw [q5, q4, q3, q2]; exact hb
    exact ⟨cell_of_one (one_setCell hb5), tidy_setCell (tidy_trans t1 (tidy_trans t2 (tidy_trans t3 (tidy_trans t4 t5)))) (Nat.le_refl _) hb5 _⟩
  obtain ⟨W', hc1, hc2, hit'⟩ : ∃ W' : World, W'.cell? ⟨w.heap.size, 0, none⟩ = some (.int .i64 n) ∧ Tidy w W' ∧ Calls Tryd.prog 37 #[.iface 57 (.int .i64 n), .iface 67 (.pointer (some ⟨w.heap.size, 0, none⟩))] (w.alloc (.cells #[.int .i64 0] 57)) fun ev w' => ev = .returned (.bool true) ∧ w' = W' := ⟨_, hcell.1, hcell.2, hit⟩
  clear hit hcell hb hf1 ht1 hg1 hlt hg
  go_enter Tryd.func10, Tryd.ntmps10
  go_wp2_with (go_at_call 37; refine hit'.mono ?_; rintro e w' ⟨rfl, rfl⟩)
  go_ret
  exact ⟨rfl, hc2⟩
def eqA : List Value → Bool
  | [.pointer (some ⟨g, e, none⟩)] => Nat.beq g 3 && Nat.beq e 26
  | _ => false
def eqE : Value → Bool
  | .iface r (.agg a) => Nat.beq r 101 && eqA a.toList
  | _ => false
def kOk : List Value → Bool
  | [.iface d v] => Nat.beq d dead && eqE v
  | _ => false
def kV : List Value := [.iface dead errT]
def kT : TypeId := 3 * dead
theorem eqE_spec {v : Value} (h : eqE v = true) : v = errT := by
  unfold eqE at h
  split at h
  · rename_i r a
    simp only [Bool.and_eq_true] at h
    obtain ⟨h1, h2⟩ := h
    have h1 := Nat.eq_of_beq_eq_true h1
    unfold eqA at h2
    split at h2
    · rename_i g e ha
      simp only [Bool.and_eq_true] at h2
      have h3 := Nat.eq_of_beq_eq_true h2.1
      have h4 := Nat.eq_of_beq_eq_true h2.2
      have ea : a = #[.pointer (some ⟨g, e, none⟩)] := by
        apply Array.toList_inj.1
        rw [ha]
      rw [ea, h1, h3, h4]
      rfl
    · cases h2
  · cases h
theorem kOk_spec {cs : List Value} (h : kOk cs = true) : cs = kV := by
  unfold kOk at h
  split at h
  · rename_i d v
    simp only [Bool.and_eq_true] at h
    rw [Nat.eq_of_beq_eq_true h.1, eqE_spec h.2]
    rfl
  · cases h
def gNum : AnsH := fun vals h s =>
  match vals, h.blk? 0 with
  | [.iface t (.int .i64 n)], some (cs, ty) => some (.int .i64 n, h, s, [(Nat.beq t 57 && Nat.beq ty kT && kOk cs, true)])
  | _, _ => none
theorem known_of_blk {w : World} {r : List Value} {t : TypeId} {z : Nat × Nat} (h : w.heap[0]? = some (.cells (errT :: r).toArray t z)) : known w := by
  unfold known World.cell?
  simp [h]
theorem gNum_ok : AnsHOk 10 gNum := by
  intro vals h s v h' s' lg hg hl m B w E hv
  unfold gNum at hg
  split at hg
  · rename_i t n cs ty hb
    cases hg
    have h1 := hl _ (List.mem_singleton.2 rfl)
    simp only [Bool.and_eq_true] at h1
    obtain ⟨⟨e1, e2⟩, e3⟩ := h1
    have e1 := Nat.eq_of_beq_eq_true e1
    have e2 := Nat.eq_of_beq_eq_true e2
    have e3 := kOk_spec e3
    subst e1 e2 e3
    obtain ⟨_, r, t', z, k2, _⟩ := E.abs 0 _ hb (by kernel_rfl)
    have hk : known w := known_of_blk (r := r) (t := t') (z := z) (by
      have e4 : kV.map (mv1 m) = [errT] := by rfl
      have e5 : nbA kT = 0 := by kernel_rfl
      rw [e4] at k2
      simp only [e5] at k2
      exact k2)
    refine (num_calls n w hk).mono fun e w' he => ?_
    obtain ⟨E', hb'⟩ := clean_emb E he.2
    exact ⟨m, he.1, ⟨Agree.refl _ _, E', hb', Nat.le_refl _, rfl⟩⟩
  · cases hg
def hK : Hp := ⟨1, [(kV, kT)]⟩
theorem blkK {b : Nat} {x : List Value × TypeId} (h : hK.blk? b = some x) : x = (kV, kT) := by
  have hb0 : b = 0 := by have : b < 1 := Hp.blk_lt h; omega
  subst hb0
  exact (Option.some.inj h).symm
theorem startK {w : World} (hk : known w) : Emb (fun b => (b, 0)) w.heap.size hK w where
  len := rfl
  lies := fun b x hb hx => by rw [blkK hb, show tomb kT = true from by kernel_rfl] at hx; cases hx
  low := fun b x hb hx => by rw [blkK hb, show ro kT = true from by kernel_rfl] at hx; cases hx
  ros := fun b x hb hx => by rw [blkK hb, show tomb kT = true from by kernel_rfl] at hx; cases hx
  inj := fun b b' x x' hb _ hx => by rw [blkK hb, show ro kT = true from by kernel_rfl] at hx; cases hx
  wf := fun b x hb v hv => by
    rw [blkK hb] at hv
    rw [List.mem_singleton.1 hv]
    rfl
  base := Nat.le_refl _
  ice := fun k h1 h2 => by omega
  abs := fun b x hb _ => by
    rw [blkK hb]
    have e5 : nbA kT = 0 := by kernel_rfl
    have e6 : lnA kT = 0 := by kernel_rfl
    have e4 : kV.map (mv1 fun b => (b, 0)) = [errT] := by rfl
    unfold absR
    simp only [e5, e4, e6]
    unfold known World.cell? at hk
    simp only at hk
    cases h0 : w.heap[0]? with
    | none => rw [h0] at hk; simp at hk
    | some o =>
      have hlt := (Array.getElem?_eq_some_iff.1 h0).1
      rw [h0] at hk
      cases o with
      | cells c t z =>
        refine ⟨hlt, c.toList.drop 1, t, z, ?_, .inl trivial⟩
        have hc : c.toList[0]? = some errT := by simpa using hk
        have : [errT] ++ c.toList.drop 1 = c.toList := by
          cases hl : c.toList with
          | nil => rw [hl] at hc; simp at hc
          | cons a l =>
            rw [hl] at hc
            simp at hc
            simp [hc]
        rw [this]
      | _ => simp at hk
end Go.Proofs.YtdlpffgekmidnaaDoor
namespace Go.KRun
open Go.RowKit
def reckonAt (T : Tab) (h0 : Hp) (n : Nat) (f : Nat) (vals : List Value) (s : List Dec) : Option (Value × Hp × List Dec × Lg) := callBy T (evC T n false) f vals h0 s ⟨[], [], []⟩
theorem fitsAt_calls {T : Tab} (hT : TabOk T) {h0 : Hp} {n f : Nat} {vals : List Value} {s : List Dec} {v : Value} {cs : Log} (hF : Fits (reckonAt T h0 n f vals s) v cs) (hcs : okLog cs) (hvals : (vals.all (lt h0.n)) = true) (hv : lt 0 v = true) {m : Mp} {w : World} (E : Emb m w.heap.size h0 w) :
    Calls T.P f (vals.map (mv m)).toArray w fun e w' => e = .returned v ∧ Tidy w w' := by
  obtain ⟨h1, h2, h3, h4⟩ := hF
  cases hr : reckonAt T h0 n f vals s with
  | none => rw [hr] at h1; cases h1
  | some r =>
    rw [hr] at h1 h2 h3 h4
    simp only [Option.map_some, Option.some.injEq] at h1 h2 h3 h4
    obtain ⟨v', h', s', L⟩ := r
    simp only at h1 h2 h3 h4
    subst h1
    obtain ⟨_, _, h5⟩ := callBy_ok hT (evC_ok hT n).1 _ _ _ _ _ _ _ _ _ hr ⟨by rw [h2]; exact hcs, all_eq _ h3, all_eq _ h4⟩
    refine (h5 _ _ w E (List.all_eq_true.1 hvals)).mono fun en w' he => ?_
    obtain ⟨m', rfl, C⟩ := he
    exact ⟨by rw [mv_still hv], C.below, fun k h1 h2 => C.emb.ice k h1 h2⟩
/-- the same, where the arguments hold no address -/
theorem fitsAt_still {T : Tab} (hT : TabOk T) {h0 : Hp} {n f : Nat} {vals : List Value} {s : List Dec} {v : Value} {cs : Log} (hF : Fits (reckonAt T h0 n f vals s) v cs) (hcs : okLog cs) (hvals : (vals.all (lt 0)) = true) (hv : lt 0 v = true) {m : Mp} {w : World} (E : Emb m w.heap.size h0 w) :
    Calls T.P f vals.toArray w fun e w' => e = .returned v ∧ Tidy w w' := by
  have hst : ∀ y ∈ vals, lt 0 y = true := List.all_eq_true.1 hvals
  have e : vals.map (mv m) = vals := (List.map_congr_left fun y hy => mv_still (hst y hy)).trans (List.map_id' _)
  have := fitsAt_calls hT hF hcs (List.all_eq_true.2 fun y hy => lt_mono (Nat.zero_le _) (hst y hy)) hv E
  rw [e] at this
  exact this
end Go.KRun
namespace Go.Proofs.YtdlpffgekmidnaaDoor
open Go.KRun Go.Nt Go.Wd
set_option maxRecDepth 100000
theorem N5.can {h : Hp} {p : Option Addr} {n V : Nat} (A : N5 h p n V) : canB (rowOf h p n) = true := by
  rw [A.eq]
  exact canB_mk (can_db (by omega) V)
def smC (F : Func) : Nat → Code
  | 0 => cBody F
  | n + 1 => cSnd (smC F n)
def smP (F : Func) : List Code := [cFst (smC F 0), cFst (smC F 1), cFst (smC F 2), cFst (smC F 3)]
def smI (F : Func) : Code := cFst (cFst (smC F 4))
def smL (F : Func) : Code := cIn (cIn (cSnd (cFst (smC F 4))))
def smM (F : Func) : Code := cFst (smC F 5)
def smT (F : Func) : Code := cIn (cIn (cFst (smC F 6)))
def smE (F : Func) : Code := smC F 7
theorem sm_body : Tryd.f57.body = some (seqs (smP Tryd.f57) (.seq (.seq (smI Tryd.f57) (.block 0 (.loop (smL Tryd.f57)))) (.seq (smM Tryd.f57) (.seq (.block 2 (.loop (smT Tryd.f57))) (smE Tryd.f57))))) := by kernel_rfl
theorem sm_body1 : Tryd.f57.body = some (cBody Tryd.f57) := by kernel_rfl
def uv (n : Int) : Value := .int .u32 n
def smF (a q : Value) (d r i : Value) : List Value := [a, d, undef, undef, nilS, q, r, i]
def smG (a q : Value) (d r i k : Value) : List Value := [a, d, undef, undef, nilS, q, r, i, k]
def hQx (x : List Value × TypeId) (Q : List Value) : Hp := ⟨2, [(Q, tU), x]⟩
def slg (n : Nat) : Value := .slice (some ⟨1, 0, none⟩) n grown
def inF (i : Int) (n : Nat) : Bool × Bool := (decide (0 ≤ i ∧ i < n), true)
def ceF (l : List Value) (i x : Int) : Bool × Bool := (cellIs (l[0 + i.toNat * 1]?) (uv x), true)
def rTF (r x : Int) : Int := IntKind.u64.wrap (IntKind.u64.wrap (65536 * r) + IntKind.u64.wrap x)
theorem sm_nil0 (p : Option Addr) (c : Nat) (d : Value) (h : Hp) : GoesT (evC (tabOf Tryd.prog extY conN true) 100 false (cBody Tryd.f57) ([.slice p 0 c, d] ++ List.replicate 54 undef, h, []) ⟨[], [], []⟩) 5 51 (some none) [.slice p 0 c, d, undef, undef, nilS] h [] := ⟨by kernel_rfl, by kernel_rfl, by kernel_rfl⟩
theorem sm_pre (o n c : Nat) (d : Int) (l : List Value) (t : TypeId) : GoesT (evL (tabOf Tryd.prog extY conN true) 100 (smP Tryd.f57) ([sl 0 o n c, uv d] ++ List.replicate 54 undef, ⟨1, [(l, t)]⟩, [at_]) ⟨[], [], []⟩) 7 49 none [sl 0 o n c, uv d, undef, undef, nilS, slg n, .int .u64 0] (hQx (l, t) ((l.drop o).take n)) [(appChn (l, t) o n, true)] := ⟨by kernel_rfl, by kernel_rfl, by kernel_rfl⟩
theorem sm_i (a d r : Value) (n : Nat) (h : Hp) (g : Nat → Value) : GoesT (evC (tabOf Tryd.prog extY conN true) 100 false (smI Tryd.f57) ([a, d, undef, undef, nilS, slg n, r] ++ tl 49 g, h, []) ⟨[], [], []⟩) 8 48 none (smF a (slg n) d r (.int .i64 (IntKind.i64.wrap ((n : Int) - 1)))) h [] := ⟨by kernel_rfl, by kernel_rfl, by kernel_rfl⟩
theorem sm_x (a d r : Value) (n : Nat) (i : Int) (h : Hp) (g : Nat → Value) : GoesT (evC (tabOf Tryd.prog extY conN true) 100 false (smL Tryd.f57) (smF a (slg n) d r (.int .i64 i) ++ tl 48 g, h, [cmp false]) ⟨[], [], []⟩) 8 48 (some (some 0)) (smF a (slg n) d r (.int .i64 i)) h [(decide (i ≥ 0), false)] := ⟨by kernel_rfl, by kernel_rfl, by kernel_rfl⟩
theorem sm_g (a : Value) (d r i x q : Int) (n : Nat) (x1 : List Value × TypeId) (Q : List Value) (g : Nat → Value) : GoesT (evC (tabOf Tryd.prog extY conN true) 100 false (smL Tryd.f57) (smF a (slg n) (uv d) (.int .u64 r) (.int .i64 i) ++ tl 48 g, hQx x1 Q, [cmp true, at_, val (uv x), num q, at_, at_, cmp false]) ⟨[], [], []⟩) 8 48 none (smF a (slg n) (uv d) (.int .u64 ((rTF r x).tmod (IntKind.u64.wrap d))) (.int .i64 (IntKind.i64.wrap (i - 1)))) (hQx x1 (Q.set (0 + i.toNat * 1) (uv (IntKind.u32.wrap q)))) [(decide (IntKind.u64.wrap d = 0), false), (decide (0 + i.toNat * 1 < Q.length), true), inF i n, (decide (IntKind.u64.wrap d = 0), false), (decide (IntKind.u64.wrap ((rTF r x).tdiv (IntKind.u64.wrap d)) = q), true), ceF Q i x, inF i n, (decide (i ≥ 0), true)] := ⟨by kernel_rfl, by kernel_rfl, by kernel_rfl⟩
theorem sm_m (a d r i : Value) (n : Nat) (h : Hp) (g : Nat → Value) : GoesT (evC (tabOf Tryd.prog extY conN true) 100 false (smM Tryd.f57) (smF a (slg n) d r i ++ tl 48 g, h, []) ⟨[], [], []⟩) 9 47 none (smG a (slg n) d r i (.int .i64 (n : Nat))) h [] := ⟨by kernel_rfl, by kernel_rfl, by kernel_rfl⟩
theorem st_o (a d r i : Value) (n : Nat) (k : Int) (h : Hp) (g : Nat → Value) : GoesT (evC (tabOf Tryd.prog extY conN true) 100 false (smT Tryd.f57) (smG a (slg n) d r i (.int .i64 k) ++ tl 47 g, h, [cmp false]) ⟨[], [], []⟩) 9 47 (some (some 2)) (smG a (slg n) d r i (.int .i64 k)) h [(decide (k > 0), false)] := ⟨by kernel_rfl, by kernel_rfl, by kernel_rfl⟩
theorem st_g (a d r i : Value) (n : Nat) (k x : Int) (x1 : List Value × TypeId) (Q : List Value) (g : Nat → Value) : GoesT (evC (tabOf Tryd.prog extY conN true) 100 false (smT Tryd.f57) (smG a (slg n) d r i (.int .i64 k) ++ tl 47 g, hQx x1 Q, [cmp true, at_, val (uv x), cmp true]) ⟨[], [], []⟩) 9 47 none (smG a (slg n) d r i (.int .i64 (IntKind.i64.wrap (k - 1)))) (hQx x1 Q) [(x == 0, true), ceF Q (IntKind.i64.wrap (k - 1)) x, inF (IntKind.i64.wrap (k - 1)) n, (decide (k > 0), true)] := ⟨by kernel_rfl, by kernel_rfl, by kernel_rfl⟩
theorem st_x (a d r i : Value) (n : Nat) (k x : Int) (x1 : List Value × TypeId) (Q : List Value) (g : Nat → Value) : GoesT (evC (tabOf Tryd.prog extY conN true) 100 false (smT Tryd.f57) (smG a (slg n) d r i (.int .i64 k) ++ tl 47 g, hQx x1 Q, [cmp true, at_, val (uv x), cmp false]) ⟨[], [], []⟩) 9 47 (some (some 2)) (smG a (slg n) d r i (.int .i64 k)) (hQx x1 Q) [(x == 0, false), ceF Q (IntKind.i64.wrap (k - 1)) x, inF (IntKind.i64.wrap (k - 1)) n, (decide (k > 0), true)] := ⟨by kernel_rfl, by kernel_rfl, by kernel_rfl⟩
theorem sm_e (a d r i : Value) (n k : Nat) (x1 : List Value × TypeId) (Q : List Value) (g : Nat → Value) : GoesT (evC (tabOf Tryd.prog extY conN true) 100 false (smE Tryd.f57) (smG a (slg n) d r i (.int .i64 (k : Nat)) ++ tl 47 g, hQx x1 Q, [at_]) ⟨[], [], []⟩) 5 51 (some none) [a, d, undef, undef, slg k] (hQx x1 Q) [(okPart 0 (k : Nat) n n, true), (!(tomb tU) && Nat.ble n Q.length, true)] := ⟨by kernel_rfl, by kernel_rfl, by kernel_rfl⟩
theorem sm_num {r x d : Nat} (hd : 1 ≤ d ∧ d < 65536) (hr : r < d) (hx : x < 65536) : IntKind.u64.wrap (d : Int) = (d : Int) ∧ rTF r x = ((65536 * r + x : Nat) : Int) ∧ (65536 * r + x) / d < 65536 := by
  have h1 : (65536 * r + x) / d < 65536 := Nat.div_lt_of_lt_mul (by
    have : d * 65536 ≥ (r + 1) * 65536 := Nat.mul_le_mul_right _ hr
    omega)
  refine ⟨wrap_u64' (by omega) (by omega), ?_, h1⟩
  unfold rTF
  rw [wrap_u64' (n := (x : Int)) (by omega) (by omega), wrap_u64' (n := 65536 * (r : Int)) (by omega) (by omega), wrap_u64' (by omega) (by omega)]
  omega
theorem wU_getF (A : List Int) (x : Int) (P : List Int) : (wU (A ++ x :: P))[A.length]? = some (uv x) := by
  unfold wU uv
  simp
theorem wU_setF (A : List Int) (x d : Int) (P : List Int) : (wU (A ++ x :: P)).set A.length (uv d) = wU (A ++ d :: P) := by
  unfold wU uv
  simp
theorem ceF_ok {L : List Int} {k : Nat} {x : Int} (h : (wU L)[k]? = some (uv x)) : (ceF (wU L) (k : Int) x).1 = (ceF (wU L) (k : Int) x).2 := by
  unfold ceF
  rw [Int.toNat_natCast, Nat.mul_one, Nat.zero_add, h]
  simp [cellIs, uv]
theorem wU_at {L : List Int} {k : Nat} (h : k < L.length) : (wU L)[k]? = some (uv (L.getD k 0)) := by
  unfold wU uv
  rw [List.getElem?_map, List.getElem?_eq_getElem h]
  simp [List.getD, List.getElem?_eq_getElem h]
section
variable (a : Value) {d : Nat} (hd : 1 ≤ d ∧ d < 65536) (x1 : List Value × TypeId) {L : List Int} (hL : ∀ x ∈ L, Dg 65536 x) (hN : L.length < 1073741824)
include hd hL hN in
/-- the divisions -/
theorem sm_div (r i : Value) (hr : r = .int .u64 0) (hi : i = .int .i64 ((L.length : Int) - 1)) (g : Nat → Value) (sc : List Dec) :
    RunsW (tabOf Tryd.prog extY conN true) (.block 0 (.loop (smL Tryd.f57))) (smF a (slg L.length) (uv d) r i ++ tl 48 g, hQx x1 (wU L), sc) fun e z => e = none ∧ ∃ Q : List Int, Q.length = L.length ∧ (∀ x ∈ Q, Dg 65536 x) ∧ vb 65536 Q = vb 65536 L / d ∧ z.2.1 = hQx x1 (wU Q) ∧ ∃ (r i : Value) (g : Nat → Value), z.1 = smF a (slg L.length) (uv d) r i ++ tl 48 g := by
  subst hr hi
  have T := tabY_ok conN_ok
  refine (RunsW.forLoop (R := fun _ => False) (P := fun z => ∃ Q : List Int, Q.length = L.length ∧ (∀ x ∈ Q, Dg 65536 x) ∧ vb 65536 Q = vb 65536 L / d ∧ z.2.1 = hQx x1 (wU Q) ∧ ∃ (r i : Value) (g : Nat → Value), z.1 = smF a (slg L.length) (uv d) r i ++ tl 48 g)
    (fun m y => ∃ (A Q H : List Int) (r : Nat) (g : Nat → Value), y.1 = smF a (slg L.length) (uv d) (.int .u64 (r : Nat)) (.int .i64 ((A.length : Int) - 1)) ++ tl 48 g ∧ y.2.1 = hQx x1 (wU (A ++ Q)) ∧ L = A ++ H ∧ H.length = Q.length ∧ (∀ x ∈ Q, Dg 65536 x) ∧ r < d ∧ vb 65536 H = vb 65536 Q * d + r ∧ m = A.length)
    ?_ (n := L.length) ⟨L, [], [], 0, g, rfl, by rw [List.append_nil], by simp, rfl, (fun x hx => by cases hx), by omega, by simp [vb], rfl⟩).mono fun e z hz => ?_
  · rintro m ⟨t, h', s'⟩ ⟨A, Q, H, r, g, ht, hh, hLA, hHQ, wQ, hr, hv, hm⟩
    simp only at ht hh
    subst ht hh
    rcases List.eq_nil_or_concat A with rfl | ⟨A', x, rfl⟩
    · refine (goesT_runsW (s0 := s') T (sm_x a (uv d) _ L.length _ _ g) (okL1 (decide_eq_false (by simp)))).mono fun e z he => ?_
      obtain ⟨rfl, ⟨g', z1⟩, z2⟩ := he
      have eH : L = H := by simpa using hLA
      rw [← eH] at hv hHQ
      refine ⟨rfl, Q, hHQ.symm, wQ, ?_, z2, _, _, g', z1⟩
      rw [hv, Nat.mul_comm, Nat.mul_add_div (by omega), Nat.div_eq_of_lt hr, Nat.add_zero]
    · rw [List.concat_eq_append] at *
      have hlen : L.length = A'.length + 1 + H.length := by rw [hLA]; simp; omega
      have hx := hL x (by rw [hLA]; simp)
      obtain ⟨X, rfl⟩ := Int.eq_ofNat_of_zero_le hx.1
      have hX : X < 65536 := by have := hx.2; omega
      obtain ⟨n1, n2, n3⟩ := sm_num hd hr hX
      have hdm := Nat.div_add_mod (65536 * r + X) d
      have hml := Nat.mod_lt (65536 * r + X) (show 0 < d by omega)
      obtain ⟨q, hq⟩ : ∃ q, (65536 * r + X) / d = q := ⟨_, rfl⟩
      obtain ⟨r', hr'⟩ : ∃ q, (65536 * r + X) % d = q := ⟨_, rfl⟩
      rw [hq] at n3 hdm
      rw [hr'] at hdm hml
      have ei : (((A' ++ [(X : Int)]).length : Nat) : Int) - 1 = (A'.length : Nat) := by simp
      have eS : wU (A' ++ [(X : Int)] ++ Q) = wU (A' ++ (X : Int) :: Q) := by simp
      have l1 : decide (0 + ((A'.length : Nat) : Int).toNat * 1 < (wU (A' ++ (X : Int) :: Q)).length) = true := decide_eq_true (by unfold wU; simp)
      have l2 : (inF (A'.length : Nat) L.length).1 = (inF (A'.length : Nat) L.length).2 := decide_eq_true (by omega)
      have l3 : (ceF (wU (A' ++ (X : Int) :: Q)) (A'.length : Nat) X).1 = (ceF (wU (A' ++ (X : Int) :: Q)) (A'.length : Nat) X).2 := ceF_ok (wU_getF A' X Q)
      have l4 : decide (IntKind.u64.wrap (d : Int) = 0) = false := decide_eq_false (by rw [n1]; omega)
      have l5 : decide (IntKind.u64.wrap ((rTF r X).tdiv (IntKind.u64.wrap d)) = (q : Int)) = true := decide_eq_true (by
        rw [n1, n2, Int.tdiv_eq_ediv_of_nonneg (by omega), ← Int.natCast_ediv, hq]
        exact wrap_u64' (by omega) (by omega))
      have l6 : decide (((A'.length : Nat) : Int) ≥ 0) = true := decide_eq_true (by omega)
      rw [ei, eS]
      have hg := sm_g a (d : Int) (r : Int) (A'.length : Nat) (X : Int) (q : Int) L.length x1 (wU (A' ++ (X : Int) :: Q)) g
      have e1 : (rTF r X).tmod (IntKind.u64.wrap d) = (r' : Int) := by
        rw [n1, n2, Int.tmod_eq_emod_of_nonneg (by omega), ← Int.natCast_emod, hr']
      have e2 : IntKind.u32.wrap (q : Int) = (q : Int) := by
        simp [IntKind.wrap, IntKind.bits, IntKind.signed]
        omega
      rw [e1, e2] at hg
      refine (goesT_runsW (s0 := s') T hg (okPC l4 (okPC l1 (okPC l2 (okPC l4 (okPC l5 (okPC l3 (okPC l2 (okP1 l6))))))))).mono fun e z he => ?_
      obtain ⟨rfl, ⟨g', z1⟩, z2⟩ := he
      refine ⟨A'.length, by rw [hm]; simp, A', (q : Int) :: Q, (X : Int) :: H, r', g', ?_, ?_, by rw [hLA]; simp, by simp [hHQ], ?_, hml, ?_, rfl⟩
      · rw [z1, wrapI (by omega) (by omega)]
      · rw [z2, Int.toNat_natCast, Nat.mul_one, Nat.zero_add]
        rw [wU_setF]
      · intro y hy
        rcases List.mem_cons.1 hy with rfl | hy
        · exact ⟨by omega, by omega⟩
        · exact wQ y hy
      · show (X : Int).toNat + 65536 * vb 65536 H = ((q : Int).toNat + 65536 * vb 65536 Q) * d + r'
        rw [hv, Int.toNat_natCast, Int.toNat_natCast, Nat.add_mul, Nat.mul_add, Nat.mul_assoc]
        rw [Nat.mul_comm d] at hdm
        omega
  · match e, hz with
    | none, hz => exact ⟨rfl, hz⟩
end
/-- the noughts behind are left out -/
theorem sm_trim (a : Value) (dd r i : Value) (x1 : List Value × TypeId) {Q : List Int} (hN : Q.length < 1073741824) (g : Nat → Value) (sc : List Dec) :
    RunsW (tabOf Tryd.prog extY conN true) (.block 2 (.loop (smT Tryd.f57))) (smG a (slg Q.length) dd r i (.int .i64 (Q.length : Nat)) ++ tl 47 g, hQx x1 (wU Q), sc) fun e z => e = none ∧ (∃ g, z.1 = smG a (slg Q.length) dd r i (.int .i64 (trimN Q : Nat)) ++ tl 47 g) ∧ z.2.1 = hQx x1 (wU Q) := by
  have T := tabY_ok conN_ok
  refine (RunsW.forLoop (R := fun _ => False) (P := fun z => (∃ g, z.1 = smG a (slg Q.length) dd r i (.int .i64 (trimN Q : Nat)) ++ tl 47 g) ∧ z.2.1 = hQx x1 (wU Q))
    (fun n y => (∃ g, y.1 = smG a (slg Q.length) dd r i (.int .i64 (n : Nat)) ++ tl 47 g) ∧ y.2.1 = hQx x1 (wU Q) ∧ n ≤ Q.length ∧ ∀ j, n ≤ j → Q.getD j 0 = 0) ?_ (n := Q.length) ⟨⟨g, rfl⟩, rfl, Nat.le_refl _, fun j hj => by simp [List.getD, List.getElem?_eq_none hj]⟩).mono fun e z hz => ?_
  · rintro n ⟨t, h', s⟩ ⟨⟨g, ht⟩, hh, hle, hz⟩
    simp only at ht hh
    subst ht hh
    cases n with
    | zero =>
      refine (goesT_runsW (s0 := s) T (st_o a dd r i Q.length ((0 : Nat) : Int) _ g) (okL1 (decide_eq_false (by omega)))).mono fun e y he => ?_
      obtain ⟨rfl, ⟨g', z1⟩, z2⟩ := he
      have e0 : trimN Q = 0 := trimN_uniq hz (.inl rfl)
      exact ⟨rfl, ⟨g', by rw [z1, e0]⟩, z2⟩
    | succ k =>
      have ek : IntKind.i64.wrap (((k + 1 : Nat) : Int) - 1) = (k : Int) := by rw [wrapI (by omega) (by omega)]; omega
      have hgt : decide (((k + 1 : Nat) : Int) > 0) = true := decide_eq_true (by omega)
      have l2 : (inF (k : Nat) Q.length).1 = (inF (k : Nat) Q.length).2 := decide_eq_true (by omega)
      have l3 := ceF_ok (wU_at (L := Q) (k := k) (by omega))
      by_cases hx : Q.getD k 0 = 0
      · have hg := st_g a dd r i Q.length ((k + 1 : Nat) : Int) (Q.getD k 0) x1 (wU Q) g
        rw [ek] at hg
        refine (goesT_runsW (s0 := s) T hg (okPC (by simpa using hx) (okPC l3 (okPC l2 (okP1 hgt))))).mono fun e y he => ?_
        obtain ⟨rfl, ⟨g', z1⟩, z2⟩ := he
        refine ⟨k, by omega, ⟨g', z1⟩, z2, by omega, fun j hj => ?_⟩
        rcases Nat.lt_or_ge k j with h | h
        · exact hz j h
        · have : j = k := by omega
          rw [this]; exact hx
      · have hg := st_x a dd r i Q.length ((k + 1 : Nat) : Int) (Q.getD k 0) x1 (wU Q) g
        rw [ek] at hg
        refine (goesT_runsW (s0 := s) T hg (okPC (by simpa using hx) (okPC l3 (okPC l2 (okP1 hgt))))).mono fun e y he => ?_
        obtain ⟨rfl, ⟨g', z1⟩, z2⟩ := he
        have e0 : trimN Q = k + 1 := trimN_uniq hz (.inr (by simpa using hx))
        exact ⟨rfl, ⟨g', by rw [z1, e0]⟩, z2⟩
  · match e, hz with
    | none, hz => exact ⟨rfl, hz⟩
theorem sm_res (a d : Value) (L : Nat) (h : Hp) (g : Nat → Value) : resS Tryd.prog Tryd.f57 ([a, d, undef, undef, slg L] ++ tl 51 g) h = some (slg L) := rfl
theorem sm_blk (x : List Value × TypeId) (Q : List Value) : (hQx x Q).blk? 1 = some (Q, tU) := rfl
theorem sm_runs {la : List Value} {o n c : Nat} {L : List Int} (hR : Row la o L) (hn : L.length = n) (hD : ∀ x ∈ L, Dg 65536 x) (h0 : 0 < n) (hb : n < 1073741824) {d : Nat} (hd : 1 ≤ d ∧ d < 65536) {V : Nat} (hV : vb 65536 L / d = V) :
    RunsW (tabOf Tryd.prog extY conN true) (seqs (smP Tryd.f57) (.seq (.seq (smI Tryd.f57) (.block 0 (.loop (smL Tryd.f57)))) (.seq (smM Tryd.f57) (.seq (.block 2 (.loop (smT Tryd.f57))) (smE Tryd.f57))))) ([sl 0 o n c, uv d] ++ List.replicate 54 undef, ⟨1, [(la, tR)]⟩, []) fun e z => (e = none ∨ e = some none) ∧ resS Tryd.prog Tryd.f57 z.1 z.2.1 = some (slg (d16 V).length) ∧ ∃ r, z.2.1.blk? 1 = some (wU (d16 V) ++ r, tU) := by
  have T := tabY_ok conN_ok
  subst hn
  have h1 := hR.cut
  have h2 := hR.len
  unfold cutV at h1
  have lc : appChn (la, tR) o L.length = true := by
    unfold appChn
    simp only
    rw [show tomb tR = false from by kernel_rfl, Nat.ble_eq_true_of_le h2, blt_iff.2 h0, h1, wU_one, Nat.ble_eq_true_of_le (by omega)]
    rfl
  refine goesT_listW T (sm_pre o L.length c d la tR) (okL1 lc) fun g => ?_
  rw [h1]
  refine RunsW.seq (P1 := fun e z => e = none ∧ ∃ Q : List Int, Q.length = L.length ∧ (∀ x ∈ Q, Dg 65536 x) ∧ vb 65536 Q = vb 65536 L / d ∧ z.2.1 = hQx (la, tR) (wU Q) ∧ ∃ (r i : Value) (g : Nat → Value), z.1 = smF (sl 0 o L.length c) (slg L.length) (uv d) r i ++ tl 48 g) ?_ ?_ (fun e y he => by cases he.1)
  · refine RunsW.seq (goesT_runsW T (sm_i _ _ _ L.length _ g) okNil) ?_ (fun e y he => by cases he.1)
    rintro ⟨t, hh, s⟩ ⟨_, ⟨g', e1⟩, e2⟩
    simp only at e1 e2
    subst e1 e2
    exact sm_div (sl 0 o L.length c) hd (la, tR) hD hb _ _ rfl (by rw [wrapI (by omega) (by omega)]) g' s
  · rintro ⟨t, hh, s⟩ ⟨_, Q, q1, q2, q3, q4, r, i, g', q5⟩
    simp only at q4 q5
    subst q4 q5
    refine RunsW.seq (goesT_runsW T (sm_m _ _ r i L.length _ g') okNil) ?_ (fun e y he => by cases he.1)
    rintro ⟨t, hh, s⟩ ⟨_, ⟨g2, e1⟩, e2⟩
    simp only at e1 e2
    subst e1 e2
    rw [← q1]
    refine RunsW.seq (sm_trim (sl 0 o Q.length c) (uv d) r i (la, tR) (Q := Q) (by omega) g2 s) ?_ (fun e y he => by cases he.1)
    rintro ⟨t, hh, s⟩ ⟨_, ⟨g3, e1⟩, e2⟩
    simp only at e1 e2
    subst e1 e2
    have hle := trimN_le Q
    have htr : trimN Q = (d16 V).length := by
      rw [trim_len (b := 65536) (by omega) q2, q3, hV]
      rfl
    have l1 : okPart 0 (trimN Q : Nat) Q.length Q.length = true := by unfold okPart; exact decide_eq_true (by omega)
    have l2 : (!(tomb tU) && Nat.ble Q.length (wU Q).length) = true := by
      rw [show tomb tU = false from by kernel_rfl, Nat.ble_eq_true_of_le (by rw [wU_len]; omega)]
      rfl
    refine (goesT_runsW (s0 := s) T (sm_e _ _ r i Q.length (trimN Q) (la, tR) (wU Q) g3) (okCons l1 (okL1 l2))).mono fun e z hz => ?_
    obtain ⟨rfl, ⟨g4, z1⟩, z2⟩ := hz
    have e4 : wU (d16 V) ++ wU (Q.drop (trimN Q)) = wU Q := by
      have : d16 V = Q.take (trimN Q) := by
        rw [take_trim (b := 65536) (by omega) Q q2, q3, hV]
        rfl
      rw [this, ← wU_append, List.take_append_drop]
    have hb := sm_blk (la, tR) (wU Q)
    have hr := fun (L : Nat) (h : Hp) (g : Nat → Value) => sm_res (sl 0 o Q.length c) (uv d) L h g
    refine ⟨.inr rfl, ?_, wU (Q.drop (trimN Q)), ?_⟩
    · rw [z1, htr]
      exact hr _ _ g4
    · rw [z2, e4]
      exact hb
def okSm (h : Hp) (p : Option Addr) (n c : Nat) (d : Int) : Bool := rowP h p n c && dgB (rowOf h p n) && Nat.blt n 1073741824 && decide (1 ≤ d ∧ d < 65536)
def gSmD : AnsH := fun vals h s =>
  match vals, s with
  | [.slice p n c, .int .u32 d], .inr (.inr (.inr (.inl e))) :: s' =>
    match e, s' with
    | true, .inr (.inl V) :: s2 => some (.slice (some ⟨h.n, 0, none⟩) (d16 V.toNat).length grown, h.push (wU (d16 V.toNat)) tU, s2, [(decide (vO h p n / d.toNat = V.toNat), true), (okSm h p n c d, true), (decide (0 < n), true)])
    | false, _ => some (nilS, h, s', [(rowP h p n c, true), (decide (0 < n), false)])
    | _, _ => none
  | _, _ => none
theorem gSmD_ok : AnsHOk 57 gSmD := by
  intro vals h s v h' s' lg hg hl m B w E hv
  unfold gSmD at hg
  split at hg
  · rename_i p n c d e s2
    split at hg
    · rename_i V s3
      cases hg
      have l1 := of_decide_eq_true (hl _ List.mem_cons_self)
      have l2 := hl _ (List.mem_cons_of_mem _ List.mem_cons_self)
      have l3 := of_decide_eq_true (hl _ (List.mem_cons_of_mem _ (List.mem_cons_of_mem _ (List.mem_singleton.2 rfl))))
      simp only [okSm, Bool.and_eq_true, decide_eq_true_eq] at l2
      obtain ⟨⟨⟨q1, q2⟩, q3⟩, q4⟩ := l2
      have q2 := dgB_of q2
      have q3 := blt_iff.1 q3
      obtain ⟨D, rfl⟩ := Int.eq_ofNat_of_zero_le (show 0 ≤ d by omega)
      rw [Int.toNat_natCast] at l1
      rcases rowP_cases q1 with ⟨rfl, rfl, rfl, e0⟩ | ⟨b, o, x, rfl, hx, r1, rs, e0⟩
      · omega
      · rw [e0] at q2
        obtain ⟨h1, h2, h3, h4, h5, h6, h7⟩ := rowC_of r1
        have ev : vO h (some ⟨b, o, none⟩) n = vb 65536 (cutI x.1 o n) := by unfold vO; rw [e0]
        rw [ev] at l1
        have r := sm_runs (c := c) h1 h2 q2 l3 q3 (d := D) (by omega) l1
        generalize hL : (d16 V.toNat).length = L at r ⊢
        have hA : ∀ u ∈ wU (d16 V.toNat), lt1 0 u = true := wU_lt _
        generalize wU (d16 V.toNat) = A at r hA ⊢
        have := row_calls1 (T := tabOf Tryd.prog extY conN true) Tryd.func57 sm_body (rows1 h7) (vals := [sl 0 o n c, uv D]) (fun v hv => by
          simp only [List.mem_cons, List.not_mem_nil, or_false] at hv
          rcases hv with rfl | rfl <;> rfl) (k := 1) (cs := A) (ty := tU) hA (by kernel_rfl) r (by rfl) E (s := fun _ => b) (fitsR1 hx h5 h6 rfl)
        have e2 : rn (fun _ => h.n) (slg L) = .slice (some ⟨h.n, 0, none⟩) L grown := by simp [rn, rn2, rn1, slg]
        have e3 : [sl 0 o n c, uv D].map (rn fun _ => b) = [.slice (some ⟨b, o, none⟩) n c, .int .u32 (D : Nat)] := by simp [rn, rn2, rn1, sl, uv]
        rw [e2, e3] at this
        exact this
    · cases hg
      have l1 := hl _ List.mem_cons_self
      have l2 := of_decide_eq_false (hl _ (List.mem_cons_of_mem _ (List.mem_singleton.2 rfl)))
      simp only at l1
      have hn : n = 0 := by omega
      subst hn
      obtain ⟨x, p', a, NA, eA, fA⟩ := nu_of 0 l1
      have hr : Runs (tabOf Tryd.prog extY conN true) (cBody Tryd.f57) ([.slice p' 0 c, uv d] ++ List.replicate 54 undef, ⟨1, [x]⟩, []) fun e z => (e = none ∨ e = some none) ∧ resS Tryd.prog Tryd.f57 z.1 z.2.1 = some nilS := by
        refine (goesT_runs (tabY_ok conN_ok) (sm_nil0 p' c (uv d) _) okNil).mono fun e z he => ?_
        obtain ⟨rfl, ⟨g, e2⟩, e3⟩ := he
        refine ⟨.inr rfl, ?_⟩
        rw [e2, e3]
        rfl
      have b1 : ∀ {i : Nat} {z : List Value × TypeId}, (⟨1, [x]⟩ : Hp).blk? i = some z → i = 0 ∧ z = x := fun {i z} hz => by
        have : i < 1 := Hp.blk_lt hz
        have hi : i = 0 := by omega
        subst hi
        exact ⟨rfl, (Option.some.inj hz).symm⟩
      have := row_calls0 (T := tabOf Tryd.prog extY conN true) Tryd.func57 sm_body1 (h0 := ⟨1, [x]⟩) ⟨rfl, fun b z hz => by obtain ⟨_, rfl⟩ := b1 hz; exact ⟨NA.ros.1, NA.lt0, NA.ros.2⟩⟩ (vals := [.slice p' 0 c, uv d]) (fun v hv => by
        simp only [List.mem_cons, List.not_mem_nil, or_false] at hv
        rcases hv with rfl | rfl
        · exact NA.lt (by show 0 < 1; omega)
        · rfl) (v := nilS) (by rfl) hr.w E (s := fun _ => a) (fun i z hz ht => by obtain ⟨_, rfl⟩ := b1 hz; exact fA ht)
      simp only [List.map_cons, List.map_nil] at this
      rw [eA _ rfl] at this
      exact this
    · cases hg
  · cases hg
structure N6 (h : Hp) (p : Option Addr) (n c V : Nat) : Prop where
  row : rowP h p n c = true
  eq : rowOf h p n = d16 V
  lt : n < 100000
theorem N6.len {h : Hp} {p : Option Addr} {n c V : Nat} (A : N6 h p n c V) : n = (d16 V).length := by
  have := rowOf_len A.row
  rw [A.eq] at this
  exact this.symm
theorem N6.vO {h : Hp} {p : Option Addr} {n c V : Nat} (A : N6 h p n c V) : vO h p n = V := by
  unfold Go.Proofs.YtdlpffgekmidnaaDoor.vO
  rw [A.eq]
  exact vb_db (by omega) V
theorem N6.dg {h : Hp} {p : Option Addr} {n c V : Nat} (A : N6 h p n c V) : dgB (rowOf h p n) = true := by
  rw [A.eq]
  exact dgB_mk (d16_dg V)
theorem nN6 (h : Hp) : N6 h none 0 0 0 := ⟨rfl, by rw [d16_0]; rfl, by omega⟩
theorem bN6 {h : Hp} {b V : Nat} (hb : h.blk? b = some (w16 V)) (hl : (d16 V).length < 100000) : N6 h (aP16 b) (d16 V).length (d16 V).length V := ⟨rowP_d16 hb (by omega), rowOf_d16 hb, hl⟩
theorem gN6 {h : Hp} {b V : Nat} (hb : h.blk? b = some (w16 V)) (hl : (d16 V).length < 100000) : N6 h (aP16 b) (d16 V).length grown V := by
  refine ⟨?_, rowOf_d16 hb, hl⟩
  have h0 := d16_dg V
  unfold aP16
  simp only [rowP, hb, w16, Bool.and_eq_true]
  exact ⟨rowC_wU (fun x hx => ⟨(h0 x hx).1, by have := (h0 x hx).2; omega⟩) (by omega) (by rfl), List.all_eq_true.2 (wU_still _)⟩
theorem N6.two {h : Hp} {p q : Option Addr} {n m c e V W : Nat} (A : N6 h p n c V) (B : N6 h q m e W) : two16 h p q n c m e = true := by
  have := A.lt
  have := B.lt
  unfold two16
  rw [A.row, B.row, A.dg, B.dg, blt_iff.2 (by omega)]
  rfl
theorem N6.mu {h : Hp} {p q : Option Addr} {n m c e V W : Nat} (A : N6 h p n c V) (B : N6 h q m e W) : okMu h p q n c m e = true := by
  have := A.lt
  have := B.lt
  unfold okMu
  rw [A.row, B.row, A.dg, B.dg, blt_iff.2 (by omega)]
  rfl
theorem N6.sm {h : Hp} {p : Option Addr} {n c V : Nat} (A : N6 h p n c V) {d : Int} (hd : 1 ≤ d ∧ d < 65536) : okSm h p n c d = true := by
  have := A.lt
  unfold okSm
  rw [A.row, A.dg, blt_iff.2 (by omega), decide_eq_true hd]
  rfl
theorem N6.sb {h : Hp} {p q : Option Addr} {n m c e V W : Nat} (A : N6 h p n c V) (B : N6 h q m e W) (hle : W ≤ V) : okSb h p q n c m e = true := by
  unfold okSb
  rw [A.two B, A.vO, B.vO, Nat.ble_eq_true_of_le hle]
  rfl
theorem N6.addV {h : Hp} {p q : Option Addr} {n m c e V W P : Nat} (A : N6 h p n c V) (B : N6 h q m e W) (hP : V + W = P) : decide (Go.Proofs.YtdlpffgekmidnaaDoor.vO h p n + Go.Proofs.YtdlpffgekmidnaaDoor.vO h q m = P) = true := by
  rw [A.vO, B.vO]
  exact decide_eq_true hP
theorem N6.subV {h : Hp} {p q : Option Addr} {n m c e V W P : Nat} (A : N6 h p n c V) (B : N6 h q m e W) (hP : V - W = P) : decide (Go.Proofs.YtdlpffgekmidnaaDoor.vO h p n - Go.Proofs.YtdlpffgekmidnaaDoor.vO h q m = P) = true := by
  rw [A.vO, B.vO]
  exact decide_eq_true hP
theorem N6.divV {h : Hp} {p : Option Addr} {n c V d P : Nat} (A : N6 h p n c V) (hP : V / d = P) : decide (Go.Proofs.YtdlpffgekmidnaaDoor.vO h p n / d = P) = true := by
  rw [A.vO]
  exact decide_eq_true hP
theorem pow320 {k : Nat} (h : k = 248 + 72) : 2 ^ k = Go.Fx.uD := by
  obtain ⟨i, hi⟩ : ∃ i, i = 248 := ⟨_, rfl⟩
  obtain ⟨j, hj⟩ : ∃ j, j = 72 := ⟨_, rfl⟩
  have e : Go.Fx.uD = 2 ^ i * 2 ^ j := by rw [hi, hj]; rfl
  rw [h, ← hi, ← hj, Nat.pow_add, e]
def hcCt : Hc := altH 58 gUmulN (altH 8 gUshrT hcN)
theorem hcCt_ok : HcOk hcCt := altH_ok Tryd.func58 rfl gUmulN_ok (altH_ok Tryd.func8 rfl gUshrT_ok hcN_ok)
def hc4 (V P : Nat) (y x : List Value × TypeId) : Hp := ⟨4, [w16 V, w16 P, y, x]⟩
def hc3 (P : Nat) (y x : List Value × TypeId) : Hp := ⟨3, [w16 P, y, x]⟩
theorem cut_row (p q : Option Addr) (n c m e P V : Nat) (lo : Bool) (y x : List Value × TypeId) : GoesT (evC (tabH Tryd.prog extY conN hcCt) 200 false (cBody Tryd.f45) ([.slice p n c, .slice q m e] ++ List.replicate 13 undef, hp2 y x, [num P, cmp true, cmp lo, num V]) ⟨[], [], []⟩) 5 10 (some none) [.slice p n c, .slice q m e, undef, undef, sl 3 0 (d16 V).length (d16 V).length] (hc4 V P y x)
    [(decide (vO (hc3 P y x) (aP16 2) (d16 P).length / 2 ^ (320 : Int).toNat = V), true), (decide (vO (hc3 P y x) (aP16 2) (d16 P).length % 2 ^ (320 : Int).toNat ≠ 0), lo), (decide ((320 : Int).toNat / 16 < (d16 P).length), true), (okShr (hc3 P y x) (aP16 2) (d16 P).length (d16 P).length 320, true), (decide (vO (hp2 y x) p n * vO (hp2 y x) q m = P), true), (okMu (hp2 y x) p q n c m e, true)] := ⟨by kernel_rfl, by kernel_rfl, by kernel_rfl⟩
theorem cut_nil (p q : Option Addr) (n c m e P : Nat) (lo : Bool) (y x : List Value × TypeId) : GoesT (evC (tabH Tryd.prog extY conN hcCt) 200 false (cBody Tryd.f45) ([.slice p n c, .slice q m e] ++ List.replicate 13 undef, hp2 y x, [num P, cmp false, cmp lo]) ⟨[], [], []⟩) 5 10 (some none) [.slice p n c, .slice q m e, undef, undef, nilS] (hc3 P y x)
    [(decide (vO (hc3 P y x) (aP16 2) (d16 P).length % 2 ^ (320 : Int).toNat ≠ 0), lo), (decide ((320 : Int).toNat / 16 < (d16 P).length), false), (okShr (hc3 P y x) (aP16 2) (d16 P).length (d16 P).length 320, true), (decide (vO (hp2 y x) p n * vO (hp2 y x) q m = P), true), (okMu (hp2 y x) p q n c m e, true)] := ⟨by kernel_rfl, by kernel_rfl, by kernel_rfl⟩
theorem cut_body1 : Tryd.f45.body = some (cBody Tryd.f45) := by kernel_rfl
theorem cut_res (a b v : Value) (h : Hp) (g : Nat → Value) : resS Tryd.prog Tryd.f45 ([a, b, undef, undef, v] ++ tl 10 g) h = some v := rfl
theorem hc4_blk (V P : Nat) (y x : List Value × TypeId) : (hc4 V P y x).blk? 3 = some (w16 V) := rfl
/-- the product, cut; told ahead whether there is a row, and the number -/
def gCut : AnsH := fun vals h s =>
  match vals, s with
  | [.slice p n c, .slice q m e], .inr (.inr (.inr (.inl d))) :: s' =>
    match d, s' with
    | true, .inr (.inl V) :: s2 => mk16 V.toNat h s2 [(decide (vO h p n * vO h q m / Go.Fx.uD = V.toNat), true), (decide (20 < (d16 (vO h p n * vO h q m)).length ∧ (d16 (vO h p n * vO h q m)).length < 100000), true), (okMu h p q n c m e, true)]
    | false, _ => some (nilS, h, s', [(decide (20 < (d16 (vO h p n * vO h q m)).length), false), (okMu h p q n c m e, true)])
    | _, _ => none
  | _, _ => none
theorem mu_two {h : Hp} {p q : Option Addr} {n m c e : Nat} (h0 : okMu h p q n c m e = true) : (rowP h p n c = true ∧ dgB (rowOf h p n) = true) ∧ (rowP h q m e = true ∧ dgB (rowOf h q m) = true) ∧ n + m < 1000000 := by
  simp only [okMu, Bool.and_eq_true] at h0
  obtain ⟨⟨⟨q1, q2⟩, ⟨p1, p2⟩⟩, q4⟩ := h0
  exact ⟨⟨q1, q2⟩, ⟨p1, p2⟩, blt_iff.1 q4⟩
theorem gCut_ok : AnsHOk 45 gCut := by
  intro vals h s v h' s' lg hg hl m0 B w E hv
  have T := tabH_ok conN_ok hcCt_ok
  unfold gCut at hg
  split at hg
  · rename_i p n c q m e d s2
    split at hg
    · rename_i V s3
      unfold mk16 at hg
      cases hg
      have l1 := of_decide_eq_true (hl _ List.mem_cons_self)
      have l2 := of_decide_eq_true (hl _ (List.mem_cons_of_mem _ List.mem_cons_self))
      have l3 := hl _ (List.mem_cons_of_mem _ (List.mem_cons_of_mem _ (List.mem_singleton.2 rfl)))
      simp only at l3
      obtain ⟨⟨q1, q2⟩, ⟨p1, p2⟩, q4⟩ := mu_two l3
      obtain ⟨x, p', a, NA, eA, fA⟩ := nu_of 0 q1
      obtain ⟨y, q', b, NB, eB, fB⟩ := nu_of 1 p1
      obtain ⟨P, hP⟩ : ∃ P, vO h p n * vO h q m = P := ⟨_, rfl⟩
      rw [hP] at l1 l2
      have rA := NA.row (hp2 y x) rfl
      have rB := NB.row (hp2 y x) rfl
      have vA : vO (hp2 y x) p' n = vO h p n := by unfold vO; rw [rA.2]
      have vB : vO (hp2 y x) q' m = vO h q m := by unfold vO; rw [rB.2]
      have k1 : okMu (hp2 y x) p' q' n c m e = true := by
        unfold okMu
        rw [rA.1, rB.1, rA.2, rB.2, q2, p2, blt_iff.2 q4]
        rfl
      have k2 : decide (vO (hp2 y x) p' n * vO (hp2 y x) q' m = P) = true := decide_eq_true (by rw [vA, vB, hP])
      have NP : N5 (hc3 P y x) (aP16 2) (d16 P).length P := bN5 (V := P) rfl l2.2
      have k3 := NP.shr (k := 320) ⟨by decide, by decide⟩
      have k4 : decide ((320 : Int).toNat / 16 < (d16 P).length) = true := decide_eq_true l2.1
      have k5 : decide (vO (hc3 P y x) (aP16 2) (d16 P).length / 2 ^ (320 : Int).toNat = V.toNat) = true := NP.shrV (by rw [pow320 (k := (320 : Int).toNat) rfl]; exact l1)
      have g0 := cut_row p' q' n c m e P V.toNat (decide (vO (hc3 P y x) (aP16 2) (d16 P).length % 2 ^ (320 : Int).toNat ≠ 0)) y x
      have r : Runs (tabH Tryd.prog extY conN hcCt) (cBody Tryd.f45) ([.slice p' n c, .slice q' m e] ++ List.replicate 13 undef, hp2 y x, []) fun e z => (e = none ∨ e = some none) ∧ resS Tryd.prog Tryd.f45 z.1 z.2.1 = some (sl 3 0 (d16 V.toNat).length (d16 V.toNat).length) ∧ ∃ r, z.2.1.blk? 3 = some (wU (d16 V.toNat) ++ r, tU) := by
        refine (goesT_runs T g0 (okPC k5 (okPC rfl (okPC k4 (okPC k3 (okPC k2 (okP1 k1))))))).mono fun e z he => ?_
        obtain ⟨rfl, ⟨g, e1⟩, e2⟩ := he
        have hb := hc4_blk V.toNat P y x
        refine ⟨.inr rfl, ?_, [], ?_⟩
        · rw [e1]
          exact cut_res _ _ _ _ g
        · rw [e2, List.append_nil]
          exact hb
      generalize hL : (d16 V.toNat).length = L at r ⊢
      have hA : ∀ u ∈ wU (d16 V.toNat), lt1 0 u = true := wU_lt _
      generalize wU (d16 V.toNat) = A at r hA ⊢
      have := row_calls1 (T := tabH Tryd.prog extY conN hcCt) Tryd.func45 cut_body1 (rows_hp2 NA NB) (vals := [.slice p' n c, .slice q' m e]) (fun v hv => by
        simp only [List.mem_cons, List.not_mem_nil, or_false] at hv
        rcases hv with rfl | rfl
        · exact NA.lt (by show 0 < 2; omega)
        · exact NB.lt (by show 1 < 2; omega)) (k := 3) (cs := A) (ty := tU) hA (by kernel_rfl) r.w (by rfl) E (s := pair a b) (fits_hp2 fA fB)
      have e2 : rn (fun _ => h.n) (sl 3 0 L L) = sl h.n 0 L L := by simp [rn, rn2, rn1, sl]
      simp only [List.map_cons, List.map_nil] at this
      rw [eA _ rfl, eB _ rfl, e2] at this
      exact this
    · cases hg
      have l2 := of_decide_eq_false (hl _ List.mem_cons_self)
      have l3 := hl _ (List.mem_cons_of_mem _ (List.mem_singleton.2 rfl))
      simp only at l3
      obtain ⟨⟨q1, q2⟩, ⟨p1, p2⟩, q4⟩ := mu_two l3
      obtain ⟨x, p', a, NA, eA, fA⟩ := nu_of 0 q1
      obtain ⟨y, q', b, NB, eB, fB⟩ := nu_of 1 p1
      obtain ⟨P, hP⟩ : ∃ P, vO h p n * vO h q m = P := ⟨_, rfl⟩
      rw [hP] at l2
      have rA := NA.row (hp2 y x) rfl
      have rB := NB.row (hp2 y x) rfl
      have vA : vO (hp2 y x) p' n = vO h p n := by unfold vO; rw [rA.2]
      have vB : vO (hp2 y x) q' m = vO h q m := by unfold vO; rw [rB.2]
      have k1 : okMu (hp2 y x) p' q' n c m e = true := by
        unfold okMu
        rw [rA.1, rB.1, rA.2, rB.2, q2, p2, blt_iff.2 q4]
        rfl
      have k2 : decide (vO (hp2 y x) p' n * vO (hp2 y x) q' m = P) = true := decide_eq_true (by rw [vA, vB, hP])
      have NP : N5 (hc3 P y x) (aP16 2) (d16 P).length P := bN5 (V := P) rfl (by omega)
      have k3 := NP.shr (k := 320) ⟨by decide, by decide⟩
      have k4 : decide ((320 : Int).toNat / 16 < (d16 P).length) = false := decide_eq_false l2
      have g0 := cut_nil p' q' n c m e P (decide (vO (hc3 P y x) (aP16 2) (d16 P).length % 2 ^ (320 : Int).toNat ≠ 0)) y x
      have r : Runs (tabH Tryd.prog extY conN hcCt) (cBody Tryd.f45) ([.slice p' n c, .slice q' m e] ++ List.replicate 13 undef, hp2 y x, []) fun e z => (e = none ∨ e = some none) ∧ resS Tryd.prog Tryd.f45 z.1 z.2.1 = some nilS := by
        refine (goesT_runs T g0 (okPC rfl (okPC k4 (okPC k3 (okPC k2 (okP1 k1)))))).mono fun e z he => ?_
        obtain ⟨rfl, ⟨g, e1⟩, e2⟩ := he
        refine ⟨.inr rfl, ?_⟩
        rw [e1]
        exact cut_res _ _ _ _ g
      have := row_calls0 (T := tabH Tryd.prog extY conN hcCt) Tryd.func45 cut_body1 (rows_hp2 NA NB) (vals := [.slice p' n c, .slice q' m e]) (fun v hv => by
        simp only [List.mem_cons, List.not_mem_nil, or_false] at hv
        rcases hv with rfl | rfl
        · exact NA.lt (by show 0 < 2; omega)
        · exact NB.lt (by show 1 < 2; omega)) (v := nilS) (by rfl) r.w E (s := pair a b) (fits_hp2 fA fB)
      simp only [List.map_cons, List.map_nil] at this
      rw [eA _ rfl, eB _ rfl] at this
      exact this
    · cases hg
  · cases hg
end Go.Proofs.YtdlpffgekmidnaaDoor
namespace Go.KRun
open Go.RowKit
/-- temporaries, some of which nothing is known -/
def fillO : (Nat → Value) → List (Option Value) → List Value
  | _, [] => []
  | j, o :: r => o.getD (j 0) :: fillO (fun i => j (i + 1)) r
def matO (f : Nat → Nat) : List (Option Value) → List Value → Prop
  | [], [] => True
  | some u :: r, v :: s => rn f u = v ∧ matO f r s
  | none :: r, _ :: s => matO f r s
  | _, _ => False
theorem fill_mat {m : Mp} {f : Nat → Nat} {k : Nat} (hk : 0 < k) : ∀ (o : List (Option Value)) (t : List Value), matO f o t → (∀ v, some v ∈ o → lt k v = true) → ∃ j, (fillO j o).map (mv fun i => m (f i)) = t.map (mv m) ∧ ∀ v ∈ fillO j o, lt k v = true
  | [], [], _, _ => ⟨fun _ => undef, rfl, fun v hv => by cases hv⟩
  | [], _ :: _, h, _ => h.elim
  | some _ :: _, [], h, _ => h.elim
  | none :: _, [], h, _ => h.elim
  | some u :: r, v :: s, h, hl => by
    obtain ⟨h1, h2⟩ := h
    obtain ⟨j, e1, e2⟩ := fill_mat (m := m) hk r s h2 fun x hx => hl x (List.mem_cons_of_mem _ hx)
    refine ⟨fun i => match i with | 0 => undef | i + 1 => j i, ?_, ?_⟩
    · show mv (fun i => m (f i)) u :: (fillO j r).map (mv fun i => m (f i)) = mv m v :: s.map (mv m)
      rw [e1, ← h1, mv_rn]
    · intro x hx
      rcases List.mem_cons.1 (show x ∈ u :: fillO j r from hx) with rfl | hx
      · exact hl x List.mem_cons_self
      · exact e2 x hx
  | none :: r, v :: s, h, hl => by
    obtain ⟨j, e1, e2⟩ := fill_mat (m := m) hk r s h fun x hx => hl x (List.mem_cons_of_mem _ hx)
    refine ⟨fun i => match i with | 0 => .iface dead (mv m v) | i + 1 => j i, ?_, ?_⟩
    · show mv (fun i => m (f i)) (.iface dead (mv m v)) :: (fillO j r).map (mv fun i => m (f i)) = mv m v :: s.map (mv m)
      rw [e1]
      simp [mv, mv2, mv1]
    · intro x hx
      rcases List.mem_cons.1 (show x ∈ Value.iface dead (mv m v) :: fillO j r from hx) with rfl | hx
      · simp [lt, lt2, lt1, hk, dead]
      · exact e2 x hx
/-- a memory made small: blocks with addresses in them, too -/
theorem compactR {m : Mp} {B : Nat} {t t' : List Value} {h h' : Hp} {s : List Dec} {a : Act} {w : World} (R : Rel m B (t, h, s) a w) (f : Nat → Nat) (hl : h'.l.length = h'.n)
    (hb : ∀ i x, h'.blk? i = some x → (x.1.all (lt1 h'.n)) = true ∧ h.blk? (f i) = some (x.1.map (rn1 f), x.2))
    (hi : ∀ i j x y, h'.blk? i = some x → h'.blk? j = some y → f i = f j → i = j)
    (ht : t'.map (mv fun i => m (f i)) = t.map (mv m)) (hw : ∀ v ∈ t', lt h'.n v = true) : Rel (fun i => m (f i)) B (t', h', s) a w := by
  have E := R.emb
  have em : ∀ l : List Value, (l.map (rn1 f)).map (mv1 m) = l.map (mv1 fun i => m (f i)) := fun l => by
    rw [List.map_map]
    exact List.map_congr_left fun v _ => mv1_rn m f v
  refine ⟨by rw [R.tmps]; simp only; rw [ht], R.dfr, ⟨hl, ?_, ?_, ?_, ?_, ?_, E.base, E.ice, ?_⟩, hw⟩
  · intro b x hx ht
    have := E.lies (f b) _ (hb b x hx).2 ht
    rw [em] at this
    exact this
  · intro b x hx hr
    exact E.low (f b) _ (hb b x hx).2 hr
  · intro b x hx ht hr
    exact E.ros (f b) _ (hb b x hx).2 ht hr
  · intro b b' x x' hx hx' hr hr' he
    exact hi b b' x x' hx hx' (E.inj _ _ _ _ (hb b x hx).2 (hb b' x' hx').2 hr hr' he)
  · intro b x hx v hv
    exact List.all_eq_true.1 (hb b x hx).1 v hv
  · intro b x hx ha
    have := E.abs (f b) _ (hb b x hx).2 ha
    rw [em] at this
    exact this
theorem blk_pick {bs : List Nat} {cells : List (List Value × TypeId)} (hl : cells.length = bs.length) {i : Nat} {x : List Value × TypeId} (h : (⟨bs.length, cells.reverse⟩ : Hp).blk? i = some x) : i < bs.length ∧ (bs.getD i 0, x) ∈ bs.zip cells := by
  have hi : i < bs.length := Hp.blk_lt h
  refine ⟨hi, ?_⟩
  unfold Hp.blk? at h
  rw [if_pos (blt_iff.2 hi)] at h
  have h' : cells.reverse[bs.length - 1 - i]? = some x := h
  rw [List.getElem?_reverse (by omega), show cells.length - 1 - (bs.length - 1 - i) = i by omega] at h'
  refine List.mem_of_getElem? (i := i) ?_
  rw [List.getElem?_zip_eq_some]
  exact ⟨by rw [List.getD_eq_getElem?_getD, List.getElem?_eq_getElem hi]; rfl, h'⟩
/-- ahead of a piece of code: some blocks are kept, by their numbers -/
theorem RunsW.preP {T : Tab} {c : Code} {P : Ex → Lf → Prop} {front : List Value} (o : List (Option Value)) {n : Nat} {h : Hp} (bs : List Nat) (cells : List (List Value × TypeId)) {s s' : List Dec} {g : Nat → Value} (hr : ∀ j g, RunsW T c (fillO j o ++ tl n g, ⟨bs.length, cells.reverse⟩, s') P)
    (hl : cells.length = bs.length) (h0 : 0 < bs.length) (hf : matO (fun i => bs.getD i 0) o front) (hx : ∀ q ∈ bs.zip cells, (q.2.1.all (lt1 bs.length)) = true ∧ h.blk? q.1 = some (q.2.1.map (rn1 fun i => bs.getD i 0), q.2.2)) (hd : bs.Nodup) (hw : (o.all fun x => x.all (lt bs.length)) = true) :
    RunsW T c (front ++ tl n g, h, s) P := by
  intro m B a w R Q hQ
  obtain ⟨j, j1, j2⟩ := fill_mat (m := m) h0 o front hf fun v hv => List.all_eq_true.1 hw _ hv
  obtain ⟨g', hg⟩ := tl_of (J := (tl n g).map (fun v => Value.iface dead (mv m v))) (n := n) (by simp [tl_len])
  have R2 : Rel (fun i => m (bs.getD i 0)) B (fillO j o ++ tl n g', ⟨bs.length, cells.reverse⟩, s) a w := by
    refine compactR R (fun i => bs.getD i 0) (by simp [hl]) (fun i x hi => ?_) (fun i k x y hi hk hik => ?_) ?_ ?_
    · obtain ⟨_, q⟩ := blk_pick hl hi
      exact hx _ q
    · obtain ⟨q1, _⟩ := blk_pick hl hi
      obtain ⟨q2, _⟩ := blk_pick hl hk
      have e1 : bs.getD i 0 = bs[i] := by rw [List.getD_eq_getElem?_getD, List.getElem?_eq_getElem q1]; rfl
      have e2 : bs.getD k 0 = bs[k] := by rw [List.getD_eq_getElem?_getD, List.getElem?_eq_getElem q2]; rfl
      rw [e1, e2] at hik
      have hp := List.pairwise_iff_getElem.1 hd
      rcases Nat.lt_trichotomy i k with c | c | c
      · exact absurd hik (hp i k q1 q2 c)
      · exact c
      · exact absurd hik.symm (hp k i q2 q1 c)
    · rw [List.map_append, List.map_append, j1, ← hg, List.map_map]
      congr 1
    · intro v hv
      rcases List.mem_append.1 hv with hv | hv
      · exact j2 v hv
      · rw [← hg] at hv
        obtain ⟨u, _, rfl⟩ := List.mem_map.1 hv
        simp [lt, lt2, lt1, h0, dead]
  exact hr j g' _ B a w ⟨R2.tmps, R2.dfr, R2.emb, R2.wf⟩ Q hQ
theorem rn_undef (f : Nat → Nat) : rn f undef = undef := by kernel_rfl
end Go.KRun
