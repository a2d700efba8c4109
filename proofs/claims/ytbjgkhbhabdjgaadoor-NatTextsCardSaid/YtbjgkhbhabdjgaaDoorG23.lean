/-
  The row's side: an argument that is four words of 64 bits, opened and shut; what a call that only makes memory leaves.
-/
import Derived.Test.YtbjgkhbhabdjgaaDoorG03
import Derived.WalkKit
import Derived.ProofKit
import Derived.OpenShut
import Derived.Laws.IdiomArrays
import Derived.Lib.SmallJoins
import Derived.ChangeSlices
import Derived.Test.YtbjgkhbhabdjgaaDoorG21
import Derived.Test.YtbjgkhbhabdjgaaDoorG19
import Derived.Test.YtbjgkhbhabdjgaaDoorG20
import Derived.Test.YtbjgkhbhabdjgaaDoorG22
namespace Go.KRun
open Go.ChangeShapes Go.WideShapes Go.ChangeAt Go.RowKit Go.Joins

section
variable {H : Type} {enc : TypeId × Value → H} {P : Program} {w : World} {base : Nat} {spare : Nat → Bool} {held : Bool}

theorem open_w4 {r : Go.Reach} {b0 : Nat} {t e : TypeId} {v : Value} {d : DataW H} {p : List MemPlace} (hu : P.underlying t = some (.array 4 e)) (hue : P.underlying e = some (.int .u64)) (hC : P.cellsOf t = 4) (hce : P.cellsOf e = 1)
    (hv : Value.okWide P w r b0 t v) (h : DataW.Trod enc P w base spare held t v d p) :
    ∃ a0 a1 a2 a3 : Int, v = .agg #[.int .u64 a0, .int .u64 a1, .int .u64 a2, .int .u64 a3] ∧ d = .agg [.lit (.int .u64 a0), .lit (.int .u64 a1), .lit (.int .u64 a2), .lit (.int .u64 a3)] ∧ p = [] ∧
      (Lit.int .u64 a0).wf = true ∧ (Lit.int .u64 a1).wf = true ∧ (Lit.int .u64 a2).wf = true ∧ (Lit.int .u64 a3).wf = true := by
  have hv' := hv
  simp only [Value.okWide, hu] at hv'
  obtain ⟨cs, rfl, hsz, _⟩ := hv'
  obtain ⟨c0, c1, c2, c3, rfl⟩ := array4 (hsz.trans hC)
  obtain ⟨fuel, hf⟩ := h
  have hf' : DataW.trod enc P w base spare held fuel t [c0, c1, c2, c3] = some (d, p) := by simpa [Value.cells] using hf
  obtain ⟨y0, y1, y2, y3, n, hx, h0, h1, h2, h3⟩ := trod_array4 hu hce hf'
  obtain ⟨a0, e0, rfl, w0⟩ := DataW.trod_int hue h0
  obtain ⟨a1, e1, rfl, w1⟩ := DataW.trod_int hue h1
  obtain ⟨a2, e2, rfl, w2⟩ := DataW.trod_int hue h2
  obtain ⟨a3, e3, rfl, w3⟩ := DataW.trod_int hue h3
  simp only [List.cons.injEq, and_true] at e0 e1 e2 e3
  subst e0 e1 e2 e3
  simp only [Prod.mk.injEq] at hx
  exact ⟨a0, a1, a2, a3, rfl, hx.1, by simpa using hx.2, w0, w1, w2, w3⟩

theorem shut_w4 {t e : TypeId} (hu : P.underlying t = some (.array 4 e)) (hue : P.underlying e = some (.int .u64)) (hC : P.cellsOf t = 4) (hce : P.cellsOf e = 1) {a0 a1 a2 a3 : Int}
    (w0 : (Lit.int .u64 a0).wf = true) (w1 : (Lit.int .u64 a1).wf = true) (w2 : (Lit.int .u64 a2).wf = true) (w3 : (Lit.int .u64 a3).wf = true) :
    DataW.Trod enc P w base spare held t (.agg #[.int .u64 a0, .int .u64 a1, .int .u64 a2, .int .u64 a3]) (.agg [.lit (.int .u64 a0), .lit (.int .u64 a1), .lit (.int .u64 a2), .lit (.int .u64 a3)]) [] := by
  refine ⟨2, ?_⟩
  have r4 : List.range 4 = [0, 1, 2, 3] := rfl
  have one : ∀ a : Int, (Lit.int .u64 a).wf = true → DataW.trod enc P w base spare held 1 e [.int .u64 a] = some (.lit (.int .u64 a), []) := fun a ha => by
    simp [DataW.trod, hue, ha]
  simp only [Value.cells]
  unfold DataW.trod
  simp [hu, hC, hce, r4, one a0 w0, one a1 w1, one a2 w2, one a3 w3]
end

theorem tidy_frozen {w w' : World} (h : Tidy w w') (a : Addr) : w'.frozen? a = w.frozen? a := by
  unfold World.frozen?
  by_cases h1 : a.block < w.heap.size
  · rw [h.1.block _ h1]
  · rw [Array.getElem?_eq_none (by omega : w.heap.size ≤ a.block)]
    by_cases h2 : a.block < w'.heap.size
    · have h3 := h.2 a.block (by omega) h2
      unfold iced at h3
      split
      · rename_i c e lo hi hc
        have := h3 _ _ _ hc
        cases this
        simp
      · rfl
    · rw [Array.getElem?_eq_none (by omega : w'.heap.size ≤ a.block)]
theorem u64_bounds {n : Int} (h : (Lit.int .u64 n).wf = true) : 0 ≤ n ∧ n < 18446744073709551616 := by
  simp [Lit.wf, IntKind.min, IntKind.max, IntKind.signed, IntKind.bits] at h
  omega
theorem i64_bounds {n : Int} (h : (Lit.int .i64 n).wf = true) : -9223372036854775808 ≤ n ∧ n ≤ 9223372036854775807 := by
  simp [Lit.wf, IntKind.min, IntKind.max, IntKind.signed, IntKind.bits] at h
  omega
end Go.KRun

/-
  The row's side: an argument that is a row of words of 32 bits, opened and shut.
-/
namespace Go.KRun
open Go.ChangeShapes Go.WideShapes Go.ChangeAt Go.RowKit Go.Joins

theorem rowAt_le {p : Program} {fits : TypeId → Bool} : ∀ (d : Nat) (e : TypeId) (count off n : Nat), rowAt p fits d e count off n = true → off ≤ count * p.cellsOf e
  | 0, _, _, _, _, h => by simp [rowAt] at h
  | d + 1, e, count, off, n, h => by
    unfold rowAt at h
    simp only at h
    split at h
    · cases h
    · rename_i hs
      have hdm := Nat.div_add_mod off (p.cellsOf e)
      have hml := Nat.mod_lt off (show 0 < p.cellsOf e by omega)
      simp only [Bool.or_eq_true, Bool.and_eq_true, decide_eq_true_eq, beq_iff_eq] at h
      rcases h with h | h
      · obtain ⟨⟨h1, h2⟩, _⟩ := h
        have h3 : off / p.cellsOf e ≤ count := by omega
        have := Nat.mul_le_mul_left (p.cellsOf e) h3
        rw [Nat.mul_comm count]
        omega
      · have h3 : off / p.cellsOf e + 1 ≤ count := h.1
        have := Nat.mul_le_mul_left (p.cellsOf e) h3
        rw [Nat.mul_succ] at this
        rw [Nat.mul_comm count]
        omega
theorem liesAt_le {p : Program} : ∀ (d : Nat) (e : TypeId) (count off : Nat) (u : TypeId) (n : Nat), liesAt p d e count off u n = true → off ≤ count * p.cellsOf e
  | 0, _, _, _, _, _, h => by simp [liesAt] at h
  | d + 1, e, count, off, u, n, h => by
    unfold liesAt at h
    simp only [Bool.or_eq_true] at h
    rcases h with h | h
    · exact rowAt_le _ _ _ _ _ h
    · split at h
      · exact liesAt_le d _ _ _ _ _ h
      · cases h
section
variable {H : Type} {enc : TypeId × Value → H} {P : Program} {w : World}
/-- a row that lies in the memory: from 'off' on 'cap' words -/
structure Lain (w : World) (b off : Nat) (cs : Array Value) (zs : List Int) : Prop where
  heap : ∃ ty z, w.heap[b]? = some (.cells cs ty z)
  room : off + zs.length ≤ cs.size
  cell : ∀ i, i < zs.length → cs[off + i]? = some (.int .u32 (zs.getD i 0))
  wf : ∀ n ∈ zs, (Lit.int .u32 n).wf = true
theorem open_row {base : Nat} {r : Go.Reach} {t e : TypeId} {v : Value} {d : DataW H} {p : List MemPlace} (ht : P.underlying t = some (.slice e)) (he : P.underlying e = some (.int .u32)) (hc : P.cellsOf e = 1)
    (hval : Value.okWide P w r base t v) (h : DataW.Trod enc P w 0 (fun _ => true) true t v d p) :
    (v = .slice none 0 0 ∧ d = .nil ∧ p = []) ∨ ∃ b off len cs zs, v = .slice (some ⟨b, off, none⟩) len zs.length ∧ len ≤ zs.length ∧ Lain w b off cs zs ∧ d = .slice (lits .u32 (zs.take len)) (lits .u32 (zs.drop len)) ∧ p = MemPlace.row ⟨b, off, none⟩ zs.length ∧ zs.length ≤ maxLen := by
  obtain ⟨a0, len0, cap0, rfl⟩ := okWide_slice ht hval
  obtain ⟨fuel, hf⟩ := h
  have hf' : DataW.trod enc P w 0 (fun _ => true) true fuel t [.slice a0 len0 cap0] = some (d, p) := by simpa [Value.cells] using hf
  rcases open_ints ht he hc hf' with ⟨h1, h2⟩ | ⟨a, len, cap, zs, h1, _, hl, hm, hz, hx, hcell, hw⟩
  · simp only [List.cons.injEq, and_true, Value.slice.injEq] at h1
    obtain ⟨rfl, rfl, rfl⟩ := h1
    simp only [Prod.mk.injEq] at h2
    exact .inl ⟨rfl, h2.1, h2.2⟩
  · simp only [List.cons.injEq, and_true, Value.slice.injEq] at h1
    obtain ⟨rfl, rfl, rfl⟩ := h1
    simp only [if_true] at hz
    simp only [Prod.mk.injEq] at hx
    have hv : w.has P r base a e cap0 := by
      simp only [Value.okWide, ht, Cell.okWide, Cell.ok] at hval
      exact hval.2.2
    obtain ⟨_, hsp, row, cells, hsh, hli⟩ := hv
    obtain ⟨b, off, spot⟩ := a
    simp only at hsp hsh hli
    subst hsp
    obtain ⟨cs, z, hh, hcs⟩ : ∃ cs z, w.heap[b]? = some (.cells cs row z) ∧ cs.size = cells := by
      unfold World.shape? at hsh
      split at hsh
      · rename_i c el z hh
        simp only [Option.some.injEq, Prod.mk.injEq] at hsh
        exact ⟨c, z, by rw [hh, hsh.1], hsh.2⟩
      · cases hsh
    have cell : ∀ i, i < zs.length → cs[off + i]? = some (.int .u32 (zs.getD i 0)) := fun i hi => by
      have := hcell i hi
      rw [add_plain] at this
      unfold World.cell? at this
      rw [hh] at this
      simpa using this
    have hoff : off ≤ cs.size := by
      have := liesAt_le _ _ _ _ _ _ hli
      have h2 := Nat.div_mul_le_self cells (P.cellsOf row)
      omega
    have room : off + zs.length ≤ cs.size := by
      rcases Nat.eq_zero_or_pos zs.length with h0 | h0
      · omega
      · have := cell (zs.length - 1) (by omega)
        have := (Array.getElem?_eq_some_iff.1 this).1
        omega
    refine .inr ⟨b, off, len0, cs, zs, by rw [hz], by omega, ⟨⟨_, _, hh⟩, room, cell, hw⟩, hx.1, hx.2, by omega⟩
theorem shut_row {w' : World} {t e : TypeId} {b off len : Nat} {cs : Array Value} {zs : List Int} (ht : P.underlying t = some (.slice e)) (he : P.underlying e = some (.int .u32)) (hc : P.cellsOf e = 1) (hL : Lain w b off cs zs) (hle : len ≤ zs.length) (hm : zs.length ≤ maxLen) (hb : w'.heap[b]? = w.heap[b]?) :
    DataW.Trod enc P w' 0 (fun _ => true) true t (.slice (some ⟨b, off, none⟩) len zs.length) (.slice (lits .u32 (zs.take len)) (lits .u32 (zs.drop len))) (MemPlace.row ⟨b, off, none⟩ zs.length) := by
  refine ⟨2, ?_⟩
  have := shut_ints' (enc := enc) (P := P) (w := w') (base := 0) (spare := fun _ => true) (held := true) (b := b) (off := off) (len := len) (cap := zs.length) (zs := zs) 0 ht he hc (Nat.zero_le _) hle hm (by simp) (fun i hi => by
    obtain ⟨ty, z, hh⟩ := hL.heap
    unfold World.cell?
    rw [hb, hh]
    simpa using hL.cell i hi) hL.wf
  simpa [Value.cells] using this
end
/-- a row's cells in a small memory: what is ahead of it is the world's own -/
def rowL (cs : Array Value) (off : Nat) (zs : List Int) : List Value := (cs.toList.take off).map (Value.iface dead) ++ zs.map (Value.int .u32)
theorem rowL_still (cs : Array Value) (off : Nat) (zs : List Int) : ∀ v ∈ rowL cs off zs, still v = true := fun v hv => by
  unfold rowL at hv
  rcases List.mem_append.1 hv with h | h
  · obtain ⟨x, _, rfl⟩ := List.mem_map.1 h; rfl
  · obtain ⟨x, _, rfl⟩ := List.mem_map.1 h; rfl
theorem rowL_lie {w : World} {b off : Nat} {cs : Array Value} {zs : List Int} (h : Lain w b off cs zs) {e : TypeId} (he : ro e = true) (m : Mp) : lie w (b, cs.size) ((rowL cs off zs).map (mv1 m)) e := by
  obtain ⟨ty, z, hh⟩ := h.heap
  have hroom := h.room
  have e1 : (rowL cs off zs).map (mv1 m) = cs.toList.take (off + zs.length) := by
    apply List.ext_getElem?
    intro i
    unfold rowL
    rw [List.map_append, List.map_map, List.map_map, List.getElem?_take]
    have hlen : ((cs.toList.take off).map (mv1 m ∘ Value.iface dead)).length = off := by simp; omega
    by_cases hi : i < off
    · rw [List.getElem?_append_left (by omega), if_pos (by omega), List.getElem?_map, List.getElem?_take, if_pos hi]
      cases hx : cs.toList[i]? with
      | none => rfl
      | some x => simp [mv1]
    · rw [List.getElem?_append_right (by omega), hlen]
      by_cases hj : i < off + zs.length
      · rw [if_pos hj, List.getElem?_map]
        have hc := h.cell (i - off) (by omega)
        rw [show off + (i - off) = i by omega] at hc
        have hz : zs[i - off]? = some (zs.getD (i - off) 0) := by
          rw [List.getElem?_eq_getElem (by omega)]
          simp [List.getD, List.getElem?_eq_getElem (show i - off < zs.length by omega)]
        rw [hz]
        simp only [Option.map_some, Function.comp, mv1]
        rw [← hc]
        simp
      · rw [if_neg hj, List.getElem?_eq_none (by simp; omega)]
  refine ⟨cs.toList.drop (off + zs.length), (ty, z), ?_, ?_, fun h0 => by rw [he] at h0; cases h0⟩
  · rw [e1]; simp; omega
  · rw [e1, List.take_append_drop]; exact hh
end Go.KRun

/-
  A law of layer 2 whose arguments are rows: where it begins; what is known of calls.
-/
namespace Go.Proofs.YtbjgkhbhabdjgaaDoor
open Go.KRun Go.Nt
set_option maxRecDepth 100000
set_option linter.unusedVariables false

def gSureL : Ans := fun vals s => match vals with | [] => some (.bool true, s, []) | _ => none
theorem gSureL_ok : AnsOk 9 gSureL := by
  intro vals s v s' lg h hl w
  unfold gSureL at h
  split at h
  · cases h
    exact sure_calls w
  · cases h
def conLw : Con := alt 9 gSureL conN
theorem conLw_ok : ConOk conLw := alt_ok Tryd.func9 rfl gSureL_ok conN_ok
def hcLn : Hc := altH 15 gNum (altH 14 gIsU (altH 18 gWordsU (altH 13 gChkU (altH 36 gBothU (altH 39 gCmpU (altH 16 gFromU (altH 19 gWd hcN)))))))
theorem hcLn_ok : HcOk hcLn := altH_ok Tryd.func15 rfl gNum_ok (altH_ok Tryd.func14 rfl gIsU_ok (altH_ok Tryd.func18 rfl gWordsU_ok (altH_ok Tryd.func13 rfl gChkU_ok (altH_ok Tryd.func36 rfl gBothU_ok (altH_ok Tryd.func39 rfl gCmpU_ok (altH_ok Tryd.func16 rfl gFromU_ok (altH_ok Tryd.func19 rfl gWd_ok hcN_ok)))))))
def hcL2 : Hc := altH 10 gAddU (altH 11 gSubU (altH 20 gUadd (altH 21 gUsub (altH 17 gUcmp hcLn))))
theorem hcL2_ok : HcOk hcL2 := altH_ok Tryd.func10 rfl gAddU_ok (altH_ok Tryd.func11 rfl gSubU_ok (altH_ok Tryd.func20 rfl gUadd_ok (altH_ok Tryd.func21 rfl gUsub_ok (altH_ok Tryd.func17 rfl gUcmp_ok hcLn_ok))))
/-! ### where it begins -/
def hS (xa xb : List Value × TypeId) : Hp := ⟨3, [xb, xa, (kV, kT)]⟩
def m3 (ka kb : Nat × Nat) : Mp := fun b => if b = 0 then (0, 0) else if b = 1 then ka else kb
/-- an argument, and how it is told in the small memory: block i -/
def Arg (w : World) (i : Nat) (v : Value) (x : List Value × TypeId) (k : Nat × Nat) (p : Option Addr) (n c : Nat) (L : List Int) : Prop :=
  (v = .slice none 0 0 ∧ x = ([], 2 * dead) ∧ p = none ∧ n = 0 ∧ c = 0 ∧ L = []) ∨
  ∃ b off cs zs, v = .slice (some ⟨b, off, none⟩) n c ∧ Lain w b off cs zs ∧ c = zs.length ∧ n ≤ zs.length ∧ zs.length < 4611686018427387904 ∧ x = (rowL cs off zs, tR) ∧ k = (b, cs.size) ∧ p = some ⟨i, off, none⟩ ∧ L = zs.take n
theorem Arg.emb {w : World} {i : Nat} {v : Value} {x : List Value × TypeId} {k : Nat × Nat} {p : Option Addr} {n c : Nat} {L : List Int} (h : Arg w i v x k p n c L) :
    ro x.2 = true ∧ ab x.2 = false ∧ (∀ u ∈ x.1, still u = true) ∧ (tomb x.2 = false → (∀ m : Mp, lie w k (x.1.map (mv1 m)) x.2) ∧ k.1 < w.heap.size) := by
  rcases h with ⟨_, rfl, _⟩ | ⟨b, off, cs, zs, _, hL, _, _, _, rfl, rfl, _⟩
  · exact ⟨by kernel_rfl, by kernel_rfl, (fun u hu => by cases hu), fun ht => by rw [show tomb (2 * dead) = true from by kernel_rfl] at ht; cases ht⟩
  · refine ⟨tR_ro, tR_ab, rowL_still cs off zs, fun _ => ⟨fun m => rowL_lie hL tR_ro m, ?_⟩⟩
    obtain ⟨ty, z, hh⟩ := hL.heap
    exact (Array.getElem?_eq_some_iff.1 hh).1
theorem blkS {xa xb : List Value × TypeId} {b : Nat} {x : List Value × TypeId} (h : (hS xa xb).blk? b = some x) : (b = 0 ∧ x = (kV, kT)) ∨ (b = 1 ∧ x = xa) ∨ (b = 2 ∧ x = xb) := by
  have hb : b < 3 := Hp.blk_lt h
  have h3 : b = 0 ∨ b = 1 ∨ b = 2 := by omega
  rcases h3 with rfl | rfl | rfl
  · exact .inl ⟨rfl, (Option.some.inj h).symm⟩
  · exact .inr (.inl ⟨rfl, (Option.some.inj h).symm⟩)
  · exact .inr (.inr ⟨rfl, (Option.some.inj h).symm⟩)
theorem startS {w : World} (hk : known w) {va vb : Value} {xa xb : List Value × TypeId} {ka kb : Nat × Nat} {pa pb : Option Addr} {na ca nb cb : Nat} {LA LB : List Int} (Ha : Arg w 1 va xa ka pa na ca LA) (Hb : Arg w 2 vb xb kb pb nb cb LB) : Emb (m3 ka kb) w.heap.size (hS xa xb) w := by
  obtain ⟨a1, a2, a3, a4⟩ := Ha.emb
  obtain ⟨b1, b2, b3, b4⟩ := Hb.emb
  have K := startK hk
  have k0 : hK.blk? 0 = some (kV, kT) := rfl
  have kro : ro kT = true := by kernel_rfl
  have kto : tomb kT = true := by kernel_rfl
  refine ⟨rfl, fun b x hb ht => ?_, fun b x hb hr => ?_, fun b x hb ht hr => ?_, fun b b' x x' hb _ hr => ?_, fun b x hb v hv => ?_, Nat.le_refl _, fun k h1 h2 => by omega, fun b x hb hx => ?_⟩
  · rcases blkS hb with ⟨rfl, rfl⟩ | ⟨rfl, rfl⟩ | ⟨rfl, rfl⟩
    · rw [kto] at ht; cases ht
    · exact (a4 ht).1 _
    · exact (b4 ht).1 _
  · rcases blkS hb with ⟨rfl, rfl⟩ | ⟨rfl, rfl⟩ | ⟨rfl, rfl⟩
    · rw [kro] at hr; cases hr
    · rw [a1] at hr; cases hr
    · rw [b1] at hr; cases hr
  · rcases blkS hb with ⟨rfl, rfl⟩ | ⟨rfl, rfl⟩ | ⟨rfl, rfl⟩
    · rw [kto] at ht; cases ht
    · exact (a4 ht).2
    · exact (b4 ht).2
  · rcases blkS hb with ⟨rfl, rfl⟩ | ⟨rfl, rfl⟩ | ⟨rfl, rfl⟩
    · rw [kro] at hr; cases hr
    · rw [a1] at hr; cases hr
    · rw [b1] at hr; cases hr
  · rcases blkS hb with ⟨rfl, rfl⟩ | ⟨rfl, rfl⟩ | ⟨rfl, rfl⟩
    · rw [List.mem_singleton.1 hv]; rfl
    · exact still_lt (by show 0 < 3; omega) (a3 v hv)
    · exact still_lt (by show 0 < 3; omega) (b3 v hv)
  · rcases blkS hb with ⟨rfl, rfl⟩ | ⟨rfl, rfl⟩ | ⟨rfl, rfl⟩
    · have := K.abs 0 _ k0 hx
      have e : kV.map (mv1 (m3 ka kb)) = kV.map (mv1 fun b => (b, 0)) := rfl
      rw [e]
      exact this
    · rw [a2] at hx; cases hx
    · rw [b2] at hx; cases hx
theorem Arg.val {w : World} {i : Nat} {v : Value} {x : List Value × TypeId} {k : Nat × Nat} {p : Option Addr} {n c : Nat} {L : List Int} (h : Arg w i v x k p n c L) {m : Mp} (hm : m i = k) : mv m (.slice p n c) = v := by
  rcases h with ⟨rfl, _, rfl, rfl, rfl, _⟩ | ⟨b, off, cs, zs, rfl, _, rfl, _, h4, _, rfl, rfl, _⟩
  · rfl
  · have hs : smallC zs.length = true := blt_iff.2 h4
    simp only [mv, mv2, mv1, mvA, hm, cap_small hs]
theorem Arg.lt {w : World} {i : Nat} {v : Value} {x : List Value × TypeId} {k : Nat × Nat} {p : Option Addr} {n c : Nat} {L : List Int} (h : Arg w i v x k p n c L) (hi : i < 3) : KRun.lt 3 (.slice p n c) = true := by
  rcases h with ⟨_, _, rfl, _⟩ | ⟨b, off, cs, zs, _, _, _, _, _, _, _, rfl, _⟩
  · rfl
  · exact blt_iff.2 hi
/-- the row in the small memory -/
theorem Arg.row {w : World} {i : Nat} {v : Value} {x : List Value × TypeId} {k : Nat × Nat} {p : Option Addr} {n c : Nat} {L : List Int} (h : Arg w i v x k p n c L) {H : Hp} (hb : H.blk? i = some x) : rowX H p n c = true ∧ rowOf H p n = L ∧ L.length = n ∧ wds L := by
  rcases h with ⟨_, _, rfl, rfl, rfl, rfl⟩ | ⟨b, off, cs, zs, _, hL, rfl, h3, h4, rfl, _, rfl, rfl⟩
  · exact ⟨rfl, rfl, rfl, fun x hx => by cases hx⟩
  · have hroom := hL.room
    have hlen : ((cs.toList.take off).map (Value.iface dead)).length = off := by simp; omega
    have hcut : cutV (rowL cs off zs) off n = (zs.take n).map (Value.int .u32) := by
      unfold cutV rowL
      have e : ((cs.toList.take off).map (Value.iface dead) ++ zs.map (Value.int .u32)).drop off = zs.map (Value.int .u32) := List.drop_left' hlen
      rw [e, List.map_take]
    have hw : ∀ z ∈ zs, 0 ≤ z ∧ z < 4294967296 := fun z hz => by
      have := hL.wf z hz
      simp [Lit.wf, IntKind.min, IntKind.max, IntKind.signed, IntKind.bits] at this
      omega
    have hcI : cutI (rowL cs off zs) off n = zs.take n := by
      unfold cutI
      rw [hcut, List.map_map]
      exact (List.map_congr_left fun z _ => rfl).trans (List.map_id' _)
    refine ⟨?_, ?_, by simp; omega, fun z hz => hw z (List.mem_of_mem_take hz)⟩
    · unfold rowX
      simp only [hb]
      unfold rowOk
      have e6 : ((cutV (rowL cs off zs) off n).all isU) = true := by
        rw [hcut, List.all_eq_true]
        intro u hu
        obtain ⟨z, hz, rfl⟩ := List.mem_map.1 hu
        exact decide_eq_true (hw z (List.mem_of_mem_take hz))
      have e3 : Nat.ble (off + n) (rowL cs off zs).length = true := Nat.ble_eq_true_of_le (by unfold rowL; rw [List.length_append, hlen, List.length_map]; omega)
      rw [tR_tomb, show Nat.beq (rt tR) tU = true from by kernel_rfl, e3, Nat.ble_eq_true_of_le h3, show smallC zs.length = true from blt_iff.2 h4, e6, List.all_eq_true.2 (rowL_still cs off zs)]
      rfl
    · unfold rowOf
      simp only [hb]
      exact hcI
/-- a call that begins with two rows -/
theorem rows_calls {T : Tab} (hT : TabOk T) {w : World} (hk : known w) {va vb : Value} {xa xb : List Value × TypeId} {ka kb : Nat × Nat} {pa pb : Option Addr} {na ca nb cb : Nat} {LA LB : List Int} (Ha : Arg w 1 va xa ka pa na ca LA) (Hb : Arg w 2 vb xb kb pb nb cb LB) {n f : Nat} {s : List Dec} {v : Value} {cs : Log}
    (hF : Fits (reckonAt T (hS xa xb) n f [.slice pa na ca, .slice pb nb cb] s) v cs) (hcs : okLog cs) (hv : KRun.lt 0 v = true) : Calls T.P f #[va, vb] w fun e w' => e = .returned v ∧ Tidy w w' := by
  have := fitsAt_calls hT hF hcs (List.all_eq_true.2 fun u hu => by
    simp only [List.mem_cons, List.not_mem_nil, or_false] at hu
    rcases hu with rfl | rfl
    · exact Ha.lt (by omega)
    · exact Hb.lt (by omega)) hv (startS hk Ha Hb)
  rw [List.map_cons, List.map_cons, List.map_nil, Ha.val (by simp [m3]), Hb.val (by simp [m3])] at this
  exact this
end Go.Proofs.YtbjgkhbhabdjgaaDoor
