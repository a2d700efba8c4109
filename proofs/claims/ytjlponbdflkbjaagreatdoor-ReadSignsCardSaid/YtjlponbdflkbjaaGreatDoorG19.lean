/-
  RdX, RpA, RpB, RpC, Con1
-/
import Derived.Test.YtjlponbdflkbjaaGreatDoorG06
import Derived.Test.YtjlponbdflkbjaaGreatDoorG07
import Derived.Test.YtjlponbdflkbjaaGreatDoorG16
import Derived.Test.YtjlponbdflkbjaaGreatDoorG17
import Derived.Scope
namespace Go.Proofs.YtjlponbdflkbjaaGreatDoor
open Go.KRun Go.Rd
set_option maxRecDepth 100000
theorem okN9R : okLog [] := fun _ h => by cases h
def bR (l : List UInt8) : Value := .string ⟨⟨l⟩⟩
def byR (l : List UInt8) (i : Int) : Int := (((l.getD i.toNat 0).toNat : Nat) : Int)
def sK (F : Func) : Nat → Code
  | 0 => cBody F
  | n + 1 => cSnd (sK F n)
def sP (F : Func) (k : Nat) : Code := cFst (sK F k)
def pO (k : Nat) : Value := .pointer (some ⟨k, 0, none⟩)
theorem bs_eqR (l l' : List UInt8) : ((⟨⟨l⟩⟩ : ByteArray) == ⟨⟨l'⟩⟩) = decide (l = l') := by
  rw [beq_toListBytes, ByteArray.toList_eq, ByteArray.toList_eq]
  show (l == l') = decide (l = l')
  by_cases h : l = l'
  · rw [decide_eq_true h]; simpa using h
  · rw [decide_eq_false h]; simpa using h
theorem beqR_t {x y : Int} (h : x = y) : (x == y) = true := by simpa using h
theorem beqR_f {x y : Int} (h : x ≠ y) : (x == y) = false := by simpa using h
theorem bneR_f {x y : Int} (h : x = y) : (x != y) = false := by simpa using h
/-! ### a letter as a digit -/
theorem dv1 (c : Int) : Fits (reckon (tabOf Tryz.prog extY conN true) 100 69 [.int .u8 c] [cmp true, cmp true]) (.int .i64 (IntKind.i64.wrap (IntKind.u8.wrap (c - 48)))) [(decide (c ≤ 57), true), (decide (c ≥ 48), true)] := ⟨by kernel_rfl, by kernel_rfl, by kernel_rfl, by kernel_rfl⟩
theorem dv2 (c : Int) : Fits (reckon (tabOf Tryz.prog extY conN true) 100 69 [.int .u8 c] [cmp true, cmp false, cmp true, cmp true]) (.int .i64 (IntKind.i64.wrap (IntKind.i64.wrap (IntKind.u8.wrap (c - 97)) + 10))) [(decide (c ≤ 102), true), (decide (c ≥ 97), true), (decide (c ≤ 57), false), (decide (c ≥ 48), true)] := ⟨by kernel_rfl, by kernel_rfl, by kernel_rfl, by kernel_rfl⟩
theorem dv3 (c : Int) : Fits (reckon (tabOf Tryz.prog extY conN true) 100 69 [.int .u8 c] [cmp true, cmp false, cmp true, cmp false]) (.int .i64 16) [(decide (c ≤ 102), false), (decide (c ≥ 97), true), (decide (c ≤ 57), false), (decide (c ≥ 48), true)] := ⟨by kernel_rfl, by kernel_rfl, by kernel_rfl, by kernel_rfl⟩
theorem dv4 (c : Int) : Fits (reckon (tabOf Tryz.prog extY conN true) 100 69 [.int .u8 c] [cmp true, cmp false, cmp false]) (.int .i64 16) [(decide (c ≥ 97), false), (decide (c ≤ 57), false), (decide (c ≥ 48), true)] := ⟨by kernel_rfl, by kernel_rfl, by kernel_rfl, by kernel_rfl⟩
theorem dv5 (c : Int) : Fits (reckon (tabOf Tryz.prog extY conN true) 100 69 [.int .u8 c] [cmp false, cmp false]) (.int .i64 16) [(decide (c ≥ 97), false), (decide (c ≥ 48), false)] := ⟨by kernel_rfl, by kernel_rfl, by kernel_rfl, by kernel_rfl⟩
def gDvP : Ans := fun vals s =>
  match vals with
  | [.int .u8 c] => some (.int .i64 (dvB c), s, [(decide (0 ≤ c ∧ c < 256), true)])
  | _ => none
theorem wrap8R {x : Int} (h0 : 0 ≤ x) (h1 : x < 256) : IntKind.u8.wrap x = x := by
  simp [IntKind.wrap, IntKind.bits, IntKind.signed]
  omega
theorem wrap64R {x : Int} (h0 : -9223372036854775808 ≤ x) (h1 : x < 9223372036854775808) : IntKind.i64.wrap x = x := by
  simp [IntKind.wrap, IntKind.bits, IntKind.signed]
  omega
theorem gDvP_ok : AnsOk 69 gDvP := by
  intro vals s v s' lg h hl w
  unfold gDvP at h
  split at h
  · rename_i c
    cases h
    have q := of_decide_eq_true (hl _ (List.mem_singleton.2 rfl))
    have hT := tabY_ok conN_ok
    by_cases h1 : c ≥ 48
    · by_cases h2 : c ≤ 57
      · have e : dvB c = IntKind.i64.wrap (IntKind.u8.wrap (c - 48)) := by
          rw [wrap8R (by omega) (by omega), wrap64R (by omega) (by omega)]
          unfold dvB; rw [if_pos ⟨h1, h2⟩]
        rw [e]
        exact fits_calls hT (dv1 c) (okCons (decide_eq_true h2) (okL1 (decide_eq_true h1))) (by rfl) (by rfl) w
      · by_cases h3 : c ≥ 97
        · by_cases h4 : c ≤ 102
          · have e : dvB c = IntKind.i64.wrap (IntKind.i64.wrap (IntKind.u8.wrap (c - 97)) + 10) := by
              rw [wrap8R (by omega) (by omega), wrap64R (x := c - 97) (by omega) (by omega), wrap64R (by omega) (by omega)]
              unfold dvB; rw [if_neg (by omega), if_pos ⟨h3, h4⟩]; omega
            rw [e]
            exact fits_calls hT (dv2 c) (okCons (decide_eq_true h4) (okCons (decide_eq_true h3) (okCons (decide_eq_false h2) (okL1 (decide_eq_true h1))))) (by rfl) (by rfl) w
          · have e : dvB c = 16 := by unfold dvB; rw [if_neg (by omega), if_neg (by omega)]
            rw [e]
            exact fits_calls hT (dv3 c) (okCons (decide_eq_false h4) (okCons (decide_eq_true h3) (okCons (decide_eq_false h2) (okL1 (decide_eq_true h1))))) (by rfl) (by rfl) w
        · have e : dvB c = 16 := by unfold dvB; rw [if_neg (by omega), if_neg (by omega)]
          rw [e]
          exact fits_calls hT (dv4 c) (okCons (decide_eq_false h3) (okCons (decide_eq_false h2) (okL1 (decide_eq_true h1)))) (by rfl) (by rfl) w
    · have e : dvB c = 16 := by unfold dvB; rw [if_neg (by omega), if_neg (by omega)]
      rw [e]
      exact fits_calls hT (dv5 c) (okCons (decide_eq_false (by omega)) (okL1 (decide_eq_false h1))) (by rfl) (by rfl) w
  · cases h
/-! ### what a text begins with -/
def lPd (p l : List UInt8) : Bool × Bool := (decide ((0 : Int) ≤ (p.length : Nat) ∧ ((p.length : Nat) : Int) ≤ (l.length : Nat)), true)
def lGe (p l : List UInt8) (d : Bool) : Bool × Bool := (decide (((l.length : Nat) : Int) ≥ ((p.length : Nat) : Int)), d)
def lEqB (u w : List UInt8) (d : Bool) : Bool × Bool := ((⟨⟨u⟩⟩ : ByteArray) == ⟨⟨w⟩⟩, d)
theorem ok_lEqB {u w : List UInt8} {d : Bool} (h : decide (u = w) = d) : (lEqB u w d).1 = (lEqB u w d).2 := by
  show ((⟨⟨u⟩⟩ : ByteArray) == ⟨⟨w⟩⟩) = d
  rw [bs_eqR]
  exact h
theorem cp1 (l p : List UInt8) : Fits (reckon (tabOf Tryz.prog extY conN true) 100 28 [bR l, bR p] [cmp true, sam true, sam true, sam true]) (.tuple #[bR (l.drop p.length), .bool true]) [lPd p l, lEqB (l.take p.length) p true, lPd p l, lGe p l true] := ⟨by kernel_rfl, by kernel_rfl, by kernel_rfl, by kernel_rfl⟩
theorem cp2 (l p : List UInt8) : Fits (reckon (tabOf Tryz.prog extY conN true) 100 28 [bR l, bR p] [cmp true, sam true, sam false]) (.tuple #[bR l, .bool false]) [lEqB (l.take p.length) p false, lPd p l, lGe p l true] := ⟨by kernel_rfl, by kernel_rfl, by kernel_rfl, by kernel_rfl⟩
theorem cp3 (l p : List UInt8) : Fits (reckon (tabOf Tryz.prog extY conN true) 100 28 [bR l, bR p] [cmp false]) (.tuple #[bR l, .bool false]) [lGe p l false] := ⟨by kernel_rfl, by kernel_rfl, by kernel_rfl, by kernel_rfl⟩
theorem tp1 (l p : List UInt8) : Fits (reckon (tabOf Tryz.prog extY conN true) 100 29 [bR l, bR p] [cmp true, sam true, sam true, sam true]) (bR (l.drop p.length)) [lPd p l, lEqB (l.take p.length) p true, lPd p l, lGe p l true] := ⟨by kernel_rfl, by kernel_rfl, by kernel_rfl, by kernel_rfl⟩
theorem tp2 (l p : List UInt8) : Fits (reckon (tabOf Tryz.prog extY conN true) 100 29 [bR l, bR p] [cmp true, sam true, sam false]) (bR l) [lEqB (l.take p.length) p false, lPd p l, lGe p l true] := ⟨by kernel_rfl, by kernel_rfl, by kernel_rfl, by kernel_rfl⟩
theorem tp3 (l p : List UInt8) : Fits (reckon (tabOf Tryz.prog extY conN true) 100 29 [bR l, bR p] [cmp false]) (bR l) [lGe p l false] := ⟨by kernel_rfl, by kernel_rfl, by kernel_rfl, by kernel_rfl⟩
theorem has_log1 {p l : List UInt8} (h : hasP p l = true) : okLog [lPd p l, lEqB (l.take p.length) p true, lPd p l, lGe p l true] := by
  have q := of_decide_eq_true h
  have h1 : (lPd p l).1 = true := decide_eq_true ⟨by omega, by omega⟩
  exact okCons h1 (okCons (ok_lEqB (decide_eq_true q.2)) (okCons h1 (okL1 (decide_eq_true (by omega)))))
theorem has_log2 {p l : List UInt8} (h1 : p.length ≤ l.length) (h2 : ¬ l.take p.length = p) : okLog [lEqB (l.take p.length) p false, lPd p l, lGe p l true] :=
  okCons (ok_lEqB (decide_eq_false h2)) (okCons (decide_eq_true ⟨by omega, by omega⟩) (okL1 (decide_eq_true (by omega))))
theorem has_not {p l : List UInt8} (h : hasP p l = false) : ¬ p.length ≤ l.length ∨ (p.length ≤ l.length ∧ ¬ l.take p.length = p) := by
  have q := of_decide_eq_false h
  rcases Classical.em (p.length ≤ l.length) with h1 | h1
  · exact .inr ⟨h1, fun h2 => q ⟨h1, h2⟩⟩
  · exact .inl h1
/-- told ahead whether it begins so -/
def gCutP : Ans := fun vals s =>
  match vals, s with
  | [.string a, .string b], .inr (.inr (.inr (.inl true))) :: s' => some (.tuple #[bR (a.data.toList.drop b.data.toList.length), .bool true], s', [(hasP b.data.toList a.data.toList, true)])
  | [.string a, .string b], .inr (.inr (.inr (.inl false))) :: s' => some (.tuple #[bR a.data.toList, .bool false], s', [(hasP b.data.toList a.data.toList, false)])
  | _, _ => none
theorem gCutP_ok : AnsOk 28 gCutP := by
  intro vals s v s' lg h hl w
  have hT := tabY_ok conN_ok
  unfold gCutP at h
  split at h
  · rename_i a b s2
    cases h
    have q : hasP b.data.toList a.data.toList = true := hl _ (List.mem_singleton.2 rfl)
    exact fits_calls hT (cp1 a.data.toList b.data.toList) (has_log1 q) (by rfl) (by rfl) w
  · rename_i a b s2
    cases h
    have q : hasP b.data.toList a.data.toList = false := hl _ (List.mem_singleton.2 rfl)
    rcases has_not q with h1 | ⟨h1, h2⟩
    · exact fits_calls hT (cp3 a.data.toList b.data.toList) (okL1 (decide_eq_false (by omega))) (by rfl) (by rfl) w
    · exact fits_calls hT (cp2 a.data.toList b.data.toList) (has_log2 h1 h2) (by rfl) (by rfl) w
  · cases h
def gTrmP : Ans := fun vals s =>
  match vals, s with
  | [.string a, .string b], .inr (.inr (.inr (.inl true))) :: s' => some (bR (a.data.toList.drop b.data.toList.length), s', [(hasP b.data.toList a.data.toList, true)])
  | [.string a, .string b], .inr (.inr (.inr (.inl false))) :: s' => some (bR a.data.toList, s', [(hasP b.data.toList a.data.toList, false)])
  | _, _ => none
theorem gTrmP_ok : AnsOk 29 gTrmP := by
  intro vals s v s' lg h hl w
  have hT := tabY_ok conN_ok
  unfold gTrmP at h
  split at h
  · rename_i a b s2
    cases h
    have q : hasP b.data.toList a.data.toList = true := hl _ (List.mem_singleton.2 rfl)
    exact fits_calls hT (tp1 a.data.toList b.data.toList) (has_log1 q) (by rfl) (by rfl) w
  · rename_i a b s2
    cases h
    have q : hasP b.data.toList a.data.toList = false := hl _ (List.mem_singleton.2 rfl)
    rcases has_not q with h1 | ⟨h1, h2⟩
    · exact fits_calls hT (tp3 a.data.toList b.data.toList) (okL1 (decide_eq_false (by omega))) (by rfl) (by rfl) w
    · exact fits_calls hT (tp2 a.data.toList b.data.toList) (has_log2 h1 h2) (by rfl) (by rfl) w
  · cases h
def conQ1 : Con := alt 28 gCutP (alt 29 gTrmP conN)
theorem conQ1_ok : ConOk conQ1 := alt_ok Tryz.func28 rfl gCutP_ok (alt_ok Tryz.func29 rfl gTrmP_ok conN_ok)
theorem ts1 (l : List UInt8) : Fits (reckon (tabOf Tryz.prog extY conQ1 true) 100 15 [bR l] [cmp true]) (.tuple #[.bool true, bR (l.drop 1)]) [(hasP [45] l, true)] := ⟨by kernel_rfl, by kernel_rfl, by kernel_rfl, by kernel_rfl⟩
theorem ts2 (l : List UInt8) : Fits (reckon (tabOf Tryz.prog extY conQ1 true) 100 15 [bR l] [cmp false, cmp true]) (.tuple #[.bool false, bR (l.drop 1)]) [(hasP [43] l, true), (hasP [45] l, false)] := ⟨by kernel_rfl, by kernel_rfl, by kernel_rfl, by kernel_rfl⟩
theorem ts3 (l : List UInt8) : Fits (reckon (tabOf Tryz.prog extY conQ1 true) 100 15 [bR l] [cmp false, cmp false]) (.tuple #[.bool false, bR l]) [(hasP [43] l, false), (hasP [45] l, false)] := ⟨by kernel_rfl, by kernel_rfl, by kernel_rfl, by kernel_rfl⟩
/-- a sign, and what is behind it; told ahead whether it is a minus -/
def gTkS : Ans := fun vals s =>
  match vals, s with
  | [.string a], .inr (.inr (.inr (.inl d))) :: s' => some (.tuple #[.bool d, bR (sgT a.data.toList).2], s', [((sgT a.data.toList).1, d)])
  | _, _ => none
theorem gTkS_ok : AnsOk 15 gTkS := by
  intro vals s v s' lg h hl w
  have hT := tabY_ok conQ1_ok
  unfold gTkS at h
  split at h
  · rename_i a d s2
    cases h
    have q : (sgT a.data.toList).1 = d := hl _ (List.mem_singleton.2 rfl)
    rw [← q, sgT_has]
    cases h1 : hasP [45] a.data.toList with
    | true =>
      rw [if_pos rfl]
      exact fits_calls hT (ts1 a.data.toList) (okL1 h1) (by rfl) (by rfl) w
    | false =>
      rw [if_neg (by decide)]
      cases h2 : hasP [43] a.data.toList with
      | true =>
        rw [if_pos rfl]
        exact fits_calls hT (ts2 a.data.toList) (okCons h2 (okL1 h1)) (by rfl) (by rfl) w
      | false =>
        rw [if_neg (by decide)]
        exact fits_calls hT (ts3 a.data.toList) (okCons h2 (okL1 h1)) (by rfl) (by rfl) w
  · cases h
/-! ### the first point -/
def ixbV : List Value → Option (Value × Log)
  | [.string b, .int .u8 c] => some (.int .i64 (Lib.indexByte b.data.toList c.toNat.toUInt8), [])
  | _ => none
def extI : Nat → List Value → Option (Value × Log) := fun f vals => if f = 148 then ixbV vals else none
theorem extI_ok (f : Nat) (vals : List Value) (v : Value) (lg : Log) (h : extI f vals = some (v, lg)) (_ : okLog lg) (w : World) : (callFunc f vals.toArray).run Tryz.prog w = .ok (.value v) w := by
  unfold extI at h
  split at h
  · rename_i hf
    subst hf
    unfold ixbV at h
    split at h
    · rename_i b c
      cases h
      rw [run_callFunc_extern (e := Extern.BytealgIndexByte.indexByte) Tryz.func148 (by kernel_rfl) (by kernel_rfl) (by kernel_rfl) (by kernel_rfl), Lib.run_indexByteString]
      rfl
    · cases h
  · cases h
theorem tabI_ok {con : Con} (h : ConOk con) : TabOk (tabOf Tryz.prog extI con true) where
  mixed := mixed
  ext := extI_ok
  con := fun f vals s v s' lg hc hl => ⟨by obtain ⟨F, h1, h2⟩ := h.fn f vals s v s' lg hc; exact ⟨F, (fns_ok f F h1).1, (fns_ok f F h1).2, h2⟩, h.calls f vals s v s' lg hc hl⟩
  fn := fns_ok
  hc := fun _ _ _ _ _ _ _ _ h => by cases h
theorem ix1 (l : List UInt8) : Fits (reckon (tabOf Tryz.prog extI conN true) 100 126 [bR l, bR [46]] [sam true]) (.int .i64 0) [lEqB [46] l true] := ⟨by kernel_rfl, by kernel_rfl, by kernel_rfl, by kernel_rfl⟩
theorem ix2 (l : List UInt8) : Fits (reckon (tabOf Tryz.prog extI conN true) 100 126 [bR l, bR [46]] [sam false]) (.int .i64 (Lib.indexByte l 46)) [(true, true), lEqB [46] l false] := ⟨by kernel_rfl, by kernel_rfl, by kernel_rfl, by kernel_rfl⟩
def gIxD : Ans := fun vals s =>
  match vals with
  | [.string b, .string ⟨⟨[c]⟩⟩] => some (.int .i64 (Lib.indexByte b.data.toList 46), s, [(decide (c = 46), true)])
  | _ => none
theorem gIxD_ok : AnsOk 126 gIxD := by
  intro vals s v s' lg h hl w
  unfold gIxD at h
  split at h
  · rename_i b c
    cases h
    have hc := of_decide_eq_true (hl _ (List.mem_singleton.2 rfl))
    subst hc
    by_cases h1 : [46] = b.data.toList
    · have e : Lib.indexByte b.data.toList 46 = 0 := by rw [← h1]; rfl
      rw [e]
      exact fits_calls (tabI_ok conN_ok) (ix1 b.data.toList) (okL1 (ok_lEqB (decide_eq_true h1))) (by rfl) (by rfl) w
    · exact fits_calls (tabI_ok conN_ok) (ix2 b.data.toList) (okCons rfl (okL1 (ok_lEqB (decide_eq_false h1)))) (by rfl) (by rfl) w
  · cases h
def conIx : Con := alt 126 gIxD conN
theorem conIx_ok : ConOk conIx := alt_ok Tryz.func126 rfl gIxD_ok conN_ok
theorem ctd1 (l : List UInt8) : Fits (reckon (tabOf Tryz.prog extY conIx true) 100 70 [bR l, bR [46]] [cmp true, sam true, sam true]) (.tuple #[bR (l.take (Lib.indexByte l 46).toNat), bR (l.drop (IntKind.i64.wrap (Lib.indexByte l 46 + 1)).toNat), .bool true]) [(decide (0 ≤ IntKind.i64.wrap (Lib.indexByte l 46 + 1) ∧ IntKind.i64.wrap (Lib.indexByte l 46 + 1) ≤ (l.length : Nat)), true), (decide (0 ≤ Lib.indexByte l 46 ∧ Lib.indexByte l 46 ≤ (l.length : Nat)), true), (decide (Lib.indexByte l 46 ≥ 0), true), (true, true)] := ⟨by kernel_rfl, by kernel_rfl, by kernel_rfl, by kernel_rfl⟩
theorem ctd2 (l : List UInt8) : Fits (reckon (tabOf Tryz.prog extY conIx true) 100 70 [bR l, bR [46]] [cmp false]) (.tuple #[bR l, bR [], .bool false]) [(decide (Lib.indexByte l 46 ≥ 0), false), (true, true)] := ⟨by kernel_rfl, by kernel_rfl, by kernel_rfl, by kernel_rfl⟩
theorem ixb_lt (l : List UInt8) : Lib.indexByte l 46 < (l.length : Nat) := by
  induction l with
  | nil => decide
  | cons c l ih =>
    unfold Lib.indexByte
    rw [List.length_cons]
    split
    · omega
    · split <;> omega
/-- a text at its first point; told ahead whether there is one -/
def gCtD : Ans := fun vals s =>
  match vals, s with
  | [.string b, .string ⟨⟨[c]⟩⟩], .inr (.inr (.inr (.inl d))) :: s' => some (.tuple #[bR (ctA b.data.toList), bR (ctB b.data.toList), .bool d], s', [(decide (0 ≤ Lib.indexByte b.data.toList 46), d), (decide (c = 46), true), (decide (b.data.toList.length ≤ 100000), true)])
  | _, _ => none
theorem gCtD_ok : AnsOk 70 gCtD := by
  intro vals s v s' lg h hl w
  unfold gCtD at h
  split at h
  · rename_i b c d s2
    cases h
    have h1 := hl _ List.mem_cons_self
    have hc := of_decide_eq_true (hl _ (List.mem_cons_of_mem _ List.mem_cons_self))
    have h3 := of_decide_eq_true (hl _ (List.mem_cons_of_mem _ (List.mem_cons_of_mem _ (List.mem_singleton.2 rfl))))
    have hb := ixb_lt b.data.toList
    dsimp only at h1
    subst hc
    unfold ctA ctB
    cases d with
    | true =>
      have q := of_decide_eq_true h1
      have e : IntKind.i64.wrap (Lib.indexByte b.data.toList 46 + 1) = Lib.indexByte b.data.toList 46 + 1 := wrap64R (by omega) (by omega)
      have e2 : (Lib.indexByte b.data.toList 46 + 1).toNat = (Lib.indexByte b.data.toList 46).toNat + 1 := by omega
      have f := ctd1 b.data.toList
      rw [e, e2] at f
      rw [if_pos q, if_pos q]
      exact fits_calls (tabY_ok conIx_ok) f (okCons (decide_eq_true ⟨by omega, by omega⟩) (okCons (decide_eq_true ⟨by omega, by omega⟩) (okCons (decide_eq_true q) (okL1 rfl)))) (by rfl) (by rfl) w
    | false =>
      have q := of_decide_eq_false h1
      rw [if_neg q, if_neg q]
      exact fits_calls (tabY_ok conIx_ok) (ctd2 b.data.toList) (okCons (decide_eq_false q) (okL1 rfl)) (by rfl) (by rfl) w
  · cases h
end Go.Proofs.YtjlponbdflkbjaaGreatDoor
namespace Go.Proofs.YtjlponbdflkbjaaGreatDoor
open Go.KRun Go.Nt Go.Rd
set_option maxRecDepth 100000
/-! ### noughts at the end -/
def trP (F : Func) : Code := cFst (cBody F)
def trLp (F : Func) : Code := cIn (cIn (cFst (cSnd (cBody F))))
def trE (F : Func) : Code := cSnd (cSnd (cBody F))
theorem tr_body : Tryz.f105.body = some (seqs [trP Tryz.f105] (.seq (.block 0 (.loop (trLp Tryz.f105))) (trE Tryz.f105))) := by kernel_rfl
def trF (l : List UInt8) (c : Int) : List Value := [bR l, .int .u8 c, undef, undef, bR []]
def lm1 (l : List UInt8) : Int := IntKind.i64.wrap (((l.length : Nat) : Int) - 1)
theorem tr_pre (l : List UInt8) (c : Int) : GoesT (evL (tabOf Tryz.prog extY conN true) 100 [trP Tryz.f105] ([bR l, .int .u8 c] ++ List.replicate 21 undef, ⟨0, []⟩, []) ⟨[], [], []⟩) 5 18 none (trF l c) ⟨0, []⟩ [] := ⟨by kernel_rfl, by kernel_rfl, by kernel_rfl⟩
theorem tr_go (l : List UInt8) (c : Int) (g : Nat → Value) : GoesT (evC (tabOf Tryz.prog extY conN true) 100 false (trLp Tryz.f105) (trF l c ++ tl 18 g, ⟨0, []⟩, [cmp true, cmp true, sam true]) ⟨[], [], []⟩) 5 18 none (trF (l.take (lm1 l).toNat) c) ⟨0, []⟩ [(decide (0 ≤ lm1 l ∧ lm1 l ≤ (l.length : Nat)), true), (byR l (lm1 l) == c, true), (decide (0 ≤ lm1 l ∧ (lm1 l).toNat < l.length), true), (decide (((l.length : Nat) : Int) > 0), true)] := ⟨by kernel_rfl, by kernel_rfl, by kernel_rfl⟩
theorem tr_out (l : List UInt8) (c : Int) (g : Nat → Value) : GoesT (evC (tabOf Tryz.prog extY conN true) 100 false (trLp Tryz.f105) (trF l c ++ tl 18 g, ⟨0, []⟩, [cmp true, cmp false]) ⟨[], [], []⟩) 5 18 (some (some 0)) (trF l c) ⟨0, []⟩ [(byR l (lm1 l) == c, false), (decide (0 ≤ lm1 l ∧ (lm1 l).toNat < l.length), true), (decide (((l.length : Nat) : Int) > 0), true)] := ⟨by kernel_rfl, by kernel_rfl, by kernel_rfl⟩
theorem tr_nil (l : List UInt8) (c : Int) (g : Nat → Value) : GoesT (evC (tabOf Tryz.prog extY conN true) 100 false (trLp Tryz.f105) (trF l c ++ tl 18 g, ⟨0, []⟩, [cmp false]) ⟨[], [], []⟩) 5 18 (some (some 0)) (trF l c) ⟨0, []⟩ [(decide (((l.length : Nat) : Int) > 0), false)] := ⟨by kernel_rfl, by kernel_rfl, by kernel_rfl⟩
theorem tr_fin (l : List UInt8) (c : Int) (g : Nat → Value) : GoesT (evC (tabOf Tryz.prog extY conN true) 100 false (trE Tryz.f105) (trF l c ++ tl 18 g, ⟨0, []⟩, []) ⟨[], [], []⟩) 5 18 (some none) [bR l, .int .u8 c, undef, undef, bR l] ⟨0, []⟩ [] := ⟨by kernel_rfl, by kernel_rfl, by kernel_rfl⟩
theorem tr_loop (L : List UInt8) (n : Nat) (x : Lf) (h : ∃ (l : List UInt8) (g : Nat → Value), x.1 = trF l 48 ++ tl 18 g ∧ x.2.1 = ⟨0, []⟩ ∧ trR l = trR L ∧ l.length ≤ 100000 ∧ n = l.length) : Runs (tabOf Tryz.prog extY conN true) (trLp Tryz.f105) x fun e y => match e with | none => ∃ n', n' < n ∧ ∃ (l : List UInt8) (g : Nat → Value), y.1 = trF l 48 ++ tl 18 g ∧ y.2.1 = ⟨0, []⟩ ∧ trR l = trR L ∧ l.length ≤ 100000 ∧ n' = l.length | some none => False | some (some id') => id' = 0 ∧ ∃ g : Nat → Value, y.1 = trF (trR L) 48 ++ tl 18 g ∧ y.2.1 = ⟨0, []⟩ := by
  obtain ⟨l, g, e1, e2, h1, h3, h2⟩ := h
  obtain ⟨t, hh, s⟩ := x
  have e1 : t = _ := e1
  have e2 : hh = _ := e2
  subst e1 e2
  have T := tabY_ok conN_ok
  by_cases hn : l = []
  · subst hn
    refine (goesT_runs T (tr_nil [] 48 g) (okL1 (by decide))).mono fun e z he => ?_
    obtain ⟨rfl, ⟨g', z1⟩, z2⟩ := he
    have : trR L = [] := h1.symm
    rw [this]
    exact ⟨rfl, g', z1, z2⟩
  · obtain ⟨l', x, hl⟩ : ∃ l' x, l = l' ++ [x] := ⟨l.dropLast, l.getLast hn, (List.dropLast_concat_getLast hn).symm⟩
    have hlen : l.length = l'.length + 1 := by rw [hl, List.length_append]; rfl
    have em : lm1 l = (l'.length : Nat) := by unfold lm1; rw [wrapI (by omega) (by omega)]; omega
    have eb : byR l (lm1 l) = lq8 x := by
      unfold byR lq8
      rw [em, Int.toNat_natCast, hl]
      simp [List.getD]
    have et : l.take (lm1 l).toNat = l' := by
      rw [em, Int.toNat_natCast, hl]
      exact List.take_left' rfl
    have k1 : decide (0 ≤ lm1 l ∧ (lm1 l).toNat < l.length) = true := decide_eq_true (by omega)
    have k2 : decide (((l.length : Nat) : Int) > 0) = true := decide_eq_true (by omega)
    by_cases hx : lq8 x = 48
    · have hg := tr_go l 48 g
      rw [et] at hg
      refine (goesT_runs T hg (okCons (decide_eq_true (by omega)) (okCons (by rw [eb]; simpa using hx) (okCons k1 (okL1 k2))))).mono fun e z he => ?_
      obtain ⟨rfl, ⟨g', z1⟩, z2⟩ := he
      refine ⟨l'.length, by omega, l', g', z1, z2, ?_, by omega, rfl⟩
      rw [← h1, hl, trR_snoc, if_pos hx]
    · refine (goesT_runs T (tr_out l 48 g) (okCons (by rw [eb]; simpa using hx) (okCons k1 (okL1 k2)))).mono fun e z he => ?_
      obtain ⟨rfl, ⟨g', z1⟩, z2⟩ := he
      have : trR L = l := by rw [← h1, hl, trR_snoc, if_neg hx]
      rw [this]
      exact ⟨rfl, g', z1, z2⟩
theorem trb_calls (l : List UInt8) (hl : l.length ≤ 100000) (w : World) : Calls Tryz.prog 105 #[bR l, .int .u8 48] w fun r w' => r = .returned (bR (trR l)) ∧ Tidy w w' := by
  have hT := tabY_ok conN_ok
  refine calls_of_runs (T := tabOf Tryz.prog extY conN true) Tryz.func105 tr_body (by rfl) (by rfl) ?_ w
  refine goesT_list hT (tr_pre l 48) okN9R fun g => ?_
  refine Runs.seq (P1 := fun e y => e = none ∧ ∃ g : Nat → Value, y.1 = trF (trR l) 48 ++ tl 18 g ∧ y.2.1 = ⟨0, []⟩) ?_ ?_ (fun e y he => by cases he.1)
  · refine (Runs.forLoop (R := fun _ => False) (P := fun y => ∃ g : Nat → Value, y.1 = trF (trR l) 48 ++ tl 18 g ∧ y.2.1 = ⟨0, []⟩) (fun n x => ∃ (l' : List UInt8) (g : Nat → Value), x.1 = trF l' 48 ++ tl 18 g ∧ x.2.1 = ⟨0, []⟩ ∧ trR l' = trR l ∧ l'.length ≤ 100000 ∧ n = l'.length) (tr_loop l) (n := l.length) ⟨l, g, rfl, rfl, rfl, hl, rfl⟩).mono fun e z hz => ?_
    match e, hz with
    | none, hz => exact ⟨rfl, hz⟩
  · intro y he
    obtain ⟨_, g', e1, e2⟩ := he
    obtain ⟨t, hh, s⟩ := y
    have e1 : t = _ := e1
    have e2 : hh = _ := e2
    subst e1 e2
    refine (goesT_runs hT (tr_fin (trR l) 48 g') okN9R).mono fun e z hz => ?_
    obtain ⟨rfl, ⟨g2, z1⟩, z2⟩ := hz
    exact ⟨.inr rfl, by rw [z1, z2]; rfl⟩
def gTrb : Ans := fun vals s =>
  match vals with
  | [.string b, .int .u8 c] => some (bR (trR b.data.toList), s, [(decide (c = 48), true), (decide (b.data.toList.length ≤ 100000), true)])
  | _ => none
theorem gTrb_ok : AnsOk 105 gTrb := by
  intro vals s v s' lg h hl w
  unfold gTrb at h
  split at h
  · rename_i b c
    cases h
    have hc := of_decide_eq_true (hl _ List.mem_cons_self)
    have h2 := of_decide_eq_true (hl _ (List.mem_cons_of_mem _ (List.mem_singleton.2 rfl)))
    subst hc
    exact trb_calls _ h2 w
  · cases h
def conTb : Con := alt 105 gTrb conN
theorem conTb_ok : ConOk conTb := alt_ok Tryz.func105 rfl gTrb_ok conN_ok
theorem tt_e (l : List UInt8) : Fits (reckon (tabOf Tryz.prog extY conTb true) 100 72 [bR l, bR [48]] [sam true]) (bR l) [lEqB l [] true] := ⟨by kernel_rfl, by kernel_rfl, by kernel_rfl, by kernel_rfl⟩
theorem tt_n (l : List UInt8) : Fits (reckon (tabOf Tryz.prog extY conTb true) 100 72 [bR l, bR [48]] [sam false]) (bR (trR l)) [(true, true), (decide (l.length ≤ 100000), true), (true, true), (true, true), lEqB l [] false] := ⟨by kernel_rfl, by kernel_rfl, by kernel_rfl, by kernel_rfl⟩
/-- what is left of a text ahead of the noughts at its end -/
def gTrR : Ans := fun vals s =>
  match vals with
  | [.string b, .string ⟨⟨[c]⟩⟩] => some (bR (trR b.data.toList), s, [(decide (c = 48), true), (decide (b.data.toList.length ≤ 100000), true)])
  | _ => none
theorem gTrR_ok : AnsOk 72 gTrR := by
  intro vals s v s' lg h hl w
  unfold gTrR at h
  split at h
  · rename_i b c
    cases h
    have hc := of_decide_eq_true (hl _ List.mem_cons_self)
    have h2 := hl _ (List.mem_cons_of_mem _ (List.mem_singleton.2 rfl))
    subst hc
    by_cases hn : b.data.toList = []
    · have := fits_calls (tabY_ok conTb_ok) (tt_e b.data.toList) (okL1 (ok_lEqB (decide_eq_true hn))) (by rfl) (by rfl) w
      have hb : b = ⟨⟨[]⟩⟩ := by
        apply ByteArray.ext
        apply Array.ext'
        exact hn
      rw [hn] at this ⊢
      rw [hb]
      exact this
    · exact fits_calls (tabY_ok conTb_ok) (tt_n b.data.toList) (okCons rfl (okCons h2 (okCons rfl (okCons rfl (okL1 (ok_lEqB (decide_eq_false hn))))))) (by rfl) (by rfl) w
  · cases h
/-! ### whole numbers -/
def conWn : Con := alt 15 gTkS (alt 69 gDvP conN)
theorem conWn_ok : ConOk conWn := alt_ok Tryz.func15 rfl gTkS_ok (alt_ok Tryz.func69 rfl gDvP_ok conN_ok)
def wnI (F : Func) : Code := cFst (sP F 3)
def wnL (F : Func) : Code := cIn (cIn (cSnd (sP F 3)))
theorem wn_body : Tryz.f32.body = some (seqs [sP Tryz.f32 0, sP Tryz.f32 1, sP Tryz.f32 2] (.seq (.seq (wnI Tryz.f32) (.block 0 (.loop (wnL Tryz.f32)))) (sK Tryz.f32 4))) := by kernel_rfl
def wnT (s : List UInt8) (mn : Bool) (D : List UInt8) : List Value := [.tuple #[.bool mn, bR D], bR s, .tuple #[.bool mn, bR D], .bool mn, bR D]
def wnF (s : List UInt8) (mn : Bool) (D : List UInt8) (n : Int) (v7 v8 : Value) (i : Int) : List Value := [bR s, undef, .int .i64 0, .bool false, .bool mn, bR D, .int .i64 n, v7, v8] ++ wnT s mn D ++ [bR D, .int .i64 (D.length : Nat), .int .i64 i]
theorem wn_pre (s : List UInt8) (mn : Bool) : GoesT (evL (tabOf Tryz.prog extY conWn true) 100 [sP Tryz.f32 0, sP Tryz.f32 1, sP Tryz.f32 2] ([bR s] ++ List.replicate 36 undef, ⟨0, []⟩, [cmp mn]) ⟨[], [], []⟩) 14 23 none ([bR s, undef, .int .i64 0, .bool false, .bool mn, bR (sgT s).2, .int .i64 0, undef, undef] ++ wnT s mn (sgT s).2) ⟨0, []⟩ [((sgT s).1, mn)] := ⟨by kernel_rfl, by kernel_rfl, by kernel_rfl⟩
theorem wn_i (s : List UInt8) (mn : Bool) (D : List UInt8) (g : Nat → Value) : GoesT (evC (tabOf Tryz.prog extY conWn true) 100 false (wnI Tryz.f32) ([bR s, undef, .int .i64 0, .bool false, .bool mn, bR D, .int .i64 0, undef, undef] ++ wnT s mn D ++ tl 23 g, ⟨0, []⟩, []) ⟨[], [], []⟩) 17 20 none (wnF s mn D 0 undef undef 0) ⟨0, []⟩ [] := ⟨by kernel_rfl, by kernel_rfl, by kernel_rfl⟩
theorem wn_x (s : List UInt8) (mn : Bool) (D : List UInt8) (n : Int) (v7 v8 : Value) (i : Int) (g : Nat → Value) : GoesT (evC (tabOf Tryz.prog extY conWn true) 100 false (wnL Tryz.f32) (wnF s mn D n v7 v8 i ++ tl 20 g, ⟨0, []⟩, [cmp false]) ⟨[], [], []⟩) 17 20 (some (some 0)) (wnF s mn D n v7 v8 i) ⟨0, []⟩ [(decide (i < (D.length : Nat)), false)] := ⟨by kernel_rfl, by kernel_rfl, by kernel_rfl⟩
theorem wn_b (s : List UInt8) (mn : Bool) (D : List UInt8) (n : Int) (v7 v8 : Value) (i : Int) (g : Nat → Value) : GoesT (evC (tabOf Tryz.prog extY conWn true) 100 false (wnL Tryz.f32) (wnF s mn D n v7 v8 i ++ tl 20 g, ⟨0, []⟩, [cmp true, cmp true]) ⟨[], [], []⟩) 4 33 (some none) [bR s, undef, .int .i64 0, .bool false] ⟨0, []⟩ [(decide (dvB (byR D i) ≥ 10), true), (decide (0 ≤ byR D i ∧ byR D i < 256), true), (decide (0 ≤ i ∧ i.toNat < D.length), true), (decide (i < (D.length : Nat)), true)] := ⟨by kernel_rfl, by kernel_rfl, by kernel_rfl⟩
theorem wn_g (s : List UInt8) (mn : Bool) (D : List UInt8) (n : Int) (v7 v8 : Value) (i : Int) (g : Nat → Value) : GoesT (evC (tabOf Tryz.prog extY conWn true) 100 false (wnL Tryz.f32) (wnF s mn D n v7 v8 i ++ tl 20 g, ⟨0, []⟩, [cmp true, cmp false]) ⟨[], [], []⟩) 17 20 none (wnF s mn D (if 10000000 < IntKind.i64.wrap (IntKind.i64.wrap (n * 10) + dvB (byR D i)) then 10000000 else IntKind.i64.wrap (IntKind.i64.wrap (n * 10) + dvB (byR D i))) (.int .i64 i) (.int .i64 (dvB (byR D i))) (IntKind.i64.wrap (i + 1))) ⟨0, []⟩ [(decide (dvB (byR D i) ≥ 10), false), (decide (0 ≤ byR D i ∧ byR D i < 256), true), (decide (0 ≤ i ∧ i.toNat < D.length), true), (decide (i < (D.length : Nat)), true)] := ⟨by kernel_rfl, by kernel_rfl, by kernel_rfl⟩
def lNe (u : List UInt8) (d : Bool) : Bool × Bool := (!((⟨⟨u⟩⟩ : ByteArray) == ⟨⟨[]⟩⟩), d)
theorem ok_lNe {u : List UInt8} {d : Bool} (h : decide (u ≠ []) = d) : (lNe u d).1 = (lNe u d).2 := by
  show (!((⟨⟨u⟩⟩ : ByteArray) == ⟨⟨[]⟩⟩)) = d
  rw [bs_eqR, ← h]
  by_cases hu : u = []
  · rw [decide_eq_true hu, decide_eq_false (fun h => h hu)]; rfl
  · rw [decide_eq_false hu, decide_eq_true hu]; rfl
theorem wn_et (s : List UInt8) (D : List UInt8) (n : Int) (v7 v8 : Value) (i : Int) (d : Bool) (g : Nat → Value) : GoesT (evC (tabOf Tryz.prog extY conWn true) 100 false (sK Tryz.f32 4) (wnF s true D n v7 v8 i ++ tl 20 g, ⟨0, []⟩, [sam d]) ⟨[], [], []⟩) 4 33 (some none) [bR s, undef, .int .i64 (IntKind.i64.wrap (0 - n)), .bool d] ⟨0, []⟩ [lNe D d] := ⟨by kernel_rfl, by kernel_rfl, by kernel_rfl⟩
theorem wn_ef (s : List UInt8) (D : List UInt8) (n : Int) (v7 v8 : Value) (i : Int) (d : Bool) (g : Nat → Value) : GoesT (evC (tabOf Tryz.prog extY conWn true) 100 false (sK Tryz.f32 4) (wnF s false D n v7 v8 i ++ tl 20 g, ⟨0, []⟩, [sam d]) ⟨[], [], []⟩) 4 33 (some none) [bR s, undef, .int .i64 n, .bool d] ⟨0, []⟩ [lNe D d] := ⟨by kernel_rfl, by kernel_rfl, by kernel_rfl⟩
theorem byR_bd (l : List UInt8) (i : Int) : decide (0 ≤ byR l i ∧ byR l i < 256) = true := by
  unfold byR
  have := (l.getD i.toNat 0).toNat_lt
  exact decide_eq_true (by omega)
def wnJ (s : List UInt8) (mn : Bool) (D : List UInt8) (X : Nat × Bool) (i : Nat) (y : Lf) : Prop := ∃ (a : Nat) (v7 v8 : Value) (g : Nat → Value), i ≤ D.length ∧ a ≤ 10000000 ∧ X = pwM 10000000 a (D.drop i) ∧ y.1 = wnF s mn D a v7 v8 i ++ tl 20 g ∧ y.2.1 = ⟨0, []⟩
def wnO (s : List UInt8) (mn : Bool) (D : List UInt8) (X : Nat × Bool) (y : Lf) : Prop := ∃ (a i : Nat) (v7 v8 : Value) (g : Nat → Value), a ≤ 10000000 ∧ X = (a, true) ∧ y.1 = wnF s mn D a v7 v8 i ++ tl 20 g ∧ y.2.1 = ⟨0, []⟩
def wnW (n : Int) (d : Bool) : Value := .tuple #[.int .i64 n, .bool d]
def wnB (X : Nat × Bool) (y : Lf) : Prop := X.2 = false ∧ resS Tryz.prog Tryz.f32 y.1 y.2.1 = some (wnW 0 false)
theorem wn_round {s : List UInt8} {mn : Bool} {D : List UInt8} {X : Nat × Bool} (h2 : D.length ≤ 100000) (r : Nat) (y : Lf) (h : ∃ i, r = D.length - i ∧ wnJ s mn D X i y) :
    Runs (tabOf Tryz.prog extY conWn true) (wnL Tryz.f32) y fun e z => match e with | none => ∃ r', r' < r ∧ ∃ i, r' = D.length - i ∧ wnJ s mn D X i z | some none => wnB X z | some (some id') => id' = 0 ∧ wnO s mn D X z := by
  have hT := tabY_ok conWn_ok
  obtain ⟨i, hr, a, v7, v8, g, hi, ha, hX, ht, hh⟩ := h
  obtain ⟨t, h', sc⟩ := y
  simp only at ht hh
  subst ht hh
  by_cases hc : i < D.length
  · have lA : decide (((i : Nat) : Int) < (D.length : Nat)) = true := decide_eq_true (by omega)
    have lI : decide ((0 : Int) ≤ (i : Nat) ∧ ((i : Nat) : Int).toNat < D.length) = true := decide_eq_true ⟨by omega, by rw [Int.toNat_natCast]; exact hc⟩
    have ew : IntKind.i64.wrap (((i : Nat) : Int) + 1) = ((i + 1 : Nat) : Int) := by rw [wrapI (by omega) (by omega)]; omega
    have ed := drop_get hc
    have eC : lq8 (D.getD i 0) = byR D (i : Nat) := by unfold lq8 byR; rw [Int.toNat_natCast]
    have bD := dvB_bd (byR D (i : Nat))
    by_cases hd : dvB (byR D (i : Nat)) < 10
    · have hg := wn_g s mn D a v7 v8 (i : Nat) g
      have ev : IntKind.i64.wrap (IntKind.i64.wrap (((a : Nat) : Int) * 10) + dvB (byR D (i : Nat))) = ((a : Nat) : Int) * 10 + dvB (byR D (i : Nat)) := by
        rw [wrapI (n := ((a : Nat) : Int) * 10) (by omega) (by omega), wrapI (by omega) (by omega)]
      have em : (if 10000000 < ((a : Nat) : Int) * 10 + dvB (byR D (i : Nat)) then 10000000 else ((a : Nat) : Int) * 10 + dvB (byR D (i : Nat))) = ((min (a * 10 + (dvB (byR D (i : Nat))).toNat) 10000000 : Nat) : Int) := by split <;> omega
      rw [ev, em, ew] at hg
      refine (goesT_runs (s0 := sc) hT hg (okCons (decide_eq_false (by omega)) (okCons (byR_bd D _) (okCons lI (okL1 lA))))).mono fun e z he => ?_
      obtain ⟨rfl, ⟨g', z1⟩, z2⟩ := he
      refine ⟨D.length - (i + 1), by omega, i + 1, rfl, _, _, _, g', by omega, by omega, ?_, z1, z2⟩
      rw [hX, ed, pwM, eC, if_pos hd]
    · refine (goesT_runs (s0 := sc) hT (wn_b s mn D a v7 v8 (i : Nat) g) (okCons (decide_eq_true (by omega)) (okCons (byR_bd D _) (okCons lI (okL1 lA))))).mono fun e z he => ?_
      obtain ⟨rfl, ⟨g', z1⟩, z2⟩ := he
      refine ⟨by rw [hX, ed, pwM, eC, if_neg hd], by rw [z1, z2]; rfl⟩
  · have es : D.drop i = [] := List.drop_eq_nil_of_le (by omega)
    refine (goesT_runs (s0 := sc) hT (wn_x s mn D a v7 v8 (i : Nat) g) (okL1 (decide_eq_false (by omega)))).mono fun e z he => ?_
    obtain ⟨rfl, ⟨g', z1⟩, z2⟩ := he
    exact ⟨rfl, a, i, v7, v8, g', ha, by rw [hX, es]; rfl, z1, z2⟩
theorem wn_calls (s : List UInt8) (hs : s.length ≤ 100000) (w : World) : Calls Tryz.prog 32 #[bR s] w fun r w' => r = .returned (if wnK s = true then wnW (wnP s) true else wnW 0 false) ∧ Tidy w w' := by
  have hT := tabY_ok conWn_ok
  have hl2 := sgT_len s
  obtain ⟨V, hV⟩ : ∃ V, V = (if wnK s = true then wnW (wnP s) true else wnW 0 false) := ⟨_, rfl⟩
  rw [← hV]
  refine calls_of_runs (T := tabOf Tryz.prog extY conWn true) Tryz.func32 wn_body (by rfl) (by rw [hV]; split <;> rfl) ?_ w
  refine goesT_list hT (wn_pre s (sgT s).1) (okL1 rfl) fun g => ?_
  obtain ⟨mn, hmn⟩ : ∃ mn, mn = (sgT s).1 := ⟨_, rfl⟩
  obtain ⟨D, hD⟩ : ∃ D, D = (sgT s).2 := ⟨_, rfl⟩
  rw [← hmn, ← hD]
  obtain ⟨X, hX⟩ : ∃ X, X = pwM 10000000 0 D := ⟨_, rfl⟩
  have eK : wnK s = (X.2 && decide (D ≠ [])) := by unfold wnK; rw [← hD, hX, pwM_all]
  have eP : wnP s = if mn = true then -((X.1 : Nat) : Int) else ((X.1 : Nat) : Int) := by unfold wnP; rw [← hD, ← hmn, hX]
  refine Runs.seq (P1 := fun e y => match e with | none => wnO s mn D X y | some none => wnB X y | some (some _) => False) ?_ ?_ ?_
  · refine Runs.seq (P1 := fun e y => e = none ∧ ∃ g', y.1 = wnF s mn D 0 undef undef 0 ++ tl 20 g' ∧ y.2.1 = ⟨0, []⟩) ?_ ?_ (fun e y he => by cases he.1)
    · refine (goesT_runs hT (wn_i s mn D g) okN9R).mono fun e z he => ?_
      obtain ⟨rfl, ⟨g', z1⟩, z2⟩ := he
      exact ⟨rfl, g', z1, z2⟩
    · rintro ⟨t, hh, sc⟩ ⟨_, g', e1, e2⟩
      simp only at e1 e2
      subst e1 e2
      exact Runs.forLoop (R := wnB X) (P := wnO s mn D X) (fun r y => ∃ i, r = D.length - i ∧ wnJ s mn D X i y) (wn_round (by rw [hD]; omega)) (n := D.length - 0) ⟨0, rfl, 0, undef, undef, g', Nat.zero_le _, Nat.zero_le _, hX, rfl, rfl⟩
  · rintro ⟨t, hh, sc⟩ ⟨a, i, v7, v8, g', ha, hx, e1, e2⟩
    simp only at e1 e2
    subst e1 e2
    rw [hx] at eK eP
    have eV : V = wnW (if mn = true then -(a : Int) else (a : Int)) (decide (D ≠ [])) := by
      rw [hV, eK, eP]
      by_cases hd : D = []
      · have ha0 : a = 0 := by
          rw [hd] at hX
          rw [hx] at hX
          exact congrArg Prod.fst hX
        rw [decide_eq_false (fun h => h hd), Bool.and_false, if_neg (by decide), ha0]
        cases mn <;> rfl
      · rw [decide_eq_true hd, Bool.and_true, if_pos rfl]
    rw [eV]
    cases mn with
    | true =>
      have hg := wn_et s D a v7 v8 i (decide (D ≠ [])) g'
      rw [wrapI (n := 0 - ((a : Nat) : Int)) (by omega) (by omega), show (0 : Int) - ((a : Nat) : Int) = -((a : Nat) : Int) by omega] at hg
      refine (goesT_runs (s0 := sc) hT hg (okL1 (ok_lNe rfl))).mono fun e z he => ?_
      obtain ⟨rfl, ⟨g2, z1⟩, z2⟩ := he
      exact ⟨.inr rfl, by rw [z1, z2, if_pos rfl]; rfl⟩
    | false =>
      refine (goesT_runs (s0 := sc) hT (wn_ef s D a v7 v8 i (decide (D ≠ [])) g') (okL1 (ok_lNe rfl))).mono fun e z he => ?_
      obtain ⟨rfl, ⟨g2, z1⟩, z2⟩ := he
      exact ⟨.inr rfl, by rw [z1, z2, if_neg (by decide)]; rfl⟩
  · rintro e y he
    match e, he with
    | none, he =>
      refine ⟨.inr rfl, he.2.trans ?_⟩
      rw [hV, eK, he.1]
      rfl
/-- a whole number; told ahead whether it is one -/
def gWnR : Ans := fun vals s =>
  match vals, s with
  | [.string b], .inr (.inr (.inr (.inl true))) :: s' => some (wnW (wnP b.data.toList) true, s', [(wnK b.data.toList, true), (decide (b.data.toList.length ≤ 100000), true)])
  | [.string b], .inr (.inr (.inr (.inl false))) :: s' => some (wnW 0 false, s', [(wnK b.data.toList, false), (decide (b.data.toList.length ≤ 100000), true)])
  | _, _ => none
theorem gWnR_ok : AnsOk 32 gWnR := by
  intro vals s v s' lg h hl w
  unfold gWnR at h
  split at h
  · rename_i b s2
    cases h
    have h1 : wnK b.data.toList = true := hl _ List.mem_cons_self
    have h2 := of_decide_eq_true (hl _ (List.mem_cons_of_mem _ (List.mem_singleton.2 rfl)))
    have := wn_calls _ h2 w
    rw [if_pos h1] at this
    exact this
  · rename_i b s2
    cases h
    have h1 : wnK b.data.toList = false := hl _ List.mem_cons_self
    have h2 := of_decide_eq_true (hl _ (List.mem_cons_of_mem _ (List.mem_singleton.2 rfl)))
    have := wn_calls _ h2 w
    rw [if_neg (by rw [h1]; decide)] at this
    exact this
  · cases h
end Go.Proofs.YtjlponbdflkbjaaGreatDoor
namespace Go.KRun
theorem Runs.scope {T : Tab} {c : Code} {x : Lf} {P : Ex → Lf → Prop} (h : Runs T c x P) : Runs T (.scope c) x P := fun m B a w R Q hQ => wp_scope_straight (h m B a w R _ fun e y he a' w' hR => by
  have := hQ e y he a' w' hR
  match e, this with
  | none, t => exact t
  | some none, t => exact t
  | some (some id), t => exact t)
end Go.KRun
namespace Go.Proofs.YtjlponbdflkbjaaGreatDoor
open Go.KRun Go.Nt Go.Rd
set_option maxRecDepth 100000
def conTd : Con := alt 69 gDvP (alt 70 gCtD (alt 71 Na.gTrl (alt 72 gTrR conN)))
theorem conTd_ok : ConOk conTd := alt_ok Tryz.func69 rfl gDvP_ok (alt_ok Tryz.func70 rfl gCtD_ok (alt_ok Tryz.func71 rfl Na.gTrl_ok (alt_ok Tryz.func72 rfl gTrR_ok conN_ok)))
def tdS (F : Func) : Code := cIn (cSnd (cBody F))
def tdL (F : Func) : Code := cIn (cIn (cFst (cSnd (cSnd (tdS F)))))
def tdE (F : Func) : Code := cSnd (cSnd (cSnd (tdS F)))
theorem td_body : Tryz.f31.body = some (seqs [cFst (cBody Tryz.f31)] (.scope (seqs [cFst (tdS Tryz.f31), cFst (cSnd (tdS Tryz.f31))] (.seq (.block 0 (.loop (tdL Tryz.f31))) (tdE Tryz.f31))))) := by kernel_rfl
def nuB (b : Int) (D : List UInt8) (k P : Int) : List Value × TypeId := ([.int .i64 b, bR D, .int .i64 k, .int .i64 P], 47)
def tdM : Hp := ⟨1, [nuB 0 [] 0 0]⟩
def tdF (s : List UInt8) (b i : Int) (p : Bool) (v9 : Value) : List Value := [bR s, .int .i64 b, undef, undef, pO 0, bR [], .bool false, .int .i64 i, .bool p, v9]
theorem td_p1 (s : List UInt8) (b : Int) : GoesT (evL (tabOf Tryz.prog extY conTd true) 100 [cFst (cBody Tryz.f31)] ([bR s, .int .i64 b] ++ List.replicate 66 undef, ⟨0, []⟩, []) ⟨[], [], []⟩) 7 61 none [bR s, .int .i64 b, undef, undef, pO 0, bR [], .bool false] tdM [] := ⟨by kernel_rfl, by kernel_rfl, by kernel_rfl⟩
theorem td_p2 (s : List UInt8) (b : Int) (g : Nat → Value) : GoesT (evL (tabOf Tryz.prog extY conTd true) 100 [cFst (tdS Tryz.f31), cFst (cSnd (tdS Tryz.f31))] ([bR s, .int .i64 b, undef, undef, pO 0, bR [], .bool false] ++ tl 61 g, tdM, []) ⟨[], [], []⟩) 9 59 none [bR s, .int .i64 b, undef, undef, pO 0, bR [], .bool false, .int .i64 0, .bool false] tdM [] := ⟨by kernel_rfl, by kernel_rfl, by kernel_rfl⟩
theorem td_x (s : List UInt8) (b i : Int) (p : Bool) (v9 : Value) (g : Nat → Value) : GoesT (evC (tabOf Tryz.prog extY conTd true) 100 false (tdL Tryz.f31) (tdF s b i p v9 ++ tl 58 g, tdM, [cmp false]) ⟨[], [], []⟩) 10 58 (some (some 0)) (tdF s b i p v9) tdM [(decide (i < (s.length : Nat)), false)] := ⟨by kernel_rfl, by kernel_rfl, by kernel_rfl⟩
theorem td_d (s : List UInt8) (b i : Int) (p : Bool) (v9 : Value) (g : Nat → Value) : GoesT (evC (tabOf Tryz.prog extY conTd true) 100 false (tdL Tryz.f31) (tdF s b i p v9 ++ tl 58 g, tdM, [cmp true, cmp true]) ⟨[], [], []⟩) 10 58 none (tdF s b (IntKind.i64.wrap (i + 1)) p (.int .u8 (byR s i))) tdM [(decide (dvB (byR s i) < b), true), (decide (0 ≤ byR s i ∧ byR s i < 256), true), (decide (0 ≤ i ∧ i.toNat < s.length), true), (decide (i < (s.length : Nat)), true)] := ⟨by kernel_rfl, by kernel_rfl, by kernel_rfl⟩
theorem td_p (s : List UInt8) (b i : Int) (v9 : Value) (g : Nat → Value) : GoesT (evC (tabOf Tryz.prog extY conTd true) 100 false (tdL Tryz.f31) (tdF s b i false v9 ++ tl 58 g, tdM, [cmp true, cmp false, cmp true]) ⟨[], [], []⟩) 10 58 none (tdF s b (IntKind.i64.wrap (i + 1)) true (.int .u8 (byR s i))) tdM [(byR s i == 46, true), (decide (dvB (byR s i) < b), false), (decide (0 ≤ byR s i ∧ byR s i < 256), true), (decide (0 ≤ i ∧ i.toNat < s.length), true), (decide (i < (s.length : Nat)), true)] := ⟨by kernel_rfl, by kernel_rfl, by kernel_rfl⟩
theorem td_s1 (s : List UInt8) (b i : Int) (p : Bool) (v9 : Value) (g : Nat → Value) : GoesT (evC (tabOf Tryz.prog extY conTd true) 100 false (tdL Tryz.f31) (tdF s b i p v9 ++ tl 58 g, tdM, [cmp true, cmp false, cmp false]) ⟨[], [], []⟩) 10 58 (some (some 0)) (tdF s b i p (.int .u8 (byR s i))) tdM [(byR s i == 46, false), (decide (dvB (byR s i) < b), false), (decide (0 ≤ byR s i ∧ byR s i < 256), true), (decide (0 ≤ i ∧ i.toNat < s.length), true), (decide (i < (s.length : Nat)), true)] := ⟨by kernel_rfl, by kernel_rfl, by kernel_rfl⟩
theorem td_s2 (s : List UInt8) (b i : Int) (v9 : Value) (g : Nat → Value) : GoesT (evC (tabOf Tryz.prog extY conTd true) 100 false (tdL Tryz.f31) (tdF s b i true v9 ++ tl 58 g, tdM, [cmp true, cmp false, cmp true]) ⟨[], [], []⟩) 10 58 (some (some 0)) (tdF s b i true (.int .u8 (byR s i))) tdM [(byR s i == 46, true), (decide (dvB (byR s i) < b), false), (decide (0 ≤ byR s i ∧ byR s i < 256), true), (decide (0 ≤ i ∧ i.toNat < s.length), true), (decide (i < (s.length : Nat)), true)] := ⟨by kernel_rfl, by kernel_rfl, by kernel_rfl⟩
/-- the digits, all of them -/
def alD (u : List UInt8) : List UInt8 := ctA u ++ ctB u
def tdK (u : List UInt8) : Int := IntKind.i64.wrap (((ctA u).length : Nat) - IntKind.i64.wrap (((alD u).length : Nat) - ((trZ (alD u)).length : Nat)))
theorem td_e (s : List UInt8) (b i : Int) (p : Bool) (v9 : Value) (d d' : Bool) (g : Nat → Value) : GoesT (evC (tabOf Tryz.prog extY conTd true) 100 false (tdE Tryz.f31) (tdF s b i p v9 ++ tl 58 g, tdM, [sam true, cmp d, sam true, sam true, sam d']) ⟨[], [], []⟩) 7 61 (some none) [bR s, .int .i64 b, undef, undef, pO 0, bR (s.drop i.toNat), .bool d'] ⟨2, [nuB b (nuD (alD (s.take i.toNat))) (tdK (s.take i.toNat)) 0, nuB b (nuD (alD (s.take i.toNat))) (tdK (s.take i.toNat)) 0]⟩ [lNe (alD (s.take i.toNat)) d', (decide (0 ≤ i ∧ i ≤ (s.length : Nat)), true), (true, true), (decide ((trZ (alD (s.take i.toNat))).length ≤ 100000), true), (true, true), (decide ((ctA (s.take i.toNat)).length + (ctB (s.take i.toNat)).length ≤ 9223372036854775807), true), (decide (0 ≤ Lib.indexByte (s.take i.toNat) 46), d), (true, true), (decide ((s.take i.toNat).length ≤ 100000), true), (decide (0 ≤ i ∧ i ≤ (s.length : Nat)), true)] := ⟨by kernel_rfl, by kernel_rfl, by kernel_rfl⟩
def tdJ (s : List UInt8) (b : Int) (E i : Nat) (y : Lf) : Prop := ∃ (p : Bool) (v9 : Value) (g : Nat → Value), i ≤ s.length ∧ E = i + en1 b p (s.drop i) ∧ y.1 = tdF s b i p v9 ++ tl 58 g ∧ y.2.1 = tdM
def tdO (s : List UInt8) (b : Int) (E : Nat) (y : Lf) : Prop := ∃ (p : Bool) (v9 : Value) (g : Nat → Value), E ≤ s.length ∧ y.1 = tdF s b E p v9 ++ tl 58 g ∧ y.2.1 = tdM
theorem td_round {s : List UInt8} {b : Int} {E : Nat} (h2 : s.length ≤ 100000) (r : Nat) (y : Lf) (h : ∃ i, r = s.length - i ∧ tdJ s b E i y) :
    Runs (tabOf Tryz.prog extY conTd true) (tdL Tryz.f31) y fun e z => match e with | none => ∃ r', r' < r ∧ ∃ i, r' = s.length - i ∧ tdJ s b E i z | some none => False | some (some id') => id' = 0 ∧ tdO s b E z := by
  have hT := tabY_ok conTd_ok
  obtain ⟨i, hr, p, v9, g, hi, hE, ht, hh⟩ := h
  obtain ⟨t, h', sc⟩ := y
  simp only at ht hh
  subst ht hh
  by_cases hc : i < s.length
  · have lA : decide (((i : Nat) : Int) < (s.length : Nat)) = true := decide_eq_true (by omega)
    have lI : decide ((0 : Int) ≤ (i : Nat) ∧ ((i : Nat) : Int).toNat < s.length) = true := decide_eq_true ⟨by omega, by rw [Int.toNat_natCast]; exact hc⟩
    have ew : IntKind.i64.wrap (((i : Nat) : Int) + 1) = ((i + 1 : Nat) : Int) := by rw [wrapI (by omega) (by omega)]; omega
    have ed := drop_get hc
    have eC : lq8 (s.getD i 0) = byR s (i : Nat) := by unfold lq8 byR; rw [Int.toNat_natCast]
    have lB := byR_bd s (i : Nat)
    rw [ed, en1, eC] at hE
    by_cases hd : dvB (byR s (i : Nat)) < b
    · rw [if_pos hd] at hE
      have hg := td_d s b (i : Nat) p v9 g
      rw [ew] at hg
      refine (goesT_runs (s0 := sc) hT hg (okCons (decide_eq_true hd) (okCons lB (okCons lI (okL1 lA))))).mono fun e z he => ?_
      obtain ⟨rfl, ⟨g', z1⟩, z2⟩ := he
      exact ⟨s.length - (i + 1), by omega, i + 1, rfl, p, _, g', by omega, by omega, z1, z2⟩
    · rw [if_neg hd] at hE
      have lD : decide (dvB (byR s (i : Nat)) < b) = false := decide_eq_false hd
      by_cases h46 : byR s (i : Nat) = 46
      · have l46 : (byR s (i : Nat) == 46) = true := by simpa using h46
        cases p with
        | false =>
          rw [if_pos ⟨h46, rfl⟩] at hE
          have hg := td_p s b (i : Nat) v9 g
          rw [ew] at hg
          refine (goesT_runs (s0 := sc) hT hg (okCons l46 (okCons lD (okCons lB (okCons lI (okL1 lA)))))).mono fun e z he => ?_
          obtain ⟨rfl, ⟨g', z1⟩, z2⟩ := he
          exact ⟨s.length - (i + 1), by omega, i + 1, rfl, true, _, g', by omega, by omega, z1, z2⟩
        | true =>
          rw [if_neg (fun h => by cases h.2)] at hE
          refine (goesT_runs (s0 := sc) hT (td_s2 s b (i : Nat) v9 g) (okCons l46 (okCons lD (okCons lB (okCons lI (okL1 lA)))))).mono fun e z he => ?_
          obtain ⟨rfl, ⟨g', z1⟩, z2⟩ := he
          have : E = i := by omega
          subst this
          exact ⟨rfl, true, _, g', hi, z1, z2⟩
      · rw [if_neg (fun h => h46 h.1)] at hE
        refine (goesT_runs (s0 := sc) hT (td_s1 s b (i : Nat) p v9 g) (okCons (by simpa using h46) (okCons lD (okCons lB (okCons lI (okL1 lA)))))).mono fun e z he => ?_
        obtain ⟨rfl, ⟨g', z1⟩, z2⟩ := he
        have : E = i := by omega
        subst this
        exact ⟨rfl, p, _, g', hi, z1, z2⟩
  · have es : s.drop i = [] := List.drop_eq_nil_of_le (by omega)
    rw [es] at hE
    have : E = i := hE
    subst this
    refine (goesT_runs (s0 := sc) hT (td_x s b (E : Nat) p v9 g) (okL1 (decide_eq_false (by omega)))).mono fun e z he => ?_
    obtain ⟨rfl, ⟨g', z1⟩, z2⟩ := he
    exact ⟨rfl, p, v9, g', hi, z1, z2⟩
/-- what takeDigits answers -/
def tdW (b : Int) (l : List UInt8) (d : Bool) : Value := .tuple #[.agg #[.int .i64 b, bR (nuD (sc1 b false l).1), .int .i64 (((trZ (sc1 b false l).1).length : Nat) - ((sc1 b false l).2.1 : Nat)), .int .i64 0], bR (sc1 b false l).2.2, .bool d]
theorem td_calls (s : List UInt8) (b : Int) (hb : b = 10 ∨ b = 16) (hs : s.length ≤ 100000) (w : World) : Calls Tryz.prog 31 #[bR s, .int .i64 b] w fun r w' => r = .returned (tdW b s (decide ((sc1 b false s).1 ≠ []))) ∧ Tidy w w' := by
  have hT := tabY_ok conTd_ok
  refine calls_of_runs (T := tabOf Tryz.prog extY conTd true) Tryz.func31 td_body (by rfl) (by rfl) ?_ w
  refine goesT_list hT (td_p1 s b) okN9R fun g => ?_
  refine Runs.scope ?_
  refine goesT_list hT (td_p2 s b g) okN9R fun g1 => ?_
  obtain ⟨E, hE⟩ : ∃ E, E = en1 b false s := ⟨_, rfl⟩
  have hEl := en1_le b false s
  rw [← hE] at hEl
  refine Runs.seq (P1 := fun e y => match e with | none => tdO s b E y | some none => False | some (some _) => False) ?_ ?_ ?_
  · have e0 : [bR s, .int .i64 b, undef, undef, pO 0, bR [], .bool false, .int .i64 0, .bool false] ++ tl 59 g1 = tdF s b 0 false (g1 0) ++ tl 58 (fun n => g1 (n + 1)) := by rfl
    rw [e0]
    exact Runs.forLoop (R := fun _ => False) (P := tdO s b E) (fun r y => ∃ i, r = s.length - i ∧ tdJ s b E i y) (td_round hs) (n := s.length - 0) ⟨0, rfl, false, _, _, Nat.zero_le _, by rw [hE, Nat.zero_add, List.drop_zero], rfl, rfl⟩
  · rintro ⟨t, hh, sc⟩ ⟨p, v9, g', hEs, e1, e2⟩
    simp only at e1 e2
    subst e1 e2
    have hS := sc1_false hb s
    rw [← hE] at hS
    obtain ⟨u, hu⟩ : ∃ u, u = s.take E := ⟨_, rfl⟩
    rw [← hu] at hS
    have lu : u.length ≤ 100000 := by rw [hu, List.length_take]; omega
    have la : (alD u).length = (ctA u).length + (ctB u).length := List.length_append
    have lz := trZ_len (alD u)
    have lA : (ctA u).length + (ctB u).length ≤ u.length := by
      unfold ctA ctB
      split
      · rw [List.length_take, List.length_drop]; omega
      · exact Nat.le_refl _
    have hg := td_e s b (E : Nat) p v9 (decide (0 ≤ Lib.indexByte u 46)) (decide (alD u ≠ [])) g'
    rw [Int.toNat_natCast, ← hu] at hg
    have ek : tdK u = ((trZ (alD u)).length : Nat) - ((ctB u).length : Nat) := by
      unfold tdK
      rw [wrapI (n := ((alD u).length : Nat) - ((trZ (alD u)).length : Nat)) (by omega) (by omega), wrapI (by omega) (by omega)]
      omega
    have lE : decide ((0 : Int) ≤ (E : Nat) ∧ ((E : Nat) : Int) ≤ (s.length : Nat)) = true := decide_eq_true ⟨by omega, by omega⟩
    refine (goesT_runs (s0 := sc) hT hg (okCons (ok_lNe rfl) (okCons lE (okCons rfl (okCons (decide_eq_true (by omega)) (okCons rfl (okCons (decide_eq_true (by omega)) (okCons rfl (okCons rfl (okCons (decide_eq_true lu) (okL1 lE))))))))))).mono fun e z he => ?_
    obtain ⟨rfl, ⟨g2, z1⟩, z2⟩ := he
    refine ⟨.inr rfl, ?_⟩
    rw [z1, z2, ek]
    unfold tdW
    rw [hS]
    rfl
  · rintro e y he
    match e, he with
    | none, he => exact he.elim
/-- the digits at a text's begin; told ahead whether there are some -/
def gTdR : Ans := fun vals s =>
  match vals, s with
  | [.string a, .int .i64 b], .inr (.inr (.inr (.inl d))) :: s' => some (tdW b a.data.toList d, s', [(decide ((sc1 b false a.data.toList).1 ≠ []), d), (decide ((b = 10 ∨ b = 16) ∧ a.data.toList.length ≤ 100000), true)])
  | _, _ => none
theorem gTdR_ok : AnsOk 31 gTdR := by
  intro vals s v s' lg h hl w
  unfold gTdR at h
  split at h
  · rename_i a b d s2
    cases h
    have h1 : decide ((sc1 b false a.data.toList).1 ≠ []) = d := hl _ List.mem_cons_self
    have h2 := of_decide_eq_true (hl _ (List.mem_cons_of_mem _ (List.mem_singleton.2 rfl)))
    have := td_calls a.data.toList b h2.1 h2.2 w
    rw [h1] at this
    exact this
  · cases h
end Go.Proofs.YtjlponbdflkbjaaGreatDoor
namespace Go.Proofs.YtjlponbdflkbjaaGreatDoor
open Go.KRun Go.Wd
def vW (x : W4) : Value := .agg #[.int .u64 x.a, .int .u64 x.b, .int .u64 x.c, .int .u64 x.d]
def w4 : Value → Option W4
  | .agg cs =>
    match cs.toList with
    | [.int .u64 a, .int .u64 b, .int .u64 c, .int .u64 d] => some ⟨a, b, c, d⟩
    | _ => none
  | _ => none
theorem w4_spec {v : Value} {x : W4} (h : w4 v = some x) : v = vW x := by
  unfold w4 at h
  split at h
  · rename_i cs
    split at h
    · rename_i a b c d hc
      cases h
      obtain ⟨l⟩ := cs
      simp only at hc
      subst hc
      rfl
    · cases h
  · cases h
/-- of two numbers -/
def g2 (k : W4 → W4 → List Dec → Option (Value × List Dec × Log)) : Ans := fun vals s =>
  match vals with
  | [x, y] =>
    match w4 x, w4 y with
    | some a, some b =>
      match k a b s with
      | some r => some (r.1, r.2.1, (decide (a.ok ∧ b.ok), true) :: r.2.2)
      | none => none
    | _, _ => none
  | _ => none
theorem g2_ok {f : Nat} {k : W4 → W4 → List Dec → Option (Value × List Dec × Log)}
    (hk : ∀ x y : W4, x.ok → y.ok → ∀ s v s' lg, k x y s = some (v, s', lg) → okLog lg → ∀ w, Calls Tryz.prog f #[vW x, vW y] w fun e w' => e = .returned v ∧ Tidy w w') : AnsOk f (g2 k) := by
  intro vals s v s' lg h hl w
  unfold g2 at h
  split at h
  · split at h
    · rename_i a b ha hb
      split at h
      · rename_i r hr
        cases h
        have h1 := hl _ (List.mem_cons_self)
        simp only [decide_eq_true_eq] at h1
        rw [w4_spec ha, w4_spec hb]
        exact hk a b h1.1 h1.2 s r.1 r.2.1 r.2.2 hr (fun p hp => hl p (List.mem_cons_of_mem _ hp)) w
      · cases h
    · cases h
  · cases h
/-- an answer that is told outright -/
def plain2 (k : W4 → W4 → Value) : W4 → W4 → List Dec → Option (Value × List Dec × Log) := fun x y s => some (k x y, s, [])
theorem plain2_ok {f : Nat} {k : W4 → W4 → Value} (hk : ∀ x y : W4, x.ok → y.ok → ∀ w, Calls Tryz.prog f #[vW x, vW y] w fun e w' => e = .returned (k x y) ∧ Tidy w w') : AnsOk f (g2 (plain2 k)) :=
  g2_ok fun x y hx hy s v s' lg h _ w => by
    unfold plain2 at h
    cases h
    exact hk x y hx hy w
/-! ### Add -/
def okA (x y c : Int) : Bool × Bool := (decide (0 ≤ x ∧ 0 ≤ y ∧ 0 ≤ c ∧ c ≤ 1), true)
theorem add_fits (x y : W4) : Fits (reckon (tabOf Tryz.prog extY conN true) 3000 73 [vW x, vW y] []) (.tuple #[vW (addR x y), .bool (addC x y != 0)])
    [okA x.d y.d (ca x.c y.c (ca x.b y.b (ca x.a y.a 0))), okA x.c y.c (ca x.b y.b (ca x.a y.a 0)), okA x.b y.b (ca x.a y.a 0), okA x.a y.a 0] := ⟨by kernel_rfl, by kernel_rfl, by kernel_rfl, by kernel_rfl⟩
def addV4 (x y : W4) : Value := .tuple #[vW (W4.of (x.val + y.val)), .bool (decide (115792089237316195423570985008687907853269984665640564039457584007913129639936 ≤ x.val + y.val))]
theorem add_calls (x y : W4) (hx : x.ok) (hy : y.ok) (w : World) : Calls Tryz.prog 73 #[vW x, vW y] w fun e w' => e = .returned (addV4 x y) ∧ Tidy w w' := by
  have h := fits_calls (tabY_ok conN_ok) (add_fits x y) (by
    obtain ⟨h1, h2, h3, h4⟩ := hx
    obtain ⟨k1, k2, k3, k4⟩ := hy
    have b1 : 0 ≤ ca x.a y.a 0 ∧ ca x.a y.a 0 ≤ 1 := by unfold ca; omega
    have b2 : 0 ≤ ca x.b y.b (ca x.a y.a 0) ∧ ca x.b y.b (ca x.a y.a 0) ≤ 1 := by generalize ca x.a y.a 0 = k at *; unfold ca; omega
    have b3 : 0 ≤ ca x.c y.c (ca x.b y.b (ca x.a y.a 0)) ∧ ca x.c y.c (ca x.b y.b (ca x.a y.a 0)) ≤ 1 := by generalize ca x.b y.b (ca x.a y.a 0) = k at *; unfold ca; omega
    intro p hp
    simp only [List.mem_cons, List.not_mem_nil, or_false] at hp
    rcases hp with rfl | rfl | rfl | rfl <;> simp only [okA, decide_eq_true_eq] <;> omega) (by rfl) (by rfl) w
  rw [addR_eq hx hy, addC_eq hx hy] at h
  exact h
end Go.Proofs.YtjlponbdflkbjaaGreatDoor
