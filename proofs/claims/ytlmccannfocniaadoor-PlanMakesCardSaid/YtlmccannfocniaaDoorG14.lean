/-
  PlT
-/
import Derived.Test.YtlmccannfocniaaDoorG13
import Derived.Lib.LaidU8
namespace Go.Proofs.YtlmccannfocniaaDoor
open Go.KRun Go.RowKit Go.ChangeShapes Go.Lib
set_option maxRecDepth 100000
theorem trod_len {H : Type} {enc : TypeId × Value → H} {P : Program} {w : World} {base : Nat} {sp : Nat → Bool} {held : Bool} {fuel : Nat} {t e : TypeId} {n : Nat} {cs : List Value} {d : DataW H} {p : List MemPlace} (ht : P.underlying t = some (.array n e)) (h : DataW.trod enc P w base sp held fuel t cs = some (d, p)) : cs.length = P.cellsOf t := by
  cases fuel with
  | zero => simp [DataW.trod] at h
  | succ fuel =>
    simp only [DataW.trod, ht] at h
    split at h
    · assumption
    · cases h
def rdD : DataW Unit := .agg [.agg ([4, 12].map fun z => .lit (.int .i64 z)), .agg ([2, 8].map fun z => .lit (.int .i64 z)), .agg ([3, 33].map fun z => .lit (.int .i64 z)), .agg ([5, 65].map fun z => .lit (.int .i64 z)), .agg ([7, 105].map fun z => .lit (.int .i64 z)), .agg ([11, 209].map fun z => .lit (.int .i64 z)), .agg ([13, 273].map fun z => .lit (.int .i64 z))]
theorem knR_laid {l : List (String × DataW Unit)} {W : World} (h : laidMet Tryd.prog l W) {n : String} {d : DataW Unit} (hm : (n, d) ∈ l) (hn : Tryd.prog.globalNamed n = some 0) (hd : d = rdD) : knR W := by
  obtain ⟨ps, hl, _⟩ := h
  obtain ⟨g, t, cs, fuel, p, h1, h2, h3, h4⟩ := laidV hl hm
  obtain rfl := Option.some.inj (hn.symm.trans h1)
  have ht : (Tryd.prog.globals[0]?).map (·.type) = some 65 := by kernel_rfl
  obtain rfl := Option.some.inj (ht.symm.trans h2)
  rw [hd] at h4
  have c1 : Tryd.prog.cellsOf 64 = 2 := by kernel_rfl
  have hlen := trod_len Tryd.underlying65 h4
  rw [show Tryd.prog.cellsOf 65 = 14 from by kernel_rfl] at hlen
  have el : ∀ (i : Nat) (a b : Int), i < 7 → ([DataW.agg ([4, 12].map fun z => .lit (.int .i64 z)), .agg ([2, 8].map fun z => .lit (.int .i64 z)), .agg ([3, 33].map fun z => .lit (.int .i64 z)), .agg ([5, 65].map fun z => .lit (.int .i64 z)), .agg ([7, 105].map fun z => .lit (.int .i64 z)), .agg ([11, 209].map fun z => .lit (.int .i64 z)), .agg ([13, 273].map fun z => .lit (.int .i64 z))] : List (DataW Unit))[i]? = some (.agg ([a, b].map fun z => .lit (.int .i64 z))) → ((cs.toList.drop (i * 2)).take 2) = [.int .i64 a, .int .i64 b] := by
    intro i a b hi hab
    obtain ⟨fuel', d', q, hd', htr⟩ := array_elem Tryd.underlying65 h4 i hi
    rw [hab] at hd'
    obtain rfl := Option.some.inj hd'
    rw [c1] at htr
    exact ints_of_struct Tryd.underlying64 (fun i f hf => by
      match i, hf with
      | 0, hf => cases hf; exact ⟨by kernel_rfl, rfl, by kernel_rfl⟩
      | 1, hf => cases hf; exact ⟨by kernel_rfl, rfl, by kernel_rfl⟩
      | i + 2, hf => simp at hf) (by kernel_rfl) htr
  have hcs : cs.toList = rdV := by
    have e0 := el 0 4 12 (by decide) rfl
    have e1 := el 1 2 8 (by decide) rfl
    have e2 := el 2 3 33 (by decide) rfl
    have e3 := el 3 5 65 (by decide) rfl
    have e4 := el 4 7 105 (by decide) rfl
    have e5 := el 5 11 209 (by decide) rfl
    have e6 := el 6 13 273 (by decide) rfl
    generalize cs.toList = l at *
    clear el h4 h3
    match l, hlen with
    | [x0, x1, x2, x3, x4, x5, x6, x7, x8, x9, x10, x11, x12, x13], _ =>
      simp only [Nat.zero_mul, List.drop_zero, List.take_succ_cons, List.take_zero, List.cons.injEq, and_true, Nat.one_mul, List.drop_succ_cons, Nat.reduceMul] at e0 e1 e2 e3 e4 e5 e6
      obtain ⟨rfl, rfl⟩ := e0
      obtain ⟨rfl, rfl⟩ := e1
      obtain ⟨rfl, rfl⟩ := e2
      obtain ⟨rfl, rfl⟩ := e3
      obtain ⟨rfl, rfl⟩ := e4
      obtain ⟨rfl, rfl⟩ := e5
      obtain ⟨rfl, rfl⟩ := e6
      rfl
  unfold World.var? at h3
  rw [hn] at h3
  simp only [Option.bind_some] at h3
  split at h3
  · rename_i c e z hb
    cases h3
    refine ⟨e, z, ?_⟩
    rw [hb]
    congr 2
    apply Array.toList_inj.1
    rw [hcs]
  · cases h3
end Go.Proofs.YtlmccannfocniaaDoor
