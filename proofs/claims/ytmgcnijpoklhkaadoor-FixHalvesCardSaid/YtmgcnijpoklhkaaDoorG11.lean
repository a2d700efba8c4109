/-
  Asn, AsNum, RunK, Row, Flat
-/
import Derived.WalkKit
import Derived.LaidEql
import Derived.Stop.Asserts
import Derived.RowKitTokens
import Derived.Test.YtmgcnijpoklhkaaDoorG10
import Derived.ProofKit
import Derived.OpenShut
import Derived.Laws.IdiomArrays
import Derived.Lib.SmallJoins
namespace Go.Proofs.YtmgcnijpoklhkaaDoor
open Go.RowKit Go.Extern.Stop Go.Stop Go.Extern
/-! ### what the model's entries for internal/reflectlite answer at these types -/
theorem as_valueOfP (t : Addr) (w : World) : (ReflectliteValue.unpack (.iface 67 (.pointer (some t)))).run Tryd.prog w
    = .ok (.agg #[.pointer (some ⟨3, 67, none⟩), .pointer (some ⟨w.heap.size, 0, none⟩), .int .u64 150]) (w.alloc (.cells #[.pointer (some t)] 67)) := by kernel_rfl
theorem as_typeP (a : Addr) (w : World) : (ReflectliteValue.methodAny (ReflectliteValue.valueError "reflectlite.Value.Type" 0) (fun t _ _ _ => ReflectliteType.toType t) #[.agg #[.pointer (some ⟨3, 67, none⟩), .pointer (some a), .int .u64 150]]).run Tryd.prog w
    = .ok (.iface 101 (.agg #[.pointer (some ⟨3, 67, none⟩)])) w := by kernel_rfl
theorem as_methodKind (h : Value) (w : World) : (Go.method 247 101 (.agg #[h]) "Kind").run Tryd.prog w = .ok (84, h) w := by kernel_rfl
theorem as_kindP (w : World) : ((ReflectliteType.abiMethod fun t => (fun a : Nat => Value.int IntKind.u8 (a : Int)) <$> Rtype.kind t) #[.pointer (some ⟨3, 67, none⟩)]).run Tryd.prog w = .ok (.int .u8 22) w := by kernel_rfl
theorem as_kindE (w : World) : ((ReflectliteType.abiMethod fun t => (fun a : Nat => Value.int IntKind.u8 (a : Int)) <$> Rtype.kind t) #[.pointer (some ⟨3, 57, none⟩)]).run Tryd.prog w = .ok (.int .u8 2) w := by kernel_rfl
theorem as_rlm (z : Sem Value) (f : TypeId → Addr → Nat → Nat → Sem Value) (v : Value) :
    ReflectliteValue.method z f #[v] = (do match ← ReflectliteValue.parts v with | none => z | some (t, a, fl) => f t a fl (fl % 32)) := rfl
theorem as_partsP (a : Addr) (w : World) : (ReflectliteValue.parts (.agg #[.pointer (some ⟨3, 67, none⟩), .pointer (some a), .int .u64 150])).run Tryd.prog w = .ok (some (67, a, 150)) w := by kernel_rfl
theorem as_isNilP (a p : Addr) (W : World) (ha : W.cell? a = some (.pointer (some p))) :
    (ReflectliteValue.method (ReflectliteValue.valueError "reflectlite.Value.IsNil" 0) ReflectliteValue.isNil #[.agg #[.pointer (some ⟨3, 67, none⟩), .pointer (some a), .int .u64 150]]).run Tryd.prog W = .ok (.bool false) W := by
  rw [as_rlm]
  simp only [Sem.run_bind, as_partsP, Result.andThen]
  simp [ReflectliteValue.isNil, loadVar, isAgg, underlying, Tryd.underlying67, ha, Result.andThen]
theorem as_methodElem (h : Value) (w : World) : (Go.method 247 101 (.agg #[h]) "Elem").run Tryd.prog w = .ok (94, .agg #[h]) w := by kernel_rfl
theorem as_methodImplements (h : Value) (w : World) : (Go.method 247 101 (.agg #[h]) "Implements").run Tryd.prog w = .ok (95, .agg #[h]) w := by kernel_rfl
theorem as_methodAssignableTo (h : Value) (w : World) : (Go.method 247 101 (.agg #[h]) "AssignableTo").run Tryd.prog w = .ok (92, .agg #[h]) w := by kernel_rfl
theorem as_elemP (w : World) : (ReflectliteType.method ReflectliteType.elem #[.agg #[.pointer (some ⟨3, 67, none⟩)]]).run Tryd.prog w = .ok (.iface 101 (.agg #[.pointer (some ⟨3, 57, none⟩)])) w := by kernel_rfl
theorem as_implementsE (w : World) : (ReflectliteType.relation "Implements" ReflectliteType.implements_ #[.agg #[.pointer (some ⟨3, 57, none⟩)], .iface 101 (.agg #[.pointer (some ⟨3, 26, none⟩)])]).run Tryd.prog w = .ok (.bool true) w := by kernel_rfl
theorem as_typeOfE (v : Value) (w : World) : (ReflectliteType.typeOf #[.iface 57 v]).run Tryd.prog w = .ok (.iface 101 (.agg #[.pointer (some ⟨3, 57, none⟩)])) w := by kernel_rfl
theorem as_assignableE (w : World) : (ReflectliteType.relation "AssignableTo" ReflectliteType.assignableTo #[.agg #[.pointer (some ⟨3, 57, none⟩)], .iface 101 (.agg #[.pointer (some ⟨3, 57, none⟩)])]).run Tryd.prog w = .ok (.bool true) w := by kernel_rfl
theorem as_valueOfE (n : Int) (w : World) : (ReflectliteValue.unpack (.iface 57 (.int .i64 n))).run Tryd.prog w
    = .ok (.agg #[.pointer (some ⟨3, 57, none⟩), .pointer (some ⟨w.heap.size, 0, none⟩), .int .u64 130]) (w.alloc (.cells #[.int .i64 n] 57)) := by kernel_rfl
theorem as_elemOfP (w : World) : (Rtype.elem? 67).run Tryd.prog w = .ok (some 57) w := by kernel_rfl
theorem as_mkE (p : Addr) (w : World) : (ReflectliteValue.mk 57 p ReflectliteValue.flagAddr).run Tryd.prog w = .ok (.agg #[.pointer (some ⟨3, 57, none⟩), .pointer (some p), .int .u64 386]) w := by kernel_rfl
theorem as_elemVP (a p : Addr) (W : World) (ha : W.cell? a = some (.pointer (some p))) :
    (ReflectliteValue.method (ReflectliteValue.valueError "reflectlite.Value.Elem" 0) ReflectliteValue.elem #[.agg #[.pointer (some ⟨3, 67, none⟩), .pointer (some a), .int .u64 150]]).run Tryd.prog W
      = .ok (.agg #[.pointer (some ⟨3, 57, none⟩), .pointer (some p), .int .u64 386]) W := by
  rw [as_rlm]
  simp only [Sem.run_bind, as_partsP, Result.andThen]
  simp [ReflectliteValue.elem, loadVar, isAgg, underlying, Tryd.underlying67, ha, Result.andThen, as_elemOfP, as_mkE]
theorem as_partsEa (a : Addr) (w : World) : (ReflectliteValue.parts (.agg #[.pointer (some ⟨3, 57, none⟩), .pointer (some a), .int .u64 386])).run Tryd.prog w = .ok (some (57, a, 386)) w := by kernel_rfl
theorem as_partsE (a : Addr) (w : World) : (ReflectliteValue.parts (.agg #[.pointer (some ⟨3, 57, none⟩), .pointer (some a), .int .u64 130])).run Tryd.prog w = .ok (some (57, a, 130)) w := by kernel_rfl
theorem as_directE (w : World) : (Rtype.directlyAssignable 57 57).run Tryd.prog w = .ok true w := by kernel_rfl
theorem as_setE (ta b : Addr) (n : Int) (old : Value) (W : World) (hb : W.cell? b = some (.int .i64 n)) (ht : W.cell? ta = some old) (hf : W.frozen? ta = false) :
    (ReflectliteValue.set #[.agg #[.pointer (some ⟨3, 57, none⟩), .pointer (some ta), .int .u64 386], .agg #[.pointer (some ⟨3, 57, none⟩), .pointer (some b), .int .u64 130]]).run Tryd.prog W
      = .ok (.tuple #[]) (W.setCell ta (.int .i64 n)) := by
  have e : ∀ v x : Value, ReflectliteValue.set #[v, x] = (ReflectliteValue.parts v >>= fun p => ReflectliteValue.parts x >>= fun q => _) := fun _ _ => rfl
  rw [e]
  simp only [Sem.run_bind, as_partsEa, as_partsE, Result.andThen]
  simp [ReflectliteValue.flagAddr, loadVar, isAgg, underlying, Tryd.underlying57, hb, Result.andThen, as_directE, storeVar, Value.cells, storeCells, Addr.add]
  rw [run_store Tryd.prog W ta _ _ (by rfl)]
  simp [ht, hf]
/-- what lies in the variable errors.errorType -/
def errT : Value := .iface 101 (.agg #[.pointer (some ⟨3, 26, none⟩)])
/-- the world behind the call -/
def asW (n : Int) (t : Addr) (w : World) : World := ((((w.alloc (.cells #[.pointer (some t)] 67)).alloc (.cells #[.pointer (some ⟨3, 67, none⟩), .pointer (some ⟨w.heap.size, 0, none⟩), .int .u64 150] 85)).alloc (.cells #[.pointer (some ⟨3, 67, none⟩), .pointer (some ⟨w.heap.size, 0, none⟩), .int .u64 150] 85)).alloc (.cells #[.int .i64 n] 57)).setCell t (.int .i64 n)
set_option maxHeartbeats 4000000 in
theorem as_hit (n : Int) (t : Addr) (old : Value) (w : World) (hg : w.cell? ⟨0, 0, none⟩ = some (.iface 101 (.agg #[.pointer (some ⟨3, 26, none⟩)]))) (ht0 : w.cell? t = some old) (hf0 : w.frozen? t = false) :
    Calls Tryd.prog 37 #[.iface 57 (.int .i64 n), .iface 67 (.pointer (some t))] w fun ev w' => ev = .returned (.bool true) ∧ w' = ((((w.alloc (.cells #[.pointer (some t)] 67)).alloc (.cells #[.pointer (some ⟨3, 67, none⟩), .pointer (some ⟨w.heap.size, 0, none⟩), .int .u64 150] 85)).alloc (.cells #[.pointer (some ⟨3, 67, none⟩), .pointer (some ⟨w.heap.size, 0, none⟩), .int .u64 150] 85)).alloc (.cells #[.int .i64 n] 57)).setCell t (.int .i64 n) := by
  have h6 := @run_callFunc_extern Tryd.prog 51 _ (fun args => ReflectliteValue.unpack (args.getD 0 (.tuple #[]))) Tryd.func51 (by kernel_rfl) (by kernel_rfl) (by kernel_rfl) (by kernel_rfl)
  have h7 := @run_callFunc_extern Tryd.prog 52 _ (ReflectliteValue.methodAny (ReflectliteValue.valueError "reflectlite.Value.Type" 0) (fun t _ _ _ => ReflectliteType.toType t)) Tryd.func52 (by kernel_rfl) (by kernel_rfl) (by kernel_rfl) (by kernel_rfl)
  have h8 := @run_callFunc_extern Tryd.prog 53 _ (ReflectliteValue.method (ReflectliteValue.valueError "reflectlite.Value.IsNil" 0) ReflectliteValue.isNil) Tryd.func53 (by kernel_rfl) (by kernel_rfl) (by kernel_rfl) (by kernel_rfl)
  have h27 := @run_callFunc_extern Tryd.prog 84 _ (ReflectliteType.abiMethod fun t => do pure (.int .u8 (← Rtype.kind t))) Tryd.func84 (by kernel_rfl) (by kernel_rfl) (by kernel_rfl) (by kernel_rfl)
  have h37 := @run_callFunc_extern Tryd.prog 94 _ (ReflectliteType.method ReflectliteType.elem) Tryd.func94 (by kernel_rfl) (by kernel_rfl) (by kernel_rfl) (by kernel_rfl)
  have h38 := @run_callFunc_extern Tryd.prog 95 _ (ReflectliteType.relation "Implements" ReflectliteType.implements_) Tryd.func95 (by kernel_rfl) (by kernel_rfl) (by kernel_rfl) (by kernel_rfl)
  have h10 := @run_callFunc_extern Tryd.prog 64 _ ReflectliteType.typeOf Tryd.func64 (by kernel_rfl) (by kernel_rfl) (by kernel_rfl) (by kernel_rfl)
  have h35 := @run_callFunc_extern Tryd.prog 92 _ (ReflectliteType.relation "AssignableTo" ReflectliteType.assignableTo) Tryd.func92 (by kernel_rfl) (by kernel_rfl) (by kernel_rfl) (by kernel_rfl)
  have h11 := @run_callFunc_extern Tryd.prog 65 _ (ReflectliteValue.method (ReflectliteValue.valueError "reflectlite.Value.Elem" 0) ReflectliteValue.elem) Tryd.func65 (by kernel_rfl) (by kernel_rfl) (by kernel_rfl) (by kernel_rfl)
  have h12 := @run_callFunc_extern Tryd.prog 66 _ ReflectliteValue.set Tryd.func66 (by kernel_rfl) (by kernel_rfl) (by kernel_rfl) (by kernel_rfl)
  have tO := as_typeOfE
  have mA := as_methodAssignableTo
  have aE := as_assignableE
  have vE := as_valueOfE
  have f6 := as_valueOfP
  have f7 := as_typeP
  have mK := as_methodKind
  have mE := as_methodElem
  have mI := as_methodImplements
  have kP := as_kindP
  have kE := as_kindE
  have eP := as_elemP
  have iE := as_implementsE
  have n8 := as_isNilP ⟨w.heap.size, 0, none⟩ t ((w.alloc (.cells #[.pointer (some t)] 67)).alloc (.cells #[.pointer (some ⟨3, 67, none⟩), .pointer (some ⟨w.heap.size, 0, none⟩), .int .u64 150] 85)) (by simp)
  have hlt : 0 < w.heap.size := by
    rcases Nat.eq_zero_or_pos w.heap.size with h0 | h
    · simp [World.cell?, h0] at hg
    · exact h
  have hg2 : ((w.alloc (.cells #[.pointer (some t)] 67)).alloc (.cells #[.pointer (some ⟨3, 67, none⟩), .pointer (some ⟨w.heap.size, 0, none⟩), .int .u64 150] 85)).cell? ⟨0, 0, none⟩ = some (.iface 101 (.agg #[.pointer (some ⟨3, 26, none⟩)])) := by
    rw [World.cell?_alloc_lt _ _ ⟨0, 0, none⟩ (by simp), World.cell?_alloc_lt _ _ ⟨0, 0, none⟩ hlt]; exact hg
  have htl : t.block < w.heap.size := by
    rcases Nat.lt_or_ge t.block w.heap.size with h | h
    · exact h
    · simp [World.cell?, Array.getElem?_eq_none h] at ht0
  have el := as_elemVP ⟨w.heap.size, 0, none⟩ t (((w.alloc (.cells #[.pointer (some t)] 67)).alloc (.cells #[.pointer (some ⟨3, 67, none⟩), .pointer (some ⟨w.heap.size, 0, none⟩), .int .u64 150] 85)).alloc (.cells #[.pointer (some ⟨3, 67, none⟩), .pointer (some ⟨w.heap.size, 0, none⟩), .int .u64 150] 85)) (by rw [World.cell?_alloc_lt _ _ ⟨w.heap.size, 0, none⟩ (by simp; omega)]; simp)
  have st := as_setE t ⟨w.heap.size + 1 + 1 + 1, 0, none⟩ n old ((((w.alloc (.cells #[.pointer (some t)] 67)).alloc (.cells #[.pointer (some ⟨3, 67, none⟩), .pointer (some ⟨w.heap.size, 0, none⟩), .int .u64 150] 85)).alloc (.cells #[.pointer (some ⟨3, 67, none⟩), .pointer (some ⟨w.heap.size, 0, none⟩), .int .u64 150] 85)).alloc (.cells #[.int .i64 n] 57))
    (by rw [World.cell?_alloc_at _ _ _ _ (by simp)]; rfl)
    (by rw [World.cell?_alloc_lt _ _ t (by simp; omega), World.cell?_alloc_lt _ _ t (by simp; omega), World.cell?_alloc_lt _ _ t (by simp; omega), World.cell?_alloc_lt _ _ t htl]; exact ht0)
    (by rw [World.frozen?_alloc_old _ _ t (by simp; omega), World.frozen?_alloc_old _ _ t (by simp; omega), World.frozen?_alloc_old _ _ t (by simp; omega), World.frozen?_alloc_old _ _ t (Nat.ne_of_lt htl)]; exact hf0)
  go_enter Tryd.func37, Tryd.ntmps37
  go_wp2
  refine wp_loop_rounds 1 ?_
  rw [rounds_succ]
  go_wp2
  go_ret
  exact ⟨rfl, rfl⟩
end Go.Proofs.YtmgcnijpoklhkaaDoor
namespace Go.Proofs.YtmgcnijpoklhkaaDoor
open Go.KRun Go.RowKit
set_option maxRecDepth 100000
def known (w : World) : Prop := w.cell? ⟨0, 0, none⟩ = some errT
set_option maxHeartbeats 4000000 in
theorem num_calls (n : Int) (w : World) (hg : known w) : Calls Tryd.prog 10 #[.iface 57 (.int .i64 n)] w fun e w' => e = .returned (.int .i64 n) ∧ Tidy w w' := by
  have hlt : 0 < w.heap.size := by
    rcases Nat.eq_zero_or_pos w.heap.size with h0 | h
    · unfold known at hg
      simp [World.cell?, h0] at hg
    · exact h
  have hg1 : (w.alloc (.cells #[.int .i64 0] 57)).cell? ⟨0, 0, none⟩ = some errT := by
    rw [World.cell?_alloc_lt _ _ ⟨0, 0, none⟩ hlt]; exact hg
  have ht1 : (w.alloc (.cells #[.int .i64 0] 57)).cell? ⟨w.heap.size, 0, none⟩ = some (.int .i64 0) := by simp
  have hf1 : (w.alloc (.cells #[.int .i64 0] 57)).frozen? ⟨w.heap.size, 0, none⟩ = false := by simp
  have hit := as_hit n ⟨w.heap.size, 0, none⟩ (.int .i64 0) _ hg1 ht1 hf1
  have hb : (w.alloc (.cells #[.int .i64 0] 57)).heap[w.heap.size]? = some (.cells #[.int .i64 0] 57 (0, 0)) := heap_alloc_at w _
  have hcell : (asW n ⟨w.heap.size, 0, none⟩ (w.alloc (.cells #[.int .i64 0] 57))).cell? ⟨w.heap.size, 0, none⟩ = some (.int .i64 n) ∧ Tidy w (asW n ⟨w.heap.size, 0, none⟩ (w.alloc (.cells #[.int .i64 0] 57))) := by
    unfold asW
    have t1 := tidy_alloc w #[.int .i64 0] 57
    generalize hw1 : w.alloc (.cells #[.int .i64 0] 57) = w1 at *
    have s1 : w.heap.size < w1.heap.size := by rw [← hw1, size_alloc']; omega
    have t2 := tidy_alloc w1 #[.pointer (some ⟨w.heap.size, 0, none⟩)] 67
    have q2 := heap_alloc_ne w1 (.cells #[.pointer (some ⟨w.heap.size, 0, none⟩)] 67) w.heap.size (by omega)
    have s2 := size_alloc' w1 (.cells #[.pointer (some ⟨w.heap.size, 0, none⟩)] 67)
    generalize w1.alloc (.cells #[.pointer (some ⟨w.heap.size, 0, none⟩)] 67) = w2 at *
    have t3 := tidy_alloc w2 #[.pointer (some ⟨3, 67, none⟩), .pointer (some ⟨w1.heap.size, 0, none⟩), .int .u64 150] 85
    have q3 := heap_alloc_ne w2 (.cells #[.pointer (some ⟨3, 67, none⟩), .pointer (some ⟨w1.heap.size, 0, none⟩), .int .u64 150] 85) w.heap.size (by omega)
    have s3 := size_alloc' w2 (.cells #[.pointer (some ⟨3, 67, none⟩), .pointer (some ⟨w1.heap.size, 0, none⟩), .int .u64 150] 85)
    generalize w2.alloc (.cells #[.pointer (some ⟨3, 67, none⟩), .pointer (some ⟨w1.heap.size, 0, none⟩), .int .u64 150] 85) = w3 at *
    have t4 := tidy_alloc w3 #[.pointer (some ⟨3, 67, none⟩), .pointer (some ⟨w1.heap.size, 0, none⟩), .int .u64 150] 85
    have q4 := heap_alloc_ne w3 (.cells #[.pointer (some ⟨3, 67, none⟩), .pointer (some ⟨w1.heap.size, 0, none⟩), .int .u64 150] 85) w.heap.size (by omega)
    have s4 := size_alloc' w3 (.cells #[.pointer (some ⟨3, 67, none⟩), .pointer (some ⟨w1.heap.size, 0, none⟩), .int .u64 150] 85)
    generalize w3.alloc (.cells #[.pointer (some ⟨3, 67, none⟩), .pointer (some ⟨w1.heap.size, 0, none⟩), .int .u64 150] 85) = w4 at *
    have t5 := tidy_alloc w4 #[.int .i64 n] 57
    have q5 := heap_alloc_ne w4 (.cells #[.int .i64 n] 57) w.heap.size (by omega)
    generalize w4.alloc (.cells #[.int .i64 n] 57) = w5 at *
    have hb5 : w5.heap[w.heap.size]? = some (.cells #[.int .i64 0] 57 (0, 0)) := by rw [q5, q4, q3, q2]; exact hb
    exact ⟨cell_of_one (one_setCell hb5), tidy_setCell (tidy_trans t1 (tidy_trans t2 (tidy_trans t3 (tidy_trans t4 t5)))) (Nat.le_refl _) hb5 _⟩
  obtain ⟨W', hc1, hc2, hit'⟩ : ∃ W' : World, W'.cell? ⟨w.heap.size, 0, none⟩ = some (.int .i64 n) ∧ Tidy w W' ∧ Calls Tryd.prog 37 #[.iface 57 (.int .i64 n), .iface 67 (.pointer (some ⟨w.heap.size, 0, none⟩))] (w.alloc (.cells #[.int .i64 0] 57)) fun ev w' => ev = .returned (.bool true) ∧ w' = W' := ⟨_, hcell.1, hcell.2, hit⟩
  clear hit hcell hb hf1 ht1 hg1 hlt hg
  go_enter Tryd.func10, Tryd.ntmps10
  go_wp2_with (go_at_call 37; refine hit'.mono ?_; rintro e w' ⟨rfl, rfl⟩)
  go_ret
  exact ⟨rfl, hc2⟩
def eqA : List Value → Bool
  | [.pointer (some ⟨g, e, none⟩)] => Nat.beq g 3 && Nat.beq e 26
  | _ => false
def eqE : Value → Bool
  | .iface r (.agg a) => Nat.beq r 101 && eqA a.toList
  | _ => false
def kOk : List Value → Bool
  | [.iface d v] => Nat.beq d dead && eqE v
  | _ => false
def kV : List Value := [.iface dead errT]
def kT : TypeId := 3 * dead
theorem eqE_spec {v : Value} (h : eqE v = true) : v = errT := by
  unfold eqE at h
  split at h
  · rename_i r a
    simp only [Bool.and_eq_true] at h
    obtain ⟨h1, h2⟩ := h
    have h1 := Nat.eq_of_beq_eq_true h1
    unfold eqA at h2
    split at h2
    · rename_i g e ha
      simp only [Bool.and_eq_true] at h2
      have h3 := Nat.eq_of_beq_eq_true h2.1
      have h4 := Nat.eq_of_beq_eq_true h2.2
      have ea : a = #[.pointer (some ⟨g, e, none⟩)] := by
        apply Array.toList_inj.1
        rw [ha]
      rw [ea, h1, h3, h4]
      rfl
    · cases h2
  · cases h
theorem kOk_spec {cs : List Value} (h : kOk cs = true) : cs = kV := by
  unfold kOk at h
  split at h
  · rename_i d v
    simp only [Bool.and_eq_true] at h
    rw [Nat.eq_of_beq_eq_true h.1, eqE_spec h.2]
    rfl
  · cases h
def gNum : AnsH := fun vals h s =>
  match vals, h.blk? 0 with
  | [.iface t (.int .i64 n)], some (cs, ty) => some (.int .i64 n, h, s, [(Nat.beq t 57 && Nat.beq ty kT && kOk cs, true)])
  | _, _ => none
theorem known_of_blk {w : World} {r : List Value} {t : TypeId} {z : Nat × Nat} (h : w.heap[0]? = some (.cells (errT :: r).toArray t z)) : known w := by
  unfold known World.cell?
  simp [h]
theorem gNum_ok : AnsHOk 10 gNum := by
  intro vals h s v h' s' lg hg hl m B w E hv
  unfold gNum at hg
  split at hg
  · rename_i t n cs ty hb
    cases hg
    have h1 := hl _ (List.mem_singleton.2 rfl)
    simp only [Bool.and_eq_true] at h1
    obtain ⟨⟨e1, e2⟩, e3⟩ := h1
    have e1 := Nat.eq_of_beq_eq_true e1
    have e2 := Nat.eq_of_beq_eq_true e2
    have e3 := kOk_spec e3
    subst e1 e2 e3
    obtain ⟨_, r, t', z, k2, _⟩ := E.abs 0 _ hb (by kernel_rfl)
    have hk : known w := known_of_blk (r := r) (t := t') (z := z) (by
      have e4 : kV.map (mv1 m) = [errT] := by rfl
      have e5 : nbA kT = 0 := by kernel_rfl
      rw [e4] at k2
      simp only [e5] at k2
      exact k2)
    refine (num_calls n w hk).mono fun e w' he => ?_
    obtain ⟨E', hb'⟩ := clean_emb E he.2
    exact ⟨m, he.1, ⟨Agree.refl _ _, E', hb', Nat.le_refl _, rfl⟩⟩
  · cases hg
def hK : Hp := ⟨1, [(kV, kT)]⟩
theorem blkK {b : Nat} {x : List Value × TypeId} (h : hK.blk? b = some x) : x = (kV, kT) := by
  have hb0 : b = 0 := by have : b < 1 := Hp.blk_lt h; omega
  subst hb0
  exact (Option.some.inj h).symm
theorem startK {w : World} (hk : known w) : Emb (fun b => (b, 0)) w.heap.size hK w where
  len := rfl
  lies := fun b x hb hx => by rw [blkK hb, show tomb kT = true from by kernel_rfl] at hx; cases hx
  low := fun b x hb hx => by rw [blkK hb, show ro kT = true from by kernel_rfl] at hx; cases hx
  ros := fun b x hb hx => by rw [blkK hb, show tomb kT = true from by kernel_rfl] at hx; cases hx
  inj := fun b b' x x' hb _ hx => by rw [blkK hb, show ro kT = true from by kernel_rfl] at hx; cases hx
  wf := fun b x hb v hv => by
    rw [blkK hb] at hv
    rw [List.mem_singleton.1 hv]
    rfl
  base := Nat.le_refl _
  ice := fun k h1 h2 => by omega
  abs := fun b x hb _ => by
    rw [blkK hb]
    have e5 : nbA kT = 0 := by kernel_rfl
    have e6 : lnA kT = 0 := by kernel_rfl
    have e4 : kV.map (mv1 fun b => (b, 0)) = [errT] := by rfl
    unfold absR
    simp only [e5, e4, e6]
    unfold known World.cell? at hk
    simp only at hk
    cases h0 : w.heap[0]? with
    | none => rw [h0] at hk; simp at hk
    | some o =>
      have hlt := (Array.getElem?_eq_some_iff.1 h0).1
      rw [h0] at hk
      cases o with
      | cells c t z =>
        refine ⟨hlt, c.toList.drop 1, t, z, ?_, .inl trivial⟩
        have hc : c.toList[0]? = some errT := by simpa using hk
        have : [errT] ++ c.toList.drop 1 = c.toList := by
          cases hl : c.toList with
          | nil => rw [hl] at hc; simp at hc
          | cons a l =>
            rw [hl] at hc
            simp at hc
            simp [hc]
        rw [this]
      | _ => simp at hk
end Go.Proofs.YtmgcnijpoklhkaaDoor
namespace Go.KRun
open Go.RowKit
def reckonAt (T : Tab) (h0 : Hp) (n : Nat) (f : Nat) (vals : List Value) (s : List Dec) : Option (Value × Hp × List Dec × Lg) := callBy T (evC T n false) f vals h0 s ⟨[], [], []⟩
theorem fitsAt_calls {T : Tab} (hT : TabOk T) {h0 : Hp} {n f : Nat} {vals : List Value} {s : List Dec} {v : Value} {cs : Log} (hF : Fits (reckonAt T h0 n f vals s) v cs) (hcs : okLog cs) (hvals : (vals.all (lt h0.n)) = true) (hv : lt 0 v = true) {m : Mp} {w : World} (E : Emb m w.heap.size h0 w) :
    Calls T.P f (vals.map (mv m)).toArray w fun e w' => e = .returned v ∧ Tidy w w' := by
  obtain ⟨h1, h2, h3, h4⟩ := hF
  cases hr : reckonAt T h0 n f vals s with
  | none => rw [hr] at h1; cases h1
  | some r =>
    rw [hr] at h1 h2 h3 h4
    simp only [Option.map_some, Option.some.injEq] at h1 h2 h3 h4
    obtain ⟨v', h', s', L⟩ := r
    simp only at h1 h2 h3 h4
    subst h1
    obtain ⟨_, _, h5⟩ := callBy_ok hT (evC_ok hT n).1 _ _ _ _ _ _ _ _ _ hr ⟨by rw [h2]; exact hcs, all_eq _ h3, all_eq _ h4⟩
    refine (h5 _ _ w E (List.all_eq_true.1 hvals)).mono fun en w' he => ?_
    obtain ⟨m', rfl, C⟩ := he
    exact ⟨by rw [mv_still hv], C.below, fun k h1 h2 => C.emb.ice k h1 h2⟩
/-- the same, where the arguments hold no address -/
theorem fitsAt_still {T : Tab} (hT : TabOk T) {h0 : Hp} {n f : Nat} {vals : List Value} {s : List Dec} {v : Value} {cs : Log} (hF : Fits (reckonAt T h0 n f vals s) v cs) (hcs : okLog cs) (hvals : (vals.all (lt 0)) = true) (hv : lt 0 v = true) {m : Mp} {w : World} (E : Emb m w.heap.size h0 w) :
    Calls T.P f vals.toArray w fun e w' => e = .returned v ∧ Tidy w w' := by
  have hst : ∀ y ∈ vals, lt 0 y = true := List.all_eq_true.1 hvals
  have e : vals.map (mv m) = vals := (List.map_congr_left fun y hy => mv_still (hst y hy)).trans (List.map_id' _)
  have := fitsAt_calls hT hF hcs (List.all_eq_true.2 fun y hy => lt_mono (Nat.zero_le _) (hst y hy)) hv E
  rw [e] at this
  exact this
end Go.KRun
namespace Go.KRun
open Go.ChangeShapes Go.WideShapes Go.ChangeAt Go.RowKit Go.Joins
theorem tidy_frozen {w w' : World} (h : Tidy w w') (a : Addr) : w'.frozen? a = w.frozen? a := by
  unfold World.frozen?
  by_cases h1 : a.block < w.heap.size
  · rw [h.1.block _ h1]
  · rw [Array.getElem?_eq_none (by omega : w.heap.size ≤ a.block)]
    by_cases h2 : a.block < w'.heap.size
    · have h3 := h.2 a.block (by omega) h2
      unfold iced at h3
      split
      · rename_i c e lo hi hc
        have := h3 _ _ _ hc
        cases this
        simp
      · rfl
    · rw [Array.getElem?_eq_none (by omega : w'.heap.size ≤ a.block)]
theorem u64_bounds {n : Int} (h : (Lit.int .u64 n).wf = true) : 0 ≤ n ∧ n < 18446744073709551616 := by
  simp [Lit.wf, IntKind.min, IntKind.max, IntKind.signed, IntKind.bits] at h
  omega
/-- cells of known kinds: 'none': a truth -/
def okC : List (Option IntKind) → List Value → Prop
  | [], [] => True
  | none :: l, v :: vs => (∃ b, v = .bool b) ∧ okC l vs
  | some k :: l, v :: vs => (∃ n, v = .int k n ∧ (Lit.int k n).wf = true) ∧ okC l vs
  | _, _ => False
theorem okC_append : ∀ {l1 : List (Option IntKind)} {v1 : List Value} {l2 : List (Option IntKind)} {v2 : List Value}, okC l1 v1 → okC l2 v2 → okC (l1 ++ l2) (v1 ++ v2)
  | [], [], _, _, _, h2 => by simpa using h2
  | none :: l, v :: vs, _, _, h1, h2 => ⟨h1.1, okC_append (l1 := l) (v1 := vs) h1.2 h2⟩
  | some k :: l, v :: vs, _, _, h1, h2 => ⟨h1.1, okC_append (l1 := l) (v1 := vs) h1.2 h2⟩
  | [], _ :: _, _, _, h1, _ => h1.elim
  | none :: _, [], _, _, h1, _ => h1.elim
  | some _ :: _, [], _, _, h1, _ => h1.elim
theorem okC_length : ∀ {l : List (Option IntKind)} {vs : List Value}, okC l vs → vs.length = l.length
  | [], [], _ => rfl
  | none :: l, v :: vs, h => by simp [okC_length (l := l) h.2]
  | some k :: l, v :: vs, h => by simp [okC_length (l := l) h.2]
  | [], _ :: _, h => h.elim
  | none :: _, [], h => h.elim
  | some _ :: _, [], h => h.elim
def leavesF (P : Program) (q : TypeId → Option (List (Option IntKind))) : Nat → List Field → Option (List (Option IntKind))
  | _, [] => some []
  | off, f :: fs =>
    match q f.type with
    | some l =>
      if (Nat.beq f.offset off && Nat.beq (P.cellsOf f.type) l.length) = true then
        match leavesF P q (off + l.length) fs with
        | some r => some (l ++ r)
        | none => none
      else none
    | none => none
def leavesA (P : Program) (e : TypeId) (l : List (Option IntKind)) : Nat → List (Option IntKind)
  | 0 => []
  | n + 1 => l ++ leavesA P e l n
/-- the kinds of a type's cells -/
def leaves (P : Program) : Nat → TypeId → Option (List (Option IntKind))
  | 0, _ => none
  | n + 1, t =>
    match P.underlying t with
    | some .bool => some [none]
    | some (.int k) => some [some k]
    | some (.struct fs) =>
      match leavesF P (leaves P n) 0 fs.toList with
      | some l => if Nat.beq (P.cellsOf t) l.length = true then some l else none
      | none => none
    | some (.array m e) =>
      match leaves P n e with
      | some l => if (Nat.beq (P.cellsOf e) l.length && Nat.beq (P.cellsOf t) (leavesA P e l m).length) = true then some (leavesA P e l m) else none
      | none => none
    | _ => none
theorem cut_cs {α : Type} (cs : List α) (off a b : Nat) : ((cs.drop off).take (a + b)) = ((cs.drop off).take a) ++ ((cs.drop (off + a)).take b) := by
  rw [List.take_add, List.drop_drop]
section
variable {H : Type} {enc : TypeId × Value → H} {P : Program}
/-- what is said of a type's reading -/
def FlatAt (enc : TypeId × Value → H) (P : Program) (t : TypeId) (L : List (Option IntKind)) : Prop :=
  ∀ w base spare held fuel cs x, DataW.trod enc P w base spare held fuel t cs = some x → okC L cs ∧ x.2 = [] ∧ ∀ w' base' spare' held', DataW.trod enc P w' base' spare' held' fuel t cs = some x
theorem flat_fields {q : TypeId → Option (List (Option IntKind))} (hq : ∀ t L, q t = some L → FlatAt enc P t L) {w : World} {base : Nat} {spare : Nat → Bool} {held : Bool} {fuel : Nat} {cs : List Value} :
    ∀ (fs : List Field) (off : Nat) (L : List (Option IntKind)), leavesF P q off fs = some L → ∀ xs, fs.mapM (fun f => DataW.trod enc P w base spare held fuel f.type ((cs.drop f.offset).take (P.cellsOf f.type))) = some xs →
      okC L ((cs.drop off).take L.length) ∧ xs.flatMap (·.2) = [] ∧ ∀ w' base' spare' held', fs.mapM (fun f => DataW.trod enc P w' base' spare' held' fuel f.type ((cs.drop f.offset).take (P.cellsOf f.type))) = some xs
  | [], off, L, hL, xs, hx => by
    simp only [leavesF] at hL
    cases hL
    simp at hx
    subst hx
    exact ⟨by simp [okC], by simp, fun _ _ _ _ => by simp⟩
  | f :: fs, off, L, hL, xs, hx => by
    unfold leavesF at hL
    split at hL
    · rename_i l hl
      split at hL
      · rename_i hc
        simp only [Bool.and_eq_true] at hc
        have ho := Nat.eq_of_beq_eq_true hc.1
        have hs := Nat.eq_of_beq_eq_true hc.2
        split at hL
        · rename_i r hr
          cases hL
          rw [List.mapM_cons] at hx
          simp only [bind, Option.bind_eq_some_iff, pure, Option.some.injEq] at hx
          obtain ⟨y, hy, ys, hys, rfl⟩ := hx
          obtain ⟨a1, a2, a3⟩ := hq _ _ hl _ _ _ _ _ _ _ hy
          obtain ⟨b1, b2, b3⟩ := flat_fields hq fs (off + l.length) r hr ys hys
          rw [ho, hs] at a1
          refine ⟨?_, ?_, fun w' base' spare' held' => ?_⟩
          · rw [List.length_append, cut_cs]
            exact okC_append a1 b1
          · simp [a2, b2]
          · rw [List.mapM_cons, a3 w' base' spare' held', b3 w' base' spare' held']
            rfl
        · cases hL
      · cases hL
    · cases hL
theorem flat_items {e : TypeId} {l : List (Option IntKind)} (hl : FlatAt enc P e l) (hs : P.cellsOf e = l.length) {w : World} {base : Nat} {spare : Nat → Bool} {held : Bool} {fuel : Nat} {cs : List Value} :
    ∀ (n k : Nat) xs, (List.range' k n).mapM (fun i => DataW.trod enc P w base spare held fuel e ((cs.drop (i * P.cellsOf e)).take (P.cellsOf e))) = some xs →
      okC (leavesA P e l n) ((cs.drop (k * l.length)).take (leavesA P e l n).length) ∧ xs.flatMap (·.2) = [] ∧ ∀ w' base' spare' held', (List.range' k n).mapM (fun i => DataW.trod enc P w' base' spare' held' fuel e ((cs.drop (i * P.cellsOf e)).take (P.cellsOf e))) = some xs
  | 0, k, xs, hx => by
    simp at hx
    subst hx
    exact ⟨by simp [leavesA, okC], by simp, fun _ _ _ _ => by simp⟩
  | n + 1, k, xs, hx => by
    rw [List.range'_succ, List.mapM_cons] at hx
    simp only [bind, Option.bind_eq_some_iff, pure, Option.some.injEq] at hx
    obtain ⟨y, hy, ys, hys, rfl⟩ := hx
    obtain ⟨a1, a2, a3⟩ := hl _ _ _ _ _ _ _ hy
    obtain ⟨b1, b2, b3⟩ := flat_items hl hs n (k + 1) ys hys
    rw [hs] at a1
    refine ⟨?_, ?_, fun w' base' spare' held' => ?_⟩
    · show okC (l ++ leavesA P e l n) _
      rw [show (leavesA P e l (n + 1)).length = l.length + (leavesA P e l n).length by simp [leavesA], cut_cs]
      rw [Nat.add_mul, Nat.one_mul] at b1
      exact okC_append a1 b1
    · simp [a2, b2]
    · rw [List.range'_succ, List.mapM_cons, a3 w' base' spare' held', b3 w' base' spare' held']
      rfl
theorem flat_ok : ∀ (n : Nat) (t : TypeId) (L : List (Option IntKind)), leaves P n t = some L → FlatAt enc P t L
  | 0, t, L, h => by simp [leaves] at h
  | n + 1, t, L, h => by
    intro w base spare held fuel cs x hx
    cases fuel with
    | zero => simp [DataW.trod] at hx
    | succ fuel =>
      unfold leaves at h
      split at h
      · rename_i hu
        cases h
        obtain ⟨b, rfl, rfl⟩ := DataW.trod_bool hu hx
        exact ⟨⟨⟨b, rfl⟩, trivial⟩, rfl, fun _ _ _ _ => by simp [DataW.trod, hu]⟩
      · rename_i k hu
        cases h
        obtain ⟨a, rfl, rfl, hw⟩ := DataW.trod_int hu hx
        exact ⟨⟨⟨a, rfl, hw⟩, trivial⟩, rfl, fun _ _ _ _ => by simp [DataW.trod, hu, hw]⟩
      · rename_i fs hu
        split at h
        · rename_i l hl
          split at h
          · rename_i hc
            cases h
            have hc := Nat.eq_of_beq_eq_true hc
            have key : ∀ (w : World) (base : Nat) (spare : Nat → Bool) (held : Bool), DataW.trod enc P w base spare held (fuel + 1) t cs = if cs.length = P.cellsOf t then (fs.toList.mapM fun f => DataW.trod enc P w base spare held fuel f.type ((cs.drop f.offset).take (P.cellsOf f.type))).map fun xs => (.agg (xs.map (·.1)), xs.flatMap (·.2)) else none := fun w base spare held => by
              rw [DataW.trod.eq_def]
              simp only [hu]
            rw [key] at hx
            split at hx
            · rename_i hlen
              simp only [Option.map_eq_some_iff] at hx
              obtain ⟨xs, hxs, rfl⟩ := hx
              obtain ⟨b1, b2, b3⟩ := flat_fields (fun t L h => flat_ok n t L h) fs.toList 0 L hl xs hxs
              refine ⟨?_, b2, fun w' base' spare' held' => ?_⟩
              · rw [List.drop_zero, ← hc, ← hlen, List.take_length] at b1
                exact b1
              · rw [key, if_pos hlen, b3]
                rfl
            · cases hx
          · cases h
        · cases h
      · rename_i m e hu
        split at h
        · rename_i l hl
          split at h
          · rename_i hc
            cases h
            simp only [Bool.and_eq_true] at hc
            have hs := Nat.eq_of_beq_eq_true hc.1
            have hc := Nat.eq_of_beq_eq_true hc.2
            have key : ∀ (w : World) (base : Nat) (spare : Nat → Bool) (held : Bool), DataW.trod enc P w base spare held (fuel + 1) t cs = if cs.length = P.cellsOf t then ((List.range m).mapM fun i => DataW.trod enc P w base spare held fuel e ((cs.drop (i * P.cellsOf e)).take (P.cellsOf e))).map fun xs => (.agg (xs.map (·.1)), xs.flatMap (·.2)) else none := fun w base spare held => by
              rw [DataW.trod.eq_def]
              simp only [hu]
            rw [key] at hx
            split at hx
            · rename_i hlen
              simp only [Option.map_eq_some_iff] at hx
              obtain ⟨xs, hxs, rfl⟩ := hx
              rw [List.range_eq_range'] at hxs
              obtain ⟨b1, b2, b3⟩ := flat_items (flat_ok n e l hl) hs m 0 xs hxs
              refine ⟨?_, b2, fun w' base' spare' held' => ?_⟩
              · rw [Nat.zero_mul, List.drop_zero, ← hc, ← hlen, List.take_length] at b1
                exact b1
              · rw [key, if_pos hlen, List.range_eq_range', b3]
                rfl
            · cases hx
          · cases h
        · cases h
      · cases h
/-- a flat argument: its cells, no places, and it reads so everywhere -/
theorem flat_open {w : World} {base : Nat} {spare : Nat → Bool} {held : Bool} {t : TypeId} {v : Value} {d : DataW H} {p : List MemPlace} {L : List (Option IntKind)} (hL : leaves P 6 t = some L) (h : DataW.Trod enc P w base spare held t v d p) :
    okC L v.cells.toList ∧ p = [] ∧ ∀ w' base' spare' held', DataW.Trod enc P w' base' spare' held' t v d [] := by
  obtain ⟨fuel, hf⟩ := h
  obtain ⟨h1, h2, h3⟩ := flat_ok 6 t L hL _ _ _ _ _ _ _ hf
  simp only at h2
  subst h2
  exact ⟨h1, rfl, fun w' base' spare' held' => ⟨fuel, h3 w' base' spare' held'⟩⟩
theorem agg_array {r : Go.Reach} {w : World} {b0 : Nat} {t e : TypeId} {n : Nat} {v : Value} (hu : P.underlying t = some (.array n e)) (hv : Value.okWide P w r b0 t v) : ∃ cs : Array Value, v = .agg cs := by
  have hv' := hv
  simp only [Value.okWide, hu] at hv'
  obtain ⟨cs, h, _⟩ := hv'
  exact ⟨cs, h⟩
end
end Go.KRun
