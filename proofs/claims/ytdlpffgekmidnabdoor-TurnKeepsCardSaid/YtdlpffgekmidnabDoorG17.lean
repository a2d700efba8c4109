/-
  Asn, AsNum, TuR, RunO, RunX2, TuS
-/
import Derived.LaidEql
import Derived.Stop.Asserts
import Derived.RowKitTokens
import Derived.Test.YtdlpffgekmidnabDoorG16
import Derived.SizedLaws
import Derived.Carry
namespace Go.Proofs.YtdlpffgekmidnabDoor
open Go.RowKit Go.Extern.Stop Go.Stop Go.Extern
/-! ### what the model's entries for internal/reflectlite answer at these types -/
theorem as_valueOfP (t : Addr) (w : World) : (ReflectliteValue.unpack (.iface 50 (.pointer (some t)))).run Tryd.prog w
    = .ok (.agg #[.pointer (some ⟨3, 50, none⟩), .pointer (some ⟨w.heap.size, 0, none⟩), .int .u64 150]) (w.alloc (.cells #[.pointer (some t)] 50)) := by kernel_rfl
theorem as_typeP (a : Addr) (w : World) : (ReflectliteValue.methodAny (ReflectliteValue.valueError "reflectlite.Value.Type" 0) (fun t _ _ _ => ReflectliteType.toType t) #[.agg #[.pointer (some ⟨3, 50, none⟩), .pointer (some a), .int .u64 150]]).run Tryd.prog w
    = .ok (.iface 69 (.agg #[.pointer (some ⟨3, 50, none⟩)])) w := by kernel_rfl
theorem as_methodKind (h : Value) (w : World) : (Go.method 269 69 (.agg #[h]) "Kind").run Tryd.prog w = .ok (89, h) w := by kernel_rfl
theorem as_kindP (w : World) : ((ReflectliteType.abiMethod fun t => (fun a : Nat => Value.int IntKind.u8 (a : Int)) <$> Rtype.kind t) #[.pointer (some ⟨3, 50, none⟩)]).run Tryd.prog w = .ok (.int .u8 22) w := by kernel_rfl
theorem as_kindE (w : World) : ((ReflectliteType.abiMethod fun t => (fun a : Nat => Value.int IntKind.u8 (a : Int)) <$> Rtype.kind t) #[.pointer (some ⟨3, 42, none⟩)]).run Tryd.prog w = .ok (.int .u8 2) w := by kernel_rfl
theorem as_rlm (z : Sem Value) (f : TypeId → Addr → Nat → Nat → Sem Value) (v : Value) :
    ReflectliteValue.method z f #[v] = (do match ← ReflectliteValue.parts v with | none => z | some (t, a, fl) => f t a fl (fl % 32)) := rfl
theorem as_partsP (a : Addr) (w : World) : (ReflectliteValue.parts (.agg #[.pointer (some ⟨3, 50, none⟩), .pointer (some a), .int .u64 150])).run Tryd.prog w = .ok (some (50, a, 150)) w := by kernel_rfl
theorem as_isNilP (a p : Addr) (W : World) (ha : W.cell? a = some (.pointer (some p))) :
    (ReflectliteValue.method (ReflectliteValue.valueError "reflectlite.Value.IsNil" 0) ReflectliteValue.isNil #[.agg #[.pointer (some ⟨3, 50, none⟩), .pointer (some a), .int .u64 150]]).run Tryd.prog W = .ok (.bool false) W := by
  rw [as_rlm]
  simp only [Sem.run_bind, as_partsP, Result.andThen]
  simp [ReflectliteValue.isNil, loadVar, isAgg, underlying, Tryd.underlying50, ha, Result.andThen]
theorem as_methodElem (h : Value) (w : World) : (Go.method 269 69 (.agg #[h]) "Elem").run Tryd.prog w = .ok (99, .agg #[h]) w := by kernel_rfl
theorem as_methodImplements (h : Value) (w : World) : (Go.method 269 69 (.agg #[h]) "Implements").run Tryd.prog w = .ok (100, .agg #[h]) w := by kernel_rfl
theorem as_methodAssignableTo (h : Value) (w : World) : (Go.method 269 69 (.agg #[h]) "AssignableTo").run Tryd.prog w = .ok (97, .agg #[h]) w := by kernel_rfl
theorem as_elemP (w : World) : (ReflectliteType.method ReflectliteType.elem #[.agg #[.pointer (some ⟨3, 50, none⟩)]]).run Tryd.prog w = .ok (.iface 69 (.agg #[.pointer (some ⟨3, 42, none⟩)])) w := by kernel_rfl
theorem as_implementsE (w : World) : (ReflectliteType.relation "Implements" ReflectliteType.implements_ #[.agg #[.pointer (some ⟨3, 42, none⟩)], .iface 69 (.agg #[.pointer (some ⟨3, 28, none⟩)])]).run Tryd.prog w = .ok (.bool true) w := by kernel_rfl
theorem as_typeOfE (v : Value) (w : World) : (ReflectliteType.typeOf #[.iface 42 v]).run Tryd.prog w = .ok (.iface 69 (.agg #[.pointer (some ⟨3, 42, none⟩)])) w := by kernel_rfl
theorem as_assignableE (w : World) : (ReflectliteType.relation "AssignableTo" ReflectliteType.assignableTo #[.agg #[.pointer (some ⟨3, 42, none⟩)], .iface 69 (.agg #[.pointer (some ⟨3, 42, none⟩)])]).run Tryd.prog w = .ok (.bool true) w := by kernel_rfl
theorem as_valueOfE (n : Int) (w : World) : (ReflectliteValue.unpack (.iface 42 (.int .i64 n))).run Tryd.prog w
    = .ok (.agg #[.pointer (some ⟨3, 42, none⟩), .pointer (some ⟨w.heap.size, 0, none⟩), .int .u64 130]) (w.alloc (.cells #[.int .i64 n] 42)) := by kernel_rfl
theorem as_elemOfP (w : World) : (Rtype.elem? 50).run Tryd.prog w = .ok (some 42) w := by kernel_rfl
theorem as_mkE (p : Addr) (w : World) : (ReflectliteValue.mk 42 p ReflectliteValue.flagAddr).run Tryd.prog w = .ok (.agg #[.pointer (some ⟨3, 42, none⟩), .pointer (some p), .int .u64 386]) w := by kernel_rfl
theorem as_elemVP (a p : Addr) (W : World) (ha : W.cell? a = some (.pointer (some p))) :
    (ReflectliteValue.method (ReflectliteValue.valueError "reflectlite.Value.Elem" 0) ReflectliteValue.elem #[.agg #[.pointer (some ⟨3, 50, none⟩), .pointer (some a), .int .u64 150]]).run Tryd.prog W
      = .ok (.agg #[.pointer (some ⟨3, 42, none⟩), .pointer (some p), .int .u64 386]) W := by
  rw [as_rlm]
  simp only [Sem.run_bind, as_partsP, Result.andThen]
  simp [ReflectliteValue.elem, loadVar, isAgg, underlying, Tryd.underlying50, ha, Result.andThen, as_elemOfP, as_mkE]
theorem as_partsEa (a : Addr) (w : World) : (ReflectliteValue.parts (.agg #[.pointer (some ⟨3, 42, none⟩), .pointer (some a), .int .u64 386])).run Tryd.prog w = .ok (some (42, a, 386)) w := by kernel_rfl
theorem as_partsE (a : Addr) (w : World) : (ReflectliteValue.parts (.agg #[.pointer (some ⟨3, 42, none⟩), .pointer (some a), .int .u64 130])).run Tryd.prog w = .ok (some (42, a, 130)) w := by kernel_rfl
theorem as_directE (w : World) : (Rtype.directlyAssignable 42 42).run Tryd.prog w = .ok true w := by kernel_rfl
theorem as_setE (ta b : Addr) (n : Int) (old : Value) (W : World) (hb : W.cell? b = some (.int .i64 n)) (ht : W.cell? ta = some old) (hf : W.frozen? ta = false) :
    (ReflectliteValue.set #[.agg #[.pointer (some ⟨3, 42, none⟩), .pointer (some ta), .int .u64 386], .agg #[.pointer (some ⟨3, 42, none⟩), .pointer (some b), .int .u64 130]]).run Tryd.prog W
      = .ok (.tuple #[]) (W.setCell ta (.int .i64 n)) := by
  have e : ∀ v x : Value, ReflectliteValue.set #[v, x] = (ReflectliteValue.parts v >>= fun p => ReflectliteValue.parts x >>= fun q => _) := fun _ _ => rfl
  rw [e]
  simp only [Sem.run_bind, as_partsEa, as_partsE, Result.andThen]
  simp [ReflectliteValue.flagAddr, loadVar, isAgg, underlying, Tryd.underlying42, hb, Result.andThen, as_directE, storeVar, Value.cells, storeCells, Addr.add]
  rw [run_store Tryd.prog W ta _ _ (by rfl)]
  simp [ht, hf]
/-- what lies in the variable errors.errorType -/
def errT : Value := .iface 69 (.agg #[.pointer (some ⟨3, 28, none⟩)])
/-- the world behind the call -/
def asW (n : Int) (t : Addr) (w : World) : World := ((((w.alloc (.cells #[.pointer (some t)] 50)).alloc (.cells #[.pointer (some ⟨3, 50, none⟩), .pointer (some ⟨w.heap.size, 0, none⟩), .int .u64 150] 58)).alloc (.cells #[.pointer (some ⟨3, 50, none⟩), .pointer (some ⟨w.heap.size, 0, none⟩), .int .u64 150] 58)).alloc (.cells #[.int .i64 n] 42)).setCell t (.int .i64 n)
set_option maxHeartbeats 4000000 in
theorem as_hit (n : Int) (t : Addr) (old : Value) (w : World) (hg : w.cell? ⟨0, 0, none⟩ = some (.iface 69 (.agg #[.pointer (some ⟨3, 28, none⟩)]))) (ht0 : w.cell? t = some old) (hf0 : w.frozen? t = false) :
    Calls Tryd.prog 13 #[.iface 42 (.int .i64 n), .iface 50 (.pointer (some t))] w fun ev w' => ev = .returned (.bool true) ∧ w' = ((((w.alloc (.cells #[.pointer (some t)] 50)).alloc (.cells #[.pointer (some ⟨3, 50, none⟩), .pointer (some ⟨w.heap.size, 0, none⟩), .int .u64 150] 58)).alloc (.cells #[.pointer (some ⟨3, 50, none⟩), .pointer (some ⟨w.heap.size, 0, none⟩), .int .u64 150] 58)).alloc (.cells #[.int .i64 n] 42)).setCell t (.int .i64 n) := by
  have h6 := @run_callFunc_extern Tryd.prog 19 _ (fun args => ReflectliteValue.unpack (args.getD 0 (.tuple #[]))) Tryd.func19 (by kernel_rfl) (by kernel_rfl) (by kernel_rfl) (by kernel_rfl)
  have h7 := @run_callFunc_extern Tryd.prog 20 _ (ReflectliteValue.methodAny (ReflectliteValue.valueError "reflectlite.Value.Type" 0) (fun t _ _ _ => ReflectliteType.toType t)) Tryd.func20 (by kernel_rfl) (by kernel_rfl) (by kernel_rfl) (by kernel_rfl)
  have h8 := @run_callFunc_extern Tryd.prog 21 _ (ReflectliteValue.method (ReflectliteValue.valueError "reflectlite.Value.IsNil" 0) ReflectliteValue.isNil) Tryd.func21 (by kernel_rfl) (by kernel_rfl) (by kernel_rfl) (by kernel_rfl)
  have h27 := @run_callFunc_extern Tryd.prog 89 _ (ReflectliteType.abiMethod fun t => do pure (.int .u8 (← Rtype.kind t))) Tryd.func89 (by kernel_rfl) (by kernel_rfl) (by kernel_rfl) (by kernel_rfl)
  have h37 := @run_callFunc_extern Tryd.prog 99 _ (ReflectliteType.method ReflectliteType.elem) Tryd.func99 (by kernel_rfl) (by kernel_rfl) (by kernel_rfl) (by kernel_rfl)
  have h38 := @run_callFunc_extern Tryd.prog 100 _ (ReflectliteType.relation "Implements" ReflectliteType.implements_) Tryd.func100 (by kernel_rfl) (by kernel_rfl) (by kernel_rfl) (by kernel_rfl)
  have h10 := @run_callFunc_extern Tryd.prog 24 _ ReflectliteType.typeOf Tryd.func24 (by kernel_rfl) (by kernel_rfl) (by kernel_rfl) (by kernel_rfl)
  have h35 := @run_callFunc_extern Tryd.prog 97 _ (ReflectliteType.relation "AssignableTo" ReflectliteType.assignableTo) Tryd.func97 (by kernel_rfl) (by kernel_rfl) (by kernel_rfl) (by kernel_rfl)
  have h11 := @run_callFunc_extern Tryd.prog 25 _ (ReflectliteValue.method (ReflectliteValue.valueError "reflectlite.Value.Elem" 0) ReflectliteValue.elem) Tryd.func25 (by kernel_rfl) (by kernel_rfl) (by kernel_rfl) (by kernel_rfl)
  have h12 := @run_callFunc_extern Tryd.prog 26 _ ReflectliteValue.set Tryd.func26 (by kernel_rfl) (by kernel_rfl) (by kernel_rfl) (by kernel_rfl)
  have tO := as_typeOfE
  have mA := as_methodAssignableTo
  have aE := as_assignableE
  have vE := as_valueOfE
  have f6 := as_valueOfP
  have f7 := as_typeP
  have mK := as_methodKind
  have mE := as_methodElem
  have mI := as_methodImplements
  have kP := as_kindP
  have kE := as_kindE
  have eP := as_elemP
  have iE := as_implementsE
  have n8 := as_isNilP ⟨w.heap.size, 0, none⟩ t ((w.alloc (.cells #[.pointer (some t)] 50)).alloc (.cells #[.pointer (some ⟨3, 50, none⟩), .pointer (some ⟨w.heap.size, 0, none⟩), .int .u64 150] 58)) (by simp)
  have hlt : 0 < w.heap.size := by
    rcases Nat.eq_zero_or_pos w.heap.size with h0 | h
    · simp [World.cell?, h0] at hg
    · exact h
  have hg2 : ((w.alloc (.cells #[.pointer (some t)] 50)).alloc (.cells #[.pointer (some ⟨3, 50, none⟩), .pointer (some ⟨w.heap.size, 0, none⟩), .int .u64 150] 58)).cell? ⟨0, 0, none⟩ = some (.iface 69 (.agg #[.pointer (some ⟨3, 28, none⟩)])) := by
    rw [World.cell?_alloc_lt _ _ ⟨0, 0, none⟩ (by simp), World.cell?_alloc_lt _ _ ⟨0, 0, none⟩ hlt]; exact hg
  have htl : t.block < w.heap.size := by
    rcases Nat.lt_or_ge t.block w.heap.size with h | h
    · exact h
    · simp [World.cell?, Array.getElem?_eq_none h] at ht0
  have el := as_elemVP ⟨w.heap.size, 0, none⟩ t (((w.alloc (.cells #[.pointer (some t)] 50)).alloc (.cells #[.pointer (some ⟨3, 50, none⟩), .pointer (some ⟨w.heap.size, 0, none⟩), .int .u64 150] 58)).alloc (.cells #[.pointer (some ⟨3, 50, none⟩), .pointer (some ⟨w.heap.size, 0, none⟩), .int .u64 150] 58)) (by rw [World.cell?_alloc_lt _ _ ⟨w.heap.size, 0, none⟩ (by simp; omega)]; simp)
  have st := as_setE t ⟨w.heap.size + 1 + 1 + 1, 0, none⟩ n old ((((w.alloc (.cells #[.pointer (some t)] 50)).alloc (.cells #[.pointer (some ⟨3, 50, none⟩), .pointer (some ⟨w.heap.size, 0, none⟩), .int .u64 150] 58)).alloc (.cells #[.pointer (some ⟨3, 50, none⟩), .pointer (some ⟨w.heap.size, 0, none⟩), .int .u64 150] 58)).alloc (.cells #[.int .i64 n] 42))
    (by rw [World.cell?_alloc_at _ _ _ _ (by simp)]; rfl)
    (by rw [World.cell?_alloc_lt _ _ t (by simp; omega), World.cell?_alloc_lt _ _ t (by simp; omega), World.cell?_alloc_lt _ _ t (by simp; omega), World.cell?_alloc_lt _ _ t htl]; exact ht0)
    (by rw [World.frozen?_alloc_old _ _ t (by simp; omega), World.frozen?_alloc_old _ _ t (by simp; omega), World.frozen?_alloc_old _ _ t (by simp; omega), World.frozen?_alloc_old _ _ t (Nat.ne_of_lt htl)]; exact hf0)
  go_enter Tryd.func13, Tryd.ntmps13
  go_wp2
  refine wp_loop_rounds 1 ?_
  rw [rounds_succ]
  go_wp2
  go_ret
  exact ⟨rfl, rfl⟩
end Go.Proofs.YtdlpffgekmidnabDoor
namespace Go.Proofs.YtdlpffgekmidnabDoor
open Go.KRun Go.RowKit
set_option maxRecDepth 100000
def known (w : World) : Prop := w.cell? ⟨0, 0, none⟩ = some errT
set_option maxHeartbeats 4000000 in
theorem num_calls (n : Int) (w : World) (hg : known w) : Calls Tryd.prog 6 #[.iface 42 (.int .i64 n)] w fun e w' => e = .returned (.int .i64 n) ∧ Tidy w w' := by
  have hlt : 0 < w.heap.size := by
    rcases Nat.eq_zero_or_pos w.heap.size with h0 | h
    · unfold known at hg
      simp [World.cell?, h0] at hg
    · exact h
  have hg1 : (w.alloc (.cells #[.int .i64 0] 42)).cell? ⟨0, 0, none⟩ = some errT := by
    rw [World.cell?_alloc_lt _ _ ⟨0, 0, none⟩ hlt]; exact hg
  have ht1 : (w.alloc (.cells #[.int .i64 0] 42)).cell? ⟨w.heap.size, 0, none⟩ = some (.int .i64 0) := by simp
  have hf1 : (w.alloc (.cells #[.int .i64 0] 42)).frozen? ⟨w.heap.size, 0, none⟩ = false := by simp
  have hit := as_hit n ⟨w.heap.size, 0, none⟩ (.int .i64 0) _ hg1 ht1 hf1
  have hb : (w.alloc (.cells #[.int .i64 0] 42)).heap[w.heap.size]? = some (.cells #[.int .i64 0] 42 (0, 0)) := heap_alloc_at w _
  have hcell : (asW n ⟨w.heap.size, 0, none⟩ (w.alloc (.cells #[.int .i64 0] 42))).cell? ⟨w.heap.size, 0, none⟩ = some (.int .i64 n) ∧ Tidy w (asW n ⟨w.heap.size, 0, none⟩ (w.alloc (.cells #[.int .i64 0] 42))) := by
    unfold asW
    have t1 := tidy_alloc w #[.int .i64 0] 42
    generalize hw1 : w.alloc (.cells #[.int .i64 0] 42) = w1 at *
    have s1 : w.heap.size < w1.heap.size := by rw [← hw1, size_alloc']; omega
    have t2 := tidy_alloc w1 #[.pointer (some ⟨w.heap.size, 0, none⟩)] 50
    have q2 := heap_alloc_ne w1 (.cells #[.pointer (some ⟨w.heap.size, 0, none⟩)] 50) w.heap.size (by omega)
    have s2 := size_alloc' w1 (.cells #[.pointer (some ⟨w.heap.size, 0, none⟩)] 50)
    generalize w1.alloc (.cells #[.pointer (some ⟨w.heap.size, 0, none⟩)] 50) = w2 at *
    have t3 := tidy_alloc w2 #[.pointer (some ⟨3, 50, none⟩), .pointer (some ⟨w1.heap.size, 0, none⟩), .int .u64 150] 58
    have q3 := heap_alloc_ne w2 (.cells #[.pointer (some ⟨3, 50, none⟩), .pointer (some ⟨w1.heap.size, 0, none⟩), .int .u64 150] 58) w.heap.size (by omega)
    have s3 := size_alloc' w2 (.cells #[.pointer (some ⟨3, 50, none⟩), .pointer (some ⟨w1.heap.size, 0, none⟩), .int .u64 150] 58)
    generalize w2.alloc (.cells #[.pointer (some ⟨3, 50, none⟩), .pointer (some ⟨w1.heap.size, 0, none⟩), .int .u64 150] 58) = w3 at *
    have t4 := tidy_alloc w3 #[.pointer (some ⟨3, 50, none⟩), .pointer (some ⟨w1.heap.size, 0, none⟩), .int .u64 150] 58
    have q4 := heap_alloc_ne w3 (.cells #[.pointer (some ⟨3, 50, none⟩), .pointer (some ⟨w1.heap.size, 0, none⟩), .int .u64 150] 58) w.heap.size (by omega)
    have s4 := size_alloc' w3 (.cells #[.pointer (some ⟨3, 50, none⟩), .pointer (some ⟨w1.heap.size, 0, none⟩), .int .u64 150] 58)
    generalize w3.alloc (.cells #[.pointer (some ⟨3, 50, none⟩), .pointer (some ⟨w1.heap.size, 0, none⟩), .int .u64 150] 58) = w4 at *
    have t5 := tidy_alloc w4 #[.int .i64 n] 42
    have q5 := heap_alloc_ne w4 (.cells #[.int .i64 n] 42) w.heap.size (by omega)
    generalize w4.alloc (.cells #[.int .i64 n] 42) = w5 at *
    have hb5 : w5.heap[w.heap.size]? = some (.cells #[.int .i64 0] 42 (0, 0)) := by rw [q5, q4, q3, q2]; exact hb
    exact ⟨cell_of_one (one_setCell hb5), tidy_setCell (tidy_trans t1 (tidy_trans t2 (tidy_trans t3 (tidy_trans t4 t5)))) (Nat.le_refl _) hb5 _⟩
  obtain ⟨W', hc1, hc2, hit'⟩ : ∃ W' : World, W'.cell? ⟨w.heap.size, 0, none⟩ = some (.int .i64 n) ∧ Tidy w W' ∧ Calls Tryd.prog 13 #[.iface 42 (.int .i64 n), .iface 50 (.pointer (some ⟨w.heap.size, 0, none⟩))] (w.alloc (.cells #[.int .i64 0] 42)) fun ev w' => ev = .returned (.bool true) ∧ w' = W' := ⟨_, hcell.1, hcell.2, hit⟩
  clear hit hcell hb hf1 ht1 hg1 hlt hg
  go_enter Tryd.func6, Tryd.ntmps6
  go_wp2_with (go_at_call 13; refine hit'.mono ?_; rintro e w' ⟨rfl, rfl⟩)
  go_ret
  exact ⟨rfl, hc2⟩
def eqA : List Value → Bool
  | [.pointer (some ⟨g, e, none⟩)] => Nat.beq g 3 && Nat.beq e 28
  | _ => false
def eqE : Value → Bool
  | .iface r (.agg a) => Nat.beq r 69 && eqA a.toList
  | _ => false
def kOk : List Value → Bool
  | [.iface d v] => Nat.beq d dead && eqE v
  | _ => false
def kV : List Value := [.iface dead errT]
def kT : TypeId := 3 * dead
theorem eqE_spec {v : Value} (h : eqE v = true) : v = errT := by
  unfold eqE at h
  split at h
  · rename_i r a
    simp only [Bool.and_eq_true] at h
    obtain ⟨h1, h2⟩ := h
    have h1 := Nat.eq_of_beq_eq_true h1
    unfold eqA at h2
    split at h2
    · rename_i g e ha
      simp only [Bool.and_eq_true] at h2
      have h3 := Nat.eq_of_beq_eq_true h2.1
      have h4 := Nat.eq_of_beq_eq_true h2.2
      have ea : a = #[.pointer (some ⟨g, e, none⟩)] := by
        apply Array.toList_inj.1
        rw [ha]
      rw [ea, h1, h3, h4]
      rfl
    · cases h2
  · cases h
theorem kOk_spec {cs : List Value} (h : kOk cs = true) : cs = kV := by
  unfold kOk at h
  split at h
  · rename_i d v
    simp only [Bool.and_eq_true] at h
    rw [Nat.eq_of_beq_eq_true h.1, eqE_spec h.2]
    rfl
  · cases h
def gNum : AnsH := fun vals h s =>
  match vals, h.blk? 0 with
  | [.iface t (.int .i64 n)], some (cs, ty) => some (.int .i64 n, h, s, [(Nat.beq t 42 && Nat.beq ty kT && kOk cs, true)])
  | _, _ => none
theorem known_of_blk {w : World} {r : List Value} {t : TypeId} {z : Nat × Nat} (h : w.heap[0]? = some (.cells (errT :: r).toArray t z)) : known w := by
  unfold known World.cell?
  simp [h]
theorem gNum_ok : AnsHOk 6 gNum := by
  intro vals h s v h' s' lg hg hl m B w E hv
  unfold gNum at hg
  split at hg
  · rename_i t n cs ty hb
    cases hg
    have h1 := hl _ (List.mem_singleton.2 rfl)
    simp only [Bool.and_eq_true] at h1
    obtain ⟨⟨e1, e2⟩, e3⟩ := h1
    have e1 := Nat.eq_of_beq_eq_true e1
    have e2 := Nat.eq_of_beq_eq_true e2
    have e3 := kOk_spec e3
    subst e1 e2 e3
    obtain ⟨_, r, t', z, k2, _⟩ := (E.abs 0 _ hb (by kernel_rfl)).1 (by kernel_rfl)
    have hk : known w := known_of_blk (r := r) (t := t') (z := z) (by
      have e4 : kV.map (mv1 m) = [errT] := by rfl
      have e5 : nbA kT = 0 := by kernel_rfl
      rw [e4] at k2
      simp only [e5] at k2
      exact k2)
    refine (num_calls n w hk).mono fun e w' he => ?_
    obtain ⟨E', hb'⟩ := clean_emb E he.2
    exact ⟨m, he.1, ⟨Agree.refl _ _, E', hb', Nat.le_refl _, rfl⟩⟩
  · cases hg
def hK : Hp := ⟨1, [(kV, kT)]⟩
theorem blkK {b : Nat} {x : List Value × TypeId} (h : hK.blk? b = some x) : x = (kV, kT) := by
  have hb0 : b = 0 := by have : b < 1 := Hp.blk_lt h; omega
  subst hb0
  exact (Option.some.inj h).symm
theorem startK {w : World} (hk : known w) : Emb (fun b => (b, 0)) w.heap.size hK w where
  len := rfl
  lies := fun b x hb hx => by rw [blkK hb, show tomb kT = true from by kernel_rfl] at hx; cases hx
  low := fun b x hb hx => by rw [blkK hb, show ro kT = true from by kernel_rfl] at hx; cases hx
  ros := fun b x hb hx => by rw [blkK hb, show tomb kT = true from by kernel_rfl] at hx; cases hx
  inj := fun b b' x x' hb _ hx => by rw [blkK hb, show ro kT = true from by kernel_rfl] at hx; cases hx
  wf := fun b x hb v hv => by
    rw [blkK hb] at hv
    rw [List.mem_singleton.1 hv]
    rfl
  base := Nat.le_refl _
  ice := fun k h1 h2 => by omega
  abs := fun b x hb _ => by
    rw [blkK hb]
    refine .of (by kernel_rfl) ?_
    have e5 : nbA kT = 0 := by kernel_rfl
    have e6 : lnA kT = 0 := by kernel_rfl
    have e4 : kV.map (mv1 fun b => (b, 0)) = [errT] := by rfl
    unfold absR
    simp only [e5, e4, e6]
    unfold known World.cell? at hk
    simp only at hk
    cases h0 : w.heap[0]? with
    | none => rw [h0] at hk; simp at hk
    | some o =>
      have hlt := (Array.getElem?_eq_some_iff.1 h0).1
      rw [h0] at hk
      cases o with
      | cells c t z =>
        refine ⟨hlt, c.toList.drop 1, t, z, ?_, .inl trivial⟩
        have hc : c.toList[0]? = some errT := by simpa using hk
        have : [errT] ++ c.toList.drop 1 = c.toList := by
          cases hl : c.toList with
          | nil => rw [hl] at hc; simp at hc
          | cons a l =>
            rw [hl] at hc
            simp at hc
            simp [hc]
        rw [this]
      | _ => simp at hk
end Go.Proofs.YtdlpffgekmidnabDoor
namespace Go.Proofs.YtdlpffgekmidnabDoor
open Go.KRun Go.ChangeShapes Go.WideShapes Go.ChangeAt Go.RowKit
set_option maxRecDepth 100000
/-- the row's type in the small memory: not to be written -/
abbrev askR : TypeId := 35 + dead
theorem askR_ro : ro askR = true := by kernel_rfl
theorem askR_ab : ab askR = false := by kernel_rfl
theorem ask_ty : Tryd.prog.underlying 22 = some (.slice 35) := by kernel_rfl
theorem ask_st : Tryd.prog.underlying 35 = some (.struct #[⟨"K", 3, 0, false, "", "", 0⟩, ⟨"N", 3, 1, false, "", "", 8⟩]) := by kernel_rfl
theorem ask_ce : Tryd.prog.cellsOf 35 = 2 := by kernel_rfl
theorem ask_by : Tryd.prog.bytesOf 35 = 16 := by kernel_rfl
theorem int_el : Tryd.prog.underlying 3 = some (.int .i64) := by kernel_rfl
theorem laid_out : laidOutB Tryd.prog = true := by kernel_rfl
/-- an argument, and how it is told in the small memory: block i -/
def ArgP (w : World) (i : Nat) (v : Value) (x : List Value × TypeId) (k : Nat × Nat) (p : Option Addr) (n c o : Nat) (L : List Int) : Prop :=
  (v = .slice none 0 0 ∧ x = ([], 2 * dead) ∧ p = none ∧ n = 0 ∧ c = 0 ∧ L = []) ∨
  ∃ b cs, v = .slice (some ⟨b, o, none⟩) n c ∧ LainK w .i64 b o cs L ∧ L.length = 2 * c ∧ n ≤ c ∧ c < 2305843009213693952 ∧ x = (rowK .i64 cs o L, askR) ∧ k = (b, cs.size) ∧ p = some ⟨i, o, none⟩
theorem ArgP.emb {w : World} {i : Nat} {v : Value} {x : List Value × TypeId} {k : Nat × Nat} {p : Option Addr} {n c o : Nat} {L : List Int} (h : ArgP w i v x k p n c o L) :
    ro x.2 = true ∧ ab x.2 = false ∧ (∀ u ∈ x.1, still u = true) ∧ (tomb x.2 = false → (∀ m : Mp, lie w k (x.1.map (mv1 m)) x.2) ∧ k.1 < w.heap.size) := by
  rcases h with ⟨_, rfl, _⟩ | ⟨b, cs, _, hL, _, _, _, rfl, rfl, _⟩
  · exact ⟨by kernel_rfl, by kernel_rfl, (fun u hu => by cases hu), fun ht => by rw [show tomb (2 * dead) = true from by kernel_rfl] at ht; cases ht⟩
  · refine ⟨askR_ro, askR_ab, rowK_still _ _ _ _, fun _ => ⟨fun m => rowK_lie hL askR_ro m, ?_⟩⟩
    obtain ⟨ty, z, hh⟩ := hL.heap
    exact (Array.getElem?_eq_some_iff.1 hh).1
def hP (x : List Value × TypeId) : Hp := ⟨2, [x, (kV, kT)]⟩
def mP (k : Nat × Nat) : Mp := fun b => if b = 0 then (0, 0) else k
theorem startP {w : World} (hk : known w) {v : Value} {x : List Value × TypeId} {k : Nat × Nat} {p : Option Addr} {n c o : Nat} {L : List Int} (Ha : ArgP w 1 v x k p n c o L) : Emb (mP k) w.heap.size (hP x) w := by
  obtain ⟨a1, a2, a3, a4⟩ := Ha.emb
  have K := startK hk
  have k0 : hK.blk? 0 = some (kV, kT) := rfl
  have kro : ro kT = true := by kernel_rfl
  have kto : tomb kT = true := by kernel_rfl
  have bk : ∀ {b : Nat} {y : List Value × TypeId}, (hP x).blk? b = some y → (b = 0 ∧ y = (kV, kT)) ∨ (b = 1 ∧ y = x) := by
    intro b y h
    have hb : b < 2 := Hp.blk_lt h
    have : b = 0 ∨ b = 1 := by omega
    rcases this with rfl | rfl
    · exact .inl ⟨rfl, (Option.some.inj h).symm⟩
    · exact .inr ⟨rfl, (Option.some.inj h).symm⟩
  refine ⟨rfl, fun b y hb ht => ?_, fun b y hb hr => ?_, fun b y hb ht hr => ?_, fun b b' y y' hb _ hr => ?_, fun b y hb v hv => ?_, Nat.le_refl _, fun k h1 h2 => by omega, fun b y hb hx => ?_⟩
  · rcases bk hb with ⟨rfl, rfl⟩ | ⟨rfl, rfl⟩
    · rw [kto] at ht; cases ht
    · exact (a4 ht).1 _
  · rcases bk hb with ⟨rfl, rfl⟩ | ⟨rfl, rfl⟩
    · rw [kro] at hr; cases hr
    · rw [a1] at hr; cases hr
  · rcases bk hb with ⟨rfl, rfl⟩ | ⟨rfl, rfl⟩
    · rw [kto] at ht; cases ht
    · exact (a4 ht).2
  · rcases bk hb with ⟨rfl, rfl⟩ | ⟨rfl, rfl⟩
    · rw [kro] at hr; cases hr
    · rw [a1] at hr; cases hr
  · rcases bk hb with ⟨rfl, rfl⟩ | ⟨rfl, rfl⟩
    · rw [List.mem_singleton.1 hv]; rfl
    · exact still_lt (by show 0 < 2; omega) (a3 v hv)
  · rcases bk hb with ⟨rfl, rfl⟩ | ⟨rfl, rfl⟩
    · have := (K.abs 0 _ k0 hx).1 (by kernel_rfl)
      have e : kV.map (mv1 (mP k)) = kV.map (mv1 fun b => (b, 0)) := rfl
      refine .of (by kernel_rfl) ?_
      rw [e]
      exact this
    · rw [a2] at hx; cases hx
theorem ArgP.val {w : World} {i : Nat} {v : Value} {x : List Value × TypeId} {k : Nat × Nat} {p : Option Addr} {n c o : Nat} {L : List Int} (h : ArgP w i v x k p n c o L) {m : Mp} (hm : m i = k) : mv m (.slice p n c) = v := by
  rcases h with ⟨rfl, _, rfl, rfl, rfl, _⟩ | ⟨b, cs, rfl, _, _, h3, h4, _, rfl, rfl⟩
  · rfl
  · have hs : smallC c = true := blt_iff.2 (by unfold dead; omega)
    simp only [mv, mv2, mv1, mvA, hm, cap_small hs]
theorem ArgP.lt {w : World} {i : Nat} {v : Value} {x : List Value × TypeId} {k : Nat × Nat} {p : Option Addr} {n c o : Nat} {L : List Int} (h : ArgP w i v x k p n c o L) {j : Nat} (hi : i < j) : KRun.lt j (.slice p n c) = true := by
  rcases h with ⟨_, _, rfl, _⟩ | ⟨b, cs, _, _, _, _, _, _, _, rfl⟩
  · rfl
  · exact blt_iff.2 hi
/-- what the row holds at a place -/
theorem ArgP.get {w : World} {i : Nat} {v : Value} {x : List Value × TypeId} {k : Nat × Nat} {p : Option Addr} {n c o : Nat} {L : List Int} (h : ArgP w i v x k p n c o L) {j : Nat} (hj : j < n) :
    p = some ⟨i, o, none⟩ ∧ x.2 = askR ∧ x.1[o + j * 2]? = some (.int .i64 (L.getD (j * 2) 0)) ∧ x.1[o + (j * 2 + 1)]? = some (.int .i64 (L.getD (j * 2 + 1) 0)) ∧ (Lit.int .i64 (L.getD (j * 2) 0)).wf = true ∧ (Lit.int .i64 (L.getD (j * 2 + 1) 0)).wf = true := by
  rcases h with ⟨_, _, _, rfl, _⟩ | ⟨b, cs, _, hL, h2, h3, h4, rfl, rfl, rfl⟩
  · omega
  · have w0 : ∀ q, q < L.length → (Lit.int .i64 (L.getD q 0)).wf = true := fun q hq => by
      have := hL.wf (L[q]) (List.getElem_mem hq)
      simpa [List.getD, List.getElem?_eq_getElem hq] using this
    exact ⟨rfl, rfl, rowK_get hL (by omega), rowK_get hL (by omega), w0 _ (by omega), w0 _ (by omega)⟩
variable {H : Type} {enc : TypeId × Value → H}
theorem argP_of {w : World} {base : Nat} {r : Go.Reach} {v : Value} {d : DataW H} {p : List MemPlace} (i : Nat) (hval : Value.okWide Tryd.prog w r base 22 v) (h : DataW.Trod enc Tryd.prog w 0 (fun _ => true) true 22 v d p) (hsz : ∀ x y, d = .slice x y → (x.length + y.length) * Tryd.prog.bytesOf 35 ≤ reachBytes) :
    (∃ x k q n c o L, ArgP w i v x k q n c o L) ∧ ∀ w' (sp : Nat → Bool), Tidy w w' → (∀ y ∈ p, sp y.block = true) → DataW.Trod enc Tryd.prog w' 0 sp true 22 v d p := by
  have back : (∀ y ∈ p, y.block < w.heap.size) → ∀ w' (sp : Nat → Bool), Tidy w w' → (∀ y ∈ p, sp y.block = true) → DataW.Trod enc Tryd.prog w' 0 sp true 22 v d p :=
    fun hlt w' sp ht hp => WideElems.Trod_stays laid_out (by kernel_rfl) (of_decide_eq_true (by kernel_rfl)) h (fun x hx => ht.1.same (hlt x hx)) hp
  rcases open_pairs ask_ty ask_st (by kernel_rfl) ask_ce int_el int_el hval h with ⟨rfl, rfl, rfl⟩ | ⟨b, off, len, cap, cs, zs, x, y, rfl, hle, hz, hm, hL, rfl, hxy, hpl⟩
  · exact ⟨⟨_, (0, 0), _, _, _, 0, _, .inl ⟨rfl, rfl, rfl, rfl, rfl, rfl⟩⟩, back (fun y hy => by cases hy)⟩
  · have hs := hsz _ _ rfl
    rw [ask_by, hxy] at hs
    simp only [reachBytes] at hs
    refine ⟨⟨_, _, _, _, _, _, _, .inr ⟨b, cs, rfl, hL, hz, hle, by omega, rfl, rfl, rfl⟩⟩, back fun y hy => ?_⟩
    obtain ⟨ty, z, hh⟩ := hL.heap
    rw [hpl y hy]
    exact (Array.getElem?_eq_some_iff.1 hh).1
end Go.Proofs.YtdlpffgekmidnabDoor
namespace Go.KRun
open Go.RowKit
/-- temporaries, some of which nothing is known -/
def fillO : (Nat → Value) → List (Option Value) → List Value
  | _, [] => []
  | j, o :: r => o.getD (j 0) :: fillO (fun i => j (i + 1)) r
def matO (f : Nat → Nat) : List (Option Value) → List Value → Prop
  | [], [] => True
  | some u :: r, v :: s => rn f u = v ∧ matO f r s
  | none :: r, _ :: s => matO f r s
  | _, _ => False
theorem fill_mat {m : Mp} {f : Nat → Nat} {k : Nat} (hk : 0 < k) : ∀ (o : List (Option Value)) (t : List Value), matO f o t → (∀ v, some v ∈ o → lt k v = true) → ∃ j, (fillO j o).map (mv fun i => m (f i)) = t.map (mv m) ∧ ∀ v ∈ fillO j o, lt k v = true
  | [], [], _, _ => ⟨fun _ => undef, rfl, fun v hv => by cases hv⟩
  | [], _ :: _, h, _ => h.elim
  | some _ :: _, [], h, _ => h.elim
  | none :: _, [], h, _ => h.elim
  | some u :: r, v :: s, h, hl => by
    obtain ⟨h1, h2⟩ := h
    obtain ⟨j, e1, e2⟩ := fill_mat (m := m) hk r s h2 fun x hx => hl x (List.mem_cons_of_mem _ hx)
    refine ⟨fun i => match i with | 0 => undef | i + 1 => j i, ?_, ?_⟩
    · show mv (fun i => m (f i)) u :: (fillO j r).map (mv fun i => m (f i)) = mv m v :: s.map (mv m)
      rw [e1, ← h1, mv_rn]
    · intro x hx
      rcases List.mem_cons.1 (show x ∈ u :: fillO j r from hx) with rfl | hx
      · exact hl x List.mem_cons_self
      · exact e2 x hx
  | none :: r, v :: s, h, hl => by
    obtain ⟨j, e1, e2⟩ := fill_mat (m := m) hk r s h fun x hx => hl x (List.mem_cons_of_mem _ hx)
    refine ⟨fun i => match i with | 0 => .iface dead (mv m v) | i + 1 => j i, ?_, ?_⟩
    · show mv (fun i => m (f i)) (.iface dead (mv m v)) :: (fillO j r).map (mv fun i => m (f i)) = mv m v :: s.map (mv m)
      rw [e1]
      simp [mv, mv2, mv1]
    · intro x hx
      rcases List.mem_cons.1 (show x ∈ Value.iface dead (mv m v) :: fillO j r from hx) with rfl | hx
      · simp [lt, lt2, lt1, hk, dead]
      · exact e2 x hx
/-- a memory made small: blocks with addresses in them, too -/
theorem compactR {m : Mp} {B : Nat} {t t' : List Value} {h h' : Hp} {s : List Dec} {a : Act} {w : World} (R : Rel m B (t, h, s) a w) (f : Nat → Nat) (hl : h'.l.length = h'.n)
    (hb : ∀ i x, h'.blk? i = some x → (x.1.all (lt1 h'.n)) = true ∧ h.blk? (f i) = some (x.1.map (rn1 f), x.2))
    (hi : ∀ i j x y, h'.blk? i = some x → h'.blk? j = some y → f i = f j → i = j)
    (ht : t'.map (mv fun i => m (f i)) = t.map (mv m)) (hw : ∀ v ∈ t', lt h'.n v = true) : Rel (fun i => m (f i)) B (t', h', s) a w := by
  have E := R.emb
  have em : ∀ l : List Value, (l.map (rn1 f)).map (mv1 m) = l.map (mv1 fun i => m (f i)) := fun l => by
    rw [List.map_map]
    exact List.map_congr_left fun v _ => mv1_rn m f v
  refine ⟨by rw [R.tmps]; simp only; rw [ht], R.dfr, ⟨hl, ?_, ?_, ?_, ?_, ?_, E.base, E.ice, ?_⟩, hw⟩
  · intro b x hx ht
    have := E.lies (f b) _ (hb b x hx).2 ht
    rw [em] at this
    exact this
  · intro b x hx hr
    exact E.low (f b) _ (hb b x hx).2 hr
  · intro b x hx ht hr
    exact E.ros (f b) _ (hb b x hx).2 ht hr
  · intro b b' x x' hx hx' hr hr' he
    exact hi b b' x x' hx hx' (E.inj _ _ _ _ (hb b x hx).2 (hb b' x' hx').2 hr hr' he)
  · intro b x hx v hv
    exact List.all_eq_true.1 (hb b x hx).1 v hv
  · intro b x hx ha
    exact (E.abs (f b) _ (hb b x hx).2 ha).ren (f := f) (r := []) rfl (by rw [List.append_nil]; exact em _) (fun c z hz => ⟨_, (hb c z hz).2, rfl⟩) fun c z hz _ _ hc => hi c b z x hz hx hc
theorem blk_pick {bs : List Nat} {cells : List (List Value × TypeId)} (hl : cells.length = bs.length) {i : Nat} {x : List Value × TypeId} (h : (⟨bs.length, cells.reverse⟩ : Hp).blk? i = some x) : i < bs.length ∧ (bs.getD i 0, x) ∈ bs.zip cells := by
  have hi : i < bs.length := Hp.blk_lt h
  refine ⟨hi, ?_⟩
  unfold Hp.blk? at h
  rw [if_pos (blt_iff.2 hi)] at h
  have h' : cells.reverse[bs.length - 1 - i]? = some x := h
  rw [List.getElem?_reverse (by omega), show cells.length - 1 - (bs.length - 1 - i) = i by omega] at h'
  refine List.mem_of_getElem? (i := i) ?_
  rw [List.getElem?_zip_eq_some]
  exact ⟨by rw [List.getD_eq_getElem?_getD, List.getElem?_eq_getElem hi]; rfl, h'⟩
/-- ahead of a piece of code: some blocks are kept, by their numbers -/
theorem RunsW.preP {T : Tab} {c : Code} {P : Ex → Lf → Prop} {front : List Value} (o : List (Option Value)) {n : Nat} {h : Hp} (bs : List Nat) (cells : List (List Value × TypeId)) {s s' : List Dec} {g : Nat → Value} (hr : ∀ j g, RunsW T c (fillO j o ++ tl n g, ⟨bs.length, cells.reverse⟩, s') P)
    (hl : cells.length = bs.length) (h0 : 0 < bs.length) (hf : matO (fun i => bs.getD i 0) o front) (hx : ∀ q ∈ bs.zip cells, (q.2.1.all (lt1 bs.length)) = true ∧ h.blk? q.1 = some (q.2.1.map (rn1 fun i => bs.getD i 0), q.2.2)) (hd : bs.Nodup) (hw : (o.all fun x => x.all (lt bs.length)) = true) :
    RunsW T c (front ++ tl n g, h, s) P := by
  intro m B a w R Q hQ
  obtain ⟨j, j1, j2⟩ := fill_mat (m := m) h0 o front hf fun v hv => List.all_eq_true.1 hw _ hv
  obtain ⟨g', hg⟩ := tl_of (J := (tl n g).map (fun v => Value.iface dead (mv m v))) (n := n) (by simp [tl_len])
  have R2 : Rel (fun i => m (bs.getD i 0)) B (fillO j o ++ tl n g', ⟨bs.length, cells.reverse⟩, s) a w := by
    refine compactR R (fun i => bs.getD i 0) (by simp [hl]) (fun i x hi => ?_) (fun i k x y hi hk hik => ?_) ?_ ?_
    · obtain ⟨_, q⟩ := blk_pick hl hi
      exact hx _ q
    · obtain ⟨q1, _⟩ := blk_pick hl hi
      obtain ⟨q2, _⟩ := blk_pick hl hk
      have e1 : bs.getD i 0 = bs[i] := by rw [List.getD_eq_getElem?_getD, List.getElem?_eq_getElem q1]; rfl
      have e2 : bs.getD k 0 = bs[k] := by rw [List.getD_eq_getElem?_getD, List.getElem?_eq_getElem q2]; rfl
      rw [e1, e2] at hik
      have hp := List.pairwise_iff_getElem.1 hd
      rcases Nat.lt_trichotomy i k with c | c | c
      · exact absurd hik (hp i k q1 q2 c)
      · exact c
      · exact absurd hik.symm (hp k i q2 q1 c)
    · rw [List.map_append, List.map_append, j1, ← hg, List.map_map]
      congr 1
    · intro v hv
      rcases List.mem_append.1 hv with hv | hv
      · exact j2 v hv
      · rw [← hg] at hv
        obtain ⟨u, _, rfl⟩ := List.mem_map.1 hv
        simp [lt, lt2, lt1, h0, dead]
  exact hr j g' _ B a w ⟨R2.tmps, R2.dfr, R2.emb, R2.wf⟩ Q hQ
end Go.KRun
namespace Go.KRun
theorem RunsW.cond {T : Tab} {b : Operand} {c1 c2 : Code} {x : Lf} {P : Ex → Lf → Prop} (v : Bool) (hb : okX b = true) (hv : ev x.1 b = .bool v) (h : RunsW T (match v with | true => c1 | false => c2) x P) : RunsW T (.cond b c1 c2) x P := by
  intro m B a w R Q hQ
  have hev : a.eval b = .bool v := by rw [eval_mv R.tmps hb, hv]; simp [mv, mv2, mv1]
  cases v
  · exact wp_cond_false hev (h m B a w R Q hQ)
  · exact wp_cond_true hev (h m B a w R Q hQ)
def cThn : Code → Code
  | .cond _ a _ => a
  | c => c
end Go.KRun
namespace Go.Proofs.YtdlpffgekmidnabDoor
open Go.KRun Go.RowKit
theorem calls_of_startW {T : Tab} {f : Nat} {F : Func} {c : Code} (hF : T.P.funcs[f]? = some F) (hc : F.body = some c) {h0 : Hp} {vals : List Value} (hvals : ∀ v ∈ vals, lt h0.n v = true) {v : Value} (hv : lt 0 v = true)
    (hrun : RunsW T c (vals ++ List.replicate (F.ntmps - vals.length) undef, h0, []) fun e y => (e = none ∨ e = some none) ∧ resS T.P F y.1 y.2.1 = some v)
    {m : Mp} {w : World} (E : Emb m w.heap.size h0 w) :
    Calls T.P f (vals.map (mv m)).toArray w fun e w' => e = .returned v ∧ Tidy w w' := by
  refine calls_of_wp hF hc ?_
  have R : Rel m w.heap.size (vals ++ List.replicate (F.ntmps - vals.length) undef, h0, []) { tmps := (vals.map (mv m)).toArray ++ Array.replicate (F.ntmps - (vals.map (mv m)).toArray.size) undef, defers := [] } w := by
    refine ⟨?_, rfl, E, ?_⟩
    · simp [mv_undef]
    · intro y hy
      rcases List.mem_append.1 hy with hy | hy
      · exact hvals y hy
      · rw [List.eq_of_mem_replicate hy]; simp [undef, lt]
  refine hrun _ _ _ w R _ fun e y he m1 a' w' k2 k3 => ?_
  obtain ⟨hex, hres⟩ := he
  obtain ⟨r1, r2⟩ := resS_run k2.emb k2.wf hres
  rw [← k2.tmps, mv_still hv] at r1
  have td : Tidy w w' := ⟨k3, fun k h1 h2 => k2.emb.ice k h1 h2⟩
  have post : a'.defers = [] ∧ ∃ v', (results F a'.tmps).run T.P w' = .ok v' w' ∧ (Ending.returned v' = .returned v ∧ Tidy w w') := ⟨k2.dfr, _, r1, rfl, td⟩
  rcases hex with rfl | rfl <;> exact post
end Go.Proofs.YtdlpffgekmidnabDoor
namespace Go.Proofs.YtdlpffgekmidnabDoor
open Go.KRun Go.Wd
set_option maxRecDepth 100000
theorem numk_fits : Fits (reckon (tabOf Tryd.prog extY conN true) 100 6 [.nilIface] []) (.int .i64 0) [] := ⟨by kernel_rfl, by kernel_rfl, by kernel_rfl, by kernel_rfl⟩
def gNumK : Ans := fun vals s => match vals with | [.nilIface] => some (.int .i64 0, s, []) | _ => none
theorem gNumK_ok : AnsOk 6 gNumK := by
  intro vals s v s' lg h hl w
  unfold gNumK at h
  split at h
  · cases h
    exact fits_calls (tabY_ok conN_ok) numk_fits okNil (by rfl) (by rfl) w
  · cases h
def conTK : Con := alt 6 gNumK (alt 4 gAtZ (alt 7 gLenZ conTL))
theorem conTK_ok : ConOk conTK := alt_ok Tryd.func6 rfl gNumK_ok (alt_ok Tryd.func4 rfl gAtZ_ok (alt_ok Tryd.func7 rfl gLenZ_ok conTL_ok))
def hcTK : Hc := altH 6 gNum (altH 4 gAt (altH 7 gLenR (altH 5 gNewR hcN)))
theorem hcTK_ok : HcOk hcTK := altH_ok Tryd.func6 rfl gNum_ok (altH_ok Tryd.func4 rfl gAt_ok (altH_ok Tryd.func7 rfl gLenR_ok (altH_ok Tryd.func5 rfl gNewR_ok hcN_ok)))
def kF (F : Func) : Code := cFst (cSnd (cSnd (cSnd (cSnd (cSnd (cSnd (cBody F)))))))
def kZ (F : Func) : Code := cSnd (cSnd (cSnd (cSnd (cSnd (cSnd (cSnd (cBody F)))))))
def kS (F : Func) : List Code := [cFst (cBody F), cFst (cSnd (cBody F)), cFst (cSnd (cSnd (cBody F))), cFst (cSnd (cSnd (cSnd (cBody F)))), cFst (cSnd (cSnd (cSnd (cSnd (cBody F))))), cFst (cSnd (cSnd (cSnd (cSnd (cSnd (cBody F))))))]
def kA (F : Func) : Code := cIn (cIn (cSnd (kF F)))
def kB (F : Func) : Code := cIn (cFst (cSnd (kA F)))
def kQ (F : Func) : Code := cFst (kA F)
def kR (F : Func) : Code := cSnd (cSnd (kA F))
def kP (F : Func) : List Code := [cFst (kB F), cFst (cSnd (kB F)), cFst (cSnd (cSnd (kB F)))]
def kH (F : Func) : Code := cFst (cSnd (cSnd (cSnd (kB F))))
def kN (F : Func) : Code := cSnd (cSnd (cSnd (cSnd (kB F))))
def kG (F : Func) : Code := cThn (cSnd (kH F))
def kI (F : Func) : List Code := [cFst (kG F), cFst (cSnd (kG F)), cFst (cSnd (cSnd (kG F)))]
def kD (F : Func) : Code := cFst (cSnd (cSnd (cSnd (kG F))))
def kE (F : Func) : Code := cIn (cIn (cSnd (kD F)))
def kU (F : Func) : Code := cSnd (cSnd (cSnd (cSnd (kG F))))
/-- the named temporaries -/
def tkF (l u1 u2 u3 u4 u5 r sv : Value) (i : Int) (u9 u10 u11 u12 u13 u14 u15 : Value) : List Value := [l, u1, u2, u3, u4, u5, r, sv, .int .i64 i, u9, u10, u11, u12, u13, u14, u15]
abbrev obP : Value := .pointer (some ⟨2, 0, none⟩)
abbrev lP (o n c : Nat) : Value := .slice (some ⟨1, o, none⟩) n c
def h4 (S : List Value) (e3 : TypeId) (L X : List Value) : Hp := ⟨4, [(S, e3), (L, obT), (X, askR), (kV, kT)]⟩
abbrev vI (k : Int) : Dec := val (.int .i64 k)
end Go.Proofs.YtdlpffgekmidnabDoor
