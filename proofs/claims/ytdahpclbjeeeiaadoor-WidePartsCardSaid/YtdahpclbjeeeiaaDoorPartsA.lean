/-
  tillerlaw01.num as a call, in worlds where the variable errors.errorType holds what the program's text lays; wide.DivMod by nothing; the two ways through tillerlaw01.WideParts.
-/
import Derived.Test.YtdahpclbjeeeiaaDoorAsn
import Derived.Test.YtdahpclbjeeeiaaDoorRunV
import Derived.Test.YtdahpclbjeeeiaaDoorSure
import Derived.Test.YtdahpclbjeeeiaaDoorConR5
import Derived.Test.YtdahpclbjeeeiaaDoorConR6
import Derived.Test.YtdahpclbjeeeiaaDoorConM4
import Derived.Test.YtdahpclbjeeeiaaDoorConQB
namespace Go.Proofs.YtdahpclbjeeeiaaDoor
open Go.KRun Go.Wd Go.RowKit
set_option maxRecDepth 100000

def known (w : World) : Prop := w.cell? ⟨0, 0, none⟩ = some errT
set_option maxHeartbeats 4000000 in
theorem num_calls (n : Int) (w : World) (hg : known w) : Calls Tryd.prog 5 #[.iface 38 (.int .i64 n)] w fun e w' => e = .returned (.int .i64 n) ∧ Tidy w w' := by
  have hlt : 0 < w.heap.size := by
    rcases Nat.eq_zero_or_pos w.heap.size with h0 | h
    · unfold known at hg
      simp [World.cell?, h0] at hg
    · exact h
  have hg1 : (w.alloc (.cells #[.int .i64 0] 38)).cell? ⟨0, 0, none⟩ = some errT := by
    rw [World.cell?_alloc_lt _ _ ⟨0, 0, none⟩ hlt]; exact hg
  have ht1 : (w.alloc (.cells #[.int .i64 0] 38)).cell? ⟨w.heap.size, 0, none⟩ = some (.int .i64 0) := by simp
  have hf1 : (w.alloc (.cells #[.int .i64 0] 38)).frozen? ⟨w.heap.size, 0, none⟩ = false := by simp
  have hit := as_hit n ⟨w.heap.size, 0, none⟩ (.int .i64 0) _ hg1 ht1 hf1
  have hb : (w.alloc (.cells #[.int .i64 0] 38)).heap[w.heap.size]? = some (.cells #[.int .i64 0] 38 (0, 0)) := heap_alloc_at w _
  have hcell : (asW n ⟨w.heap.size, 0, none⟩ (w.alloc (.cells #[.int .i64 0] 38))).cell? ⟨w.heap.size, 0, none⟩ = some (.int .i64 n) ∧ Tidy w (asW n ⟨w.heap.size, 0, none⟩ (w.alloc (.cells #[.int .i64 0] 38))) := by
    unfold asW
    have t1 := tidy_alloc w #[.int .i64 0] 38
    generalize hw1 : w.alloc (.cells #[.int .i64 0] 38) = w1 at *
    have s1 : w.heap.size < w1.heap.size := by rw [← hw1, size_alloc']; omega
    have t2 := tidy_alloc w1 #[.pointer (some ⟨w.heap.size, 0, none⟩)] 48
    have q2 := heap_alloc_ne w1 (.cells #[.pointer (some ⟨w.heap.size, 0, none⟩)] 48) w.heap.size (by omega)
    have s2 := size_alloc' w1 (.cells #[.pointer (some ⟨w.heap.size, 0, none⟩)] 48)
    generalize w1.alloc (.cells #[.pointer (some ⟨w.heap.size, 0, none⟩)] 48) = w2 at *
    have t3 := tidy_alloc w2 #[.pointer (some ⟨3, 48, none⟩), .pointer (some ⟨w1.heap.size, 0, none⟩), .int .u64 150] 67
    have q3 := heap_alloc_ne w2 (.cells #[.pointer (some ⟨3, 48, none⟩), .pointer (some ⟨w1.heap.size, 0, none⟩), .int .u64 150] 67) w.heap.size (by omega)
    have s3 := size_alloc' w2 (.cells #[.pointer (some ⟨3, 48, none⟩), .pointer (some ⟨w1.heap.size, 0, none⟩), .int .u64 150] 67)
    generalize w2.alloc (.cells #[.pointer (some ⟨3, 48, none⟩), .pointer (some ⟨w1.heap.size, 0, none⟩), .int .u64 150] 67) = w3 at *
    have t4 := tidy_alloc w3 #[.pointer (some ⟨3, 48, none⟩), .pointer (some ⟨w1.heap.size, 0, none⟩), .int .u64 150] 67
    have q4 := heap_alloc_ne w3 (.cells #[.pointer (some ⟨3, 48, none⟩), .pointer (some ⟨w1.heap.size, 0, none⟩), .int .u64 150] 67) w.heap.size (by omega)
    have s4 := size_alloc' w3 (.cells #[.pointer (some ⟨3, 48, none⟩), .pointer (some ⟨w1.heap.size, 0, none⟩), .int .u64 150] 67)
    generalize w3.alloc (.cells #[.pointer (some ⟨3, 48, none⟩), .pointer (some ⟨w1.heap.size, 0, none⟩), .int .u64 150] 67) = w4 at *
    have t5 := tidy_alloc w4 #[.int .i64 n] 38
    have q5 := heap_alloc_ne w4 (.cells #[.int .i64 n] 38) w.heap.size (by omega)
    generalize w4.alloc (.cells #[.int .i64 n] 38) = w5 at *
    have hb5 : w5.heap[w.heap.size]? = some (.cells #[.int .i64 0] 38 (0, 0)) := by rw [q5, q4, q3, q2]; exact hb
    exact ⟨cell_of_one (one_setCell hb5), tidy_setCell (tidy_trans t1 (tidy_trans t2 (tidy_trans t3 (tidy_trans t4 t5)))) (Nat.le_refl _) hb5 _⟩
  obtain ⟨W', hc1, hc2, hit'⟩ : ∃ W' : World, W'.cell? ⟨w.heap.size, 0, none⟩ = some (.int .i64 n) ∧ Tidy w W' ∧ Calls Tryd.prog 14 #[.iface 38 (.int .i64 n), .iface 48 (.pointer (some ⟨w.heap.size, 0, none⟩))] (w.alloc (.cells #[.int .i64 0] 38)) fun ev w' => ev = .returned (.bool true) ∧ w' = W' := ⟨_, hcell.1, hcell.2, hit⟩
  clear hit hcell hb hf1 ht1 hg1 hlt hg
  go_enter Tryd.func5, Tryd.ntmps5
  go_wp2_with (go_at_call 14; refine hit'.mono ?_; rintro e w' ⟨rfl, rfl⟩)
  go_ret
  exact ⟨rfl, hc2⟩
end Go.Proofs.YtdahpclbjeeeiaaDoor
