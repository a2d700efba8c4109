/-
  FlC5, FlC7, FlC11, FlC13, FlH, FlJ, Row
-/
import Derived.Test.YtjkgnbdeklploaaGreatG18
import Derived.WalkKit
import Derived.ProofKit
import Derived.OpenShut
import Derived.Laws.IdiomArrays
import Derived.Lib.SmallJoins
namespace Go.Proofs.YtjkgnbdeklploaaGreat
open Go.KRun Go.Wd Go.Pt Go.Rn
set_option maxRecDepth 100000
theorem fc5 (a0 b0 a1 b1 a2 b2 a3 b3 a4 b4 : Int) (t : Bool) : FitsB (reckonAt (tabA (tabH Tryz.prog extY conRt hcFl)) ⟨1, [(prC [(a0, b0), (a1, b1), (a2, b2), (a3, b3), (a4, b4)], tPr)]⟩ 300 4 [.slice (some ⟨0, 0, none⟩) 5 5, .bool t] []) 23 (.tuple #[.slice (some ⟨23, 0, none⟩) 5 (dead + 2), .int .u8 (orL (flags (flO [(a0, b0), (a1, b1), (a2, b2), (a3, b3), (a4, b4)] t))), .nilIface]) (prC (flV [(a0, b0), (a1, b1), (a2, b2), (a3, b3), (a4, b4)] t)) 27 (flL [(a0, b0), (a1, b1), (a2, b2), (a3, b3), (a4, b4)] t) := by unfold FitsB; kernel_rfl
theorem fc7 (a0 b0 a1 b1 a2 b2 a3 b3 a4 b4 a5 b5 a6 b6 : Int) (t : Bool) : FitsB (reckonAt (tabA (tabH Tryz.prog extY conRt hcFl)) ⟨1, [(prC [(a0, b0), (a1, b1), (a2, b2), (a3, b3), (a4, b4), (a5, b5), (a6, b6)], tPr)]⟩ 300 4 [.slice (some ⟨0, 0, none⟩) 7 7, .bool t] []) 29 (.tuple #[.slice (some ⟨29, 0, none⟩) 7 (dead + 2), .int .u8 (orL (flags (flO [(a0, b0), (a1, b1), (a2, b2), (a3, b3), (a4, b4), (a5, b5), (a6, b6)] t))), .nilIface]) (prC (flV [(a0, b0), (a1, b1), (a2, b2), (a3, b3), (a4, b4), (a5, b5), (a6, b6)] t)) 27 (flL [(a0, b0), (a1, b1), (a2, b2), (a3, b3), (a4, b4), (a5, b5), (a6, b6)] t) := by unfold FitsB; kernel_rfl
theorem fc11 (a0 b0 a1 b1 a2 b2 a3 b3 a4 b4 a5 b5 a6 b6 a7 b7 a8 b8 a9 b9 a10 b10 : Int) (t : Bool) : FitsB (reckonAt (tabA (tabH Tryz.prog extY conRt hcFl)) ⟨1, [(prC [(a0, b0), (a1, b1), (a2, b2), (a3, b3), (a4, b4), (a5, b5), (a6, b6), (a7, b7), (a8, b8), (a9, b9), (a10, b10)], tPr)]⟩ 300 4 [.slice (some ⟨0, 0, none⟩) 11 11, .bool t] []) 47 (.tuple #[.slice (some ⟨47, 0, none⟩) 11 (dead + 2), .int .u8 (orL (flags (flO [(a0, b0), (a1, b1), (a2, b2), (a3, b3), (a4, b4), (a5, b5), (a6, b6), (a7, b7), (a8, b8), (a9, b9), (a10, b10)] t))), .nilIface]) (prC (flV [(a0, b0), (a1, b1), (a2, b2), (a3, b3), (a4, b4), (a5, b5), (a6, b6), (a7, b7), (a8, b8), (a9, b9), (a10, b10)] t)) 27 (flL [(a0, b0), (a1, b1), (a2, b2), (a3, b3), (a4, b4), (a5, b5), (a6, b6), (a7, b7), (a8, b8), (a9, b9), (a10, b10)] t) := by unfold FitsB; kernel_rfl
theorem fc13 (a0 b0 a1 b1 a2 b2 a3 b3 a4 b4 a5 b5 a6 b6 a7 b7 a8 b8 a9 b9 a10 b10 a11 b11 a12 b12 : Int) (t : Bool) : FitsB (reckonAt (tabA (tabH Tryz.prog extY conRt hcFl)) ⟨1, [(prC [(a0, b0), (a1, b1), (a2, b2), (a3, b3), (a4, b4), (a5, b5), (a6, b6), (a7, b7), (a8, b8), (a9, b9), (a10, b10), (a11, b11), (a12, b12)], tPr)]⟩ 300 4 [.slice (some ⟨0, 0, none⟩) 13 13, .bool t] []) 59 (.tuple #[.slice (some ⟨59, 0, none⟩) 13 (dead + 2), .int .u8 (orL (flags (flO [(a0, b0), (a1, b1), (a2, b2), (a3, b3), (a4, b4), (a5, b5), (a6, b6), (a7, b7), (a8, b8), (a9, b9), (a10, b10), (a11, b11), (a12, b12)] t))), .nilIface]) (prC (flV [(a0, b0), (a1, b1), (a2, b2), (a3, b3), (a4, b4), (a5, b5), (a6, b6), (a7, b7), (a8, b8), (a9, b9), (a10, b10), (a11, b11), (a12, b12)] t)) 27 (flL [(a0, b0), (a1, b1), (a2, b2), (a3, b3), (a4, b4), (a5, b5), (a6, b6), (a7, b7), (a8, b8), (a9, b9), (a10, b10), (a11, b11), (a12, b12)] t) := by unfold FitsB; kernel_rfl
def isU6 : Value → Bool
  | .int .u64 n => decide (0 ≤ n ∧ n < 18446744073709551616)
  | _ => false
abbrev tp7 : TypeId := 27
def pairsOf : List Value → List PR
  | .int _ a :: .int _ b :: r => (a, b) :: pairsOf r
  | _ => []
def canN (n : Nat) : Bool := [2, 3, 4, 5, 7, 11, 13].any (Nat.beq n)
def litB (x : List Value × TypeId) (n : Nat) : Bool := !(tomb x.2) && Nat.beq (rt x.2) tp7 && (x.1.take (2 * n)).all isU6 && Nat.ble (2 * n) x.1.length && x.1.all still
theorem pairs_of : ∀ (n : Nat) (l : List Value), l.length = 2 * n → l.all isU6 = true → prC (pairsOf l) = l ∧ (pairsOf l).length = n ∧ allU (pairsOf l)
  | 0, l, h, _ => by
    obtain rfl := List.length_eq_zero_iff.1 (show l.length = 0 by omega)
    exact ⟨rfl, rfl, fun x hx => by cases hx⟩
  | n + 1, l, h, hu => by
    match l, h with
    | [], h => simp at h
    | [a], h => simp at h; omega
    | a :: b :: r, h =>
      simp only [List.all_cons, Bool.and_eq_true] at hu
      obtain ⟨ha, hb, hr⟩ := hu
      obtain ⟨e1, e2, e3⟩ := pairs_of n r (by simp at h; omega) hr
      unfold isU6 at ha hb
      split at ha
      · rename_i u
        split at hb
        · rename_i v
          simp only [decide_eq_true_eq] at ha hb
          refine ⟨?_, by simp [pairsOf, e2], fun z hz => ?_⟩
          · show [Value.int .u64 u, .int .u64 v] ++ prC (pairsOf r) = _
            rw [e1]
            rfl
          · rcases List.mem_cons.1 hz with rfl | hz
            · exact ⟨ha, hb⟩
            · exact e3 z hz
        · cases hb
      · cases ha
theorem tPr_facts : ro tPr = true ∧ ab tPr = false ∧ rt tPr = tp7 := ⟨by kernel_rfl, by kernel_rfl, by kernel_rfl⟩
theorem prC_still (l : List PR) : ∀ v ∈ prC l, still v = true := fun v hv => by
  unfold prC at hv
  obtain ⟨x, _, hv⟩ := List.mem_flatMap.1 hv
  simp only [List.mem_cons, List.not_mem_nil, or_false] at hv
  rcases hv with rfl | rfl <;> rfl
theorem prC_lt (l : List PR) : ∀ v ∈ prC l, lt1 0 v = true := fun v hv => by
  unfold prC at hv
  obtain ⟨x, _, hv⟩ := List.mem_flatMap.1 hv
  simp only [List.mem_cons, List.not_mem_nil, or_false] at hv
  rcases hv with rfl | rfl <;> rfl
theorem rowsP {l : List PR} : (⟨1, [(prC l, tPr)]⟩ : Hp).rows := ⟨rfl, fun b x hb => by
  have : b < 1 := Hp.blk_lt hb
  have hb0 : b = 0 := by omega
  subst hb0
  obtain rfl := (Option.some.inj hb).symm
  exact ⟨tPr_facts.1, prC_still l, tPr_facts.2.1⟩⟩
theorem fitsP {l : List PR} {h : Hp} {b : Nat} {x : List Value × TypeId} {k : Nat} (hb : h.blk? b = some x) (h1 : tomb x.2 = false) (h2 : rt x.2 = tp7) (e : x.1.take k = prC l) : (⟨1, [(prC l, tPr)]⟩ : Hp).fits (fun _ => b) h := by
  intro i y hi _
  have : i < 1 := Hp.blk_lt hi
  have hb0 : i = 0 := by omega
  subst hb0
  obtain rfl := (Option.some.inj hi).symm
  exact ⟨x, x.1.drop k, hb, h1, by rw [h2]; exact tPr_facts.2.2.symm, by rw [← e, List.take_append_drop]⟩
def litV (b n : Nat) (f : Int) : Value := .tuple #[.slice (some ⟨b, 0, none⟩) n (dead + 2), .int .u8 f, .nilIface]
theorem lit_call {n c k : Nat} {xs : List PR} {t : Bool} (hF : FitsB (reckonAt (tabA (tabH Tryz.prog extY conRt hcFl)) ⟨1, [(prC xs, tPr)]⟩ 300 4 [.slice (some ⟨0, 0, none⟩) n c, .bool t] []) k (litV k n (orL (flags (flO xs t)))) (prC (flV xs t)) tp7 (flL xs t)) (hx : allU xs) (hk : oc [k] (litV k n (orL (flags (flO xs t)))) = true)
    {m : Mp} {B : Nat} {h : Hp} {w : World} (E : Emb m B h w) {b : Nat} {x : List Value × TypeId} {j : Nat} (hb : h.blk? b = some x) (h1 : tomb x.2 = false) (h2 : rt x.2 = tp7) (e : x.1.take j = prC xs) :
    Calls Tryz.prog 4 (([.slice (some ⟨b, 0, none⟩) n c, .bool t] : List Value).map (mv m)).toArray w fun e w' => ∃ m', e = .returned (mv m' (litV h.n n (orL (flags (flO xs t))))) ∧ Came m B h w (litV h.n n (orL (flags (flO xs t)))) (h.push (prC (flV xs t)) tp7) m' w' := by
  have r := fits_row1 (tabA_ok TFl_ok) rowsP hF (flL_ok hx t) (prC_lt _) (by kernel_rfl) (fun v hv => by
    simp only [List.mem_cons, List.not_mem_nil, or_false] at hv
    rcases hv with rfl | rfl <;> rfl) hk E (s := fun _ => b) (fitsP hb h1 h2 e)
  have e1 : rn (fun _ => h.n) (litV k n (orL (flags (flO xs t)))) = litV h.n n (orL (flags (flO xs t))) := by simp [litV, rn, rn2, rn1]
  have e2 : ([.slice (some ⟨0, 0, none⟩) n c, .bool t] : List Value).map (rn fun _ => b) = [.slice (some ⟨b, 0, none⟩) n c, .bool t] := by simp [rn, rn2, rn1]
  rw [e1, e2] at r
  exact r
def capL (n c : Nat) : Bool := Nat.beq c n
def gLit : AnsH := fun vals h s =>
  match vals with
  | [.slice (some ⟨b, 0, none⟩) n c, .bool t] =>
    match canN n && capL n c, h.blk? b with
    | true, some x => some (litV h.n n (orL (flags (flO (pairsOf (x.1.take (2 * n))) t))), h.push (prC (flV (pairsOf (x.1.take (2 * n))) t)) tp7, s, [(litB x n, true)])
    | _, _ => none
  | _ => none
theorem gLit_ok : AnsHOk 4 gLit := by
  intro vals h s v h' s' lg hg hl m B w E hv
  unfold gLit at hg
  split at hg
  · rename_i b n c t
    split at hg
    · rename_i x hc hx
      cases hg
      have lg1 := hl _ (List.mem_singleton.2 rfl)
      simp only [litB, Bool.and_eq_true, Bool.not_eq_true'] at lg1
      obtain ⟨⟨⟨⟨q1, q2⟩, q3⟩, q4⟩, q5⟩ := lg1
      have q2 := Nat.eq_of_beq_eq_true q2
      have q4 := Nat.le_of_ble_eq_true q4
      obtain ⟨p1, p2, p3⟩ := pairs_of n (x.1.take (2 * n)) (by simp; omega) q3
      generalize hxs : pairsOf (x.1.take (2 * n)) = xs at p1 p2 p3
      rw [Bool.and_eq_true] at hc
      obtain ⟨hc1, hc2⟩ := hc
      have hn : n = 2 ∨ n = 3 ∨ n = 4 ∨ n = 5 ∨ n = 7 ∨ n = 11 ∨ n = 13 := by
        obtain ⟨y, hy, hb⟩ := List.any_eq_true.1 hc1
        have := Nat.eq_of_beq_eq_true hb
        simp only [List.mem_cons, List.not_mem_nil, or_false] at hy
        omega
      have hcc := Nat.eq_of_beq_eq_true hc2
      rcases hn with rfl | rfl | rfl | rfl | rfl | rfl | rfl
      · match xs, p2 with
        | [x0, x1], _ => obtain rfl := hcc; exact lit_call (fc2 _ _ _ _ t) p3 (by rfl) E hx q1 q2 p1.symm
      · match xs, p2 with
        | [x0, x1, x2], _ => obtain rfl := hcc; exact lit_call (fc3 _ _ _ _ _ _ t) p3 (by rfl) E hx q1 q2 p1.symm
      · match xs, p2 with
        | [x0, x1, x2, x3], _ => obtain rfl := hcc; exact lit_call (fc4 _ _ _ _ _ _ _ _ t) p3 (by rfl) E hx q1 q2 p1.symm
      · match xs, p2 with
        | [x0, x1, x2, x3, x4], _ => obtain rfl := hcc; exact lit_call (fc5 _ _ _ _ _ _ _ _ _ _ t) p3 (by rfl) E hx q1 q2 p1.symm
      · match xs, p2 with
        | [x0, x1, x2, x3, x4, x5, x6], _ => obtain rfl := hcc; exact lit_call (fc7 _ _ _ _ _ _ _ _ _ _ _ _ _ _ t) p3 (by rfl) E hx q1 q2 p1.symm
      · match xs, p2 with
        | [x0, x1, x2, x3, x4, x5, x6, x7, x8, x9, x10], _ => obtain rfl := hcc; exact lit_call (fc11 _ _ _ _ _ _ _ _ _ _ _ _ _ _ _ _ _ _ _ _ _ _ t) p3 (by rfl) E hx q1 q2 p1.symm
      · match xs, p2 with
        | [x0, x1, x2, x3, x4, x5, x6, x7, x8, x9, x10, x11, x12], _ => obtain rfl := hcc; exact lit_call (fc13 _ _ _ _ _ _ _ _ _ _ _ _ _ _ _ _ _ _ _ _ _ _ _ _ _ _ t) p3 (by rfl) E hx q1 q2 p1.symm
    · cases hg
  · cases hg
/-! ### 'sure' -/
theorem su18 : FitsC (reckon (tabA (tabH Tryz.prog extY conRt hcFl)) 300 5 [] []) (.bool true) := ⟨by kernel_rfl, by kernel_rfl, by kernel_rfl, by kernel_rfl⟩
def gSu18 : Ans := fun vals s => match vals with | [] => some (.bool true, s, []) | _ => none
theorem gSu18_ok : AnsOk 5 gSu18 := by
  intro vals s v s' lg h hl w
  unfold gSu18 at h
  split at h
  · cases h
    exact fitsC_calls (tabA_ok TFl_ok) su18 (by rfl) (by rfl) w
  · cases h
/-! ### how many numbers may be -/
def conLs : Con := alt 5 gSu18 conN
theorem conLs_ok : ConOk conLs := alt_ok Tryz.func5 rfl gSu18_ok conN_ok
end Go.Proofs.YtjkgnbdeklploaaGreat
namespace Go.KRun
open Go.ChangeShapes Go.WideShapes Go.ChangeAt Go.RowKit Go.Joins
theorem tidy_frozen {w w' : World} (h : Tidy w w') (a : Addr) : w'.frozen? a = w.frozen? a := by
  unfold World.frozen?
  by_cases h1 : a.block < w.heap.size
  · rw [h.1.block _ h1]
  · rw [Array.getElem?_eq_none (by omega : w.heap.size ≤ a.block)]
    by_cases h2 : a.block < w'.heap.size
    · have h3 := h.2 a.block (by omega) h2
      unfold iced at h3
      split
      · rename_i c e lo hi hc
        have := h3 _ _ _ hc
        cases this
        simp
      · rfl
    · rw [Array.getElem?_eq_none (by omega : w'.heap.size ≤ a.block)]
end Go.KRun
