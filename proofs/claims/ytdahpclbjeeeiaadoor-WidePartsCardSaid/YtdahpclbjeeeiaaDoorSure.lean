/-
  What the law's 'sure' answers, in every world: true. It is one closed run, reckoned by the kernel, in pieces: three divisions, the root of 10, the rest.
-/
import Derived.Test.YtdahpclbjeeeiaaDoorCon1
namespace Go.Proofs.YtdahpclbjeeeiaaDoor
open Go.KRun Go.Wd

/-- answers at single pairs of numbers -/
def gTab (tbl : List ((W4 × W4) × Value)) : Ans := fun vals s =>
  match vals with
  | [x, y] =>
    match w4 x, w4 y with
    | some a, some b =>
      match tbl.find? (fun e => eqW e.1.1 a && eqW e.1.2 b) with
      | some e => some (e.2, s, [])
      | none => none
    | _, _ => none
  | _ => none
theorem gTab_ok {f : Nat} {tbl : List ((W4 × W4) × Value)} (hk : ∀ e ∈ tbl, ∀ w, Calls Tryd.prog f #[vW e.1.1, vW e.1.2] w fun en w' => en = .returned e.2 ∧ Tidy w w') : AnsOk f (gTab tbl) := by
  intro vals s v s' lg h _ w
  unfold gTab at h
  split at h
  · split at h
    · rename_i a b ha hb
      split at h
      · rename_i e he
        cases h
        have h1 := List.find?_some he
        simp only [Bool.and_eq_true, eqW_iff] at h1
        have := hk e (List.mem_of_find?_eq_some he) w
        rw [w4_spec ha, w4_spec hb, ← h1.1, ← h1.2]
        exact this
      · cases h
    · cases h
  · cases h
def gTab1 (tbl : List (W4 × Value)) : Ans := fun vals s =>
  match vals with
  | [x] =>
    match w4 x with
    | some a =>
      match tbl.find? (fun e => eqW e.1 a) with
      | some e => some (e.2, s, [])
      | none => none
    | none => none
  | _ => none
theorem gTab1_ok {f : Nat} {tbl : List (W4 × Value)} (hk : ∀ e ∈ tbl, ∀ w, Calls Tryd.prog f #[vW e.1] w fun en w' => en = .returned e.2 ∧ Tidy w w') : AnsOk f (gTab1 tbl) := by
  intro vals s v s' lg h _ w
  unfold gTab1 at h
  split at h
  · split at h
    · rename_i a ha
      split at h
      · rename_i e he
        cases h
        have h1 := List.find?_some he
        simp only [eqW_iff] at h1
        have := hk e (List.mem_of_find?_eq_some he) w
        rw [w4_spec ha, ← h1]
        exact this
      · cases h
    · cases h
  · cases h

def dmV (q r : W4) : Value := .tuple #[vW q, vW r, .nilIface]
set_option maxRecDepth 1000000 in
theorem d1_fits : Fits (reckon (tabOf Tryd.prog extC conN false) 10000 4 [vW ⟨0, 0, 0, 256⟩, vW ⟨3, 0, 0, 0⟩] []) (dmV ⟨6148914691236517205, 6148914691236517205, 6148914691236517205, 85⟩ ⟨1, 0, 0, 0⟩) [] := ⟨by kernel_rfl, by kernel_rfl, by kernel_rfl, by kernel_rfl⟩
set_option maxRecDepth 1000000 in
theorem d2_fits : Fits (reckon (tabOf Tryd.prog extC conN false) 10000 4 [vW ⟨10, 0, 0, 0⟩, vW ⟨4, 0, 0, 0⟩] []) (dmV ⟨2, 0, 0, 0⟩ ⟨2, 0, 0, 0⟩) [] := ⟨by kernel_rfl, by kernel_rfl, by kernel_rfl, by kernel_rfl⟩
set_option maxRecDepth 1000000 in
theorem d3_fits : Fits (reckon (tabOf Tryd.prog extC conN false) 10000 4 [vW ⟨10, 0, 0, 0⟩, vW ⟨3, 0, 0, 0⟩] []) (dmV ⟨3, 0, 0, 0⟩ ⟨1, 0, 0, 0⟩) [] := ⟨by kernel_rfl, by kernel_rfl, by kernel_rfl, by kernel_rfl⟩
def dtab : List ((W4 × W4) × Value) :=
  [((⟨0, 0, 0, 256⟩, ⟨3, 0, 0, 0⟩), dmV ⟨6148914691236517205, 6148914691236517205, 6148914691236517205, 85⟩ ⟨1, 0, 0, 0⟩), ((⟨10, 0, 0, 0⟩, ⟨4, 0, 0, 0⟩), dmV ⟨2, 0, 0, 0⟩ ⟨2, 0, 0, 0⟩), ((⟨10, 0, 0, 0⟩, ⟨3, 0, 0, 0⟩), dmV ⟨3, 0, 0, 0⟩ ⟨1, 0, 0, 0⟩)]
theorem dtab_ok : ∀ e ∈ dtab, ∀ w, Calls Tryd.prog 4 #[vW e.1.1, vW e.1.2] w fun en w' => en = .returned e.2 ∧ Tidy w w' := by
  intro e he w
  simp only [dtab, List.mem_cons, List.not_mem_nil, or_false] at he
  rcases he with rfl | rfl | rfl
  · exact fits_calls (tabC_ok conN_ok) d1_fits okNil (by rfl) (by rfl) w
  · exact fits_calls (tabC_ok conN_ok) d2_fits okNil (by rfl) (by rfl) w
  · exact fits_calls (tabC_ok conN_ok) d3_fits okNil (by rfl) (by rfl) w
def conD : Con := alt 4 (gTab dtab) conN
theorem conD_ok : ConOk conD := alt_ok Tryd.func4 rfl (gTab_ok dtab_ok) conN_ok
set_option maxRecDepth 1000000 in
theorem s1_fits : Fits (reckon (tabOf Tryd.prog extC conD false) 10000 16 [vW ⟨10, 0, 0, 0⟩] []) (.tuple #[vW ⟨3, 0, 0, 0⟩, vW ⟨1, 0, 0, 0⟩]) [] := ⟨by kernel_rfl, by kernel_rfl, by kernel_rfl, by kernel_rfl⟩
def stab : List (W4 × Value) := [(⟨10, 0, 0, 0⟩, .tuple #[vW ⟨3, 0, 0, 0⟩, vW ⟨1, 0, 0, 0⟩])]
theorem stab_ok : ∀ e ∈ stab, ∀ w, Calls Tryd.prog 16 #[vW e.1] w fun en w' => en = .returned e.2 ∧ Tidy w w' := by
  intro e he w
  simp only [stab, List.mem_cons, List.not_mem_nil, or_false] at he
  subst he
  exact fits_calls (tabC_ok conD_ok) s1_fits okNil (by rfl) (by rfl) w
def conDS : Con := alt 16 (gTab1 stab) conD
theorem conDS_ok : ConOk conDS := alt_ok Tryd.func16 rfl (gTab1_ok stab_ok) conD_ok
set_option maxRecDepth 1000000 in
theorem sure_fits : Fits (reckon (tabOf Tryd.prog extC conDS false) 10000 6 [] []) (.bool true) [] := ⟨by kernel_rfl, by kernel_rfl, by kernel_rfl, by kernel_rfl⟩
theorem sure_calls (w : World) : Calls Tryd.prog 6 #[] w fun e w' => e = .returned (.bool true) ∧ Tidy w w' := fits_calls (tabC_ok conDS_ok) sure_fits okNil (by rfl) (by rfl) w
def gSure : Ans := fun vals s =>
  match vals with
  | [] => some (.bool true, s, [])
  | _ => none
theorem gSure_ok : AnsOk 6 (gSure) := by
  intro vals s v s' lg h _ w
  unfold gSure at h
  split at h
  · cases h; exact sure_calls w
  · cases h
end Go.Proofs.YtdahpclbjeeeiaaDoor
