/-
  ShI, TxY, ShJ, ShK, Con1
-/
import Derived.Test.YtgefjidphfdhdabGreatDoorG19
namespace Go.Proofs.YtgefjidphfdhdabGreatDoor
open Go.KRun Go.Nt Go.Rd
set_option maxRecDepth 100000
set_option linter.unusedVariables false
def conZ : Con := alt 34 gTrA (alt 24 gRep (alt 54 gCmS conN))
theorem conZ_ok : ConOk conZ := alt_ok Tryz.func34 rfl gTrA_ok (alt_ok Tryz.func24 rfl gRep_ok (alt_ok Tryz.func54 rfl gCmS_ok conN_ok))
/-! ### a sign; a point behind the first digit -/
def mnL (b : Bool) : List UInt8 := if b = true then [45] else []
theorem sg14_t : Fits (reckon (tabOf Tryz.prog extY conZ true) 100 21 [.bool true] []) (bR [45]) [] := ⟨by kernel_rfl, by kernel_rfl, by kernel_rfl, by kernel_rfl⟩
theorem sg14_f : Fits (reckon (tabOf Tryz.prog extY conZ true) 100 21 [.bool false] []) (bR []) [] := ⟨by kernel_rfl, by kernel_rfl, by kernel_rfl, by kernel_rfl⟩
def gSgn : Ans := fun vals s =>
  match vals with
  | [.bool b] => some (bR (mnL b), s, [])
  | _ => none
theorem gSgn_ok : AnsOk 21 gSgn := by
  intro vals s v s' lg h hl w
  unfold gSgn at h
  split at h
  · rename_i b
    cases h
    cases b with
    | true => exact fits_calls (tabY_ok conZ_ok) sg14_t okN9R (by rfl) (by rfl) w
    | false => exact fits_calls (tabY_ok conZ_ok) sg14_f okN9R (by rfl) (by rfl) w
  · cases h
def ptL (l : List UInt8) : List UInt8 := match l with | [] => [] | [c] => [c] | c :: r => c :: 46 :: r
theorem pt14_1 (l : List UInt8) : Fits (reckon (tabOf Tryz.prog extY conZ true) 100 22 [bR l] [cmp true]) (bR l) [((((l.length : Nat) : Int) == 1), true)] := ⟨by kernel_rfl, by kernel_rfl, by kernel_rfl, by kernel_rfl⟩
theorem pt14_n (l : List UInt8) : Fits (reckon (tabOf Tryz.prog extY conZ true) 100 22 [bR l] [cmp false, sam true, sam true, sam true, sam true]) (bR ((l.take 1 ++ [46]) ++ l.drop 1)) [(decide ((l.take 1 ++ [46]).length + (l.drop 1).length ≤ 9223372036854775807), true), (decide ((0 : Int) ≤ 1 ∧ (1 : Int) ≤ ((l.length : Nat) : Int)), true), (decide ((l.take 1).length + 1 ≤ 9223372036854775807), true), (decide ((0 : Int) ≤ 1 ∧ (1 : Int) ≤ ((l.length : Nat) : Int)), true), ((((l.length : Nat) : Int) == 1), false)] := ⟨by kernel_rfl, by kernel_rfl, by kernel_rfl, by kernel_rfl⟩
def gPtd : Ans := fun vals s =>
  match vals with
  | [.string b] => some (bR (ptL b.data.toList), s, [(decide (1 ≤ b.data.toList.length ∧ b.data.toList.length ≤ 100000), true)])
  | _ => none
theorem gPtd_ok : AnsOk 22 gPtd := by
  intro vals s v s' lg h hl w
  unfold gPtd at h
  split at h
  · rename_i b
    cases h
    obtain ⟨h1, h2⟩ := of_decide_eq_true (hl _ (List.mem_singleton.2 rfl))
    obtain ⟨l, hL⟩ : ∃ l, l = b.data.toList := ⟨_, rfl⟩
    have eb : Value.string b = bR l := by rw [hL]; rfl
    rw [eb, ← hL]
    rw [← hL] at h1 h2
    match l, h1, h2 with
    | [c], _, _ => exact fits_calls (tabY_ok conZ_ok) (pt14_1 [c]) (okL1 rfl) (by rfl) (by rfl) w
    | c :: d :: r, h1, h2 =>
      have lr : (c :: d :: r).length = r.length + 2 := rfl
      have f := pt14_n (c :: d :: r)
      refine fits_calls (tabY_ok conZ_ok) f (okCons (decide_eq_true (by show 2 + (r.length + 1) ≤ _; omega)) (okCons (decide_eq_true ⟨by omega, by omega⟩) (okCons (decide_eq_true (by show 1 + 1 ≤ _; omega)) (okCons (decide_eq_true ⟨by omega, by omega⟩) (okL1 (beqR_f (by omega))))))) (by rfl) (by rfl) w
  · cases h
/-! ### what is not finite -/
def conZ1 : Con := alt 21 gSgn conZ
theorem conZ1_ok : ConOk conZ1 := alt_ok Tryz.func21 rfl gSgn_ok conZ_ok
def nmL (m : Bool) (c : Int) : List UInt8 := if c = 3 then mnL m ++ [105, 110, 102] else [110, 97, 110]
theorem nm14_i (m : Bool) (c e s : Int) : Fits (reckon (tabOf Tryz.prog extY conZ1 true) 100 10 [vP m c e s] [cmp true, sam true]) (bR (mnL m ++ [105, 110, 102])) [(decide ((mnL m).length + 3 ≤ 9223372036854775807), true), (c == 3, true)] := ⟨by kernel_rfl, by kernel_rfl, by kernel_rfl, by kernel_rfl⟩
theorem nm14_n (m : Bool) (c e s : Int) : Fits (reckon (tabOf Tryz.prog extY conZ1 true) 100 10 [vP m c e s] [cmp false]) (bR [110, 97, 110]) [(c == 3, false)] := ⟨by kernel_rfl, by kernel_rfl, by kernel_rfl, by kernel_rfl⟩
theorem mnL_len (b : Bool) : (mnL b).length ≤ 1 := by cases b <;> decide
def vP4 : Value → Option (Bool × Int × Int × Int)
  | .agg cs =>
    match cs.toList with
    | [.bool m, .int .i64 c, .int .i64 e, .int .u64 s] => some (m, c, e, s)
    | _ => none
  | _ => none
theorem vP4_spec {v : Value} {m : Bool} {c e s : Int} (h : vP4 v = some (m, c, e, s)) : v = vP m c e s := by
  unfold vP4 at h
  split at h
  · rename_i cs
    split at h
    · rename_i hc
      cases h
      obtain ⟨l⟩ := cs
      simp only at hc
      subst hc
      rfl
    · cases h
  · cases h
def gNam : Ans := fun vals s =>
  match vals with
  | [v] =>
    match vP4 v with
    | some (m, c, _, _) => some (bR (nmL m c), s, [])
    | none => none
  | _ => none
theorem gNam_ok : AnsOk 10 gNam := by
  intro vals s v s' lg h hl w
  unfold gNam at h
  split at h
  · split at h
    · rename_i m c e q hv
      rw [vP4_spec hv]
      cases h
      unfold nmL
      have := mnL_len m
      by_cases hc : c = 3
      · rw [if_pos hc]
        exact fits_calls (tabY_ok conZ1_ok) (nm14_i m c e q) (okCons (decide_eq_true (by omega)) (okL1 (beqR_t hc))) (by rfl) (by rfl) w
      · rw [if_neg hc]
        exact fits_calls (tabY_ok conZ1_ok) (nm14_n m c e q) (okL1 (beqR_f hc)) (by rfl) (by rfl) w
    · cases h
  · cases h
/-! ### the next digits -/
theorem enc_ascii {k : Nat} (h : k < 128) : (Utf8.encode ((k : Nat) : Int)).data.toList = [UInt8.ofNat k] := by
  have hv : Utf8.valid ((k : Nat) : Int) = true := by
    unfold Utf8.valid
    simp
    omega
  unfold Utf8.encode
  simp [hv, h]
def nxK (l : List UInt8) : Int := IntKind.i64.wrap (((l.length : Nat) : Int) - ((trC 57 l).length : Nat))
def nxE (l : List UInt8) : Int := IntKind.i64.wrap (((trC 57 l).length : Int) - 1)
def nxC (l : List UInt8) : List UInt8 := (Utf8.encode (IntKind.u8.wrap ((((trC 57 l).getD (nxE l).toNat 0).toNat : Int) + 1))).data.toList
theorem nx14_e (l : List UInt8) : Fits (reckon (tabOf Tryz.prog extY conZ true) 100 26 [bR l] [sam true, sam true]) (bR ([49] ++ List.replicate (nxK l).toNat 48)) [(decide (1 + (List.replicate (nxK l).toNat (48 : UInt8)).length ≤ 9223372036854775807), true), lEqB (trC 57 l) [] true, (decide (0 ≤ nxK l ∧ nxK l ≤ 100000), true), (true, true), (decide (l.length ≤ 100000), true)] := ⟨by kernel_rfl, by kernel_rfl, by kernel_rfl, by kernel_rfl⟩
theorem nx14_n (l : List UInt8) : Fits (reckon (tabOf Tryz.prog extY conZ true) 100 26 [bR l] [sam false, sam true, sam true, sam true]) (bR (((trC 57 l).take (nxE l).toNat ++ nxC l) ++ List.replicate (nxK l).toNat 48)) [(decide (((trC 57 l).take (nxE l).toNat ++ nxC l).length + (List.replicate (nxK l).toNat (48 : UInt8)).length ≤ 9223372036854775807), true), (decide (((trC 57 l).take (nxE l).toNat).length + (nxC l).length ≤ 9223372036854775807), true), (decide (0 ≤ nxE l ∧ (nxE l).toNat < (trC 57 l).length), true), (decide (0 ≤ nxE l ∧ nxE l ≤ ((trC 57 l).length : Int)), true), lEqB (trC 57 l) [] false, (decide (0 ≤ nxK l ∧ nxK l ≤ 100000), true), (true, true), (decide (l.length ≤ 100000), true)] := ⟨by kernel_rfl, by kernel_rfl, by kernel_rfl, by kernel_rfl⟩
theorem trC_all {b c : Int} {l : List UInt8} (h : allB b l = true) : allB b (trC c l) = true := by
  unfold allB at *
  rw [List.all_eq_true] at *
  intro x hx
  refine h x ?_
  unfold trC at hx
  rw [List.mem_reverse] at hx
  have := (List.dropWhile_sublist (l := l.reverse) fun x => lq8 x == c).subset hx
  simpa using this
theorem all_57 {l : List UInt8} (h : allB 10 l = true) {i : Nat} (hi : i < l.length) : 48 ≤ lq8 (l.getD i 0) ∧ lq8 (l.getD i 0) ≤ 57 := by
  have : 0 ≤ dgvR (lq8 (l.getD i 0)) 10 := by
    unfold allB at h
    refine of_decide_eq_true (List.all_eq_true.1 h _ ?_)
    rw [List.getD_eq_getElem?_getD, List.getElem?_eq_getElem hi, Option.getD_some]
    exact List.getElem_mem hi
  exact digit_letter this
theorem nxt_calls (l : List UInt8) (h1 : allB 10 l = true) (h2 : l.length ≤ 100000) (w : World) : Calls Tryz.prog 26 #[bR l] w fun e w' => e = .returned (bR (nxt14 l)) ∧ Tidy w w' := by
  have hlen := trC_len 57 l
  have ek : nxK l = ((l.length - (trC 57 l).length : Nat) : Int) := by unfold nxK; rw [wrapI (by omega) (by omega)]; omega
  have kk : decide (0 ≤ nxK l ∧ nxK l ≤ 100000) = true := decide_eq_true (by omega)
  have kl : decide (l.length ≤ 100000) = true := decide_eq_true h2
  unfold nxt14
  by_cases hn : trC 57 l = []
  · have f := nx14_e l
    rw [ek, Int.toNat_natCast] at f
    rw [ek] at kk
    rw [if_pos hn]
    exact fits_calls (tabY_ok conZ_ok) f (okCons (decide_eq_true (by rw [List.length_replicate]; omega)) (okCons (ok_lEqB (decide_eq_true hn)) (okCons kk (okCons rfl (okL1 kl))))) (by rfl) (by rfl) w
  · have hp : 0 < (trC 57 l).length := List.length_pos_iff.2 hn
    have ee : nxE l = (((trC 57 l).length - 1 : Nat) : Int) := by unfold nxE; rw [wrapI (by omega) (by omega)]; omega
    obtain ⟨b1, b2⟩ := all_57 (trC_all (c := 57) h1) (i := (trC 57 l).length - 1) (by omega)
    have ec : nxC l = [UInt8.ofNat ((trC 57 l).getD ((trC 57 l).length - 1) 0 + 1).toNat] := by
      unfold nxC
      unfold lq8 at b1 b2
      obtain ⟨x, hx⟩ : ∃ x, x = (trC 57 l).getD ((trC 57 l).length - 1) 0 := ⟨_, rfl⟩
      rw [ee, Int.toNat_natCast, ← hx]
      rw [← hx] at b1 b2
      have e1 : IntKind.u8.wrap (((x.toNat : Nat) : Int) + 1) = ((x.toNat + 1 : Nat) : Int) := by rw [wrap8R (by omega) (by omega)]; omega
      have e2 : (x + 1).toNat = x.toNat + 1 := by
        rw [UInt8.toNat_add]
        have : (1 : UInt8).toNat = 1 := rfl
        omega
      rw [e1, enc_ascii (by omega), e2]
    have f := nx14_n l
    rw [ec, ek, ee, Int.toNat_natCast, Int.toNat_natCast] at f
    rw [ek] at kk
    rw [if_neg hn]
    have lt := List.length_take_le ((trC 57 l).length - 1) (trC 57 l)
    exact fits_calls (tabY_ok conZ_ok) f (okCons (decide_eq_true (by rw [List.length_append, List.length_replicate, List.length_singleton]; omega)) (okCons (decide_eq_true (by rw [List.length_singleton]; omega)) (okCons (decide_eq_true (by omega)) (okCons (decide_eq_true (by omega)) (okCons (ok_lEqB (decide_eq_false hn)) (okCons kk (okCons rfl (okL1 kl)))))))) (by rfl) (by rfl) w
def gNxt : Ans := fun vals s =>
  match vals with
  | [.string b] => some (bR (nxt14 b.data.toList), s, [(allB 10 b.data.toList, true), (decide (b.data.toList.length ≤ 100000), true)])
  | _ => none
theorem gNxt_ok : AnsOk 26 gNxt := by
  intro vals s v s' lg h hl w
  unfold gNxt at h
  split at h
  · cases h
    exact nxt_calls _ (hl _ List.mem_cons_self) (of_decide_eq_true (hl _ (List.mem_cons_of_mem _ (List.mem_singleton.2 rfl)))) w
  · cases h
/-! ### whether digits are rounded up -/
def guO (k : List UInt8) : Int := IntKind.u8.wrap (((k.getD (IntKind.i64.wrap (((k.length : Nat) : Int) - 1)).toNat 0).toNat : Int) - 48)
theorem gu14_0 (k r : List UInt8) (mn : Bool) (m : Int) : Fits (reckon (tabOf Tryz.prog extY conZ true) 100 25 [bR k, bR r, .bool mn, .int .i64 m] [sam true]) (.bool false) [lEqB (trC 48 r) [] true, (true, true), (decide (r.length ≤ 100000), true)] := ⟨by kernel_rfl, by kernel_rfl, by kernel_rfl, by kernel_rfl⟩
theorem gu14_2 (k r : List UInt8) (mn : Bool) (m : Int) : Fits (reckon (tabOf Tryz.prog extY conZ true) 100 25 [bR k, bR r, .bool mn, .int .i64 m] [sam false, cmp true]) (.bool false) [(m == 2, true), lEqB (trC 48 r) [] false, (true, true), (decide (r.length ≤ 100000), true)] := ⟨by kernel_rfl, by kernel_rfl, by kernel_rfl, by kernel_rfl⟩
theorem gu14_3 (k r : List UInt8) (mn : Bool) (m : Int) : Fits (reckon (tabOf Tryz.prog extY conZ true) 100 25 [bR k, bR r, .bool mn, .int .i64 m] [sam false, cmp false, cmp true]) (.bool (!mn)) [(m == 3, true), (m == 2, false), lEqB (trC 48 r) [] false, (true, true), (decide (r.length ≤ 100000), true)] := ⟨by kernel_rfl, by kernel_rfl, by kernel_rfl, by kernel_rfl⟩
theorem gu14_4 (k r : List UInt8) (mn : Bool) (m : Int) : Fits (reckon (tabOf Tryz.prog extY conZ true) 100 25 [bR k, bR r, .bool mn, .int .i64 m] [sam false, cmp false, cmp false, cmp true]) (.bool mn) [(m == 4, true), (m == 3, false), (m == 2, false), lEqB (trC 48 r) [] false, (true, true), (decide (r.length ≤ 100000), true)] := ⟨by kernel_rfl, by kernel_rfl, by kernel_rfl, by kernel_rfl⟩
theorem gu14_1 (k r : List UInt8) (mn : Bool) (m : Int) (d : Bool) : Fits (reckon (tabOf Tryz.prog extY conZ true) 100 25 [bR k, bR r, .bool mn, .int .i64 m] [sam false, cmp false, cmp false, cmp false, cmp true, cmp d]) (.bool d) [(decide (cmS (trC 48 r) [53] ≥ 0), d), (m == 1, true), (m == 4, false), (m == 3, false), (m == 2, false), lEqB (trC 48 r) [] false, (true, true), (decide (r.length ≤ 100000), true)] := ⟨by kernel_rfl, by kernel_rfl, by kernel_rfl, by kernel_rfl⟩
theorem gu14_eg (k r : List UInt8) (mn : Bool) (m : Int) (d : Bool) : Fits (reckon (tabOf Tryz.prog extY conZ true) 100 25 [bR k, bR r, .bool mn, .int .i64 m] [sam false, cmp false, cmp false, cmp false, cmp false, cmp false, cmp d, cmp true]) (.bool true) [(decide (cmS (trC 48 r) [53] > 0), true), ((guO k).tmod 2 == 1, d), (decide ((2 : Int) = 0), false), (decide (0 ≤ IntKind.i64.wrap (((k.length : Nat) : Int) - 1) ∧ (IntKind.i64.wrap (((k.length : Nat) : Int) - 1)).toNat < k.length), true), (m == 1, false), (m == 4, false), (m == 3, false), (m == 2, false), lEqB (trC 48 r) [] false, (true, true), (decide (r.length ≤ 100000), true)] := ⟨by kernel_rfl, by kernel_rfl, by kernel_rfl, by kernel_rfl⟩
theorem gu14_ee (k r : List UInt8) (mn : Bool) (m : Int) (d : Bool) : Fits (reckon (tabOf Tryz.prog extY conZ true) 100 25 [bR k, bR r, .bool mn, .int .i64 m] [sam false, cmp false, cmp false, cmp false, cmp false, cmp false, cmp d, cmp false, cmp true]) (.bool d) [(cmS (trC 48 r) [53] == 0, true), (decide (cmS (trC 48 r) [53] > 0), false), ((guO k).tmod 2 == 1, d), (decide ((2 : Int) = 0), false), (decide (0 ≤ IntKind.i64.wrap (((k.length : Nat) : Int) - 1) ∧ (IntKind.i64.wrap (((k.length : Nat) : Int) - 1)).toNat < k.length), true), (m == 1, false), (m == 4, false), (m == 3, false), (m == 2, false), lEqB (trC 48 r) [] false, (true, true), (decide (r.length ≤ 100000), true)] := ⟨by kernel_rfl, by kernel_rfl, by kernel_rfl, by kernel_rfl⟩
theorem gu14_el (k r : List UInt8) (mn : Bool) (m : Int) (d : Bool) : Fits (reckon (tabOf Tryz.prog extY conZ true) 100 25 [bR k, bR r, .bool mn, .int .i64 m] [sam false, cmp false, cmp false, cmp false, cmp false, cmp false, cmp d, cmp false, cmp false]) (.bool false) [(cmS (trC 48 r) [53] == 0, false), (decide (cmS (trC 48 r) [53] > 0), false), ((guO k).tmod 2 == 1, d), (decide ((2 : Int) = 0), false), (decide (0 ≤ IntKind.i64.wrap (((k.length : Nat) : Int) - 1) ∧ (IntKind.i64.wrap (((k.length : Nat) : Int) - 1)).toNat < k.length), true), (m == 1, false), (m == 4, false), (m == 3, false), (m == 2, false), lEqB (trC 48 r) [] false, (true, true), (decide (r.length ≤ 100000), true)] := ⟨by kernel_rfl, by kernel_rfl, by kernel_rfl, by kernel_rfl⟩
theorem gu_calls (k r : List UInt8) (mn : Bool) (m : Int) (h1 : allB 10 k = true) (h2 : 1 ≤ k.length ∧ k.length ≤ 100000) (h3 : r.length ≤ 100000) (w : World) : Calls Tryz.prog 25 #[bR k, bR r, .bool mn, .int .i64 m] w fun e w' => e = .returned (.bool (gUpD m mn k r)) ∧ Tidy w w' := by
  have hT := tabY_ok conZ_ok
  have kr : decide (r.length ≤ 100000) = true := decide_eq_true h3
  have er : trC 48 r = trR r := rfl
  unfold gUpD
  rw [← er]
  by_cases hn : trC 48 r = []
  · rw [if_pos hn]
    exact fits_calls hT (gu14_0 k r mn m) (okCons (ok_lEqB (decide_eq_true hn)) (okCons rfl (okL1 kr))) (by rfl) (by rfl) w
  have kn : okLog [lEqB (trC 48 r) [] false, (true, true), (decide (r.length ≤ 100000), true)] := okCons (ok_lEqB (decide_eq_false hn)) (okCons rfl (okL1 kr))
  rw [if_neg hn]
  by_cases m2 : m = 2
  · rw [if_pos m2]
    exact fits_calls hT (gu14_2 k r mn m) (okCons (beqR_t m2) kn) (by rfl) (by rfl) w
  rw [if_neg m2]
  have kn := okCons (beqR_f m2) kn
  by_cases m3 : m = 3
  · rw [if_pos m3]
    exact fits_calls hT (gu14_3 k r mn m) (okCons (beqR_t m3) kn) (by rfl) (by rfl) w
  rw [if_neg m3]
  have kn := okCons (beqR_f m3) kn
  by_cases m4 : m = 4
  · rw [if_pos m4]
    exact fits_calls hT (gu14_4 k r mn m) (okCons (beqR_t m4) kn) (by rfl) (by rfl) w
  rw [if_neg m4]
  have kn := okCons (beqR_f m4) kn
  by_cases m1 : m = 1
  · rw [if_pos m1]
    exact fits_calls hT (gu14_1 k r mn m _) (okCons rfl (okCons (beqR_t m1) kn)) (by rfl) (by rfl) w
  rw [if_neg m1]
  have kn := okCons (beqR_f m1) kn
  have ei : IntKind.i64.wrap (((k.length : Nat) : Int) - 1) = ((k.length - 1 : Nat) : Int) := by rw [wrapI (by omega) (by omega)]; omega
  obtain ⟨b1, b2⟩ := all_57 h1 (i := k.length - 1) (by omega)
  have eo : guO k = lq8 (k.getD (k.length - 1) 0) - 48 := by
    unfold guO
    unfold lq8 at b1 b2 ⊢
    rw [ei, Int.toNat_natCast, wrap8R (by omega) (by omega)]
  obtain ⟨d, hd⟩ : ∃ d, d = decide ((lq8 (k.getD (k.length - 1) 0) - 48) % 2 = 1) := ⟨_, rfl⟩
  have ed : ((guO k).tmod 2 == 1) = d := by
    rw [hd, eo, Int.tmod_eq_emod_of_nonneg (by omega)]
    rfl
  have kn := okCons ed (okCons (show decide ((2 : Int) = 0) = false from rfl) (okCons (show decide (0 ≤ IntKind.i64.wrap (((k.length : Nat) : Int) - 1) ∧ (IntKind.i64.wrap (((k.length : Nat) : Int) - 1)).toNat < k.length) = true from decide_eq_true (by rw [ei]; omega)) kn))
  rw [← hd]
  by_cases c1 : 0 < cmS (trC 48 r) [53]
  · rw [decide_eq_true c1, Bool.true_or]
    exact fits_calls hT (gu14_eg k r mn m d) (okCons (decide_eq_true c1) kn) (by rfl) (by rfl) w
  rw [decide_eq_false c1, Bool.false_or]
  by_cases c0 : cmS (trC 48 r) [53] = 0
  · rw [decide_eq_true c0, Bool.true_and]
    exact fits_calls hT (gu14_ee k r mn m d) (okCons (beqR_t c0) (okCons (decide_eq_false c1) kn)) (by rfl) (by rfl) w
  · rw [decide_eq_false c0, Bool.false_and]
    exact fits_calls hT (gu14_el k r mn m d) (okCons (beqR_f c0) (okCons (decide_eq_false c1) kn)) (by rfl) (by rfl) w
/-- told ahead -/
def gGup : Ans := fun vals s =>
  match vals, s with
  | [.string k, .string r, .bool mn, .int .i64 m], .inr (.inr (.inr (.inl d))) :: s' => some (.bool d, s', [(gUpD m mn k.data.toList r.data.toList, d), (allB 10 k.data.toList, true), (decide ((1 ≤ k.data.toList.length ∧ k.data.toList.length ≤ 100000) ∧ r.data.toList.length ≤ 100000), true)])
  | _, _ => none
theorem gGup_ok : AnsOk 25 gGup := by
  intro vals s v s' lg h hl w
  unfold gGup at h
  split at h
  · rename_i k r mn m d s2
    cases h
    have l1 : gUpD m mn k.data.toList r.data.toList = d := hl _ List.mem_cons_self
    have l2 : allB 10 k.data.toList = true := hl _ (List.mem_cons_of_mem _ List.mem_cons_self)
    obtain ⟨l3, l4⟩ := of_decide_eq_true (hl _ (List.mem_cons_of_mem _ (List.mem_cons_of_mem _ (List.mem_singleton.2 rfl))))
    rw [← l1]
    exact gu_calls _ _ mn m l2 l3 l4 w
  · cases h
/-! ### digits, rounded -/
def conZ2 : Con := alt 25 gGup (alt 26 gNxt conZ)
theorem conZ2_ok : ConOk conZ2 := alt_ok Tryz.func25 rfl gGup_ok (alt_ok Tryz.func26 rfl gNxt_ok conZ_ok)
def vDc (l : List UInt8) (e : Int) : Value := .agg #[bR l, .int .i64 e]
theorem rn14_p (D : List UInt8) (e n m : Int) (mn : Bool) : Fits (reckon (tabOf Tryz.prog extY conZ2 true) 100 13 [vDc D e, .int .i64 n, .bool mn, .int .i64 m] [cmp true, sam true]) (vDc (D ++ List.replicate (IntKind.i64.wrap (n - ((D.length : Nat) : Int))).toNat 48) e) [(decide (D.length + (List.replicate (IntKind.i64.wrap (n - ((D.length : Nat) : Int))).toNat (48 : UInt8)).length ≤ 9223372036854775807), true), (decide (0 ≤ IntKind.i64.wrap (n - ((D.length : Nat) : Int)) ∧ IntKind.i64.wrap (n - ((D.length : Nat) : Int)) ≤ 100000), true), (decide (((D.length : Nat) : Int) ≤ n), true)] := ⟨by kernel_rfl, by kernel_rfl, by kernel_rfl, by kernel_rfl⟩
def gl14 (D : List UInt8) (e n m : Int) (mn : Bool) (d : Bool) : Log := [(gUpD m mn (D.take n.toNat) (D.drop n.toNat), d), (allB 10 (D.take n.toNat), true), (decide ((1 ≤ (D.take n.toNat).length ∧ (D.take n.toNat).length ≤ 100000) ∧ (D.drop n.toNat).length ≤ 100000), true), (decide (0 ≤ n ∧ n ≤ ((D.length : Nat) : Int)), true), (decide (0 ≤ n ∧ n ≤ ((D.length : Nat) : Int)), true), (decide (((D.length : Nat) : Int) ≤ n), false)]
theorem rn14_u (D : List UInt8) (e n m : Int) (mn : Bool) : Fits (reckon (tabOf Tryz.prog extY conZ2 true) 100 13 [vDc D e, .int .i64 n, .bool mn, .int .i64 m] [cmp false, sam true, sam true, cmp true, sam true]) (vDc ((nxt14 (D.take n.toNat)).take n.toNat) (IntKind.i64.wrap (IntKind.i64.wrap (e + (((nxt14 (D.take n.toNat)).length : Nat) : Int)) - n))) ((decide (0 ≤ n ∧ n ≤ (((nxt14 (D.take n.toNat)).length : Nat) : Int)), true) :: (allB 10 (D.take n.toNat), true) :: (decide ((D.take n.toNat).length ≤ 100000), true) :: gl14 D e n m mn true) := ⟨by kernel_rfl, by kernel_rfl, by kernel_rfl, by kernel_rfl⟩
theorem rn14_d (D : List UInt8) (e n m : Int) (mn : Bool) : Fits (reckon (tabOf Tryz.prog extY conZ2 true) 100 13 [vDc D e, .int .i64 n, .bool mn, .int .i64 m] [cmp false, sam true, sam true, cmp false, sam true]) (vDc ((D.take n.toNat).take n.toNat) (IntKind.i64.wrap (IntKind.i64.wrap (e + (((D.take n.toNat).length : Nat) : Int)) - n))) ((decide (0 ≤ n ∧ n ≤ (((D.take n.toNat).length : Nat) : Int)), true) :: gl14 D e n m mn false) := ⟨by kernel_rfl, by kernel_rfl, by kernel_rfl, by kernel_rfl⟩
theorem nxt_len {l : List UInt8} : l.length ≤ (nxt14 l).length ∧ (nxt14 l).length ≤ l.length + 1 := by
  have h := trC_len 57 l
  unfold nxt14
  split
  · rename_i c
    rw [c, List.length_cons, List.length_replicate, List.length_nil]
    omega
  · rename_i c
    have hp : 0 < (trC 57 l).length := List.length_pos_iff.2 c
    rw [List.length_append, List.length_append, List.length_take, List.length_replicate, List.length_singleton]
    omega
theorem rn14_calls (D : List UInt8) (e : Int) (n : Nat) (m : Int) (mn : Bool) (h1 : allB 10 D = true) (h2 : 1 ≤ D.length ∧ D.length ≤ 90000) (h3 : 1 ≤ n ∧ n ≤ 1000) (h4 : -100000 ≤ e ∧ e ≤ 100000) (w : World) : Calls Tryz.prog 13 #[vDc D e, .int .i64 n, .bool mn, .int .i64 m] w fun r w' => r = .returned (vDc (rnD D e n mn m).1 (rnD D e n mn m).2) ∧ Tidy w w' := by
  have hT := tabY_ok conZ2_ok
  unfold rnD
  by_cases hc : D.length ≤ n
  · rw [if_pos hc]
    have f := rn14_p D e n m mn
    have ew : IntKind.i64.wrap ((n : Int) - ((D.length : Nat) : Int)) = ((n - D.length : Nat) : Int) := by rw [wrapI (by omega) (by omega)]; omega
    rw [ew, Int.toNat_natCast] at f
    exact fits_calls hT f (okCons (decide_eq_true (by rw [List.length_replicate]; omega)) (okCons (decide_eq_true (by omega)) (okL1 (decide_eq_true (by omega))))) (by rfl) (by rfl) w
  · rw [if_neg hc]
    have lt : (D.take n).length = n := by rw [List.length_take]; omega
    have ld : (D.drop n).length = D.length - n := List.length_drop
    have ha : allB 10 (D.take n) = true := by
      unfold allB at *
      rw [List.all_eq_true] at *
      exact fun x hx => h1 x (List.mem_of_mem_take hx)
    have kg : ∀ d, gUpD m mn (D.take n) (D.drop n) = d → okLog (gl14 D e n m mn d) := fun d hd => by
      unfold gl14
      rw [Int.toNat_natCast]
      exact okCons hd (okCons ha (okCons (decide_eq_true (by omega)) (okCons (decide_eq_true (by omega)) (okCons (decide_eq_true (by omega)) (okL1 (decide_eq_false (by omega)))))))
    cases hu : gUpD m mn (D.take n) (D.drop n) with
    | true =>
      rw [if_pos rfl]
      obtain ⟨n1, n2⟩ := nxt_len (l := D.take n)
      have f := rn14_u D e n m mn
      rw [Int.toNat_natCast, wrapI (n := e + (((nxt14 (D.take n)).length : Nat) : Int)) (by omega) (by omega), wrapI (by omega) (by omega)] at f
      exact fits_calls hT f (okCons (decide_eq_true (by omega)) (okCons ha (okCons (decide_eq_true (by omega)) (kg true hu)))) (by rfl) (by rfl) w
    | false =>
      rw [if_neg (by decide)]
      have f := rn14_d D e n m mn
      rw [Int.toNat_natCast, wrapI (n := e + (((D.take n).length : Nat) : Int)) (by omega) (by omega), wrapI (by omega) (by omega)] at f
      exact fits_calls hT f (okCons (decide_eq_true (by omega)) (kg false hu)) (by rfl) (by rfl) w
def dc2 : Value → Option (ByteArray × Int)
  | .agg cs =>
    match cs.toList with
    | [.string D, .int .i64 e] => some (D, e)
    | _ => none
  | _ => none
theorem dc2_spec {v : Value} {D : ByteArray} {e : Int} (h : dc2 v = some (D, e)) : v = vDc D.data.toList e := by
  unfold dc2 at h
  split at h
  · rename_i cs
    split at h
    · rename_i hc
      cases h
      obtain ⟨l⟩ := cs
      simp only at hc
      subst hc
      rfl
    · cases h
  · cases h
def gRnd14 : Ans := fun vals s =>
  match vals with
  | [v, .int .i64 n, .bool mn, .int .i64 m] =>
    match dc2 v with
    | some (D, e) => some (vDc (rnD D.data.toList e n.toNat mn m).1 (rnD D.data.toList e n.toNat mn m).2, s, [(allB 10 D.data.toList, true), (decide ((1 ≤ D.data.toList.length ∧ D.data.toList.length ≤ 90000) ∧ (1 ≤ n ∧ n ≤ 1000) ∧ (-100000 ≤ e ∧ e ≤ 100000)), true)])
    | none => none
  | _ => none
theorem gRnd14_ok : AnsOk 13 gRnd14 := by
  intro vals s v s' lg h hl w
  unfold gRnd14 at h
  split at h
  · split at h
    · rename_i v0 n mn m o D e hv
      rw [dc2_spec hv]
      cases h
      have l1 : allB 10 D.data.toList = true := hl _ List.mem_cons_self
      obtain ⟨l2, l3, l4⟩ := of_decide_eq_true (hl _ (List.mem_cons_of_mem _ (List.mem_singleton.2 rfl)))
      obtain ⟨k, rfl⟩ : ∃ k : Nat, n = k := ⟨n.toNat, by omega⟩
      exact rn14_calls _ e k m mn l1 l2 (by omega) l4 w
    · cases h
  · cases h
end Go.Proofs.YtgefjidphfdhdabGreatDoor
namespace Go.Proofs.YtgefjidphfdhdabGreatDoor
open Go.KRun Go.Nt Go.Rd
set_option maxRecDepth 100000
/-- the letters of a number, either way -/
theorem decS_dec {f : Nat} : ∀ {V : Nat}, V < 10 ^ (f + 1) → decS V = decF (f + 1) V := by
  have lt : ∀ x : Nat, UInt8.ofNat (asc ((x : Nat) : Int)).toNat = chD x := fun x => by unfold asc chD; congr 1
  induction f with
  | zero =>
    intro V h
    have h10 : V < 10 := by simpa using h
    unfold decF
    rw [if_pos h10]
    unfold decS decL
    by_cases h0 : V = 0
    · rw [if_pos h0, h0]
      rfl
    · rw [if_neg h0, db_pos (by omega) h0, show V / 10 = 0 by omega, db_zero, Nat.mod_eq_of_lt h10]
      show [UInt8.ofNat (asc ((V : Nat) : Int)).toNat] = [chD V]
      rw [lt]
  | succ f ih =>
    intro V h
    unfold decF
    by_cases h10 : V < 10
    · rw [if_pos h10]
      unfold decS decL
      by_cases h0 : V = 0
      · rw [if_pos h0, h0]
        rfl
      · rw [if_neg h0, db_pos (by omega) h0, show V / 10 = 0 by omega, db_zero, Nat.mod_eq_of_lt h10]
        show [UInt8.ofNat (asc ((V : Nat) : Int)).toNat] = [chD V]
        rw [lt]
    · rw [if_neg h10]
      have h1 := ih (V := V / 10) (by rw [Nat.pow_succ] at h; omega)
      rw [← h1]
      unfold decS decL
      rw [if_neg (by omega), if_neg (by omega), db_pos (b := 10) (V := V) (by omega) (by omega), List.reverse_cons, List.map_append]
      show _ ++ [UInt8.ofNat (asc ((V % 10 : Nat) : Int)).toNat] = _
      rw [lt]
theorem decS_dcL {V : Nat} (h : V < 18446744073709551616) : decS V = dcL V := decS_dec (f := 19) (dcL_lt h)
end Go.Proofs.YtgefjidphfdhdabGreatDoor
namespace Go.Proofs.YtgefjidphfdhdabGreatDoor
open Go.KRun Go.Nt Go.Rd Go.Wd
set_option maxRecDepth 100000
def hcEx : Hc := altH 28 Na.gPowN (altH 29 Na.gShlT (altH 56 Na.gPdN (altH 61 Na.gBothU (altH 31 Na.gOfX (altH 32 Na.gDc hcN)))))
theorem hcEx_ok : HcOk hcEx := altH_ok Tryz.func28 rfl Na.gPowN_ok (altH_ok Tryz.func29 rfl Na.gShlT_ok (altH_ok Tryz.func56 rfl Na.gPdN_ok (altH_ok Tryz.func61 rfl Na.gBothU_ok (altH_ok Tryz.func31 rfl Na.gOfX_ok (altH_ok Tryz.func32 rfl Na.gDc_ok hcN_ok)))))
theorem tabEx : TabOk (tabH Tryz.prog extY conN hcEx) := tabH_ok conN_ok hcEx_ok
/-- a row of words: a number's; what of them is not 0 -/
def r14 (m V : Nat) : List Value × TypeId := (wU (dg m (V : Int)), tU)
def t14 (m V : Nat) : Nat := trimN (dg m (V : Int))
def a14 (k : Nat) : Option Addr := some ⟨k, 0, none⟩
def mx0 (a : Int) : Int := if 0 > a then 0 else a
def mn0 (a : Int) : Int := if 0 < a then 0 else a
/-- what a power, a number moved up, a product log -/
def lPw14 (b j : Int) (P : Nat) (l : Log) : Log := (decide (((b.toNat ^ j.toNat : Nat) : Int) = (P : Int)), true) :: (Na.okPn b j, true) :: (decide (b = 0 ∧ 1 ≤ j), false) :: l
def lSh14 (H : Hp) (p : Option Addr) (n c : Nat) (k : Int) (S : Nat) (l : Log) : Log := (decide (shlR (rowOf H p n) k.toNat = dg (Na.sM n k) (S : Int)), true) :: (Na.rowX H p n c, true) :: (Na.badL (rowOf H p n) || decide (k < 0), false) :: (decide (n = 0), false) :: (decide (k > 262144 - Na.lenN (rowOf H p n)), false) :: l
def lPd14 (H : Hp) (p q : Option Addr) (n c n' c' T : Nat) (l : Log) : Log := (decide (Na.mulR (rowOf H p n) (rowOf H q n') = dg (n + n') (T : Int)), true) :: (Na.rowX H p n c, true) :: (Na.rowX H q n' c', true) :: (!decide (n = 0 ∨ n' = 0) && Nat.ble (n + n') 8192, true) :: (Na.rowX H p n c, true) :: (Na.rowX H q n' c', true) :: (Na.badL (rowOf H p n) || Na.badL (rowOf H q n'), false) :: l
def lDe14 (H : Hp) (p : Option Addr) (n c : Nat) (b : List UInt8) (l : Log) : Log := (Na.rowX H p n c, true) :: (Na.badL (rowOf H p n), false) :: (decide (decS (Na.v32O H p n) = b), true) :: l
def e14B (m : Bool) (c e q : Int) : List (List Value × TypeId) := [([bR [], .int .i64 0], 42), ([.bool m, .int .i64 c, .int .i64 e, .int .u64 q], 36)]
def e14z (e : Int) : Int := mx0 (IntKind.i64.wrap (0 - e))
def e14M2 (m : Bool) (c e q : Int) (P : Nat) : Hp := ⟨3, r14 (Na.pMi 5 (e14z e)) P :: e14B m c e q⟩
def e14s (e : Int) (P : Nat) : Nat := Na.sM (t14 (Na.pMi 5 (e14z e)) P) (mx0 e)
def e14M4 (m : Bool) (c e q : Int) (P S : Nat) : Hp := ⟨5, (wU (dg 2 q), tU) :: r14 (e14s e P) S :: r14 (Na.pMi 5 (e14z e)) P :: e14B m c e q⟩
def e14t (e q : Int) (P S : Nat) : Nat := trimN (dg 2 q) + t14 (e14s e P) S
def e14M5 (m : Bool) (c e q : Int) (P S T : Nat) : Hp := ⟨6, r14 (e14t e q P S) T :: (wU (dg 2 q), tU) :: r14 (e14s e P) S :: r14 (Na.pMi 5 (e14z e)) P :: e14B m c e q⟩
theorem ex14 (m : Bool) (c e q : Int) (P S T : Nat) (b : List UInt8) : Fits (reckon (tabH Tryz.prog extY conN hcEx) 200 14 [vP m c e q] [cmp false, cmp false, num P, cmp false, cmp false, cmp false, num S, cmp false, cmp false, num T, cmp false, val (bR b)]) (vDc b (IntKind.i64.wrap (IntKind.i64.wrap (((b.length : Nat) : Int) - 1) + mn0 e)))
    (lDe14 (e14M5 m c e q P S T) (a14 5) (t14 (e14t e q P S) T) (e14t e q P S) b (lPd14 (e14M4 m c e q P S) (a14 4) (a14 3) (trimN (dg 2 q)) 2 (t14 (e14s e P) S) (e14s e P) T ((decide (0 ≤ q ∧ q < 18446744073709551616), true) :: lSh14 (e14M2 m c e q P) (a14 2) (t14 (Na.pMi 5 (e14z e)) P) (Na.pMi 5 (e14z e)) (mx0 e) S (lPw14 5 (e14z e) P [])))) := ⟨by kernel_rfl, by kernel_rfl, by kernel_rfl, by kernel_rfl⟩
/-- how many decimal letters -/
theorem decS_len14 {W : Nat} (h : W ≠ 0) : 1 ≤ (decS W).length ∧ 10 ^ ((decS W).length - 1) ≤ W ∧ W < 10 ^ (decS W).length := by
  have e : (decS W).length = (db 10 W).length := by
    unfold decS decL
    rw [if_neg h, List.length_map, List.length_reverse]
  rw [e]
  have h1 := (db_pos_len (b := 10) (by omega)).2 (show 0 < W by omega)
  refine ⟨h1, ?_, ?_⟩
  · rcases Nat.lt_or_ge W (10 ^ ((db 10 W).length - 1)) with c | c
    · have := db_len (b := 10) (by omega) _ _ c
      omega
    · exact c
  · have := vb_lt (b := 10) (by omega) (db 10 W) (db_dg (by omega) W)
    rw [vb_db (by omega) W] at this
    exact this
theorem decS_decF {W : Nat} (h : W ≠ 0) : decS W = decF (decS W).length W := by
  obtain ⟨h1, _, h3⟩ := decS_len14 h
  have := decS_dec (f := (decS W).length - 1) (V := W) (by rw [show (decS W).length - 1 + 1 = (decS W).length by omega]; exact h3)
  rw [show (decS W).length - 1 + 1 = (decS W).length by omega] at this
  exact this
theorem mx0_nat (a : Int) : mx0 a = ((a.toNat : Nat) : Int) := by unfold mx0; split <;> omega
theorem pow_le_ten {b : Nat} (hb : b ≤ 10) (k : Nat) : b ^ k < 4294967296 ^ (k / 9 + 1) := Nat.lt_of_le_of_lt (Nat.pow_le_pow_left hb k) (Na.ten_w32 k)
/-- a power of ten or of five, as nat makes it -/
theorem pow14 {H : Hp} {i b k : Nat} (hb : b = 10 ∨ b = 5) (hk : k ≤ 2000) (hi : H.blk? i = some (r14 (Na.pMi (b : Nat) (k : Nat)) (b ^ k))) : Na.IsR H (a14 i) (t14 (Na.pMi (b : Nat) (k : Nat)) (b ^ k)) (Na.pMi (b : Nat) (k : Nat)) (b ^ k) ∧ (Na.d32 (b ^ k)).length ≤ k / 9 + 1 := by
  have hw : ∀ j, j ≤ k → Na.nw (b ^ j) ≤ 400 := fun j hj => by
    have h1 := pow_le_ten (b := b) (by omega) j
    have := Na.nw_le h1
    omega
  have e : Na.pMi (b : Nat) (k : Nat) = Na.pM b k := rfl
  have h : b ^ k < 4294967296 ^ Na.pM b k ∧ Na.pM b k ≤ 1000 := by
    by_cases h0 : k = 0
    · subst h0
      exact ⟨by rw [Nat.pow_zero]; show 1 < 4294967296 ^ 2; decide, by show 2 ≤ 1000; decide⟩
    · exact Na.pM_ok hw (by omega) (Nat.le_refl _) (by omega)
  rw [e] at hi ⊢
  exact ⟨Na.isRd hi h.1 h.2, Na.nw_le (pow_le_ten (by omega) k)⟩
theorem lPw14_ok {b k : Nat} (hb : b = 10 ∨ b = 5) (hk : k ≤ 2000) {l : Log} (hl : okLog l) : okLog (lPw14 (b : Nat) (k : Nat) (b ^ k) l) := by
  refine okCons (decide_eq_true rfl) (okCons ?_ (okCons (decide_eq_false (by omega)) hl))
  exact decide_eq_true ⟨by omega, by omega, by omega, .inr ⟨by omega, by omega⟩⟩
theorem t14_is {m V : Nat} (hV : V < 4294967296 ^ m) (hm : m ≤ 1000) : t14 m V = (Na.d32 V).length := (Na.isRd (H := ⟨1, [r14 m V]⟩) (b := 0) rfl hV hm).2.2.2.1
/-- a number moved up, as nat makes it -/
theorem lSh14_ok {H : Hp} {p : Option Addr} {n c V : Nat} (r : Na.IsR H p n c V) (h0 : V ≠ 0) {k : Nat} (hk : k ≤ 200000) {l : Log} (hl : okLog l) : okLog (lSh14 H p n c (k : Nat) (V * 2 ^ k) l) :=
  okCons (Na.rShl r k) (okCons (Na.rX r) (okCons (Na.rBadK r k) (okCons (Na.rNe r h0) (okCons (Na.rFew r h0 hk) hl))))
theorem shl14 {V k n : Nat} (h : V < 4294967296 ^ n) : V * 2 ^ k < 4294967296 ^ Na.sM n (k : Nat) := Na.shl_lt h
theorem sM14 (n k : Nat) : Na.sM n (k : Nat) = k / 32 + (n + 1) := by unfold Na.sM; rw [Int.toNat_natCast]
theorem lPd14_ok {H : Hp} {p q : Option Addr} {n c n' c' V W : Nat} (r : Na.IsR H p n c V) (g : Na.IsR H q n' c' W) (h0 : V ≠ 0) (h1 : W ≠ 0) {l : Log} (hl : okLog l) : okLog (lPd14 H p q n c n' c' (V * W) l) := by
  have p1 := Na.pos_w32 h0
  have p2 := Na.pos_w32 h1
  have e1 := r.2.2.2.1
  have e2 := g.2.2.2.1
  have b1 := r.2.2.2.2
  have b2 := g.2.2.2.2
  refine okCons (Na.rMul r g) (okCons (Na.rX r) (okCons (Na.rX g) (okCons ?_ (okCons (Na.rX r) (okCons (Na.rX g) (okCons (Na.rOr r g) hl))))))
  rw [decide_eq_false (by omega), Nat.ble_eq_true_of_le (by omega)]
  rfl
theorem mul14 {V W n n' : Nat} (h : V < 4294967296 ^ n) (h' : W < 4294967296 ^ n') : V * W < 4294967296 ^ (n + n') := by rw [Nat.pow_add]; exact Nat.mul_lt_mul'' h h'
/-- a small number, as nat makes it -/
theorem of14 {H : Hp} {i q : Nat} (hq : q < 18446744073709551616) (hi : H.blk? i = some (wU (dg 2 (q : Int)), tU)) : Na.IsR H (a14 i) (trimN (dg 2 (q : Int))) 2 q ∧ (Na.d32 q).length ≤ 2 := ⟨Na.isRd hi (by show q < 4294967296 ^ 2; omega) (by omega), Na.nw_le (by show q < 4294967296 ^ 2; omega)⟩
theorem v32_is {H : Hp} {p : Option Addr} {n c V : Nat} (r : Na.IsR H p n c V) : Na.v32O H p n = V := by
  unfold Na.v32O
  rw [r.2.2.1]
  exact vb_db (by omega) V
theorem wAll_lt {S : Nat} {E : Int} (hS : S < 9007199254740992) (hE : -1074 ≤ E ∧ E ≤ 972) (K : Nat) (hK : K = 1074) : wAll S E < 10 ^ (16 + K) := by
  unfold wAll
  rw [Nat.pow_add]
  refine Nat.mul_lt_mul_of_lt_of_le (Nat.lt_of_lt_of_le hS (by decide)) ?_ (Nat.pow_pos (by omega))
  by_cases h : E ≤ 0
  · rw [show E.toNat = 0 by omega, Nat.pow_zero, Nat.mul_one]
    refine Nat.le_trans (Nat.pow_le_pow_left (show 5 ≤ 10 by omega) _) (Nat.pow_le_pow_right (by omega) (by unfold wzN; omega))
  · rw [show wzN E = 0 by unfold wzN; omega, Nat.pow_zero, Nat.one_mul]
    refine Nat.le_trans (Nat.pow_le_pow_left (show 2 ≤ 10 by omega) _) (Nat.pow_le_pow_right (by omega) (by omega))
theorem ex14_calls (m : Bool) (c E : Int) (q : Nat) (h0 : q ≠ 0) (hq : q < 9007199254740992) (hE : -1074 ≤ E ∧ E ≤ 972) (w : World) : Calls Tryz.prog 14 #[vP m c E q] w fun r w' => r = .returned (vDc (decS (wAll q E)) (((decS (wAll q E)).length : Int) - 1 - (wzN E : Nat))) ∧ Tidy w w' := by
  obtain ⟨z, hz⟩ : ∃ z, z = wzN E := ⟨_, rfl⟩
  obtain ⟨k, hk⟩ : ∃ k, k = E.toNat := ⟨_, rfl⟩
  have ez : e14z E = ((z : Nat) : Int) := by unfold e14z; rw [wrapI (by omega) (by omega), mx0_nat, hz]; unfold wzN; omega
  have ek : mx0 E = ((k : Nat) : Int) := by rw [mx0_nat, hk]
  have z1 : z ≤ 1074 := by rw [hz]; unfold wzN; omega
  have k1 : k ≤ 972 := by omega
  obtain ⟨P, hP⟩ : ∃ P, P = 5 ^ z := ⟨_, rfl⟩
  obtain ⟨S, hS⟩ : ∃ S, S = P * 2 ^ k := ⟨_, rfl⟩
  obtain ⟨W, hW⟩ : ∃ W, W = wAll q E := ⟨_, rfl⟩
  have eW : W = q * S := by rw [hW, hS, hP]; unfold wAll; rw [← hz, ← hk]
  have hP0 : P ≠ 0 := by rw [hP]; have := five_pos z; omega
  have hS0 : S ≠ 0 := by rw [hS]; exact mul_ne hP0 (fun c => by have := Nat.pow_pos (n := k) (show 0 < 2 by omega); omega)
  have hW0 : W ≠ 0 := by rw [eW]; exact mul_ne h0 hS0
  obtain ⟨K, hK⟩ : ∃ K, K = 1074 := ⟨_, rfl⟩
  have hWl := wAll_lt hq hE K hK
  rw [← hW] at hWl ⊢
  rw [← hz]
  obtain ⟨l1, l2, l3⟩ := decS_len14 hW0
  have lb : (decS W).length ≤ 16 + K := by
    rcases Nat.lt_or_ge (16 + K) (decS W).length with c | c
    · have := Nat.pow_le_pow_right (n := 10) (by omega) (show 16 + K ≤ (decS W).length - 1 by omega)
      omega
    · exact c
  have f := ex14 m c E q P S W (decS W)
  have ev : IntKind.i64.wrap (IntKind.i64.wrap ((((decS W).length : Nat) : Int) - 1) + mn0 E) = ((decS W).length : Int) - 1 - (z : Nat) := by
    have e1 : mn0 E = -((z : Nat) : Int) := by rw [hz]; unfold mn0 wzN; split <;> omega
    rw [e1, wrapI (n := (((decS W).length : Nat) : Int) - 1) (by omega) (by omega), wrapI (by omega) (by omega)]
    omega
  rw [ev] at f
  -- the rows
  obtain ⟨rP, lP⟩ := pow14 (H := e14M2 m c E q P) (i := 2) (b := 5) (k := z) (.inr rfl) (by omega) (by rw [← hP]; unfold e14M2; rw [ez]; rfl)
  rw [← hP] at rP lP
  have eP : t14 (Na.pMi 5 (z : Nat)) P = (Na.d32 P).length := rP.2.2.2.1
  have eSm : e14s E P = k / 32 + ((Na.d32 P).length + 1) := by unfold e14s; rw [ez, ek, eP, sM14]
  have hSl : S < 4294967296 ^ e14s E P := by
    have := shl14 (k := k) (Na.lt_w32 P)
    rw [sM14, ← hS] at this
    rw [eSm]
    exact this
  have hSm : e14s E P ≤ 200 := by omega
  have eS := t14_is hSl (by omega)
  have sl : (Na.d32 S).length ≤ e14s E P := Na.nw_le hSl
  have rS : Na.IsR (e14M4 m c E q P S) (a14 3) (t14 (e14s E P) S) (e14s E P) S := Na.isRd rfl hSl (by omega)
  obtain ⟨rQ, lQ⟩ := of14 (H := e14M4 m c E q P S) (i := 4) (q := q) (by omega) rfl
  have hTl : W < 4294967296 ^ e14t E q P S := by
    have := mul14 (Na.lt_w32 q) (Na.lt_w32 S)
    rw [← eW] at this
    unfold e14t
    rw [rQ.2.2.2.1, eS]
    exact this
  have hTm : e14t E q P S ≤ 1000 := by unfold e14t; rw [rQ.2.2.2.1, eS]; omega
  have rT : Na.IsR (e14M5 m c E q P S W) (a14 5) (t14 (e14t E q P S) W) (e14t E q P S) W := Na.isRd rfl hTl hTm
  refine fits_calls tabEx f (okCons (Na.rX rT) (okCons rT.good (okCons (decide_eq_true (by rw [v32_is rT])) ?_))) (by rfl) (by rfl) w
  have hd := lPd14_ok rQ rS h0 hS0 (l := (decide ((0 : Int) ≤ (q : Nat) ∧ ((q : Nat) : Int) < 18446744073709551616), true) :: lSh14 (e14M2 m c E q P) (a14 2) (t14 (Na.pMi 5 (e14z E)) P) (Na.pMi 5 (e14z E)) (mx0 E) S (lPw14 5 (e14z E) P [])) (okCons (decide_eq_true (by omega)) ?_)
  · rw [← eW] at hd
    exact hd
  · rw [ez, ek]
    have hs := lSh14_ok rP hP0 (k := k) (by omega) (l := lPw14 5 ((z : Nat) : Int) P []) ?_
    · rw [← hS] at hs
      exact hs
    · have := lPw14_ok (b := 5) (k := z) (l := []) (.inr rfl) (by omega) okN9R
      rw [← hP] at this
      exact this
def gEx14 : Ans := fun vals s =>
  match vals with
  | [v] =>
    match vP4 v with
    | some (_, _, E, q) => some (vDc (decS (wAll q.toNat E)) (((decS (wAll q.toNat E)).length : Int) - 1 - (wzN E : Nat)), s, [(decide (1 ≤ q ∧ q < 9007199254740992 ∧ -1074 ≤ E ∧ E ≤ 972), true)])
    | none => none
  | _ => none
theorem gEx14_ok : AnsOk 14 gEx14 := by
  intro vals s v s' lg h hl w
  unfold gEx14 at h
  split at h
  · split at h
    · rename_i o m c E q hv
      rw [vP4_spec hv]
      cases h
      obtain ⟨h1, h2, h3, h4⟩ := of_decide_eq_true (hl _ (List.mem_singleton.2 rfl))
      obtain ⟨k, rfl⟩ : ∃ k : Nat, q = k := ⟨q.toNat, by omega⟩
      exact ex14_calls m c E k (by omega) (by omega) ⟨h3, h4⟩ w
    · cases h
  · cases h
end Go.Proofs.YtgefjidphfdhdabGreatDoor
namespace Go.KRun
open Go.RowKit
/-- a reckoned call over rows of the caller's memory -/
theorem fits_rows {T : Tab} (hT : TabOk T) {h0 : Hp} {n f : Nat} {vals : List Value} {s : List Dec} {v : Value} {cs : Log} (hF : Fits (reckonAt T h0 n f vals s) v cs) (hcs : okLog cs) (hvals : (vals.all (lt h0.n)) = true) (hv : lt 0 v = true) (hr : h0.rows) {m : Mp} {B : Nat} {h : Hp} {w : World} (E : Emb m B h w) {σ : Nat → Nat} (hf : h0.fits σ h) :
    Calls T.P f ((vals.map (rn σ)).map (mv m)).toArray w fun e w' => ∃ m', e = .returned (mv m' v) ∧ Came m B h w v h m' w' := by
  have ev : (vals.map (rn σ)).map (mv m) = vals.map (mv fun i => m (σ i)) := by
    rw [List.map_map]
    exact List.map_congr_left fun y _ => mv_rn m σ y
  rw [ev]
  refine (fitsAt_calls hT hF hcs hvals hv (E.small hr hf)).mono fun e w' he => ?_
  obtain ⟨E', hb⟩ := clean_emb E he.2
  exact ⟨m, by rw [he.1, mv_still hv], ⟨Agree.refl _ _, E', hb, Nat.le_refl _, lt_mono (Nat.zero_le _) hv⟩⟩
end Go.KRun
namespace Go.Proofs.YtgefjidphfdhdabGreatDoor
open Go.KRun Go.Nt Go.Rd Go.Wd Go.Pt
set_option maxRecDepth 100000
def hcTi : Hc := altH 56 Na.gPdN (altH 61 Na.gBothU (altH 31 Na.gOfX (altH 112 Na.gDmN hcN)))
theorem hcTi_ok : HcOk hcTi := altH_ok Tryz.func56 rfl Na.gPdN_ok (altH_ok Tryz.func61 rfl Na.gBothU_ok (altH_ok Tryz.func31 rfl Na.gOfX_ok (altH_ok Tryz.func112 rfl Na.gDmN_ok hcN_ok)))
theorem tabTi : TabOk (tabH Tryz.prog extY conN hcTi) := tabH_ok conN_ok hcTi_ok
def tiM3 (la lb : List Value) (o n c o' n' c' : Nat) (x : Int) : Hp := ⟨4, [(wU (dg 2 x), tU), ([sl 0 o n c, sl 1 o' n' c'], 131), (lb, tR), (la, tR)]⟩
def tiT (x : Int) (n : Nat) : Nat := trimN (dg 2 x) + n
def tiM4 (la lb : List Value) (o n c o' n' c' : Nat) (x : Int) (T : Nat) : Hp := ⟨5, [r14 (tiT x n) T, (wU (dg 2 x), tU), ([sl 0 o n c, sl 1 o' n' c'], 131), (lb, tR), (la, tR)]⟩
def tiV (x : Int) (n n' T : Nat) : Nat := t14 (tiT x n) T - n' + 1
def lDv14 (H : Hp) (p q : Option Addr) (n c n' c' : Nat) (Q R : Nat) (l : Log) : Log := (decide (Go.Nt.vN (rowOf H p n) / Go.Nt.vN (rowOf H q n') = (Q : Int) ∧ Go.Nt.vN (rowOf H p n) % Go.Nt.vN (rowOf H q n') = (R : Int)), true) :: (Na.rowX H p n c, true) :: (Na.rowX H q n' c', true) :: (!(Na.badL (rowOf H p n) || Na.badL (rowOf H q n')) && decide (0 < n' ∧ ¬ cmpL (rowOf H p n) (rowOf H q n') < 0), true) :: l
def tiW (w0 w1 : Int) : Int := bOr (bOr 0 (IntKind.u64.wrap (IntKind.u64.wrap w0 * 2 ^ 0))) (IntKind.u64.wrap (IntKind.u64.wrap w1 * 2 ^ 32))
theorem ti14 (la lb : List Value) (o n c o' n' c' : Nat) (x : Int) (T V R : Nat) (w0 w1 : Int) (d : Bool) : Fits (reckonAt (tabH Tryz.prog extY conN hcTi) (h2 la lb) 200 97 [.agg #[sl 0 o n c, sl 1 o' n' c'], .int .u64 x] [cmp false, cmp false, num T, cmp false, cmp false, cmp false, num V, num R, cmp true, at_, val (.int .u32 w0), cmp true, at_, val (.int .u32 w1), cmp false, cmp d]) (.tuple #[.int .u64 (tiW w0 w1), .bool d])
    ((decide (((t14 (t14 (tiT x n) T + 1) R : Nat) : Int) > 0), d) :: (decide ((2 : Int) < ((t14 (tiV x n n' T) V : Nat) : Int)), false) :: (false, false) :: (cellIs (wU (dg (tiV x n n' T) (V : Int)))[1]? (.int .u32 w1), true) :: (decide ((0 : Int) ≤ 1 ∧ (1 : Int) < ((t14 (tiV x n n' T) V : Nat) : Int)), true) :: (decide ((1 : Int) < ((t14 (tiV x n n' T) V : Nat) : Int)), true) :: (false, false) :: (cellIs (wU (dg (tiV x n n' T) (V : Int)))[0]? (.int .u32 w0), true) :: (decide ((0 : Int) ≤ 0 ∧ (0 : Int) < ((t14 (tiV x n n' T) V : Nat) : Int)), true) :: (decide ((0 : Int) < ((t14 (tiV x n n' T) V : Nat) : Int)), true) ::
      lDv14 (tiM4 la lb o n c o' n' c' x T) (a14 4) (some ⟨1, o', none⟩) (t14 (tiT x n) T) (tiT x n) n' c' V R (lPd14 (tiM3 la lb o n c o' n' c' x) (a14 3) (some ⟨0, o, none⟩) (trimN (dg 2 x)) 2 n c T [(decide (0 ≤ x ∧ x < 18446744073709551616), true)])) := ⟨by kernel_rfl, by kernel_rfl, by kernel_rfl, by kernel_rfl⟩
theorem rowC_R {ty : TypeId} {l : List Value} {o n c : Nat} (h : rowC ty l o n c = true) : rowC tR l o n c = true := by
  unfold rowC at *
  simp only [Bool.and_eq_true, Bool.not_eq_true'] at *
  obtain ⟨⟨⟨⟨⟨⟨h1, h2⟩, h3⟩, h4⟩, h5⟩, h6⟩, h7⟩ := h
  exact ⟨⟨⟨⟨⟨⟨tR_tomb, by kernel_rfl⟩, h3⟩, h4⟩, h5⟩, h6⟩, h7⟩
/-- a number's row, in a smaller memory -/
theorem isR_R {h H : Hp} {b i o n c V : Nat} {x : List Value × TypeId} (r : Na.IsR h (some ⟨b, o, none⟩) n c V) (hx : h.blk? b = some x) (hH : H.blk? i = some (x.1, tR)) : Na.IsR H (some ⟨i, o, none⟩) n c V := by
  obtain ⟨r1, r2, r3, r4⟩ := r
  unfold Na.rowX at r1
  simp only [hx] at r1
  unfold rowP at r2
  simp only [hx, Bool.and_eq_true] at r2
  refine ⟨?_, ?_, ?_, r4⟩
  · unfold Na.rowX
    simp only [hH]
    exact Na.rowOk_R r1
  · unfold rowP
    simp only [hH, Bool.and_eq_true]
    exact ⟨rowC_R r2.1, r2.2⟩
  · rw [← r3]
    unfold rowOf
    simp only [hx, hH]
/-- as a truth, for a log -/
def isRB (H : Hp) (p : Option Addr) (n c V : Nat) : Bool := Na.rowX H p n c && rowP H p n c && decide (rowOf H p n = Na.d32 V) && decide (n = (Na.d32 V).length ∧ n ≤ 300)
theorem isRB_of {H : Hp} {p : Option Addr} {n c V : Nat} (h : isRB H p n c V = true) : Na.IsR H p n c V ∧ n ≤ 300 := by
  unfold isRB at h
  simp only [Bool.and_eq_true, decide_eq_true_eq] at h
  obtain ⟨⟨⟨h1, h2⟩, h3⟩, h4, h5⟩ := h
  exact ⟨⟨h1, h2, h3, h4, by omega⟩, h5⟩
theorem isRB_mk {H : Hp} {p : Option Addr} {n c V : Nat} (h : Na.IsR H p n c V) (h3 : n ≤ 300) : isRB H p n c V = true := by
  unfold isRB
  simp only [Bool.and_eq_true, decide_eq_true_eq]
  exact ⟨⟨⟨h.1, h.2.1⟩, h.2.2.1⟩, h.2.2.2.1, h3⟩
theorem tiW_is {V : Nat} (h : V < 18446744073709551616) : tiW ((V : Int) % 4294967296) ((V : Int) / 4294967296 % 4294967296) = V := by
  unfold tiW
  have w : ∀ z : Int, 0 ≤ z → z < 18446744073709551616 → IntKind.u64.wrap z = z := fun z h0 h1 => by
    simp [IntKind.wrap, IntKind.bits, IntKind.signed]
    omega
  have e1 : (2 : Int) ^ 0 = 1 := rfl
  have e2 : (2 : Int) ^ 32 = 4294967296 := rfl
  rw [e1, e2, Int.mul_one, w ((V : Int) % 4294967296) (by omega) (by omega), w _ (by omega) (by omega), w ((V : Int) / 4294967296 % 4294967296) (by omega) (by omega), w _ (by omega) (by omega)]
  have o1 : bOr 0 ((V : Int) % 4294967296) = (V : Int) % 4294967296 := by
    have := or_low (p := 0) (q := (V : Int) % 4294967296) 0 (z := (V : Int) % 4294967296) (by omega) (by rw [show (2 : Int) ^ 0 = 1 from rfl]; omega) (by omega) (by decide) (by omega)
    omega
  rw [o1, or_low 32 (z := (V : Int) / 4294967296 % 4294967296) (by omega) (by rw [e2]; omega) (by omega) (by rw [e2]; omega) (by omega)]
  omega
/-- times a scale: both parts and the quotient told ahead -/
def gTim : AnsH := fun vals h s =>
  match vals, s with
  | [.agg cs, .int .u64 x], .inr (.inl O) :: .inr (.inl U) :: .inr (.inl V) :: .inr (.inr (.inr (.inl d))) :: s' =>
    match cs.toList with
    | [.slice (some ⟨b, o, none⟩) n c, .slice (some ⟨b', o', none⟩) n' c'] => some (.tuple #[.int .u64 V, .bool d], h, s', [(isRB h (some ⟨b, o, none⟩) n c O.toNat, true), (isRB h (some ⟨b', o', none⟩) n' c' U.toNat, true), (decide (((x.toNat * O.toNat / U.toNat : Nat) : Int) = V), true), (decide (x.toNat * O.toNat % U.toNat ≠ 0), d), (decide (1 ≤ x ∧ x < 18446744073709551616 ∧ O.toNat ≠ 0 ∧ U.toNat ≠ 0 ∧ 4294967296 ≤ V ∧ V < 18446744073709551616), true)])
    | _ => none
  | _, _ => none
theorem gTim_ok : AnsHOk 97 gTim := by
  intro vals h s v h' s' lg hg hl m B w E hv
  unfold gTim at hg
  split at hg
  · rename_i cs x O U V d s2
    split at hg
    · rename_i b o n c b' o' n' c' hcs
      have ecs : cs = #[sl b o n c, sl b' o' n' c'] := by
        have := congrArg List.toArray hcs
        simpa [sl] using this
      cases hg
      have l1 : isRB h (some ⟨b, o, none⟩) n c O.toNat = true := hl _ List.mem_cons_self
      have l2 : isRB h (some ⟨b', o', none⟩) n' c' U.toNat = true := hl _ (List.mem_cons_of_mem _ List.mem_cons_self)
      have l3 := of_decide_eq_true (hl _ (List.mem_cons_of_mem _ (List.mem_cons_of_mem _ List.mem_cons_self)))
      have l4 : decide (x.toNat * O.toNat % U.toNat ≠ 0) = d := hl _ (List.mem_cons_of_mem _ (List.mem_cons_of_mem _ (List.mem_cons_of_mem _ List.mem_cons_self)))
      obtain ⟨x1, x2, hO, hU, v1, v2⟩ := of_decide_eq_true (hl _ (List.mem_cons_of_mem _ (List.mem_cons_of_mem _ (List.mem_cons_of_mem _ (List.mem_cons_of_mem _ (List.mem_singleton.2 rfl))))))
      obtain ⟨R1, n3⟩ := isRB_of l1
      obtain ⟨R2, n4⟩ := isRB_of l2
      obtain ⟨X, rfl⟩ : ∃ X : Nat, x = X := ⟨x.toNat, by omega⟩
      obtain ⟨O', hO'⟩ : ∃ O', O' = O.toNat := ⟨_, rfl⟩
      obtain ⟨U', hU'⟩ : ∃ U', U' = U.toNat := ⟨_, rfl⟩
      obtain ⟨V', rfl⟩ : ∃ V' : Nat, V = V' := ⟨V.toNat, by omega⟩
      rw [Int.toNat_natCast, ← hO', ← hU'] at l3 l4
      rw [← hO'] at R1 hO
      rw [← hU'] at R2 hU
      rcases Na.rowX_cases R1.1 with ⟨c1, _⟩ | ⟨b1, o1, xa, e1, hx, r1, _⟩
      · cases c1
      cases e1
      rcases Na.rowX_cases R2.1 with ⟨c1, _⟩ | ⟨b1, o1, xb, e1, hy, t1, _⟩
      · cases c1
      cases e1
      obtain ⟨a1, a2, a3, a4, a5, a6, a7⟩ := row_of r1
      obtain ⟨d1, d2, d3, d4, d5, d6, d7⟩ := row_of t1
      have l3' : X * O' / U' = V' := by omega
      -- the rows in the small memory
      have rO : Na.IsR (tiM3 xa.1 xb.1 o n c o' n' c' X) (some ⟨0, o, none⟩) n c O' := isR_R R1 hx rfl
      obtain ⟨rQ, lQ⟩ := of14 (H := tiM3 xa.1 xb.1 o n c o' n' c' X) (i := 3) (q := X) (by omega) rfl
      obtain ⟨T, hT⟩ : ∃ T, T = X * O' := ⟨_, rfl⟩
      have X0 : X ≠ 0 := by omega
      have T0 : T ≠ 0 := by rw [hT]; exact mul_ne X0 hO
      have nO := R1.2.2.2.1
      have nU := R2.2.2.2.1
      have eQ := rQ.2.2.2.1
      have hTl : T < 4294967296 ^ tiT X n := by
        have := mul14 (Na.lt_w32 X) (Na.lt_w32 O')
        rw [← hT, ← eQ, ← nO] at this
        exact this
      have hTm : tiT X n ≤ 302 := by unfold tiT; omega
      have rT : Na.IsR (tiM4 xa.1 xb.1 o n c o' n' c' X T) (a14 4) (t14 (tiT X n) T) (tiT X n) T := Na.isRd rfl hTl (by omega)
      have rU : Na.IsR (tiM4 xa.1 xb.1 o n c o' n' c' X T) (some ⟨1, o', none⟩) n' c' U' := isR_R R2 hy rfl
      have eT := rT.2.2.2.1
      rw [← hT] at l3' l4
      have hle : U' ≤ T := by
        rcases Nat.lt_or_ge T U' with c0 | c0
        · rw [Nat.div_eq_of_lt c0] at l3'
          omega
        · exact c0
      have hsl := Na.le_w32 hle
      have hVl : V' < 4294967296 ^ tiV X n n' T := by
        have := Na.quo_lt hU hsl
        rw [l3'] at this
        unfold tiV
        rw [eT, nU]
        exact this
      have hVm : tiV X n n' T ≤ 400 := by unfold tiV; have : t14 (tiT X n) T ≤ tiT X n := by { have := trimN_le (dg (tiT X n) (T : Int)); rw [dg_len] at this; exact this }; omega
      have eV := t14_is hVl (by omega)
      have wV : (Na.d32 V').length = 2 := by
        have h1 : (Na.d32 V').length ≤ 2 := Na.nw_le (by show V' < 4294967296 ^ 2; omega)
        have h2 : V' < 4294967296 ^ (Na.d32 V').length := Na.lt_w32 V'
        rcases (show (Na.d32 V').length = 0 ∨ (Na.d32 V').length = 1 ∨ (Na.d32 V').length = 2 by omega) with c0 | c0 | c0
        · rw [c0, Nat.pow_zero] at h2; omega
        · rw [c0, Nat.pow_one] at h2; omega
        · exact c0
      rw [wV] at eV
      have hRl : T % U' < 4294967296 ^ (t14 (tiT X n) T + 1) := by
        have h2 : T % U' < T + 1 := Nat.lt_succ_of_le (Nat.mod_le _ _)
        refine Nat.lt_of_lt_of_le h2 ?_
        rw [eT, Nat.pow_succ]
        have := Na.lt_w32 T
        show T + 1 ≤ _
        have e3 : (Na.d32 T).length = (Na.d32 T).length := rfl
        omega
      have tl1 : t14 (tiT X n) T ≤ 302 := by have := trimN_le (dg (tiT X n) (T : Int)); rw [dg_len] at this; unfold t14; omega
      have eR := t14_is hRl (by omega)
      have hd : decide (((t14 (t14 (tiT X n) T + 1) (T % U') : Nat) : Int) > 0) = d := by
        rw [eR, ← l4]
        by_cases hz : T % U' = 0
        · have h2 : (Na.d32 (T % U')).length = 0 := by rw [hz]; show (db 4294967296 0).length = 0; rw [db_zero]; rfl
          rw [h2, decide_eq_false (show ¬ (T % U' ≠ 0) from fun h => h hz)]
          rfl
        · have := Na.pos_w32 hz
          rw [decide_eq_true hz]
          exact decide_eq_true (by omega)
      obtain ⟨kv, hkv⟩ : ∃ k, tiV X n n' T = k + 2 := by
        refine ⟨tiV X n n' T - 2, ?_⟩
        have := trimN_le (dg (tiV X n n' T) (V' : Int))
        rw [dg_len] at this
        have e4 : trimN (dg (tiV X n n' T) (V' : Int)) = 2 := eV
        omega
      have c0 : cellIs (wU (dg (tiV X n n' T) (V' : Int)))[0]? (.int .u32 ((V' : Int) % 4294967296)) = true := by
        rw [hkv]
        show cellIs (some (.int .u32 ((V' : Int) % 4294967296))) (.int .u32 ((V' : Int) % 4294967296)) = true
        simp [cellIs]
      have c1 : cellIs (wU (dg (tiV X n n' T) (V' : Int)))[1]? (.int .u32 ((V' : Int) / 4294967296 % 4294967296)) = true := by
        rw [hkv]
        show cellIs (some (.int .u32 ((V' : Int) / 4294967296 % 4294967296))) (.int .u32 ((V' : Int) / 4294967296 % 4294967296)) = true
        simp [cellIs]
      have f := ti14 xa.1 xb.1 o n c o' n' c' X T V' (T % U') ((V' : Int) % 4294967296) ((V' : Int) / 4294967296 % 4294967296) d
      rw [tiW_is (by omega)] at f
      have hdv := Na.rDiv rT rU
      rw [l3'] at hdv
      have hpd := lPd14_ok rQ rO X0 hO (l := [(decide ((0 : Int) ≤ (X : Nat) ∧ ((X : Nat) : Int) < 18446744073709551616), true)]) (okL1 (decide_eq_true (by omega)))
      rw [← hT] at hpd
      have pU := Na.pos_w32 hU
      have fin := fits_rows tabTi f (okCons hd (okCons (decide_eq_false (by rw [eV]; decide)) (okCons rfl (okCons c1 (okCons (decide_eq_true (by rw [eV]; decide)) (okCons (decide_eq_true (by rw [eV]; decide)) (okCons rfl (okCons c0 (okCons (decide_eq_true (by rw [eV]; decide)) (okCons (decide_eq_true (by rw [eV]; decide)) (okCons hdv (okCons (Na.rX rT) (okCons (Na.rX rU) (okCons (Na.rG rT rU (by omega) hle) hpd)))))))))))))) (by rfl) (by rfl) (rows2 a7 d7) E (σ := pair b b') (fitsR2 hx a5 a6 hy d5 d6)
      have evals : List.map (rn (pair b b')) [.agg #[sl 0 o n c, sl 1 o' n' c'], .int .u64 X] = [.agg cs, .int .u64 X] := by
        rw [ecs]
        simp [rn, rn2, rn1, sl, pair]
      rw [evals] at fin
      exact fin
    · cases hg
  · cases hg
end Go.Proofs.YtgefjidphfdhdabGreatDoor
namespace Go.Proofs.YtgefjidphfdhdabGreatDoor
open Go.KRun Go.Wd
def vW (x : W4) : Value := .agg #[.int .u64 x.a, .int .u64 x.b, .int .u64 x.c, .int .u64 x.d]
def w4 : Value → Option W4
  | .agg cs =>
    match cs.toList with
    | [.int .u64 a, .int .u64 b, .int .u64 c, .int .u64 d] => some ⟨a, b, c, d⟩
    | _ => none
  | _ => none
theorem w4_spec {v : Value} {x : W4} (h : w4 v = some x) : v = vW x := by
  unfold w4 at h
  split at h
  · rename_i cs
    split at h
    · rename_i a b c d hc
      cases h
      obtain ⟨l⟩ := cs
      simp only at hc
      subst hc
      rfl
    · cases h
  · cases h
/-- of two numbers -/
def g2 (k : W4 → W4 → List Dec → Option (Value × List Dec × Log)) : Ans := fun vals s =>
  match vals with
  | [x, y] =>
    match w4 x, w4 y with
    | some a, some b =>
      match k a b s with
      | some r => some (r.1, r.2.1, (decide (a.ok ∧ b.ok), true) :: r.2.2)
      | none => none
    | _, _ => none
  | _ => none
theorem g2_ok {f : Nat} {k : W4 → W4 → List Dec → Option (Value × List Dec × Log)}
    (hk : ∀ x y : W4, x.ok → y.ok → ∀ s v s' lg, k x y s = some (v, s', lg) → okLog lg → ∀ w, Calls Tryz.prog f #[vW x, vW y] w fun e w' => e = .returned v ∧ Tidy w w') : AnsOk f (g2 k) := by
  intro vals s v s' lg h hl w
  unfold g2 at h
  split at h
  · split at h
    · rename_i a b ha hb
      split at h
      · rename_i r hr
        cases h
        have h1 := hl _ (List.mem_cons_self)
        simp only [decide_eq_true_eq] at h1
        rw [w4_spec ha, w4_spec hb]
        exact hk a b h1.1 h1.2 s r.1 r.2.1 r.2.2 hr (fun p hp => hl p (List.mem_cons_of_mem _ hp)) w
      · cases h
    · cases h
  · cases h
/-- an answer that is told outright -/
def plain2 (k : W4 → W4 → Value) : W4 → W4 → List Dec → Option (Value × List Dec × Log) := fun x y s => some (k x y, s, [])
theorem plain2_ok {f : Nat} {k : W4 → W4 → Value} (hk : ∀ x y : W4, x.ok → y.ok → ∀ w, Calls Tryz.prog f #[vW x, vW y] w fun e w' => e = .returned (k x y) ∧ Tidy w w') : AnsOk f (g2 (plain2 k)) :=
  g2_ok fun x y hx hy s v s' lg h _ w => by
    unfold plain2 at h
    cases h
    exact hk x y hx hy w
/-! ### Add -/
def okA (x y c : Int) : Bool × Bool := (decide (0 ≤ x ∧ 0 ≤ y ∧ 0 ≤ c ∧ c ≤ 1), true)
theorem add_fits (x y : W4) : Fits (reckon (tabOf Tryz.prog extY conN true) 3000 103 [vW x, vW y] []) (.tuple #[vW (addR x y), .bool (addC x y != 0)])
    [okA x.d y.d (ca x.c y.c (ca x.b y.b (ca x.a y.a 0))), okA x.c y.c (ca x.b y.b (ca x.a y.a 0)), okA x.b y.b (ca x.a y.a 0), okA x.a y.a 0] := ⟨by kernel_rfl, by kernel_rfl, by kernel_rfl, by kernel_rfl⟩
def addV4 (x y : W4) : Value := .tuple #[vW (W4.of (x.val + y.val)), .bool (decide (115792089237316195423570985008687907853269984665640564039457584007913129639936 ≤ x.val + y.val))]
theorem add_calls (x y : W4) (hx : x.ok) (hy : y.ok) (w : World) : Calls Tryz.prog 103 #[vW x, vW y] w fun e w' => e = .returned (addV4 x y) ∧ Tidy w w' := by
  have h := fits_calls (tabY_ok conN_ok) (add_fits x y) (by
    obtain ⟨h1, h2, h3, h4⟩ := hx
    obtain ⟨k1, k2, k3, k4⟩ := hy
    have b1 : 0 ≤ ca x.a y.a 0 ∧ ca x.a y.a 0 ≤ 1 := by unfold ca; omega
    have b2 : 0 ≤ ca x.b y.b (ca x.a y.a 0) ∧ ca x.b y.b (ca x.a y.a 0) ≤ 1 := by generalize ca x.a y.a 0 = k at *; unfold ca; omega
    have b3 : 0 ≤ ca x.c y.c (ca x.b y.b (ca x.a y.a 0)) ∧ ca x.c y.c (ca x.b y.b (ca x.a y.a 0)) ≤ 1 := by generalize ca x.b y.b (ca x.a y.a 0) = k at *; unfold ca; omega
    intro p hp
    simp only [List.mem_cons, List.not_mem_nil, or_false] at hp
    rcases hp with rfl | rfl | rfl | rfl <;> simp only [okA, decide_eq_true_eq] <;> omega) (by rfl) (by rfl) w
  rw [addR_eq hx hy, addC_eq hx hy] at h
  exact h
end Go.Proofs.YtgefjidphfdhdabGreatDoor
