/-
  nat.Add, as a call, where a row is nothing.
-/
import Derived.Test.YtecemjilmlagdaaDoorG10
namespace Go.Proofs.YtecemjilmlagdaaDoor
open Go.KRun Go.Nt
set_option maxRecDepth 100000

def fA (a b r e : Value) : List Value := [a, b, undef, undef, r, e]
def resE (d : Bool) : Value := match d with | true => errV 2 | false => .nilIface
def resV (d : Bool) (v : Value) : Value := match d with | true => nilS | false => v
theorem addN_bad1 (o n c : Nat) (la : List Value) : GoesT (evC (tabH Tryd.prog extY conA hcA) 200 false (cBody Tryd.f10) ([sl 0 o n c, nilS] ++ List.replicate 73 undef, ⟨1, [(la, tR)]⟩, [cmp true]) ⟨[], [], []⟩) 6 69 (some none) (fA (sl 0 o n c) nilS nilS (errV 1)) ⟨1, [(la, tR)]⟩ [chkL la o n c, (badL (cutI la o n), true)] := ⟨by kernel_rfl, by kernel_rfl, by kernel_rfl⟩
theorem addN_bad2 (o n c : Nat) (la : List Value) : GoesT (evC (tabH Tryd.prog extY conA hcA) 200 false (cBody Tryd.f10) ([nilS, sl 0 o n c] ++ List.replicate 73 undef, ⟨1, [(la, tR)]⟩, [cmp true]) ⟨[], [], []⟩) 6 69 (some none) (fA nilS (sl 0 o n c) nilS (errV 1)) ⟨1, [(la, tR)]⟩ [chkL la o n c, (badL (cutI la o n), true)] := ⟨by kernel_rfl, by kernel_rfl, by kernel_rfl⟩
def h1S (la S : List Value) : Hp := ⟨2, [(S, tU), (la, tR)]⟩
theorem addN_1n (d : Bool) (o n c : Nat) (la : List Value) : GoesT (evC (tabH Tryd.prog extY conA hcA) 200 false (cBody Tryd.f10) ([sl 0 o n c, nilS] ++ List.replicate 73 undef, ⟨1, [(la, tR)]⟩, [cmp false, cmp false, at_, at_, cmp false, cmp false, cmp d]) ⟨[], [], []⟩) 6 69 (some none)
    (fA (sl 0 o n c) nilS (resV d (sl 1 0 (trimN (cutI (cpy la o n) 0 (nP n).toNat)) (nP n).toNat)) (resE d)) (h1S la (cpy la o n)) [(decide ((trimN (cutI (cpy la o n) 0 (nP n).toNat) : Int) > 8192), d), (rowOk tU (cpy la o n) 0 (nP n).toNat (nP n).toNat, true), (false, false), (false, false), (cpOk la o n, true), (okMakeB 4 (nP n) (nP n), true), (decide ((n : Int) < (0 : Nat)), false), chkL la o n c, (badL (cutI la o n), false)] := by
  cases d <;> exact ⟨by kernel_rfl, by kernel_rfl, by kernel_rfl⟩
theorem addN_n1 (d : Bool) (o n c : Nat) (la : List Value) : GoesT (evC (tabH Tryd.prog extY conA hcA) 200 false (cBody Tryd.f10) ([nilS, sl 0 o n c] ++ List.replicate 73 undef, ⟨1, [(la, tR)]⟩, [cmp false, cmp true, at_, at_, cmp false, cmp false, cmp d]) ⟨[], [], []⟩) 6 69 (some none)
    (fA (sl 0 o n c) nilS (resV d (sl 1 0 (trimN (cutI (cpy la o n) 0 (nP n).toNat)) (nP n).toNat)) (resE d)) (h1S la (cpy la o n)) [(decide ((trimN (cutI (cpy la o n) 0 (nP n).toNat) : Int) > 8192), d), (rowOk tU (cpy la o n) 0 (nP n).toNat (nP n).toNat, true), (false, false), (false, false), (cpOk la o n, true), (okMakeB 4 (nP n) (nP n), true), (decide (((0 : Nat) : Int) < n), true), chkL la o n c, (badL (cutI la o n), false)] := by
  cases d <;> exact ⟨by kernel_rfl, by kernel_rfl, by kernel_rfl⟩
theorem addN_n0 (o n c : Nat) (la : List Value) : GoesT (evC (tabH Tryd.prog extY conA hcA) 200 false (cBody Tryd.f10) ([nilS, sl 0 o n c] ++ List.replicate 73 undef, ⟨1, [(la, tR)]⟩, [cmp false, cmp false, at_, at_, cmp false, cmp false]) ⟨[], [], []⟩) 6 69 (some none)
    (fA nilS (sl 0 o n c) (sl 1 0 0 1) .nilIface) (h1S la [uu 0]) [(true, true), (false, false), (decide ((0 : Int) < n), false), (true, true), (true, true), (decide (((0 : Nat) : Int) < n), false), chkL la o n c, (badL (cutI la o n), false)] := ⟨by kernel_rfl, by kernel_rfl, by kernel_rfl⟩
theorem addN_nn : GoesT (evC (tabH Tryd.prog extY conA hcA) 200 false (cBody Tryd.f10) ([nilS, nilS] ++ List.replicate 73 undef, ⟨0, []⟩, []) ⟨[], [], []⟩) 6 69 (some none) (fA nilS nilS (sl 0 0 0 1) .nilIface) ⟨1, [([uu 0], tU)]⟩ [(true, true)] := ⟨by kernel_rfl, by kernel_rfl, by kernel_rfl⟩
end Go.Proofs.YtecemjilmlagdaaDoor

/-
  nat.Add, as a call with rows or nothing.
-/
namespace Go.Proofs.YtecemjilmlagdaaDoor
open Go.KRun Go.Nt
set_option maxRecDepth 100000

theorem dg_self0 {L : List Int} (h : wds L) : dg (L.length + 1) (vN L) = L ++ [0] := by
  have := dg_vN (L ++ [0]) (wds_app h (fun x hx => by rw [List.mem_singleton.1 hx]; omega))
  rw [List.length_append, List.length_singleton, vN_snoc, Int.mul_zero, Int.add_zero] at this
  exact this
theorem sumR_n1 {L : List Int} (h : wds L) : sumR [] L = L ++ [0] := by
  unfold sumR mxN
  rw [show vN [] + vN L = vN L from by simp [vN], show (if ([] : List Int).length < L.length then L.length else ([] : List Int).length) = L.length from by
    by_cases h0 : ([] : List Int).length < L.length
    · rw [if_pos h0]
    · rw [if_neg h0]; simp at h0 ⊢; simp [h0], dg_self0 h]
theorem sumR_1n {L : List Int} (h : wds L) : sumR L [] = L ++ [0] := by
  unfold sumR mxN
  rw [show vN L + vN [] = vN L from by simp [vN], if_neg (by simp), dg_self0 h]
theorem mx_1n (n : Nat) : mxN n 0 = n := if_neg (Nat.not_lt_zero n)
theorem mx_n1 (n : Nat) : mxN 0 n = n := by
  unfold mxN
  split
  · rfl
  · omega
theorem add_one {vals : List Value} {la : List Value} {r e a b : Value} {h' : Hp} {cs : Log} {s : List Dec} (hG : GoesT (evC (tabH Tryd.prog extY conA hcA) 200 false (cBody Tryd.f10) (vals ++ List.replicate 73 undef, ⟨1, [(la, tR)]⟩, s) ⟨[], [], []⟩) 6 69 (some none) (fA a b r e) h' cs) (hcs : okLog cs) (hr : ∀ g, resS Tryd.prog Tryd.f10 (fA a b r e ++ tl 69 g) h' = some (.tuple #[r, e])) :
    Runs (tabH Tryd.prog extY conA hcA) (cBody Tryd.f10) (vals ++ List.replicate 73 undef, ⟨1, [(la, tR)]⟩, []) fun e' y => (e' = none ∨ e' = some none) ∧ resS Tryd.prog Tryd.f10 y.1 y.2.1 = some (.tuple #[r, e]) ∧ y.2.1 = h' := by
  refine (goesT_runs (tabH_ok conA_ok hcA_ok) hG hcs).mono fun e' y he => ?_
  obtain ⟨rfl, ⟨g, e2⟩, e3⟩ := he
  refine ⟨.inr rfl, ?_, e3⟩
  rw [e2, e3]
  exact hr g
theorem addX_body : Tryd.f10.body = some (cBody Tryd.f10) := by kernel_rfl
/-- a row and nothing: what the run answers -/
theorem add_1n {la : List Value} {o n c : Nat} (ha : rowOk tR la o n c = true) (hb : badL (cutI la o n) = false) (d : Bool) (hd : decide ((trimN (sumR (cutI la o n) []) : Int) > 8192) = d) :
    Runs (tabH Tryd.prog extY conA hcA) (cBody Tryd.f10) ([sl 0 o n c, nilS] ++ List.replicate 73 undef, ⟨1, [(la, tR)]⟩, []) fun e' y => (e' = none ∨ e' = some none) ∧ resS Tryd.prog Tryd.f10 y.1 y.2.1 = some (.tuple #[resV d (sl 1 0 (trimN (sumR (cutI la o n) [])) (mxN n 0 + 1)), resE d]) ∧ y.2.1 = h1S la (wU (sumR (cutI la o n) [])) := by
  obtain ⟨a1, a2, a3, a4, a5, a6, a7⟩ := row_of ha
  have h8 := badL_len hb
  have g0 := addN_1n d o n c la
  generalize hL : cutI la o n = L at *
  subst a2
  rw [sumR_1n a1.rng] at hd ⊢
  have hw : wds (L ++ [0]) := wds_app a1.rng (fun x hx => by rw [List.mem_singleton.1 hx]; omega)
  have r1 := wU_row hw (c := L.length + 1) (by simp) (blt_iff.2 (by unfold dead; omega))
  rw [List.length_append, List.length_singleton] at r1
  rw [cpy_eq a1 h8, nP_nat h8, r1.2] at g0
  rw [mx_1n]
  have q1 : decide ((L.length : Int) < (0 : Nat)) = false := decide_eq_false (by omega)
  exact add_one g0 (okTwo hd (okTwo r1.1 (okTwo rfl (okTwo rfl (okTwo (cpOk_eq a1 h8) (okTwo (mk_ok h8) (okTwo q1 (okTwo ha (okOne hb))))))))) (fun g => by cases d <;> rfl)
theorem add_n1 {la : List Value} {o n c : Nat} (ha : rowOk tR la o n c = true) (hb : badL (cutI la o n) = false) (h0 : 0 < n) (d : Bool) (hd : decide ((trimN (sumR [] (cutI la o n)) : Int) > 8192) = d) :
    Runs (tabH Tryd.prog extY conA hcA) (cBody Tryd.f10) ([nilS, sl 0 o n c] ++ List.replicate 73 undef, ⟨1, [(la, tR)]⟩, []) fun e' y => (e' = none ∨ e' = some none) ∧ resS Tryd.prog Tryd.f10 y.1 y.2.1 = some (.tuple #[resV d (sl 1 0 (trimN (sumR [] (cutI la o n))) (mxN 0 n + 1)), resE d]) ∧ y.2.1 = h1S la (wU (sumR [] (cutI la o n))) := by
  obtain ⟨a1, a2, a3, a4, a5, a6, a7⟩ := row_of ha
  have h8 := badL_len hb
  have g0 := addN_n1 d o n c la
  generalize hL : cutI la o n = L at *
  subst a2
  rw [sumR_n1 a1.rng] at hd ⊢
  have hw : wds (L ++ [0]) := wds_app a1.rng (fun x hx => by rw [List.mem_singleton.1 hx]; omega)
  have r1 := wU_row hw (c := L.length + 1) (by simp) (blt_iff.2 (by unfold dead; omega))
  rw [List.length_append, List.length_singleton] at r1
  rw [cpy_eq a1 h8, nP_nat h8, r1.2] at g0
  rw [mx_n1]
  have q1 : decide (((0 : Nat) : Int) < (L.length : Nat)) = true := decide_eq_true (by omega)
  exact add_one g0 (okTwo hd (okTwo r1.1 (okTwo rfl (okTwo rfl (okTwo (cpOk_eq a1 h8) (okTwo (mk_ok h8) (okTwo q1 (okTwo ha (okOne hb))))))))) (fun g => by cases d <;> rfl)
theorem add_n0 {la : List Value} {o c : Nat} (ha : rowOk tR la o 0 c = true) (hb : badL (cutI la o 0) = false) :
    Runs (tabH Tryd.prog extY conA hcA) (cBody Tryd.f10) ([nilS, sl 0 o 0 c] ++ List.replicate 73 undef, ⟨1, [(la, tR)]⟩, []) fun e' y => (e' = none ∨ e' = some none) ∧ resS Tryd.prog Tryd.f10 y.1 y.2.1 = some (.tuple #[sl 1 0 0 1, .nilIface]) ∧ y.2.1 = h1S la [uu 0] :=
  add_one (addN_n0 o 0 c la) (okTwo rfl (okTwo rfl (okTwo (by rfl) (okTwo rfl (okTwo rfl (okTwo (by rfl) (okTwo ha (okOne hb)))))))) (fun g => by rfl)
def gAddX : AnsH := fun vals h s =>
  match vals with
  | [.slice (some ⟨b, o, none⟩) n c, .slice none 0 0] =>
    match h.blk? b, s with
    | some x, .inr (.inr (.inr (.inl true))) :: s' => some (.tuple #[nilS, errV 1], h, s', [(rowOk x.2 x.1 o n c, true), (badL (cutI x.1 o n), true)])
    | some x, .inr (.inr (.inr (.inl false))) :: .inr (.inr (.inr (.inl true))) :: s' => some (.tuple #[nilS, errV 2], h, s', [(rowOk x.2 x.1 o n c, true), (badL (cutI x.1 o n), false), (decide ((trimN (sumR (cutI x.1 o n) []) : Int) > 8192), true)])
    | some x, .inr (.inr (.inr (.inl false))) :: .inr (.inr (.inr (.inl false))) :: s' => some (.tuple #[sl h.n 0 (trimN (sumR (cutI x.1 o n) [])) (mxN n 0 + 1), .nilIface], h.push (wU (sumR (cutI x.1 o n) [])) tU, s', [(rowOk x.2 x.1 o n c, true), (badL (cutI x.1 o n), false), (decide ((trimN (sumR (cutI x.1 o n) []) : Int) > 8192), false)])
    | _, _ => none
  | [.slice none 0 0, .slice (some ⟨b, o, none⟩) n c] =>
    match h.blk? b, s with
    | some x, .inr (.inr (.inr (.inl true))) :: s' => some (.tuple #[nilS, errV 1], h, s', [(rowOk x.2 x.1 o n c, true), (badL (cutI x.1 o n), true)])
    | some x, .inr (.inr (.inr (.inl false))) :: .inr (.inr (.inr (.inl true))) :: s' => some (.tuple #[nilS, errV 2], h, s', [(rowOk x.2 x.1 o n c, true), (badL (cutI x.1 o n), false), (decide ((trimN (sumR [] (cutI x.1 o n)) : Int) > 8192), true)])
    | some x, .inr (.inr (.inr (.inl false))) :: .inr (.inr (.inr (.inl false))) :: s' => some (.tuple #[sl h.n 0 (trimN (sumR [] (cutI x.1 o n))) (mxN 0 n + 1), .nilIface], h.push (wU (sumR [] (cutI x.1 o n))) tU, s', [(rowOk x.2 x.1 o n c, true), (badL (cutI x.1 o n), false), (decide ((trimN (sumR [] (cutI x.1 o n)) : Int) > 8192), false)])
    | _, _ => none
  | [.slice none 0 0, .slice none 0 0] => some (.tuple #[sl h.n 0 0 1, .nilIface], h.push (wU [0]) tU, s, [])
  | _ => gAdd vals h s
theorem gAddX_ok : AnsHOk 10 gAddX := by
  intro vals h s v h' s' lg hg hl m B w E hv
  unfold gAddX at hg
  split at hg
  · rename_i b o n c
    have one1 : ∀ x : List Value × TypeId, h.blk? b = some x → rowOk x.2 x.1 o n c = true → ∀ v0 : Value, oc (List.range 1) v0 = true → rn (fun _ => b) v0 = v0 →
        Runs (tabH Tryd.prog extY conA hcA) (cBody Tryd.f10) ([sl 0 o n c, nilS] ++ List.replicate 73 undef, ⟨1, [(x.1, tR)]⟩, []) (fun e y => (e = none ∨ e = some none) ∧ resS Tryd.prog Tryd.f10 y.1 y.2.1 = some v0) →
        Calls Tryd.prog 10 ((([sl 0 o n c, nilS] : List Value).map (rn fun _ => b)).map (mv m)).toArray w fun e w' => ∃ m', e = .returned (mv m' v0) ∧ Came m B h w v0 h m' w' := by
      intro x hx ra v0 ho e0 r
      obtain ⟨a1, a2, a3, a4, a5, a6, a7⟩ := row_of ra
      have hlt := Hp.blk_lt hx
      have := row_calls (T := tabH Tryd.prog extY conA hcA) Tryd.func10 addX_body (rows1 a7) (vals := [sl 0 o n c, nilS]) (fun v hv => by
        simp only [List.mem_cons, List.not_mem_nil, or_false] at hv
        rcases hv with rfl | rfl <;> rfl) ho r E (s := fun _ => b) (fun i _ => hlt) (fitsR1 hx a5 a6 rfl)
      rw [e0] at this
      exact this.mono fun e w' he => ⟨m, he.1, he.2⟩
    split at hg
    · rename_i x s2 hx
      cases hg
      have ra := hl _ (List.mem_cons_self)
      have hd := hl _ (List.mem_cons_of_mem _ (List.mem_singleton.2 rfl))
      exact one1 x hx ra _ (by rfl) (rn_still (by rfl)) ((add_one (addN_bad1 o n c x.1) (okTwo (rowOk_R ra) (okOne hd)) (fun _ => rfl)).mono fun e y h => ⟨h.1, h.2.1⟩)
    · rename_i x s2 hx
      cases hg
      have ra := hl _ (List.mem_cons_self)
      have hb := hl _ (List.mem_cons_of_mem _ List.mem_cons_self)
      have hd := hl _ (List.mem_cons_of_mem _ (List.mem_cons_of_mem _ (List.mem_singleton.2 rfl)))
      exact one1 x hx ra _ (by rfl) (rn_still (by rfl)) ((add_1n (rowOk_R ra) hb true hd).mono fun e y h => ⟨h.1, h.2.1⟩)
    · rename_i x s2 hx
      cases hg
      have ra := hl _ (List.mem_cons_self)
      have hb := hl _ (List.mem_cons_of_mem _ List.mem_cons_self)
      have hd := hl _ (List.mem_cons_of_mem _ (List.mem_cons_of_mem _ (List.mem_singleton.2 rfl)))
      obtain ⟨a1, a2, a3, a4, a5, a6, a7⟩ := row_of ra
      have r := add_1n (rowOk_R ra) hb false hd
      simp only [resV, resE] at r
      have e1 : ∀ k M : Nat, rn (fun _ => h.n) (.tuple #[sl 1 0 k M, .nilIface]) = .tuple #[sl h.n 0 k M, .nilIface] := fun k M => by simp [rn, rn2, rn1, sl]
      have := row_calls1 (T := tabH Tryd.prog extY conA hcA) Tryd.func10 addX_body (rows1 a7) (vals := [sl 0 o n c, nilS]) (fun v hv => by
        simp only [List.mem_cons, List.not_mem_nil, or_false] at hv
        rcases hv with rfl | rfl <;> rfl) (k := 1) (wU_calm _) tU_own (r.w.mono fun e y h => ⟨h.1, h.2.1, [], by rw [List.append_nil, h.2.2]; rfl⟩) (by rfl) E (s := fun _ => b) (fitsR1 hx a5 a6 rfl)
      rw [e1] at this
      exact this
    · cases hg
  · rename_i b o n c
    have one1 : ∀ x : List Value × TypeId, h.blk? b = some x → rowOk x.2 x.1 o n c = true → ∀ v0 : Value, oc (List.range 1) v0 = true → rn (fun _ => b) v0 = v0 →
        Runs (tabH Tryd.prog extY conA hcA) (cBody Tryd.f10) ([nilS, sl 0 o n c] ++ List.replicate 73 undef, ⟨1, [(x.1, tR)]⟩, []) (fun e y => (e = none ∨ e = some none) ∧ resS Tryd.prog Tryd.f10 y.1 y.2.1 = some v0) →
        Calls Tryd.prog 10 ((([nilS, sl 0 o n c] : List Value).map (rn fun _ => b)).map (mv m)).toArray w fun e w' => ∃ m', e = .returned (mv m' v0) ∧ Came m B h w v0 h m' w' := by
      intro x hx ra v0 ho e0 r
      obtain ⟨a1, a2, a3, a4, a5, a6, a7⟩ := row_of ra
      have hlt := Hp.blk_lt hx
      have := row_calls (T := tabH Tryd.prog extY conA hcA) Tryd.func10 addX_body (rows1 a7) (vals := [nilS, sl 0 o n c]) (fun v hv => by
        simp only [List.mem_cons, List.not_mem_nil, or_false] at hv
        rcases hv with rfl | rfl <;> rfl) ho r E (s := fun _ => b) (fun i _ => hlt) (fitsR1 hx a5 a6 rfl)
      rw [e0] at this
      exact this.mono fun e w' he => ⟨m, he.1, he.2⟩
    split at hg
    · rename_i x s2 hx
      cases hg
      have ra := hl _ (List.mem_cons_self)
      have hd := hl _ (List.mem_cons_of_mem _ (List.mem_singleton.2 rfl))
      exact one1 x hx ra _ (by rfl) (rn_still (by rfl)) ((add_one (addN_bad2 o n c x.1) (okTwo (rowOk_R ra) (okOne hd)) (fun _ => rfl)).mono fun e y h => ⟨h.1, h.2.1⟩)
    · rename_i x s2 hx
      cases hg
      have ra := hl _ (List.mem_cons_self)
      have hb := hl _ (List.mem_cons_of_mem _ List.mem_cons_self)
      have hd := hl _ (List.mem_cons_of_mem _ (List.mem_cons_of_mem _ (List.mem_singleton.2 rfl)))
      have h0 : 0 < n := by
        rcases Nat.eq_zero_or_pos n with h0 | h0
        · exfalso
          subst h0
          have e0 : cutI x.1 o 0 = [] := rfl
          rw [e0] at hd
          have e1 : trimN (sumR [] []) = 0 := rfl
          rw [e1] at hd
          cases hd
        · exact h0
      exact one1 x hx ra _ (by rfl) (rn_still (by rfl)) ((add_n1 (rowOk_R ra) hb h0 true hd).mono fun e y h => ⟨h.1, h.2.1⟩)
    · rename_i x s2 hx
      cases hg
      have ra := hl _ (List.mem_cons_self)
      have hb := hl _ (List.mem_cons_of_mem _ List.mem_cons_self)
      have hd := hl _ (List.mem_cons_of_mem _ (List.mem_cons_of_mem _ (List.mem_singleton.2 rfl)))
      obtain ⟨a1, a2, a3, a4, a5, a6, a7⟩ := row_of ra
      have r : Runs (tabH Tryd.prog extY conA hcA) (cBody Tryd.f10) ([nilS, sl 0 o n c] ++ List.replicate 73 undef, ⟨1, [(x.1, tR)]⟩, []) fun e' y => (e' = none ∨ e' = some none) ∧ resS Tryd.prog Tryd.f10 y.1 y.2.1 = some (.tuple #[sl 1 0 (trimN (sumR [] (cutI x.1 o n))) (mxN 0 n + 1), .nilIface]) ∧ y.2.1 = h1S x.1 (wU (sumR [] (cutI x.1 o n))) := by
        rcases Nat.eq_zero_or_pos n with h0 | h0
        · subst h0
          exact add_n0 (rowOk_R ra) hb
        · have := add_n1 (rowOk_R ra) hb h0 false hd
          simp only [resV, resE] at this
          exact this
      have e1 : ∀ k M : Nat, rn (fun _ => h.n) (.tuple #[sl 1 0 k M, .nilIface]) = .tuple #[sl h.n 0 k M, .nilIface] := fun k M => by simp [rn, rn2, rn1, sl]
      have := row_calls1 (T := tabH Tryd.prog extY conA hcA) Tryd.func10 addX_body (rows1 a7) (vals := [nilS, sl 0 o n c]) (fun v hv => by
        simp only [List.mem_cons, List.not_mem_nil, or_false] at hv
        rcases hv with rfl | rfl <;> rfl) (k := 1) (wU_calm _) tU_own (r.w.mono fun e y h => ⟨h.1, h.2.1, [], by rw [List.append_nil, h.2.2]; rfl⟩) (by rfl) E (s := fun _ => b) (fitsR1 hx a5 a6 rfl)
      rw [e1] at this
      exact this
    · cases hg
  · cases hg
    have r : Runs (tabH Tryd.prog extY conA hcA) (cBody Tryd.f10) ([nilS, nilS] ++ List.replicate 73 undef, ⟨0, []⟩, []) fun e' y => (e' = none ∨ e' = some none) ∧ resS Tryd.prog Tryd.f10 y.1 y.2.1 = some (.tuple #[sl 0 0 0 1, .nilIface]) ∧ y.2.1 = ⟨1, [([uu 0], tU)]⟩ := by
      refine (goesT_runs (tabH_ok conA_ok hcA_ok) addN_nn (okOne rfl)).mono fun e' y he => ?_
      obtain ⟨rfl, ⟨g, e2⟩, e3⟩ := he
      refine ⟨.inr rfl, ?_, e3⟩
      rw [e2, e3]
      rfl
    have e1 : rn (fun _ => h.n) (.tuple #[sl 0 0 0 1, .nilIface]) = .tuple #[sl h.n 0 0 1, .nilIface] := by simp [rn, rn2, rn1, sl]
    have := row_calls1 (T := tabH Tryd.prog extY conA hcA) Tryd.func10 addX_body (h0 := ⟨0, []⟩) ⟨rfl, fun b x hb => absurd (Hp.blk_lt hb) (Nat.not_lt_zero _)⟩ (vals := [nilS, nilS]) (fun v hv => by
      simp only [List.mem_cons, List.not_mem_nil, or_false] at hv
      rcases hv with rfl | rfl <;> rfl) (k := 0) (wU_calm [0]) tU_own (r.w.mono fun e y h => ⟨h.1, h.2.1, [], by rw [List.append_nil, h.2.2]; rfl⟩) (by rfl) E (s := fun b => b) (fun i x hi => absurd (Hp.blk_lt hi) (Nat.not_lt_zero _))
    rw [e1] at this
    exact this
  · exact gAdd_ok _ _ _ _ _ _ _ hg hl m B w E hv
end Go.Proofs.YtecemjilmlagdaaDoor

/-
  bits.Sub32, as a call.
-/
namespace Go.Proofs.YtecemjilmlagdaaDoor
open Go.KRun Go.Nt
set_option maxRecDepth 100000

def bnt (z : Int) : Int := IntKind.u32.wrap ((BitVec.ofInt 32 4294967295 ^^^ BitVec.ofInt 32 z).toNat : Nat)
def bnd (x y : Int) : Int := IntKind.u32.wrap ((BitVec.ofInt 32 x &&& BitVec.ofInt 32 y).toNat : Nat)
def bxr (x y : Int) : Int := IntKind.u32.wrap ((BitVec.ofInt 32 x ^^^ BitVec.ofInt 32 y).toNat : Nat)
def brr (x y : Int) : Int := IntKind.u32.wrap ((BitVec.ofInt 32 x ||| BitVec.ofInt 32 y).toNat : Nat)
def difR (x y c : Int) : Int := IntKind.u32.wrap (IntKind.u32.wrap (x - y) - c)
def borR (x y c : Int) : Int := (brr (bnd (bnt x) y) (bnd (bnt (bxr x y)) (difR x y c))).fdiv (2 ^ min ((31 : Int).toNat) 32)
theorem sub32_fits (x y c : Int) : Fits (reckon (tabOf Tryd.prog extY conN true) 100 40 [uu x, uu y, uu c] []) (.tuple #[uu (difR x y c), uu (borR x y c)]) [(decide ((31 : Int) < 0), false)] := ⟨by kernel_rfl, by kernel_rfl, by kernel_rfl, by kernel_rfl⟩
theorem ofInt_wrap (v : BitVec 32) : BitVec.ofInt 32 (IntKind.u32.wrap (v.toNat : Nat)) = v := by
  rw [u32w]
  have h := v.isLt
  apply BitVec.eq_of_toNat_eq
  simp
  omega
theorem wrap_nat (v : BitVec 32) : IntKind.u32.wrap (v.toNat : Nat) = v.toNat := by
  rw [u32w]
  have h := v.isLt
  omega
theorem top_div (v : BitVec 32) : v.toNat / 2147483648 = if v.getLsbD 31 = true then 1 else 0 := by
  have h := v.isLt
  unfold BitVec.getLsbD
  rw [Nat.testBit_eq_decide_div_mod_eq]
  have e : (2 : Nat) ^ 31 = 2147483648 := rfl
  rw [e]
  by_cases h1 : v.toNat / 2147483648 % 2 = 1
  · rw [decide_eq_true h1]
    simp
    omega
  · rw [decide_eq_false h1]
    simp
    omega
theorem top_of {x : Int} (h0 : 0 ≤ x) (h1 : x < 4294967296) : (BitVec.ofInt 32 x).getLsbD 31 = decide (2147483648 ≤ x) := by
  have e : (BitVec.ofInt 32 x).toNat = x.toNat := by simp; omega
  unfold BitVec.getLsbD
  rw [e, Nat.testBit_eq_decide_div_mod_eq]
  have e2 : (2 : Nat) ^ 31 = 2147483648 := rfl
  rw [e2]
  by_cases h : 2147483648 ≤ x
  · rw [decide_eq_true h]
    exact decide_eq_true (by omega)
  · rw [decide_eq_false h]
    exact decide_eq_false (by omega)
def subD (x y c : Int) : Int := (x - y - c) % 4294967296
def subB (x y c : Int) : Int := if x < y + c then 1 else 0
theorem sub32_eq {x y c : Int} (hx : 0 ≤ x ∧ x < 4294967296) (hy : 0 ≤ y ∧ y < 4294967296) (hc : 0 ≤ c ∧ c ≤ 1) : difR x y c = subD x y c ∧ borR x y c = subB x y c := by
  have e1 : difR x y c = subD x y c := by
    unfold difR subD
    rw [u32w, u32w]
    omega
  refine ⟨e1, ?_⟩
  have d0 : 0 ≤ subD x y c ∧ subD x y c < 4294967296 := by unfold subD; omega
  unfold borR
  rw [e1]
  unfold brr bnd bnt bxr
  simp only [ofInt_wrap]
  rw [wrap_nat, show (2 : Int) ^ min ((31 : Int).toNat) 32 = 2147483648 from rfl, Int.fdiv_eq_ediv_of_nonneg _ (by omega)]
  have key := top_div ((BitVec.ofInt 32 4294967295 ^^^ BitVec.ofInt 32 x) &&& BitVec.ofInt 32 y ||| (BitVec.ofInt 32 4294967295 ^^^ (BitVec.ofInt 32 x ^^^ BitVec.ofInt 32 y)) &&& BitVec.ofInt 32 (subD x y c))
  simp only [BitVec.getLsbD_or, BitVec.getLsbD_and, BitVec.getLsbD_xor, top_of hx.1 hx.2, top_of hy.1 hy.2, top_of d0.1 d0.2, top_of (x := 4294967295) (by omega) (by omega)] at key
  rw [show decide ((2147483648 : Int) ≤ 4294967295) = true from rfl] at key
  generalize hV : ((BitVec.ofInt 32 4294967295 ^^^ BitVec.ofInt 32 x) &&& BitVec.ofInt 32 y ||| (BitVec.ofInt 32 4294967295 ^^^ (BitVec.ofInt 32 x ^^^ BitVec.ofInt 32 y)) &&& BitVec.ofInt 32 (subD x y c)).toNat = V at *
  have cast : ((V : Nat) : Int) / 2147483648 = ((V / 2147483648 : Nat) : Int) := by omega
  rw [cast, key]
  unfold subB
  unfold subD at *
  by_cases a1 : 2147483648 ≤ x <;> by_cases a2 : 2147483648 ≤ y <;> by_cases a3 : 2147483648 ≤ (x - y - c) % 4294967296 <;> simp only [a1, a2, a3, decide_true, decide_false] <;> split <;> split <;> simp_all <;> omega
def sub32V (x y c : Int) : Value := .tuple #[uu (subD x y c), uu (subB x y c)]
def gSub32 : Ans := fun vals s =>
  match vals with
  | [.int .u32 x, .int .u32 y, .int .u32 c] => some (sub32V x y c, s, [(wd4 x y c, true)])
  | _ => none
theorem gSub32_ok : AnsOk 40 gSub32 := by
  intro vals s v s' lg h hl w
  unfold gSub32 at h
  split at h
  · rename_i x y c
    cases h
    have hr := hl _ (List.mem_singleton.2 rfl)
    simp only [wd4, decide_eq_true_eq] at hr
    obtain ⟨e1, e2⟩ := sub32_eq hr.1 hr.2.1 hr.2.2
    have := fits_calls (tabY_ok conN_ok) (sub32_fits x y c) (okOne (by rfl)) (by rfl) (by rfl) w
    rw [e1, e2] at this
    exact this
  · cases h
/-! ### nat.Sub: its pieces -/
def conB : Con := alt 40 gSub32 conN
theorem conB_ok : ConOk conB := alt_ok Tryd.func40 rfl gSub32_ok conN_ok
def hcB : Hc := altH 36 gBoth (altH 39 gCmp (altH 41 gTrim hcN))
theorem hcB_ok : HcOk hcB := altH_ok Tryd.func36 rfl gBoth_ok (altH_ok Tryd.func39 rfl gCmp_ok (altH_ok Tryd.func41 rfl gTrim_ok hcN_ok))
theorem sub_body : Tryd.f11.body = some (addC' Tryd.f11) := by kernel_rfl
def cpS (la : List Value) (o n : Nat) : List Value := (List.replicate ((n : Int)).toNat (uu 0)).take 0 ++ (la.drop o).take (Nat.min n ((n : Int)).toNat) ++ (List.replicate ((n : Int)).toNat (uu 0)).drop (0 + Nat.min n ((n : Int)).toNat)
def csOk (la : List Value) (o n : Nat) : Bool := !(tomb tR) && !(ro tU) && Nat.ble (o + Nat.min n ((n : Int)).toNat) la.length && Nat.ble (0 + Nat.min n ((n : Int)).toNat) (List.replicate ((n : Int)).toNat (uu 0)).length && ((la.drop o).take (Nat.min n ((n : Int)).toNat)).all one
def cN (la lb : List Value) (o n o' n' : Nat) : Int := cmpL (cutI la o n) (cutI lb o' n')
theorem sub_pre (o n c o' n' c' : Nat) (la lb : List Value) : GoesT (evL (tabH Tryd.prog extY conB hcB) 200 (aPre Tryd.f11) ([sl 0 o n c, sl 1 o' n' c'] ++ List.replicate 68 undef, h2 la lb, [cmp false, cmp false, at_, at_]) ⟨[], [], []⟩) 12 58 none
    (aF (sl 0 o n c) (sl 1 o' n' c') (sl 2 0 ((n : Int)).toNat ((n : Int)).toNat) (uu 0) undef undef undef) (h3 la lb (cpS la o n)) [(csOk la o n, true), (okMakeB 4 n n, true), (decide (cN la lb o n o' n' < 0), false), chkL la o n c, chkL lb o' n' c', chkL la o n c, chkL lb o' n' c', (badL (cutI la o n) || badL (cutI lb o' n'), false)] := ⟨by kernel_rfl, by kernel_rfl, by kernel_rfl⟩
theorem sub_r9 (a s c i x k : Value) (q o n e : Nat) (h : Hp) (g : Nat → Value) : GoesM (evC (tabH Tryd.prog extY conB hcB) 200 false (aR9 Tryd.f11) (aF a (sl q o n e) s c i x k ++ tl 58 g, h, []) ⟨[], [], []⟩) 12 17 3 38 none
    (aF a (sl q o n e) s c i x k) [sl q o n e, i6' n, i6' 0] h [] := ⟨by kernel_rfl, by kernel_rfl, by kernel_rfl⟩
theorem sub_out0 (a b s c i x k : Value) (t : Value) (n : Nat) (j : Int) (h : Hp) (g g' : Nat → Value) : GoesM (evC (tabH Tryd.prog extY conB hcB) 200 false (aL0 Tryd.f11) (ml (aF a b s c i x k) 17 g [t, i6' n, i6' j] 38 g', h, [cmp false]) ⟨[], [], []⟩) 12 17 3 38 (some (some 0))
    (aF a b s c i x k) [t, i6' n, i6' j] h [(decide (j < n), false)] := ⟨by kernel_rfl, by kernel_rfl, by kernel_rfl⟩
theorem sub_go (a b i0 x0 k0 : Value) (o n e N M : Nat) (c j x y : Int) (la lb S : List Value) (g g' : Nat → Value) : GoesM (evC (tabH Tryd.prog extY conB hcB) 200 false (aL0 Tryd.f11) (ml (aF a b (sl 2 0 N M) (uu c) i0 x0 k0) 17 g [sl 1 o n e, i6' n, i6' j] 38 g', h3 la lb S, [cmp true, at_, val (uu y), at_, val (uu x), at_, at_]) ⟨[], [], []⟩) 12 17 3 38 none
    (aF a b (sl 2 0 N M) (uu (subB x y c)) (i6' j) (uu y) k0) [sl 1 o n e, i6' n, i6' (IntKind.i64.wrap (j + 1))] (h3 la lb (S.set (0 + j.toNat * 1) (uu (subD x y c)))) [stoR S j, inR j N, (wd4 x y c, true), celR S 0 j x, inR j N, celR lb o j y, inR j n, (decide (j < n), true)] := ⟨by kernel_rfl, by kernel_rfl, by kernel_rfl⟩
theorem sub_r14 (a s c i x k : Value) (q o n e : Nat) (t u v : Value) (h : Hp) (g g' : Nat → Value) : GoesT (evC (tabH Tryd.prog extY conB hcB) 200 false (aR14 Tryd.f11) (ml (aF a (sl q o n e) s c i x k) 17 g [t, u, v] 38 g', h, []) ⟨[], [], []⟩) 12 58 none
    (aF a (sl q o n e) s c i x (i6' n)) h [] := ⟨by kernel_rfl, by kernel_rfl, by kernel_rfl⟩
theorem sub_out2 (a b s i x k : Value) (c : Int) (h : Hp) (g : Nat → Value) : GoesT (evC (tabH Tryd.prog extY conB hcB) 200 false (aL2 Tryd.f11) (aF a b s (uu c) i x k ++ tl 58 g, h, [cmp false]) ⟨[], [], []⟩) 12 58 (some (some 2))
    (aF a b s (uu c) i x k) h [(c != 0, false)] := ⟨by kernel_rfl, by kernel_rfl, by kernel_rfl⟩
theorem sub_go2 (a b i0 x0 : Value) (N M : Nat) (c j x : Int) (la lb S : List Value) (g : Nat → Value) : GoesT (evC (tabH Tryd.prog extY conB hcB) 200 false (aL2 Tryd.f11) (aF a b (sl 2 0 N M) (uu c) i0 x0 (i6' j) ++ tl 58 g, h3 la lb S, [cmp true, at_, val (uu x), at_, at_]) ⟨[], [], []⟩) 12 58 none
    (aF a b (sl 2 0 N M) (uu (subB x 0 c)) i0 x0 (i6' (IntKind.i64.wrap (j + 1)))) (h3 la lb (S.set (0 + j.toNat * 1) (uu (subD x 0 c)))) [stoR S j, inR j N, (wd4 x 0 c, true), celR S 0 j x, inR j N, (c != 0, true)] := ⟨by kernel_rfl, by kernel_rfl, by kernel_rfl⟩
theorem sub_fin (a b c i x k : Value) (N M : Nat) (la lb S : List Value) (g : Nat → Value) : GoesT (evC (tabH Tryd.prog extY conB hcB) 200 false (aFin Tryd.f11) (aF a b (sl 2 0 N M) c i x k ++ tl 58 g, h3 la lb S, []) ⟨[], [], []⟩) 6 64 (some none)
    [a, b, undef, undef, sl 2 0 (trimN (cutI S 0 N)) M, .nilIface] (h3 la lb S) [(rowOk tU S 0 N M, true)] := ⟨by kernel_rfl, by kernel_rfl, by kernel_rfl⟩
theorem sub_err0 (v w : Value) (h : Hp) : GoesT (evL (tabH Tryd.prog extY conB hcB) 200 [cFst (sn 0 Tryd.f11)] ([v, w] ++ List.replicate 68 undef, h, []) ⟨[], [], []⟩) 6 64 none [v, w, undef, undef, nilS, .nilIface] h [] := ⟨by kernel_rfl, by kernel_rfl, by kernel_rfl⟩
theorem sub_err1 (o n c o' n' c' : Nat) (la lb : List Value) (g : Nat → Value) : GoesT (evC (tabH Tryd.prog extY conB hcB) 200 false (cFst (sn 1 Tryd.f11)) ([sl 0 o n c, sl 1 o' n' c', undef, undef, nilS, .nilIface] ++ tl 64 g, h2 la lb, [cmp true]) ⟨[], [], []⟩) 6 64 (some none) [sl 0 o n c, sl 1 o' n' c', undef, undef, nilS, errV 1] (h2 la lb) [chkL la o n c, chkL lb o' n' c', (badL (cutI la o n) || badL (cutI lb o' n'), true)] := ⟨by kernel_rfl, by kernel_rfl, by kernel_rfl⟩
theorem sub_low0 (o n c o' n' c' : Nat) (la lb : List Value) : GoesT (evL (tabH Tryd.prog extY conB hcB) 200 [cFst (sn 0 Tryd.f11), cFst (sn 1 Tryd.f11)] ([sl 0 o n c, sl 1 o' n' c'] ++ List.replicate 68 undef, h2 la lb, [cmp false]) ⟨[], [], []⟩) 6 64 none [sl 0 o n c, sl 1 o' n' c', undef, undef, nilS, .nilIface] (h2 la lb) [chkL la o n c, chkL lb o' n' c', (badL (cutI la o n) || badL (cutI lb o' n'), false)] := ⟨by kernel_rfl, by kernel_rfl, by kernel_rfl⟩
theorem sub_low1 (o n c o' n' c' : Nat) (la lb : List Value) (g : Nat → Value) : GoesT (evC (tabH Tryd.prog extY conB hcB) 200 false (cFst (sn 2 Tryd.f11)) ([sl 0 o n c, sl 1 o' n' c', undef, undef, nilS, .nilIface] ++ tl 64 g, h2 la lb, [cmp true]) ⟨[], [], []⟩) 6 64 (some none) [sl 0 o n c, sl 1 o' n' c', undef, undef, nilS, errV 4] (h2 la lb) [(decide (cN la lb o n o' n' < 0), true), chkL la o n c, chkL lb o' n' c'] := ⟨by kernel_rfl, by kernel_rfl, by kernel_rfl⟩
end Go.Proofs.YtecemjilmlagdaaDoor
