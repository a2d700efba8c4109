/-
  ConV7, NumL, ConV8, ConV9, ConVA, ConVB, R16, ToS, ToD, NumS, ConVC
-/
import Derived.Test.YtdlpffgekmidnaaDoorG13
namespace Go.Proofs.YtdlpffgekmidnaaDoor
open Go.KRun Go.Nt
set_option maxRecDepth 100000
def cmpZ (a b : Nat) : Int := if a < b then -1 else if a = b then 0 else 1
theorem vb_split (b : Nat) (L : List Int) (k : Nat) : vb b L = vb b (L.take k) + b ^ k * vb b (L.drop k) := by
  by_cases h : k ≤ L.length
  · have e : (L.take k).length = k := by rw [List.length_take]; omega
    have := vb_append b (L.take k) (L.drop k)
    rw [List.take_append_drop, e] at this
    exact this
  · rw [List.take_of_length_le (by omega), List.drop_eq_nil_of_le (by omega)]
    simp [vb]
theorem vb_drop {L : List Int} (k : Nat) : vb 65536 (L.drop k) = dgN L k + 65536 * vb 65536 (L.drop (k + 1)) := by
  by_cases h : k < L.length
  · rw [List.drop_eq_getElem_cons h]
    simp only [vb, dgN]
    rw [getD_get h]
  · rw [List.drop_eq_nil_of_le (by omega), List.drop_eq_nil_of_le (by omega), dgN_out (by omega)]
    rfl
theorem take_lt {L : List Int} (h : ∀ x ∈ L, Dg 65536 x) (k : Nat) : vb 65536 (L.take k) < 65536 ^ k := by
  have h1 := vb_lt (b := 65536) (by omega) (L.take k) (fun x hx => h x (List.mem_of_mem_take hx))
  have h2 : (L.take k).length ≤ k := by rw [List.length_take]; omega
  exact Nat.lt_of_lt_of_le h1 (Nat.pow_le_pow_right (by omega) h2)
theorem less_of {A B : List Int} (hA : ∀ x ∈ A, Dg 65536 x) {k : Nat} (he : vb 65536 (A.drop (k + 1)) = vb 65536 (B.drop (k + 1))) (hd : dgN A k < dgN B k) : vb 65536 A < vb 65536 B := by
  have a1 := vb_split 65536 A k
  have b1 := vb_split 65536 B k
  have a2 := take_lt hA k
  rw [vb_drop, he] at a1
  rw [vb_drop] at b1
  generalize vb 65536 (B.drop (k + 1)) = D at *
  generalize 65536 ^ k = P at *
  have h1 : P * (dgN A k + 65536 * D + 1) ≤ P * (dgN B k + 65536 * D) := Nat.mul_le_mul_left _ (by omega)
  rw [Nat.mul_add P _ 1, Nat.mul_one] at h1
  omega
def kPre (F : Func) : List Code := [cFst (cBody F)]
def kR1 (F : Func) : Code := cFst (cFst (cSnd (cBody F)))
def kLoop (F : Func) : Code := cIn (cIn (cSnd (cFst (cSnd (cBody F)))))
def kEnd (F : Func) : Code := cSnd (cSnd (cBody F))
theorem ucmp_body : Tryd.f11.body = some (seqs (kPre Tryd.f11) (.seq (.seq (kR1 Tryd.f11) (.block 0 (.loop (kLoop Tryd.f11)))) (kEnd Tryd.f11))) := by kernel_rfl
def mxI (n n' : Nat) : Int := IntKind.i64.wrap ((if (n' : Int) > n then (n' : Int) else n) - 1)
theorem ucmp_pre (a b : Value) (h : Hp) : GoesT (evL (tabH Tryd.prog extY conN hcV) 100 (kPre Tryd.f11) ([a, b] ++ List.replicate 28 undef, h, []) ⟨[], [], []⟩) 5 25 none [a, b, undef, undef, .int .i64 0] h [] := ⟨by kernel_rfl, by kernel_rfl, by kernel_rfl⟩
theorem ucmp_r1 (p q : Option Addr) (n c n' c' : Nat) (h : Hp) (g : Nat → Value) : GoesT (evC (tabH Tryd.prog extY conN hcV) 100 false (kR1 Tryd.f11) ([.slice p n c, .slice q n' c', undef, undef, .int .i64 0] ++ tl 25 g, h, []) ⟨[], [], []⟩) 6 24 none [.slice p n c, .slice q n' c', undef, undef, .int .i64 0, .int .i64 (mxI n n')] h [] := ⟨by kernel_rfl, by kernel_rfl, by kernel_rfl⟩
theorem ucmp_lt (p q : Option Addr) (n c n' c' : Nat) (i : Int) (x y : List Value × TypeId) (g : Nat → Value) : GoesT (evC (tabH Tryd.prog extY conN hcV) 100 false (kLoop Tryd.f11) ([.slice p n c, .slice q n' c', undef, undef, .int .i64 0, .int .i64 i] ++ tl 24 g, hp2 y x, [cmp true, cmp true]) ⟨[], [], []⟩) 6 24 (some none) [.slice p n c, .slice q n' c', undef, undef, .int .i64 (-1), .int .i64 i] (hp2 y x) [(decide (atN (rowOf (hp2 y x) p n) i < atN (rowOf (hp2 y x) q n') i), true), rP (hp2 y x) q n' c', rP (hp2 y x) p n c, (decide (i ≥ 0), true)] := ⟨by kernel_rfl, by kernel_rfl, by kernel_rfl⟩
theorem ucmp_gt (p q : Option Addr) (n c n' c' : Nat) (i : Int) (x y : List Value × TypeId) (g : Nat → Value) : GoesT (evC (tabH Tryd.prog extY conN hcV) 100 false (kLoop Tryd.f11) ([.slice p n c, .slice q n' c', undef, undef, .int .i64 0, .int .i64 i] ++ tl 24 g, hp2 y x, [cmp true, cmp false, cmp true]) ⟨[], [], []⟩) 6 24 (some none) [.slice p n c, .slice q n' c', undef, undef, .int .i64 1, .int .i64 i] (hp2 y x) [(decide (atN (rowOf (hp2 y x) p n) i > atN (rowOf (hp2 y x) q n') i), true), rP (hp2 y x) q n' c', rP (hp2 y x) p n c, (decide (atN (rowOf (hp2 y x) p n) i < atN (rowOf (hp2 y x) q n') i), false), rP (hp2 y x) q n' c', rP (hp2 y x) p n c, (decide (i ≥ 0), true)] := ⟨by kernel_rfl, by kernel_rfl, by kernel_rfl⟩
theorem ucmp_eq (p q : Option Addr) (n c n' c' : Nat) (i : Int) (x y : List Value × TypeId) (g : Nat → Value) : GoesT (evC (tabH Tryd.prog extY conN hcV) 100 false (kLoop Tryd.f11) ([.slice p n c, .slice q n' c', undef, undef, .int .i64 0, .int .i64 i] ++ tl 24 g, hp2 y x, [cmp true, cmp false, cmp false]) ⟨[], [], []⟩) 6 24 none [.slice p n c, .slice q n' c', undef, undef, .int .i64 0, .int .i64 (i1 i)] (hp2 y x) [(decide (atN (rowOf (hp2 y x) p n) i > atN (rowOf (hp2 y x) q n') i), false), rP (hp2 y x) q n' c', rP (hp2 y x) p n c, (decide (atN (rowOf (hp2 y x) p n) i < atN (rowOf (hp2 y x) q n') i), false), rP (hp2 y x) q n' c', rP (hp2 y x) p n c, (decide (i ≥ 0), true)] := ⟨by kernel_rfl, by kernel_rfl, by kernel_rfl⟩
theorem ucmp_out (a b : Value) (i : Int) (h : Hp) (g : Nat → Value) : GoesT (evC (tabH Tryd.prog extY conN hcV) 100 false (kLoop Tryd.f11) ([a, b, undef, undef, .int .i64 0, .int .i64 i] ++ tl 24 g, h, [cmp false]) ⟨[], [], []⟩) 6 24 (some (some 0)) [a, b, undef, undef, .int .i64 0, .int .i64 i] h [(decide (i ≥ 0), false)] := ⟨by kernel_rfl, by kernel_rfl, by kernel_rfl⟩
theorem ucmp_end (a b : Value) (i : Int) (h : Hp) (g : Nat → Value) : GoesT (evC (tabH Tryd.prog extY conN hcV) 100 false (kEnd Tryd.f11) ([a, b, undef, undef, .int .i64 0, .int .i64 i] ++ tl 24 g, h, []) ⟨[], [], []⟩) 5 25 (some none) [a, b, undef, undef, .int .i64 0] h [] := ⟨by kernel_rfl, by kernel_rfl, by kernel_rfl⟩
section
variable {x y : List Value × TypeId} {p q : Option Addr} {n c n' c' : Nat} {A B : List Int}
def kRet (p q : Option Addr) (n c n' c' : Nat) (A B : List Int) (Y : Lf) : Prop := ∃ i g, Y.1 = [.slice p n c, .slice q n' c', undef, undef, .int .i64 (cmpZ (vb 65536 A) (vb 65536 B)), .int .i64 i] ++ tl 24 g
theorem ucmp_loop (NA : Nu 0 x p n c A) (NB : Nu 1 y q n' c' B) (lA : A.length = n) (lB : B.length = n') (hA : ∀ x ∈ A, Dg 65536 x) (hB : ∀ x ∈ B, Dg 65536 x) (hn : max n n' + 2 < 1073741824) (g : Nat → Value) :
    Runs (tabH Tryd.prog extY conN hcV) (.block 0 (.loop (kLoop Tryd.f11))) ([.slice p n c, .slice q n' c', undef, undef, .int .i64 0, .int .i64 (mxI n n')] ++ tl 24 g, hp2 y x, []) fun e Y => match e with | none => cmpZ (vb 65536 A) (vb 65536 B) = 0 ∧ ∃ i g, Y.1 = [.slice p n c, .slice q n' c', undef, undef, .int .i64 0, .int .i64 i] ++ tl 24 g | some none => kRet p q n c n' c' A B Y | some (some _) => False := by
  have em : mxI n n' = ((max n n' : Nat) : Int) - 1 := by
    unfold mxI
    split
    · rw [wrapI (by omega) (by omega)]; omega
    · rw [wrapI (by omega) (by omega)]; omega
  refine Runs.forLoop (P := fun Y => cmpZ (vb 65536 A) (vb 65536 B) = 0 ∧ ∃ i g, Y.1 = [.slice p n c, .slice q n' c', undef, undef, .int .i64 0, .int .i64 i] ++ tl 24 g) (R := kRet p q n c n' c' A B)
    (fun k Y => k ≤ max n n' ∧ vb 65536 (A.drop k) = vb 65536 (B.drop k) ∧ (∃ g, Y.1 = [.slice p n c, .slice q n' c', undef, undef, .int .i64 0, .int .i64 ((k : Nat) - 1 : Int)] ++ tl 24 g) ∧ Y.2.1 = hp2 y x) ?_ (n := max n n') ⟨Nat.le_refl _, by rw [List.drop_eq_nil_of_le (by omega), List.drop_eq_nil_of_le (by omega)], ⟨g, by rw [em]⟩, rfl⟩
  rintro k ⟨t, h', s⟩ ⟨hk, he, ⟨g, ht⟩, hh⟩
  simp only at ht hh
  subst ht hh
  cases k with
  | zero =>
    refine (goesT_runs (tabH_ok conN_ok hcV_ok) (ucmp_out _ _ _ _ g) (okOne (decide_eq_false (by omega)))).mono fun e z hz => ?_
    obtain ⟨rfl, ⟨g', z1⟩, z2⟩ := hz
    refine ⟨rfl, ?_, _, g', z1⟩
    simp only [List.drop_zero] at he
    unfold cmpZ
    rw [he]
    simp
  | succ k =>
    have ek : ((k + 1 : Nat) : Int) - 1 = (k : Int) := by omega
    rw [ek]
    have r0 := NA.row (hp2 y x) rfl
    have r1 := NB.row (hp2 y x) rfl
    have d1 := dgN_lt hA k
    have d2 := dgN_lt hB k
    have hg : decide ((k : Int) ≥ 0) = true := decide_eq_true (by omega)
    by_cases h1 : dgN A k < dgN B k
    · have hlt := less_of hA he h1
      refine (goesT_runs (tabH_ok conN_ok hcV_ok) (ucmp_lt p q n c n' c' k x y g) (by
        rw [r0.2, r1.2, atN_nat, atN_nat, ← d1.2, ← d2.2]
        exact okW (decide_eq_true (by omega)) (okW r1.1 (okW r0.1 (okOne hg))))).mono fun e z hz => ?_
      obtain ⟨rfl, ⟨g', z1⟩, z2⟩ := hz
      refine ⟨k, g', ?_⟩
      rw [z1]
      unfold cmpZ
      rw [if_pos hlt]
    · by_cases h2 : dgN B k < dgN A k
      · have hlt := less_of hB he.symm h2
        refine (goesT_runs (tabH_ok conN_ok hcV_ok) (ucmp_gt p q n c n' c' k x y g) (by
          rw [r0.2, r1.2, atN_nat, atN_nat, ← d1.2, ← d2.2]
          exact okW (decide_eq_true (by omega)) (okW r1.1 (okW r0.1 (okW (decide_eq_false (by omega)) (okW r1.1 (okW r0.1 (okOne hg)))))))).mono fun e z hz => ?_
        obtain ⟨rfl, ⟨g', z1⟩, z2⟩ := hz
        refine ⟨k, g', ?_⟩
        rw [z1]
        unfold cmpZ
        rw [if_neg (by omega), if_neg (by omega)]
      · refine (goesT_runs (tabH_ok conN_ok hcV_ok) (ucmp_eq p q n c n' c' k x y g) (by
          rw [r0.2, r1.2, atN_nat, atN_nat, ← d1.2, ← d2.2]
          exact okW (decide_eq_false (by omega)) (okW r1.1 (okW r0.1 (okW (decide_eq_false (by omega)) (okW r1.1 (okW r0.1 (okOne hg)))))))).mono fun e z hz => ?_
        obtain ⟨rfl, ⟨g', z1⟩, z2⟩ := hz
        have e1 : i1 (k : Int) = (k : Int) - 1 := by unfold i1; rw [wrapI (by omega) (by omega)]
        refine ⟨k, by omega, by omega, ?_, ⟨g', by rw [z1, e1]⟩, z2⟩
        rw [vb_drop, vb_drop (L := B), he]
        omega
theorem ucmp_runs (NA : Nu 0 x p n c A) (NB : Nu 1 y q n' c' B) (lA : A.length = n) (lB : B.length = n') (hA : ∀ x ∈ A, Dg 65536 x) (hB : ∀ x ∈ B, Dg 65536 x) (hn : max n n' + 2 < 1073741824) :
    Runs (tabH Tryd.prog extY conN hcV) (seqs (kPre Tryd.f11) (.seq (.seq (kR1 Tryd.f11) (.block 0 (.loop (kLoop Tryd.f11)))) (kEnd Tryd.f11))) ([.slice p n c, .slice q n' c'] ++ List.replicate 28 undef, hp2 y x, []) fun e z => (e = none ∨ e = some none) ∧ resS Tryd.prog Tryd.f11 z.1 z.2.1 = some (.int .i64 (cmpZ (vb 65536 A) (vb 65536 B))) := by
  refine goesT_list (tabH_ok conN_ok hcV_ok) (ucmp_pre _ _ _) (fun x hx => by cases hx) fun g => ?_
  refine Runs.seq (P1 := fun e Y => match e with | none => cmpZ (vb 65536 A) (vb 65536 B) = 0 ∧ ∃ i g, Y.1 = [.slice p n c, .slice q n' c', undef, undef, .int .i64 0, .int .i64 i] ++ tl 24 g | some none => kRet p q n c n' c' A B Y | some (some _) => False) (Runs.seq (P1 := fun e Y => e = none ∧ (∃ g, Y.1 = [.slice p n c, .slice q n' c', undef, undef, .int .i64 0, .int .i64 (mxI n n')] ++ tl 24 g) ∧ Y.2.1 = hp2 y x) (goesT_runs (tabH_ok conN_ok hcV_ok) (ucmp_r1 p q n c n' c' _ g) (fun x hx => by cases hx)) ?_ (fun e y he => by cases he.1)) ?_ ?_
  · rintro ⟨t, h', s⟩ ⟨_, ⟨g', ht⟩, hh⟩
    simp only at ht hh
    subst ht hh
    exact Runs.script (ucmp_loop NA NB lA lB hA hB hn g')
  · rintro ⟨t, h', s⟩ ⟨e0, i, g', ht⟩
    simp only at ht
    subst ht
    refine (goesT_runs (tabH_ok conN_ok hcV_ok) (ucmp_end _ _ i h' g') (fun x hx => by cases hx)).mono fun e z hz => ?_
    obtain ⟨rfl, ⟨g2, z1⟩, z2⟩ := hz
    refine ⟨.inr rfl, ?_⟩
    rw [z1, e0]
    rfl
  · intro e Y he
    match e, he with
    | none, ⟨i, g', h1⟩ =>
      refine ⟨.inr rfl, ?_⟩
      rw [h1]
      rfl
end
def gUcmp : AnsH := fun vals h s =>
  match vals with
  | [.slice p n c, .slice q n' c'] => some (.int .i64 (cmpZ (vO h p n) (vO h q n')), h, s, [(two16 h p q n c n' c', true)])
  | _ => none
theorem gUcmp_ok : AnsHOk 11 gUcmp := by
  intro vals h s v h' s' lg hg hl m B w E hv
  unfold gUcmp at hg
  split at hg
  · rename_i p n c q n' c'
    cases hg
    have q1 := hl _ (List.mem_singleton.2 rfl)
    simp only at q1
    obtain ⟨r1, r2, d1, d2, hn⟩ := two16_of q1
    obtain ⟨x, p', a, NA, eA, fA⟩ := nu_of 0 r1
    obtain ⟨y, q', b, NB, eB, fB⟩ := nu_of 1 r2
    have r := ucmp_runs NA NB (rowOf_len r1) (rowOf_len r2) d1 d2 hn
    have := row_calls0 (T := tabH Tryd.prog extY conN hcV) Tryd.func11 ucmp_body (rows_hp2 NA NB) (vals := [.slice p' n c, .slice q' n' c']) (fun v hv => by
      simp only [List.mem_cons, List.not_mem_nil, or_false] at hv
      rcases hv with rfl | rfl
      · exact NA.lt (by show 0 < 2; omega)
      · exact NB.lt (by show 1 < 2; omega)) (by rfl) r.w E (s := pair a b) (fits_hp2 fA fB)
    simp only [List.map_cons, List.map_nil] at this
    rw [eA _ rfl, eB _ rfl] at this
    exact this
  · cases hg
end Go.Proofs.YtdlpffgekmidnaaDoor
namespace Go.Nt
theorem pow16 (k : Nat) : 65536 ^ k = 2 ^ (16 * k) := by rw [show (65536 : Nat) = 2 ^ 16 from rfl, ← Nat.pow_mul]
end Go.Nt
namespace Go.Proofs.YtdlpffgekmidnaaDoor
open Go.KRun Go.Nt
set_option maxRecDepth 100000
/-- a number's row: its parts, the last one not 0 -/
def canB (L : List Int) : Bool := dgB L && Nat.beq (trimN L) L.length
theorem canB_of {L : List Int} (h : canB L = true) : Canon 65536 L := by
  unfold canB at h
  simp only [Bool.and_eq_true] at h
  exact ⟨dgB_of h.1, Nat.eq_of_beq_eq_true h.2⟩
theorem canB_mk {L : List Int} (h : Canon 65536 L) : canB L = true := by
  unfold canB
  rw [dgB_mk h.1, h.2, Nat.beq_refl]
  rfl
def sA (F : Func) : Code := cFst (cSnd (cBody F))
def sR (F : Func) : Code := cSnd (cSnd (cBody F))
def sR3 (F : Func) : Code := cFst (sR F)
def sR4 (F : Func) : Code := cFst (cSnd (sR F))
def sR5 (F : Func) : Code := cFst (cFst (cSnd (cSnd (sR F))))
def sL1 (F : Func) : Code := cIn (cIn (cSnd (cFst (cSnd (cSnd (sR F))))))
def sR9 (F : Func) : Code := cFst (cSnd (cSnd (cSnd (sR F))))
def sT (F : Func) : Code := cSnd (cSnd (cSnd (cSnd (sR F))))
def sR10 (F : Func) : Code := cFst (cFst (sT F))
def sL2 (F : Func) : Code := cIn (cIn (cSnd (cFst (sT F))))
def sEn (F : Func) : Code := cSnd (sT F)
def sPr (F : Func) : List Code := [cFst (cBody F), sA F, sR3 F, sR4 F]
theorem ushl_body : Tryd.f20.body = some (seqs (sPr Tryd.f20) (.seq (.seq (sR5 Tryd.f20) (.block 0 (.loop (sL1 Tryd.f20)))) (.seq (sR9 Tryd.f20) (.seq (.seq (sR10 Tryd.f20) (.block 2 (.loop (sL2 Tryd.f20)))) (sEn Tryd.f20))))) := by kernel_rfl
theorem ushl_body1 : Tryd.f20.body = some (cBody Tryd.f20) := by kernel_rfl
def k16 (k : Int) : Int := IntKind.i64.wrap (k.tdiv 16)
def zz (z : Nat) : List Value := List.replicate z (.int .u32 0)
theorem ushl_zero (p : Option Addr) (n c : Nat) (k : Value) (h : Hp) : GoesT (evC (tabH Tryd.prog extY conN hcV) 100 false (cBody Tryd.f20) ([.slice p n c, k] ++ List.replicate 48 undef, h, [cmp true]) ⟨[], [], []⟩) 5 45 (some none) [.slice p n c, k, undef, undef, nilS] h [((n : Int) == 0, true)] := ⟨by kernel_rfl, by kernel_rfl, by kernel_rfl⟩
theorem ushl_pre (o n c : Nat) (k : Int) (x : List Value × TypeId) : GoesT (evL (tabH Tryd.prog extY conN hcV) 100 (sPr Tryd.f20) ([sl 0 o n c, .int .i64 k] ++ List.replicate 48 undef, ⟨1, [x]⟩, [cmp false, at_]) ⟨[], [], []⟩) 7 43 none [sl 0 o n c, .int .i64 k, undef, undef, nilS, sl 1 0 (k16 k).toNat (k16 k).toNat, .int .u32 1] ⟨2, [(zz (k16 k).toNat, tU), x]⟩ [(okMakeB 4 (k16 k) (k16 k), true), ((n : Int) == 0, false)] := ⟨by kernel_rfl, by kernel_rfl, by kernel_rfl⟩
theorem ushl_r5 (a v : Value) (k : Int) (h : Hp) (g : Nat → Value) : GoesT (evC (tabH Tryd.prog extY conN hcV) 100 false (sR5 Tryd.f20) ([a, .int .i64 k, undef, undef, nilS, v, .int .u32 1] ++ tl 43 g, h, []) ⟨[], [], []⟩) 8 42 none [a, .int .i64 k, undef, undef, nilS, v, .int .u32 1, .int .i64 0] h [] := ⟨by kernel_rfl, by kernel_rfl, by kernel_rfl⟩
theorem ushl_l1 (a v : Value) (k b i : Int) (h : Hp) (g : Nat → Value) : GoesT (evC (tabH Tryd.prog extY conN hcV) 100 false (sL1 Tryd.f20) ([a, .int .i64 k, undef, undef, nilS, v, .int .u32 b, .int .i64 i] ++ tl 42 g, h, [cmp true, cmp true]) ⟨[], [], []⟩) 8 42 none [a, .int .i64 k, undef, undef, nilS, v, .int .u32 (IntKind.u32.wrap (2 * b)), .int .i64 (IntKind.i64.wrap (i + 1))] h [(decide (i < k.tmod 16), true), (decide ((16 : Int) = 0), false)] := ⟨by kernel_rfl, by kernel_rfl, by kernel_rfl⟩
theorem ushl_o1 (a v : Value) (k b i : Int) (h : Hp) (g : Nat → Value) : GoesT (evC (tabH Tryd.prog extY conN hcV) 100 false (sL1 Tryd.f20) ([a, .int .i64 k, undef, undef, nilS, v, .int .u32 b, .int .i64 i] ++ tl 42 g, h, [cmp true, cmp false]) ⟨[], [], []⟩) 8 42 (some (some 0)) [a, .int .i64 k, undef, undef, nilS, v, .int .u32 b, .int .i64 i] h [(decide (i < k.tmod 16), false), (decide ((16 : Int) = 0), false)] := ⟨by kernel_rfl, by kernel_rfl, by kernel_rfl⟩
theorem ushl_r9 (a v : Value) (k b i : Int) (h : Hp) (g : Nat → Value) : GoesT (evC (tabH Tryd.prog extY conN hcV) 100 false (sR9 Tryd.f20) ([a, .int .i64 k, undef, undef, nilS, v, .int .u32 b, .int .i64 i] ++ tl 42 g, h, []) ⟨[], [], []⟩) 9 41 none [a, .int .i64 k, undef, undef, nilS, v, .int .u32 b, .int .i64 i, .int .u32 0] h [] := ⟨by kernel_rfl, by kernel_rfl, by kernel_rfl⟩
theorem ushl_r10 (a v : Value) (k b i : Int) (h : Hp) (g : Nat → Value) : GoesT (evC (tabH Tryd.prog extY conN hcV) 100 false (sR10 Tryd.f20) ([a, .int .i64 k, undef, undef, nilS, v, .int .u32 b, .int .i64 i, .int .u32 0] ++ tl 41 g, h, []) ⟨[], [], []⟩) 10 40 none [a, .int .i64 k, undef, undef, nilS, v, .int .u32 b, .int .i64 i, .int .u32 0, .int .i64 0] h [] := ⟨by kernel_rfl, by kernel_rfl, by kernel_rfl⟩
/-- what is carried and one part more -/
def cy (e x b : Int) : Int := IntKind.u32.wrap (e + IntKind.u32.wrap (x * b))
def lAx (l : List Value) (o n : Nat) (i x : Int) : Log := [(decide ((65536 : Int) = 0), false), (cellIs (l[o + i.toNat * 1]?) (.int .u32 x), true), (decide (0 ≤ i ∧ i < n), true), (decide (i < n), true)]
theorem ushl_fst (o n c z z' : Nat) (b e i x : Int) (l lo : List Value) (j1 j7 : Value) (g : Nat → Value) : GoesT (evC (tabH Tryd.prog extY conN hcV) 100 false (sL2 Tryd.f20) ([sl 0 o n c, j1, undef, undef, nilS, sl 1 0 z z', .int .u32 b, j7, .int .u32 e, .int .i64 i] ++ tl 40 g, ⟨2, [(lo, tU), (l, tR)]⟩, [cmp true, at_, val (.int .u32 x), cmp true, num 0]) ⟨[], [], []⟩) 10 40 none [sl 0 o n c, j1, undef, undef, nilS, sl 3 0 (z + 1) grown, .int .u32 b, j7, .int .u32 (IntKind.u32.wrap ((cy e x b).tdiv 65536)), .int .i64 (IntKind.i64.wrap (i + 1))] ⟨4, [(lo ++ [.int .u32 ((cy e x b).tmod 65536)], tU), ([.int .u32 ((cy e x b).tmod 65536)], tU), (lo, tU), (l, tR)]⟩ ((appChz (lo, tU) ([.int .u32 ((cy e x b).tmod 65536)], tU) z z' 0 1, true) :: lAx l o n i x) := ⟨by kernel_rfl, by kernel_rfl, by kernel_rfl⟩
theorem ushl_nxt (o n c z : Nat) (b e i x : Int) (l lo : List Value) (j1 j7 : Value) (g : Nat → Value) : GoesT (evC (tabH Tryd.prog extY conN hcV) 100 false (sL2 Tryd.f20) ([sl 0 o n c, j1, undef, undef, nilS, sl 1 0 z grown, .int .u32 b, j7, .int .u32 e, .int .i64 i] ++ tl 40 g, ⟨2, [(lo, tU), (l, tR)]⟩, [cmp true, at_, val (.int .u32 x), cmp true, at_]) ⟨[], [], []⟩) 10 40 none [sl 0 o n c, j1, undef, undef, nilS, sl 3 0 (z + 1) grown, .int .u32 b, j7, .int .u32 (IntKind.u32.wrap ((cy e x b).tdiv 65536)), .int .i64 (IntKind.i64.wrap (i + 1))] ⟨4, [(lo ++ [.int .u32 ((cy e x b).tmod 65536)], tU), ([.int .u32 ((cy e x b).tmod 65536)], tU), ([], 2 * dead), (l, tR)]⟩ ((appChk tU (lo, tU) ([.int .u32 ((cy e x b).tmod 65536)], tU) z 0 1, true) :: lAx l o n i x) := ⟨by kernel_rfl, by kernel_rfl, by kernel_rfl⟩
theorem ushl_o2 (p : Option Addr) (n c : Nat) (v : Value) (b e i : Int) (h : Hp) (j1 j7 : Value) (g : Nat → Value) : GoesT (evC (tabH Tryd.prog extY conN hcV) 100 false (sL2 Tryd.f20) ([.slice p n c, j1, undef, undef, nilS, v, .int .u32 b, j7, .int .u32 e, .int .i64 i] ++ tl 40 g, h, [cmp false]) ⟨[], [], []⟩) 10 40 (some (some 2)) [.slice p n c, j1, undef, undef, nilS, v, .int .u32 b, j7, .int .u32 e, .int .i64 i] h [(decide (i < n), false)] := ⟨by kernel_rfl, by kernel_rfl, by kernel_rfl⟩
theorem ushl_end (a : Value) (z : Nat) (b e i : Int) (x : List Value × TypeId) (lo : List Value) (j1 j7 : Value) (g : Nat → Value) : GoesT (evC (tabH Tryd.prog extY conN hcV) 100 false (sEn Tryd.f20) ([a, j1, undef, undef, nilS, sl 1 0 z grown, .int .u32 b, j7, .int .u32 e, .int .i64 i] ++ tl 40 g, ⟨2, [(lo, tU), x]⟩, [at_]) ⟨[], [], []⟩) 5 45 (some none) [a, j1, undef, undef, sl 3 0 (trimN (cutI (lo ++ [.int .u32 e]) 0 (z + 1))) (trimN (cutI (lo ++ [.int .u32 e]) 0 (z + 1)))] ⟨4, [(lo ++ [.int .u32 e], tU), ([.int .u32 e], tU), ([], 2 * dead), x]⟩ [(rowC tU (lo ++ [.int .u32 e]) 0 (z + 1) grown, true), (appChk tU (lo, tU) ([.int .u32 e], tU) z 0 1, true)] := ⟨by kernel_rfl, by kernel_rfl, by kernel_rfl⟩
theorem ushl_loop1 (a v : Value) (k : Nat) (h : Hp) (g : Nat → Value) :
    Runs (tabH Tryd.prog extY conN hcV) (.block 0 (.loop (sL1 Tryd.f20))) ([a, .int .i64 (k : Nat), undef, undef, nilS, v, .int .u32 1, .int .i64 0] ++ tl 42 g, h, []) fun e Y => match e with | none => (∃ g, Y.1 = [a, .int .i64 (k : Nat), undef, undef, nilS, v, .int .u32 ((2 ^ (k % 16) : Nat) : Int), .int .i64 ((k % 16 : Nat) : Int)] ++ tl 42 g) ∧ Y.2.1 = h | some none => False | some (some _) => False := by
  have em : (k : Int).tmod 16 = ((k % 16 : Nat) : Int) := by rw [Int.tmod_eq_emod_of_nonneg (by omega)]; omega
  refine Runs.forLoop (P := fun Y => (∃ g, Y.1 = [a, .int .i64 (k : Nat), undef, undef, nilS, v, .int .u32 ((2 ^ (k % 16) : Nat) : Int), .int .i64 ((k % 16 : Nat) : Int)] ++ tl 42 g) ∧ Y.2.1 = h) (R := fun _ => False)
    (fun m Y => ∃ j : Nat, j ≤ k % 16 ∧ m = k % 16 - j ∧ (∃ g, Y.1 = [a, .int .i64 (k : Nat), undef, undef, nilS, v, .int .u32 ((2 ^ j : Nat) : Int), .int .i64 (j : Nat)] ++ tl 42 g) ∧ Y.2.1 = h) ?_ (n := k % 16) ⟨0, by omega, by omega, ⟨g, rfl⟩, rfl⟩
  rintro m ⟨t, h', s⟩ ⟨j, hj, hm, ⟨g, ht⟩, hh⟩
  simp only at ht hh
  subst ht hh
  by_cases hlt : j < k % 16
  · refine (goesT_runs (tabH_ok conN_ok hcV_ok) (ushl_l1 a v k _ j h' g) (okTwo (by rw [em]; exact decide_eq_true (by omega)) (okOne rfl))).mono fun e z hz => ?_
    obtain ⟨rfl, ⟨g', z1⟩, z2⟩ := hz
    have hp : 2 ^ j ≤ 32768 := by
      have := Nat.pow_le_pow_right (show 0 < 2 by omega) (show j ≤ 15 by omega)
      omega
    have e1 : IntKind.u32.wrap (2 * ((2 ^ j : Nat) : Int)) = ((2 ^ (j + 1) : Nat) : Int) := by
      rw [Nat.pow_succ]
      generalize 2 ^ j = Q at hp ⊢
      rw [wrap32 (by omega) (by omega)]
      omega
    have e2 : IntKind.i64.wrap ((j : Int) + 1) = ((j + 1 : Nat) : Int) := by rw [wrapI (by omega) (by omega)]; omega
    exact ⟨k % 16 - (j + 1), by omega, j + 1, by omega, rfl, ⟨g', by rw [z1, e1, e2]⟩, z2⟩
  · have hj' : j = k % 16 := by omega
    subst hj'
    refine (goesT_runs (tabH_ok conN_ok hcV_ok) (ushl_o1 a v k _ _ h' g) (okTwo (by rw [em]; exact decide_eq_false (by omega)) (okOne rfl))).mono fun e z hz => ?_
    obtain ⟨rfl, ⟨g', z1⟩, z2⟩ := hz
    exact ⟨rfl, ⟨g', z1⟩, z2⟩
theorem appChz_of {L M : List Int} {k c : Nat} (hk : k = L.length) (hc : k = c) (hM : 0 < M.length) (hb : L.length + M.length ≤ 1073741824) : appChz (wU L, tU) (wU M, tU) k c 0 M.length = true := by
  subst hc
  subst hk
  unfold appChz
  simp only [Bool.and_eq_true, Bool.not_eq_true', wU_len]
  refine ⟨⟨⟨⟨⟨⟨⟨⟨Nat.beq_refl _, Nat.ble_eq_true_of_le hb⟩, by kernel_rfl⟩, blt_iff.2 (by unfold dead; omega)⟩, ?_⟩, by kernel_rfl⟩, Nat.ble_eq_true_of_le (by omega)⟩, blt_iff.2 hM⟩, ?_⟩
  · cases h : Nat.ble (L.length + M.length) L.length
    · rfl
    · have := Nat.le_of_ble_eq_true h
      omega
  · rw [List.drop_zero, ← wU_len, List.take_length]
    exact wU_one M
theorem cy_eq {e x P : Nat} (he : e < P) (hx : x < 65536) (hP : P ≤ 32768) : cy e x P = ((e + x * P : Nat) : Int) ∧ e + x * P < 65536 * P := by
  have h1 : x * P ≤ 65535 * P := Nat.mul_le_mul_right P (by omega)
  have e1 : (x : Int) * (P : Int) = ((x * P : Nat) : Int) := by simp
  unfold cy
  rw [e1, wrap32 (n := ((x * P : Nat) : Int)) (by omega) (by omega), wrap32 (by omega) (by omega)]
  omega
/-- one part more of a number moved up -/
theorem shl_step {O : List Int} {z i e x P W : Nat} (hO : O.length = z + i) (h : vb 65536 O + 65536 ^ (z + i) * e = 65536 ^ z * (P * W)) :
    vb 65536 (O ++ [(((e + x * P) % 65536 : Nat) : Int)]) + 65536 ^ (z + (i + 1)) * ((e + x * P) / 65536) = 65536 ^ z * (P * (W + 65536 ^ i * x)) := by
  rw [vb_snoc, Int.toNat_natCast, hO, ← Nat.add_assoc, Nat.pow_succ, Nat.mul_assoc]
  have e0 := Nat.mod_add_div (e + x * P) 65536
  have e1 : 65536 ^ (z + i) * ((e + x * P) % 65536) + 65536 ^ (z + i) * (65536 * ((e + x * P) / 65536)) = 65536 ^ (z + i) * e + 65536 ^ (z + i) * (x * P) := by rw [← Nat.mul_add, e0, Nat.mul_add]
  have e2 : 65536 ^ z * (P * (W + 65536 ^ i * x)) = 65536 ^ z * (P * W) + 65536 ^ (z + i) * (x * P) := by
    rw [Nat.mul_add P, Nat.mul_add (65536 ^ z), Nat.pow_add]
    congr 1
    rw [Nat.mul_assoc (65536 ^ z), Nat.mul_comm x P, Nat.mul_left_comm P]
  omega
section
variable {l : List Value} {o c : Nat} {A : List Int}
def hSt (l : List Value) (o c n z i P e : Nat) (j1 j7 : Value) (O : List Int) (Y : Lf) : Prop :=
  (i = 0 ∧ (∃ g, Y.1 = [sl 0 o n c, j1, undef, undef, nilS, sl 1 0 z z, .int .u32 (P : Nat), j7, .int .u32 (e : Nat), .int .i64 (i : Nat)] ++ tl 40 g) ∨ (0 < i ∧ ∃ g, Y.1 = [sl 0 o n c, j1, undef, undef, nilS, sl 1 0 (z + i) grown, .int .u32 (P : Nat), j7, .int .u32 (e : Nat), .int .i64 (i : Nat)] ++ tl 40 g)) ∧ Y.2.1 = ⟨2, [(wU O, tU), (l, tR)]⟩
theorem ushl_round (hR : Row l o A) (hs : ∀ v ∈ l, still v = true) (hA : ∀ x ∈ A, Dg 65536 x) {z i P e : Nat} {O : List Int} (hO : O.length = z + i) (he : e < P) (hP : P ≤ 32768) (hi : i < A.length) (hz : z + A.length + 2 < 1073741824) {j1 j7 : Value} (w1 : lt 2 j1 = true ∧ rn (keepK 1 3) j1 = j1) (w7 : lt 2 j7 = true ∧ rn (keepK 1 3) j7 = j7) {Y : Lf} (hY : hSt l o c A.length z i P e j1 j7 O Y) :
    RunsW (tabH Tryd.prog extY conN hcV) (sL2 Tryd.f20) Y fun ex W => ex = none ∧ (∃ g, W.1 = [sl 0 o A.length c, j1, undef, undef, nilS, sl 1 0 (z + (i + 1)) grown, .int .u32 (P : Nat), j7, .int .u32 (((e + dgN A i * P) / 65536 : Nat) : Int), .int .i64 ((i + 1 : Nat) : Int)] ++ tl 40 g) ∧ W.2.1 = ⟨2, [(wU (O ++ [(((e + dgN A i * P) % 65536 : Nat) : Int)]), tU), (l, tR)]⟩ := by
  obtain ⟨t, h', s⟩ := Y
  have hd := dgN_lt hA i
  obtain ⟨ec, hlt⟩ := cy_eq he hd.1 hP
  have e1 : (cy e (A.getD i 0) P).tmod 65536 = (((e + dgN A i * P) % 65536 : Nat) : Int) := by rw [← hd.2, ec, tmod_nat]
  have e2 : IntKind.u32.wrap ((cy e (A.getD i 0) P).tdiv 65536) = (((e + dgN A i * P) / 65536 : Nat) : Int) := by rw [← hd.2, ec, tdiv_nat (by omega)]
  have e3 : IntKind.i64.wrap ((i : Int) + 1) = ((i + 1 : Nat) : Int) := by rw [wrapI (by omega) (by omega)]; omega
  have hlog : okLog (lAx l o A.length i (A.getD i 0)) := okTwo rfl (okTwo (by
    show cellIs (l[o + (i : Int).toNat * 1]?) _ = true
    rw [Int.toNat_natCast, Nat.mul_one, hR.cell hi]; simp [cellIs]) (okTwo (decide_eq_true (by omega)) (okOne (decide_eq_true (by omega)))))
  have ew : wU O ++ [.int .u32 (((e + dgN A i * P) % 65536 : Nat) : Int)] = wU (O ++ [(((e + dgN A i * P) % 65536 : Nat) : Int)]) := by rw [wU_append]; rfl
  have key : ∀ {X : List Value × TypeId}, RunsW (tabH Tryd.prog extY conN hcV) (sL2 Tryd.f20) (t, h', s) (fun ex W => ex = none ∧ (∃ g, W.1 = [sl 0 o A.length c, j1, undef, undef, nilS, sl 3 0 (z + i + 1) grown, .int .u32 (P : Nat), j7, .int .u32 (((e + dgN A i * P) / 65536 : Nat) : Int), .int .i64 ((i + 1 : Nat) : Int)] ++ tl 40 g) ∧ W.2.1 = ⟨4, [(wU (O ++ [(((e + dgN A i * P) % 65536 : Nat) : Int)]), tU), ([.int .u32 (((e + dgN A i * P) % 65536 : Nat) : Int)], tU), X, (l, tR)]⟩) →
      RunsW (tabH Tryd.prog extY conN hcV) (sL2 Tryd.f20) (t, h', s) fun ex W => ex = none ∧ (∃ g, W.1 = [sl 0 o A.length c, j1, undef, undef, nilS, sl 1 0 (z + (i + 1)) grown, .int .u32 (P : Nat), j7, .int .u32 (((e + dgN A i * P) / 65536 : Nat) : Int), .int .i64 ((i + 1 : Nat) : Int)] ++ tl 40 g) ∧ W.2.1 = ⟨2, [(wU (O ++ [(((e + dgN A i * P) % 65536 : Nat) : Int)]), tU), (l, tR)]⟩ := fun {X} fin =>
    fin.kept (k := 1) (b := 3) (base := [(l, tR)]) (y := (wU (O ++ [(((e + dgN A i * P) % 65536 : Nat) : Int)]), tU)) (front' := [sl 0 o A.length c, j1, undef, undef, nilS, sl 1 0 (z + (i + 1)) grown, .int .u32 (P : Nat), j7, .int .u32 (((e + dgN A i * P) / 65536 : Nat) : Int), .int .i64 ((i + 1 : Nat) : Int)]) rfl
      (by simp only [List.map_cons, List.map_nil, w1.2, w7.2]; kernel_rfl) (fun j x hx => by
        have hj : j < 1 := Hp.blk_lt hx
        have hj0 : j = 0 := by omega
        subst hj0
        have hx' : x = (l, tR) := (Option.some.inj hx).symm
        subst hx'
        exact ⟨rfl, hs⟩) rfl (by omega) (wU_still _) (fun v hv => by
        simp only [List.mem_cons, List.not_mem_nil, or_false] at hv
        rcases hv with rfl | rfl | rfl | rfl | rfl | rfl | rfl | rfl | rfl | rfl
        · rfl
        · exact w1.1
        · rfl
        · rfl
        · rfl
        · rfl
        · rfl
        · exact w7.1
        · rfl
        · rfl)
  obtain ⟨hY, hh⟩ := hY
  simp only at hY hh
  subst hh
  rcases hY with ⟨h0, g, ht⟩ | ⟨h0, g, ht⟩
  · subst ht
    have hchk : appChz (wU O, tU) ([.int .u32 ((cy e (A.getD i 0) P).tmod 65536)], tU) z z 0 1 = true :=
      appChz_of (L := O) (M := [(cy e (A.getD i 0) P).tmod 65536]) (by omega) rfl (show 0 < 1 by omega) (by show O.length + 1 ≤ _; omega)
    have fin := goesT_runsW (tabH_ok conN_ok hcV_ok) (s0 := s) (ushl_fst o A.length c z z P e i (A.getD i 0) l (wU O) j1 j7 g) (okTwo hchk hlog)
    rw [e1, e2, e3, ew] at fin
    refine key (X := (wU O, tU)) (fin.mono fun ex W hW => ?_)
    subst h0
    exact hW
  · subst ht
    have hchk : appChk tU (wU O, tU) ([.int .u32 ((cy e (A.getD i 0) P).tmod 65536)], tU) (z + i) 0 1 = true :=
      appChk_of (L := O) (M := [(cy e (A.getD i 0) P).tmod 65536]) hO.symm (show 0 < 1 by omega) (by show O.length + 1 ≤ _; omega)
    have fin := goesT_runsW (tabH_ok conN_ok hcV_ok) (s0 := s) (ushl_nxt o A.length c (z + i) P e i (A.getD i 0) l (wU O) j1 j7 g) (okTwo hchk hlog)
    rw [e1, e2, e3, ew] at fin
    exact key (X := ([], 2 * dead)) fin
def hInv (l : List Value) (o c z P : Nat) (A : List Int) (j1 j7 : Value) (m : Nat) (Y : Lf) : Prop :=
  ∃ (i e : Nat) (O : List Int), m = A.length - i ∧ i ≤ A.length ∧ O.length = z + i ∧ e < P ∧ (∀ x ∈ O, Dg 65536 x) ∧ vb 65536 O + 65536 ^ (z + i) * e = 65536 ^ z * (P * vb 65536 (A.take i)) ∧ hSt l o c A.length z i P e j1 j7 O Y
def hFin (l : List Value) (o c z P : Nat) (A : List Int) (j1 j7 : Value) (Y : Lf) : Prop :=
  ∃ (e : Nat) (O : List Int), O.length = z + A.length ∧ e < P ∧ (∀ x ∈ O, Dg 65536 x) ∧ vb 65536 O + 65536 ^ (z + A.length) * e = 65536 ^ z * (P * vb 65536 A) ∧ hSt l o c A.length z A.length P e j1 j7 O Y
theorem ushl_loop2 (hR : Row l o A) (hs : ∀ v ∈ l, still v = true) (hA : ∀ x ∈ A, Dg 65536 x) {z P : Nat} (h0 : 0 < P) (hP : P ≤ 32768) (hz : z + A.length + 2 < 1073741824) {j1 j7 : Value} (w1 : lt 2 j1 = true ∧ rn (keepK 1 3) j1 = j1) (w7 : lt 2 j7 = true ∧ rn (keepK 1 3) j7 = j7) (g : Nat → Value) :
    RunsW (tabH Tryd.prog extY conN hcV) (.block 2 (.loop (sL2 Tryd.f20))) ([sl 0 o A.length c, j1, undef, undef, nilS, sl 1 0 z z, .int .u32 (P : Nat), j7, .int .u32 0, .int .i64 0] ++ tl 40 g, ⟨2, [(zz z, tU), (l, tR)]⟩, []) fun e Y => match e with | none => hFin l o c z P A j1 j7 Y | some none => False | some (some _) => False := by
  have ez : zz z = wU (List.replicate z 0) := by unfold zz wU; rw [List.map_replicate]
  have vz : ∀ k, vb 65536 (List.replicate k 0) = 0 := fun k => by
    induction k with
    | zero => rfl
    | succ k ih => rw [List.replicate_succ]; simp [vb, ih]
  refine RunsW.forLoop (P := hFin l o c z P A j1 j7) (R := fun _ => False) (hInv l o c z P A j1 j7) ?_ (n := A.length) ⟨0, 0, List.replicate z 0, by omega, by omega, by simp, h0, (fun x hx => by rw [List.eq_of_mem_replicate hx]; exact ⟨by omega, by omega⟩), by rw [vz]; simp [vb], .inl ⟨rfl, g, rfl⟩, by rw [ez]⟩
  rintro m Y ⟨i, e, O, hm, hi, hO, he, hOd, hv, hY⟩
  by_cases hlt : i < A.length
  · have r := ushl_round hR hs hA hO he hP hlt hz w1 w7 hY
    refine r.mono fun ex W hW => ?_
    obtain ⟨rfl, z1, z2⟩ := hW
    have hd := dgN_lt hA i
    obtain ⟨_, hl2⟩ := cy_eq he hd.1 hP
    refine ⟨A.length - (i + 1), by omega, i + 1, (e + dgN A i * P) / 65536, O ++ [(((e + dgN A i * P) % 65536 : Nat) : Int)], rfl, by omega, by rw [List.length_append, hO]; rfl, Nat.div_lt_of_lt_mul hl2, fun x hx => ?_, ?_, .inr ⟨by omega, z1⟩, z2⟩
    · rcases List.mem_append.1 hx with hx | hx
      · exact hOd x hx
      · rw [List.mem_singleton.1 hx]
        exact ⟨by omega, by omega⟩
    · have e1 : vb 65536 (A.take (i + 1)) = vb 65536 (A.take i) + 65536 ^ i * dgN A i := vb_take 65536 A i
      rw [e1]
      exact shl_step hO hv
  · have hil : i = A.length := by omega
    subst hil
    rw [List.take_length] at hv
    obtain ⟨t, h', s⟩ := Y
    obtain ⟨hY, hh⟩ := hY
    simp only at hY hh
    subst hh
    rcases hY with ⟨h0, g, ht⟩ | ⟨h0, g, ht⟩
    · subst ht
      refine (goesT_runsW (tabH_ok conN_ok hcV_ok) (ushl_o2 _ _ _ _ _ _ _ _ j1 j7 g) (okOne (decide_eq_false (by omega)))).mono fun ex W hW => ?_
      obtain ⟨rfl, ⟨g', z1⟩, z2⟩ := hW
      exact ⟨rfl, e, O, hO, he, hOd, hv, .inl ⟨h0, g', z1⟩, z2⟩
    · subst ht
      refine (goesT_runsW (tabH_ok conN_ok hcV_ok) (ushl_o2 _ _ _ _ _ _ _ _ j1 j7 g) (okOne (decide_eq_false (by omega)))).mono fun ex W hW => ?_
      obtain ⟨rfl, ⟨g', z1⟩, z2⟩ := hW
      exact ⟨rfl, e, O, hO, he, hOd, hv, .inr ⟨h0, g', z1⟩, z2⟩
end
theorem ushl_runs {l : List Value} {o c : Nat} {A : List Int} (hR : Row l o A) (hs : ∀ v ∈ l, still v = true) (hA : ∀ x ∈ A, Dg 65536 x) (h0 : 0 < A.length) {k : Nat} (hk : k / 16 + A.length + 3 < 1073741824) {V : Nat} (hV : V = vb 65536 A * 2 ^ k) :
    RunsW (tabH Tryd.prog extY conN hcV) (seqs (sPr Tryd.f20) (.seq (.seq (sR5 Tryd.f20) (.block 0 (.loop (sL1 Tryd.f20)))) (.seq (sR9 Tryd.f20) (.seq (.seq (sR10 Tryd.f20) (.block 2 (.loop (sL2 Tryd.f20)))) (sEn Tryd.f20))))) ([sl 0 o A.length c, .int .i64 (k : Nat)] ++ List.replicate 48 undef, ⟨1, [(l, tR)]⟩, []) fun e z => (e = none ∨ e = some none) ∧ resS Tryd.prog Tryd.f20 z.1 z.2.1 = some (sl 3 0 (d16 V).length (d16 V).length) ∧ ∃ r, z.2.1.blk? 3 = some (wU (d16 V) ++ r, tU) := by
  have ek : k16 (k : Int) = ((k / 16 : Nat) : Int) := by
    unfold k16
    rw [Int.tdiv_eq_ediv_of_nonneg (by omega), wrapI (by omega) (by omega)]
    omega
  have hP : 2 ^ (k % 16) ≤ 32768 := by
    have := Nat.pow_le_pow_right (show 0 < 2 by omega) (show k % 16 ≤ 15 by omega)
    omega
  have hP0 : 0 < 2 ^ (k % 16) := Nat.pow_pos (by omega)
  have hpk : 2 ^ k = 65536 ^ (k / 16) * 2 ^ (k % 16) := by
    rw [pow16, ← Nat.pow_add]
    congr 1
    omega
  refine goesT_listW (tabH_ok conN_ok hcV_ok) (ushl_pre o A.length c k (l, tR)) (okTwo (by rw [ek]; exact decide_eq_true (by omega)) (okOne (beq_eq_false_iff_ne.2 (by omega)))) fun g => ?_
  rw [ek, Int.toNat_natCast]
  refine seqW3 (goesT_runsW (tabH_ok conN_ok hcV_ok) (ushl_r5 _ _ k _ g) (fun x hx => by cases hx)) (fun e y he => by cases he.1) (P2 := fun e Y => match e with | none => (∃ g, Y.1 = [sl 0 o A.length c, .int .i64 (k : Nat), undef, undef, nilS, sl 1 0 (k / 16) (k / 16), .int .u32 ((2 ^ (k % 16) : Nat) : Int), .int .i64 ((k % 16 : Nat) : Int)] ++ tl 42 g) ∧ Y.2.1 = ⟨2, [(zz (k / 16), tU), (l, tR)]⟩ | some none => False | some (some _) => False) ?_ ?_ ?_
  · rintro ⟨t, h', s⟩ ⟨_, ⟨g', ht⟩, hh⟩
    simp only at ht hh
    subst ht hh
    exact RunsW.script (ushl_loop1 _ _ k _ g').w
  · intro e y he
    match e, he with
    | none, he => exact he
    | some id, he => exact he
  · rintro ⟨t, h', s⟩ ⟨⟨g', ht⟩, hh⟩
    simp only at ht hh
    subst ht hh
    refine RunsW.seq (P1 := fun e Y => e = none ∧ (∃ g, Y.1 = [sl 0 o A.length c, .int .i64 (k : Nat), undef, undef, nilS, sl 1 0 (k / 16) (k / 16), .int .u32 ((2 ^ (k % 16) : Nat) : Int), .int .i64 ((k % 16 : Nat) : Int), .int .u32 0] ++ tl 41 g) ∧ Y.2.1 = ⟨2, [(zz (k / 16), tU), (l, tR)]⟩) (goesT_runsW (tabH_ok conN_ok hcV_ok) (ushl_r9 _ _ k _ _ _ g') (fun x hx => by cases hx)) ?_ (fun e y he => by cases he.1)
    rintro ⟨t, h', s⟩ ⟨_, ⟨g', ht⟩, hh⟩
    simp only at ht hh
    subst ht hh
    refine seqW3 (goesT_runsW (tabH_ok conN_ok hcV_ok) (ushl_r10 _ _ k _ _ _ g') (fun x hx => by cases hx)) (fun e y he => by cases he.1) (P2 := fun e Y => match e with | none => hFin l o c (k / 16) (2 ^ (k % 16)) A (.int .i64 (k : Nat)) (.int .i64 ((k % 16 : Nat) : Int)) Y | some none => False | some (some _) => False) ?_ ?_ ?_
    · rintro ⟨t, h', s⟩ ⟨_, ⟨g', ht⟩, hh⟩
      simp only at ht hh
      subst ht hh
      exact RunsW.script (ushl_loop2 hR hs hA hP0 hP (by omega) ⟨rfl, rfl⟩ ⟨rfl, rfl⟩ g')
    · intro e y he
      match e, he with
      | none, he => exact he
      | some id, he => exact he
    · rintro ⟨t, h', s⟩ ⟨e, O, hO, he, hOd, hv, hY, hh⟩
      simp only at hY hh
      subst hh
      rcases hY with ⟨e0, _⟩ | ⟨_, g', ht⟩
      · omega
      · subst ht
        have hOd' : ∀ x ∈ O ++ [(e : Int)], Dg 65536 x := fun x hx => by
          rcases List.mem_append.1 hx with hx | hx
          · exact hOd x hx
          · rw [List.mem_singleton.1 hx]; exact ⟨by omega, by omega⟩
        have hlen : (O ++ [(e : Int)]).length = k / 16 + A.length + 1 := by rw [List.length_append, hO]; rfl
        have ew : wU O ++ [.int .u32 (e : Int)] = wU (O ++ [(e : Int)]) := by rw [wU_append]; rfl
        have hval : vb 65536 (O ++ [(e : Int)]) = V := by
          rw [vb_snoc, hO, Int.toNat_natCast, hv, hV, hpk, Nat.mul_comm (vb 65536 A), Nat.mul_assoc]
        have hrow : rowC tU (wU (O ++ [(e : Int)])) 0 (k / 16 + A.length + 1) grown = true := by
          rw [← hlen]
          exact rowC_wU (fun x hx => ⟨(hOd' x hx).1, by have := (hOd' x hx).2; omega⟩) (by omega) (capG _)
        have hchk : appChk tU (wU O, tU) ([.int .u32 (e : Int)], tU) (k / 16 + A.length) 0 1 = true :=
          appChk_of (L := O) (M := [(e : Int)]) hO.symm (show 0 < 1 by omega) (by show O.length + 1 ≤ _; omega)
        refine (goesT_runsW (tabH_ok conN_ok hcV_ok) (ushl_end _ (k / 16 + A.length) _ e _ (l, tR) (wU O) _ _ g') (by rw [ew]; exact okTwo hrow (okOne hchk))).mono fun ex W hW => ?_
        rw [ew] at hW
        obtain ⟨rfl, ⟨g2, z1⟩, z2⟩ := hW
        have et : trimN (cutI (wU (O ++ [(e : Int)])) 0 (k / 16 + A.length + 1)) = (d16 V).length := by
          rw [← hlen, cut_wU, trim_len (by omega) hOd', hval]
          rfl
        refine ⟨.inr rfl, ?_, ?_⟩
        · rw [z1, z2, et]
          rfl
        · rw [z2]
          refine ⟨wU ((O ++ [(e : Int)]).drop (trimN (O ++ [(e : Int)]))), ?_⟩
          have e3 : wU (d16 V) ++ wU ((O ++ [(e : Int)]).drop (trimN (O ++ [(e : Int)]))) = wU (O ++ [(e : Int)]) := by
            unfold d16
            rw [← hval, ← take_trim (by omega) _ hOd', ← wU_append, List.take_append_drop]
          rw [e3]
          rfl
def gUshl : AnsH := fun vals h s =>
  match vals, s with
  | [.slice p n c, .int .i64 k], .inr (.inr (.inr (.inl d))) :: s' =>
    match d with
    | true => mk16 (vO h p n * 2 ^ k.toNat) h s' [(rowP h p n c && dgB (rowOf h p n) && Nat.blt (k.toNat / 16 + n + 3) 1073741824 && decide (0 ≤ k), true), (decide (0 < n), true)]
    | false => some (nilS, h, s', [(rowP h p n c, true), (decide (0 < n), false)])
  | _, _ => none
theorem gUshl_ok : AnsHOk 20 gUshl := by
  intro vals h s v h' s' lg hg hl m B w E hv
  unfold gUshl at hg
  split at hg
  · rename_i p n c k d s2
    split at hg
    · unfold mk16 at hg
      cases hg
      have q1 := hl _ (List.mem_cons_self)
      have q2 := hl _ (List.mem_cons_of_mem _ (List.mem_singleton.2 rfl))
      simp only [Bool.and_eq_true, decide_eq_true_eq] at q1 q2
      obtain ⟨⟨⟨r1, r2⟩, r3⟩, r4⟩ := q1
      have r2 := dgB_of r2
      have r3 := blt_iff.1 r3
      obtain ⟨K, rfl⟩ := Int.eq_ofNat_of_zero_le r4
      rw [Int.toNat_natCast] at r3 ⊢
      rcases rowP_cases r1 with ⟨rfl, rfl, rfl, e0⟩ | ⟨b, o, x, rfl, hx, t1, t2, e0⟩
      · omega
      · rw [e0] at r2
        obtain ⟨h1, h2, h3, h4, h5, h6, h7⟩ := rowC_of t1
        have ev : vO h (some ⟨b, o, none⟩) n = vb 65536 (cutI x.1 o n) := by unfold vO; rw [e0]
        have r := ushl_runs (c := c) h1 t2 r2 (by rw [h2]; exact q2) (k := K) (by rw [h2]; exact r3) rfl
        rw [h2] at r
        rw [ev]
        exact row_calls1 (T := tabH Tryd.prog extY conN hcV) Tryd.func20 ushl_body (rows1 h7) (vals := [sl 0 o n c, .int .i64 (K : Nat)]) (fun v hv => by
          simp only [List.mem_cons, List.not_mem_nil, or_false] at hv
          rcases hv with rfl | rfl <;> rfl) (k := 3) (cs := wU (d16 (vb 65536 (cutI x.1 o n) * 2 ^ K))) (ty := tU) (wU_lt _) (by kernel_rfl) r (by rfl) E (s := fun _ => b) (fitsR1 hx h5 h6 rfl)
    · cases hg
      have q1 := hl _ (List.mem_cons_self)
      have q2 := hl _ (List.mem_cons_of_mem _ (List.mem_singleton.2 rfl))
      simp only [decide_eq_false_iff_not] at q1 q2
      have hn : n = 0 := by omega
      subst hn
      obtain ⟨x, p', a, NA, eA, fA⟩ := nu_of 0 q1
      have hr : Runs (tabH Tryd.prog extY conN hcV) (cBody Tryd.f20) ([.slice p' 0 c, .int .i64 k] ++ List.replicate 48 undef, ⟨1, [x]⟩, []) fun e z => (e = none ∨ e = some none) ∧ resS Tryd.prog Tryd.f20 z.1 z.2.1 = some nilS := by
        refine (goesT_runs (tabH_ok conN_ok hcV_ok) (ushl_zero p' 0 c _ _) (okOne rfl)).mono fun e z he => ?_
        obtain ⟨rfl, ⟨g, e2⟩, e3⟩ := he
        refine ⟨.inr rfl, ?_⟩
        rw [e2, e3]
        rfl
      have b1 : ∀ {i : Nat} {z : List Value × TypeId}, (⟨1, [x]⟩ : Hp).blk? i = some z → i = 0 ∧ z = x := fun {i z} hz => by
        have : i < 1 := Hp.blk_lt hz
        have hi : i = 0 := by omega
        subst hi
        exact ⟨rfl, (Option.some.inj hz).symm⟩
      have := row_calls0 (T := tabH Tryd.prog extY conN hcV) Tryd.func20 ushl_body1 (h0 := ⟨1, [x]⟩) ⟨rfl, fun b z hz => by obtain ⟨_, rfl⟩ := b1 hz; exact ⟨NA.ros.1, NA.lt0, NA.ros.2⟩⟩ (vals := [.slice p' 0 c, .int .i64 k]) (fun v hv => by
        simp only [List.mem_cons, List.not_mem_nil, or_false] at hv
        rcases hv with rfl | rfl
        · exact NA.lt (by show 0 < 1; omega)
        · rfl) (v := nilS) (by rfl) hr.w E (s := fun _ => a) (fun i z hz ht => by obtain ⟨_, rfl⟩ := b1 hz; exact fA ht)
      simp only [List.map_cons, List.map_nil] at this
      rw [eA _ rfl] at this
      exact this
  · cases hg
/-! ### Of -/
def f4 (n : Int) : List Int := [IntKind.u32.wrap (n.tmod 65536), IntKind.u32.wrap ((IntKind.u64.wrap (n.tdiv 65536)).tmod 65536), IntKind.u32.wrap ((IntKind.u64.wrap (n.tdiv 4294967296)).tmod 65536), IntKind.u32.wrap (IntKind.u64.wrap (n.tdiv 281474976710656))]
theorem uof_body : Tryd.f32.body = some (cBody Tryd.f32) := by kernel_rfl
theorem uof_go (n : Int) : GoesT (evC (tabH Tryd.prog extY conN hcV) 100 false (cBody Tryd.f32) ([.int .u64 n] ++ List.replicate 18 undef, ⟨0, []⟩, [cmp true, cmp true, cmp true]) ⟨[], [], []⟩) 3 16 (some none) [.int .u64 n, undef, sl 0 0 (trimN (cutI (wU (f4 n)) 0 4)) (trimN (cutI (wU (f4 n)) 0 4))] ⟨1, [(wU (f4 n), tU)]⟩ [(rowC tU (wU (f4 n)) 0 4 4, true), (decide ((65536 : Int) = 0), false), (decide ((65536 : Int) = 0), false), (decide ((65536 : Int) = 0), false)] := ⟨by kernel_rfl, by kernel_rfl, by kernel_rfl⟩
theorem wrap64 {n : Int} (h0 : 0 ≤ n) (h1 : n < 18446744073709551616) : IntKind.u64.wrap n = n := by simp [IntKind.wrap, IntKind.bits, IntKind.signed]; omega
theorem f4_eq {n : Int} (h0 : 0 ≤ n) (h1 : n < 18446744073709551616) : f4 n = [n % 65536, n / 65536 % 65536, n / 4294967296 % 65536, n / 281474976710656] := by
  unfold f4
  rw [Int.tmod_eq_emod_of_nonneg h0, Int.tdiv_eq_ediv_of_nonneg h0, Int.tdiv_eq_ediv_of_nonneg h0, Int.tdiv_eq_ediv_of_nonneg h0, wrap64 (n := n / 65536) (by omega) (by omega), wrap64 (n := n / 4294967296) (by omega) (by omega), wrap64 (n := n / 281474976710656) (by omega) (by omega), Int.tmod_eq_emod_of_nonneg (by omega), Int.tmod_eq_emod_of_nonneg (by omega), wrap32 (n := n % 65536) (by omega) (by omega), wrap32 (n := n / 65536 % 65536) (by omega) (by omega), wrap32 (n := n / 4294967296 % 65536) (by omega) (by omega), wrap32 (by omega) (by omega)]
theorem f4_dg {n : Int} (h0 : 0 ≤ n) (h1 : n < 18446744073709551616) : ∀ x ∈ f4 n, Dg 65536 x := by
  rw [f4_eq h0 h1]
  intro x hx
  simp only [List.mem_cons, List.not_mem_nil, or_false] at hx
  rcases hx with rfl | rfl | rfl | rfl <;> exact ⟨by omega, by omega⟩
theorem f4_val {n : Int} (h0 : 0 ≤ n) (h1 : n < 18446744073709551616) : vb 65536 (f4 n) = n.toNat := by
  rw [f4_eq h0 h1]
  simp only [vb]
  omega
def gUof : AnsH := fun vals h s =>
  match vals with
  | [.int .u64 n] => mk16 n.toNat h s [(decide (0 ≤ n ∧ n < 18446744073709551616), true)]
  | _ => none
theorem gUof_ok : AnsHOk 32 gUof := by
  intro vals h s v h' s' lg hg hl m B w E hv
  unfold gUof at hg
  split at hg
  · rename_i n
    unfold mk16 at hg
    cases hg
    have q := of_decide_eq_true (hl _ (List.mem_singleton.2 rfl))
    have hd := f4_dg q.1 q.2
    have hv4 := f4_val q.1 q.2
    have hl4 : (f4 n).length = 4 := rfl
    have ec : cutI (wU (f4 n)) 0 4 = f4 n := by
      have := cut_wU (f4 n)
      rw [hl4] at this
      exact this
    have et : trimN (f4 n) = (d16 n.toNat).length := by
      rw [trim_len (by omega) hd, hv4]
      rfl
    have hrow : rowC tU (wU (f4 n)) 0 4 4 = true := by
      have := rowC_wU (L := f4 n) (fun x hx => ⟨(hd x hx).1, by have := (hd x hx).2; omega⟩) (by rw [hl4]; omega) (c := 4) (by rw [hl4]; rfl)
      rw [hl4] at this
      exact this
    have hr : Runs (tabH Tryd.prog extY conN hcV) (cBody Tryd.f32) ([.int .u64 n] ++ List.replicate 18 undef, ⟨0, []⟩, []) fun e z => (e = none ∨ e = some none) ∧ resS Tryd.prog Tryd.f32 z.1 z.2.1 = some (sl 0 0 (d16 n.toNat).length (d16 n.toNat).length) ∧ ∃ r, z.2.1.blk? 0 = some (wU (d16 n.toNat) ++ r, tU) := by
      refine (goesT_runs (tabH_ok conN_ok hcV_ok) (uof_go n) (okTwo hrow (okTwo rfl (okTwo rfl (okOne rfl))))).mono fun e z he => ?_
      obtain ⟨rfl, ⟨g, e1⟩, e2⟩ := he
      refine ⟨.inr rfl, ?_, ?_⟩
      · rw [e1, e2, ec, et]
        rfl
      · rw [e2]
        refine ⟨wU ((f4 n).drop (trimN (f4 n))), ?_⟩
        have e3 : wU (d16 n.toNat) ++ wU ((f4 n).drop (trimN (f4 n))) = wU (f4 n) := by
          unfold d16
          rw [← hv4, ← take_trim (by omega) _ hd, ← wU_append, List.take_append_drop]
        rw [e3]
        rfl
    have := row_calls1 (T := tabH Tryd.prog extY conN hcV) Tryd.func32 uof_body (h0 := ⟨0, []⟩) ⟨rfl, fun b x hx => by have : b < 0 := Hp.blk_lt hx; omega⟩ (vals := [.int .u64 n]) (fun v hv => by rw [List.mem_singleton.1 hv]; rfl) (k := 0) (cs := wU (d16 n.toNat)) (ty := tU) (wU_lt _) (by kernel_rfl) hr.w (by rfl) E (s := fun i => i) (fun i x hx _ => by have : i < 0 := Hp.blk_lt hx; omega)
    exact this
  · cases hg
/-! ### Low -/
/-! ### rows that were made -/
theorem d16_len {A k : Nat} (h : A < 2 ^ (16 * k)) : (d16 A).length ≤ k := db_len (by omega) k A (by rw [pow16]; exact h)
theorem rowOf_d16 {h : Hp} {b A : Nat} {ty : TypeId} (hb : h.blk? b = some (wU (d16 A), ty)) : rowOf h (some ⟨b, 0, none⟩) (d16 A).length = d16 A := by
  simp only [rowOf, hb]
  exact cut_wU _
theorem rowP_d16 {h : Hp} {b A : Nat} (hb : h.blk? b = some (wU (d16 A), tU)) (hl : (d16 A).length < 1073741824) : rowP h (some ⟨b, 0, none⟩) (d16 A).length (d16 A).length = true := by
  simp only [rowP, hb, Bool.and_eq_true]
  refine ⟨rowC_wU (fun x hx => ⟨(d16_dg A x hx).1, by have := (d16_dg A x hx).2; omega⟩) (by omega) ?_, List.all_eq_true.2 (wU_still _)⟩
  unfold capOk
  simp only [Bool.or_eq_true, Bool.and_eq_true]
  exact .inl ⟨blt_iff.2 (by unfold dead; omega), Nat.ble_eq_true_of_le (Nat.le_refl _)⟩
theorem log_tlT {x : Bool × Bool} {l : Log} (h : okLog (x :: l)) : x.1 = x.2 ∧ okLog l := ⟨h _ List.mem_cons_self, fun y hy => h y (List.mem_cons_of_mem _ hy)⟩
def okSh (h : Hp) (p : Option Addr) (n c : Nat) (k : Int) : Bool := rowP h p n c && dgB (rowOf h p n) && Nat.blt (k.toNat / 16 + n + 3) 1073741824 && decide (0 ≤ k)
def gUshlT : AnsH := fun vals h s =>
  match vals, s with
  | [.slice p n c, .int .i64 k], .inr (.inr (.inr (.inl d))) :: s' =>
    match d, s' with
    | true, .inr (.inl V) :: s2 => mk16 V.toNat h s2 [(decide (vO h p n * 2 ^ k.toNat = V.toNat), true), (okSh h p n c k, true), (decide (0 < n), true)]
    | false, _ => some (nilS, h, s', [(rowP h p n c, true), (decide (0 < n), false)])
    | _, _ => none
  | _, _ => none
theorem gUshlT_ok : AnsHOk 20 gUshlT := by
  intro vals h s v h' s' lg hg hl
  unfold gUshlT at hg
  split at hg
  · rename_i p n c k d s2
    split at hg
    · rename_i V s3
      unfold mk16 at hg
      cases hg
      obtain ⟨l1, l2⟩ := log_tlT hl
      have l1 := of_decide_eq_true l1
      refine gUshl_ok _ h [cmp true] _ _ [] _ ?_ l2
      simp only [gUshl, mk16, l1]
      rfl
    · cases hg
      exact gUshl_ok _ h [cmp false] _ _ [] _ rfl hl
    · cases hg
  · cases hg
def gUcmpT : AnsH := fun vals h s =>
  match vals, s with
  | [.slice p n c, .slice q n' c'], .inr (.inl k) :: s' => some (.int .i64 k, h, s', [(decide (cmpZ (vO h p n) (vO h q n') = k), true), (two16 h p q n c n' c', true)])
  | _, _ => none
theorem gUcmpT_ok : AnsHOk 11 gUcmpT := by
  intro vals h s v h' s' lg hg hl
  unfold gUcmpT at hg
  split at hg
  · rename_i p n c q n' c' V s3
    cases hg
    obtain ⟨l1, l2⟩ := log_tlT hl
    have l1 := of_decide_eq_true l1
    refine gUcmp_ok _ h [] _ _ [] _ ?_ l2
    simp only [gUcmp, l1]
  · cases hg
/-! ### what is asked of a row that is the number V -/
/-- a block, by its number -/
def aP16 (b : Nat) : Option Addr := some ⟨b, 0, none⟩
def w16 (X : Nat) : List Value × TypeId := (wU (d16 X), tU)
def gUaddT : AnsH := fun vals h s =>
  match vals, s with
  | [.slice p n c, .slice q n' c'], .inr (.inr (.inr (.inl d))) :: s' =>
    match d, s' with
    | true, .inr (.inl V) :: s2 => mk16 V.toNat h s2 [(decide (vO h p n + vO h q n' = V.toNat), true), (two16 h p q n c n' c', true), (decide (0 < n ∨ 0 < n'), true)]
    | false, _ => some (nilS, h, s', [(two16 h p q n c n' c', true), (decide (0 < n ∨ 0 < n'), false)])
    | _, _ => none
  | _, _ => none
theorem gUaddT_ok : AnsHOk 43 gUaddT := by
  intro vals h s v h' s' lg hg hl
  unfold gUaddT at hg
  split at hg
  · rename_i p n c q n' c' d s2
    split at hg
    · rename_i V s3
      unfold mk16 at hg
      cases hg
      obtain ⟨l1, l2⟩ := log_tlT hl
      have l1 := of_decide_eq_true l1
      refine gUadd_ok _ h [cmp true] _ _ [] _ ?_ l2
      simp only [gUadd, mk16, l1]
    · cases hg
      exact gUadd_ok _ h [cmp false] _ _ [] _ rfl hl
    · cases hg
  · cases hg
end Go.Proofs.YtdlpffgekmidnaaDoor
namespace Go.Nt
def dgS (L : List Int) (i : Nat) : Nat := (L.getD i 0).toNat
theorem pow_split16 (k : Nat) : 2 ^ k = 65536 ^ (k / 16) * 2 ^ (k % 16) := by
  rw [pow16, ← Nat.pow_add]
  congr 1
  omega
theorem dg_lt {L : List Int} (h : ∀ x ∈ L, Dg 65536 x) (i : Nat) : dgS L i < 65536 := by
  unfold dgS
  by_cases hi : i < L.length
  · have := h (L.getD i 0) (by simp [List.getD, List.getElem?_eq_getElem hi])
    omega
  · simp [List.getD, List.getElem?_eq_none (show L.length ≤ i by omega)]
theorem vb_cut {L : List Int} (h : ∀ x ∈ L, Dg 65536 x) (z : Nat) : vb 65536 L / 65536 ^ z = vb 65536 (L.drop z) ∧ vb 65536 L % 65536 ^ z = vb 65536 (L.take z) := by
  have hp : 0 < 65536 ^ z := Nat.pow_pos (by omega)
  by_cases hz : z ≤ L.length
  · have e : vb 65536 L = vb 65536 (L.take z) + 65536 ^ z * vb 65536 (L.drop z) := by
      conv => lhs; rw [← List.take_append_drop z L]
      rw [vb_append, List.length_take, show min z L.length = z by omega]
    have hl : vb 65536 (L.take z) < 65536 ^ z := by
      have := vb_lt (b := 65536) (by omega) (L.take z) (fun x hx => h x (List.mem_of_mem_take hx))
      rw [List.length_take, show min z L.length = z by omega] at this
      exact this
    rw [e]
    exact ⟨by rw [Nat.add_mul_div_left _ _ hp, Nat.div_eq_of_lt hl, Nat.zero_add], by rw [Nat.add_mul_mod_self_left, Nat.mod_eq_of_lt hl]⟩
  · have hl : vb 65536 L < 65536 ^ z := by
      have h1 := vb_lt (b := 65536) (by omega) L h
      have h2 := Nat.pow_le_pow_right (show 0 < 65536 by omega) (show L.length ≤ z by omega)
      omega
    rw [List.drop_of_length_le (by omega), List.take_of_length_le (by omega)]
    exact ⟨Nat.div_eq_of_lt hl, Nat.mod_eq_of_lt hl⟩
theorem vb_drop {L : List Int} {z : Nat} : vb 65536 (L.drop z) = dgS L z + 65536 * vb 65536 (L.drop (z + 1)) := by
  by_cases hz : z < L.length
  · rw [List.drop_eq_getElem_cons hz]
    simp only [vb, dgS]
    simp [List.getD, List.getElem?_eq_getElem hz]
  · rw [List.drop_of_length_le (by omega), List.drop_of_length_le (by omega)]
    simp [vb, dgS, List.getD, List.getElem?_eq_none (show L.length ≤ z by omega)]
theorem dvd_pow {s : Nat} (h : s ≤ 16) : 2 ^ s * 2 ^ (16 - s) = 65536 := by rw [← Nat.pow_add, show s + (16 - s) = 16 by omega]
/-- what is cut off -/
theorem lost_iff {L : List Int} (h : ∀ x ∈ L, Dg 65536 x) (k : Nat) : (vb 65536 L % 2 ^ k ≠ 0) ↔ (vb 65536 (L.take (k / 16)) ≠ 0 ∨ dgS L (k / 16) % 2 ^ (k % 16) ≠ 0) := by
  obtain ⟨e1, e2⟩ := vb_cut h (k / 16)
  have hp : 0 < 65536 ^ (k / 16) := Nat.pow_pos (by omega)
  rw [pow_split16, Nat.mod_mul, e1, e2, vb_drop]
  have hd := dvd_pow (s := k % 16) (by omega)
  have e3 : (dgS L (k / 16) + 65536 * vb 65536 (L.drop (k / 16 + 1))) % 2 ^ (k % 16) = dgS L (k / 16) % 2 ^ (k % 16) := by
    rw [← hd, Nat.mul_assoc, Nat.add_mul_mod_self_left]
  rw [e3]
  generalize dgS L (k / 16) % 2 ^ (k % 16) = r
  generalize vb 65536 (L.take (k / 16)) = u
  constructor
  · intro h0
    by_cases hu : u = 0
    · right
      intro hr
      apply h0
      rw [hu, hr, Nat.mul_zero]
    · exact .inl hu
  · rintro (h0 | h0) hh
    · omega
    · have : 0 < 65536 ^ (k / 16) * r := Nat.mul_pos hp (by omega)
      omega
/-- the digits of a number moved down: one more -/
theorem down_step {O : List Int} {P R y x0 x1 j W : Nat} (hPR : P * R = 65536) (hO : O.length = j) (h : vb 65536 O * P + y = W + 65536 ^ j * (x0 % P)) :
    vb 65536 (O ++ [((x0 / P + x1 % P * R : Nat) : Int)]) * P + y = (W + 65536 ^ j * x0) + 65536 ^ (j + 1) * (x1 % P) := by
  have e : vb 65536 (O ++ [((x0 / P + x1 % P * R : Nat) : Int)]) = vb 65536 O + 65536 ^ j * (x0 / P + x1 % P * R) := by
    rw [vb_snoc, hO, Int.toNat_natCast]
  have e2 := Nat.div_add_mod x0 P
  have e3 : 65536 ^ j * (x0 / P + x1 % P * R) * P = 65536 ^ j * (P * (x0 / P)) + 65536 ^ (j + 1) * (x1 % P) := by
    rw [Nat.mul_assoc, Nat.add_mul, Nat.mul_add, Nat.mul_comm (x0 / P) P, Nat.mul_assoc (x1 % P), Nat.mul_comm R P, hPR, Nat.pow_succ, Nat.mul_comm (x1 % P), Nat.mul_assoc]
  have e4 : 65536 ^ j * x0 = 65536 ^ j * (P * (x0 / P)) + 65536 ^ j * (x0 % P) := by rw [← Nat.mul_add, e2]
  rw [e, Nat.add_mul, e3]
  omega
theorem down_lt {P R x0 x1 : Nat} (hP : 0 < P) (hPR : P * R = 65536) (h0 : x0 < 65536) : x0 / P + x1 % P * R < 65536 := by
  have h1 : x0 / P < R := Nat.div_lt_of_lt_mul (by omega)
  have h2 : x1 % P + 1 ≤ P := Nat.mod_lt _ hP
  have h3 := Nat.mul_le_mul_right R h2
  rw [Nat.add_mul, Nat.one_mul, hPR] at h3
  omega
theorem down_end {L : List Int} (h : ∀ x ∈ L, Dg 65536 x) {k V' : Nat} (e : V' * 2 ^ (k % 16) + dgS L (k / 16) % 2 ^ (k % 16) = vb 65536 (L.drop (k / 16))) : V' = vb 65536 L / 2 ^ k := by
  have hp : 0 < 2 ^ (k % 16) := Nat.pow_pos (by omega)
  obtain ⟨e1, _⟩ := vb_cut h (k / 16)
  rw [pow_split16, ← Nat.div_div_eq_div_mul, e1, ← e, Nat.add_comm, Nat.mul_comm, Nat.add_mul_div_left _ _ hp, Nat.div_eq_of_lt (Nat.mod_lt _ hp), Nat.zero_add]
end Go.Nt
namespace Go.Proofs.YtdlpffgekmidnaaDoor
open Go.KRun Go.Nt
set_option maxRecDepth 100000
/-! ### Bit -/
theorem dg_dgN (L : List Int) (i : Nat) : dgS L i = dgN L i := rfl
theorem blkOne {x : List Value × TypeId} {i : Nat} {z : List Value × TypeId} (hz : (⟨1, [x]⟩ : Hp).blk? i = some z) : i = 0 ∧ z = x := by
  have : i < 1 := Hp.blk_lt hz
  have hi : i = 0 := by omega
  subst hi
  exact ⟨rfl, (Option.some.inj hz).symm⟩
end Go.Proofs.YtdlpffgekmidnaaDoor
