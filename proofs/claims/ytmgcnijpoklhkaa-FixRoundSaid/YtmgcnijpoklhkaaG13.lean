/-
  ConV5, FiH, ConV7, NumL, ConV9
-/
import Derived.Test.YtmgcnijpoklhkaaG12
namespace Go.Proofs.Ytmgcnijpoklhkaa
open Go.KRun Go.Nt
set_option maxRecDepth 100000
theorem wrap32 {n : Int} (h0 : 0 ≤ n) (h1 : n < 4294967296) : IntKind.u32.wrap n = n := by simp [IntKind.wrap, IntKind.bits, IntKind.signed]; omega
/-- a digit's number -/
def dgN (L : List Int) (i : Nat) : Nat := (L.getD i 0).toNat
theorem dgN_lt {L : List Int} (h : ∀ x ∈ L, Dg 65536 x) (i : Nat) : dgN L i < 65536 ∧ ((dgN L i : Nat) : Int) = L.getD i 0 := by
  have := at_dg h i
  unfold dgN
  omega
theorem dgN_out {L : List Int} {i : Nat} (h : L.length ≤ i) : dgN L i = 0 := by unfold dgN; simp [List.getD, List.getElem?_eq_none h]
theorem sm_eq {A B : List Int} (hA : ∀ x ∈ A, Dg 65536 x) (hB : ∀ x ∈ B, Dg 65536 x) {k : Nat} (hk : k ≤ 1) (i : Nat) : sm A B k i = ((k + dgN A i + dgN B i : Nat) : Int) := by
  have h1 := dgN_lt hA i
  have h2 := dgN_lt hB i
  unfold sm
  rw [atN_nat, atN_nat, ← h1.2, ← h2.2, wrap32 (n := (k : Int) + _) (by omega) (by omega), wrap32 (by omega) (by omega)]
  omega
theorem tmod_nat (a : Nat) : ((a : Int)).tmod 65536 = ((a % 65536 : Nat) : Int) := by rw [Int.tmod_eq_emod_of_nonneg (by omega)]; omega
theorem tdiv_nat {a : Nat} (h : a < 4294967296) : IntKind.u32.wrap ((a : Int).tdiv 65536) = ((a / 65536 : Nat) : Int) := by
  rw [Int.tdiv_eq_ediv_of_nonneg (by omega), wrap32 (by omega) (by omega)]
  omega
theorem okW {p : Bool × Bool} {l : Log} (h : p.1 = p.2) (hl : okLog l) : okLog (p :: l) := okTwo h hl
section
variable {x y : List Value × TypeId} {p q : Option Addr} {n c n' c' : Nat} {A B : List Int}
theorem kept_base (NA : Nu 0 x p n c A) (NB : Nu 1 y q n' c' B) {h : Hp} (h0 : h.blk? 0 = some x) (h1 : h.blk? 1 = some y) : ∀ i z, (⟨2, [y, x]⟩ : Hp).blk? i = some z → h.blk? i = some z ∧ ∀ v ∈ z.1, still v = true := fun i z hz => by
  rcases blkTwo hz with ⟨rfl, rfl⟩ | ⟨rfl, rfl⟩
  · exact ⟨h0, NA.st⟩
  · exact ⟨h1, NB.st⟩
/-- one round of Add -/
theorem uadd_round (NA : Nu 0 x p n c A) (NB : Nu 1 y q n' c' B) (hA : ∀ x ∈ A, Dg 65536 x) (hB : ∀ x ∈ B, Dg 65536 x) {k i : Nat} {O : List Int} (hk : k ≤ 1) (hi : i < 1073741823) (hO : O.length = i) (hgo : i < n ∨ i < n' ∨ 0 < k) {Y : Lf}
    (hY : (i = 0 ∧ k = 0 ∧ (∃ g, Y.1 = [.slice p n c, .slice q n' c', undef, undef, nilS, nilS, .int .u32 (k : Nat), .int .i64 (i : Nat)] ++ tl 34 g) ∧ Y.2.1 = hp2 y x) ∨ (0 < i ∧ (∃ g, Y.1 = [.slice p n c, .slice q n' c', undef, undef, nilS, sl 2 0 i grown, .int .u32 (k : Nat), .int .i64 (i : Nat)] ++ tl 34 g) ∧ Y.2.1 = hu3 (wU O) y x)) :
    RunsW (tabH Try.prog extY conN hcV) (aLoop Try.f18) Y fun e z => e = none ∧ (∃ g, z.1 = [.slice p n c, .slice q n' c', undef, undef, nilS, sl 2 0 (i + 1) grown, .int .u32 ((k + dgN A i + dgN B i) / 65536 : Nat), .int .i64 ((i + 1 : Nat) : Int)] ++ tl 34 g) ∧ z.2.1 = hu3 (wU (O ++ [(((k + dgN A i + dgN B i) % 65536 : Nat) : Int)])) y x := by
  obtain ⟨t, h', s⟩ := Y
  have hd1 := (dgN_lt hA i).1
  have hd2 := (dgN_lt hB i).1
  have es := sm_eq hA hB hk i
  have e1 : (sm A B k i).tmod 65536 = (((k + dgN A i + dgN B i) % 65536 : Nat) : Int) := by rw [es, tmod_nat]
  have e2 : IntKind.u32.wrap ((sm A B k i).tdiv 65536) = (((k + dgN A i + dgN B i) / 65536 : Nat) : Int) := by rw [es, tdiv_nat (by omega)]
  have e3 : IntKind.i64.wrap ((i : Int) + 1) = ((i + 1 : Nat) : Int) := by rw [wrapI (by omega) (by omega)]; omega
  rcases hY with ⟨h0, k0, ⟨g, ht⟩, hh⟩ | ⟨h0, ⟨g, ht⟩, hh⟩
  · simp only at ht hh
    subst ht hh
    have r0 := NA.row (hp2 y x) rfl
    have r1 := NB.row (hp2 y x) rfl
    have fin : RunsW (tabH Try.prog extY conN hcV) (aLoop Try.f18) ([.slice p n c, .slice q n' c', undef, undef, nilS, nilS, .int .u32 (k : Nat), .int .i64 (i : Nat)] ++ tl 34 g, hp2 y x, s) fun e z => e = none ∧ (∃ g, z.1 = [.slice p n c, .slice q n' c', undef, undef, nilS, sl 3 0 1 grown, .int .u32 (IntKind.u32.wrap ((sm A B k i).tdiv 65536)), .int .i64 (IntKind.i64.wrap ((i : Int) + 1))] ++ tl 34 g) ∧ z.2.1 = ⟨4, [([.int .u32 ((sm A B k i).tmod 65536)], tU), ([.int .u32 ((sm A B k i).tmod 65536)], tU), y, x]⟩ := by
      by_cases ha : i < n
      · have := goesT_runsW (tabH_ok conN_ok hcV_ok) (s0 := s) (uadd_nil0 p q n c n' c' k i x y g) (okW rfl (okW r1.1 (okW r0.1 (okOne (decide_eq_true (by omega))))))
        rw [r0.2, r1.2] at this
        exact this
      · have := goesT_runsW (tabH_ok conN_ok hcV_ok) (s0 := s) (uadd_nil1 p q n c n' c' k i x y g) (okW rfl (okW r1.1 (okW r0.1 (okW (decide_eq_true (by omega)) (okOne (decide_eq_false (by omega)))))))
        rw [r0.2, r1.2] at this
        exact this
    have hO' : O = [] := List.length_eq_zero_iff.1 (by omega)
    rw [e1, e2, e3] at fin
    have := fin.kept (k := 2) (b := 3) (base := [y, x]) (y := ([.int .u32 (((k + dgN A i + dgN B i) % 65536 : Nat) : Int)], tU)) (front' := [.slice p n c, .slice q n' c', undef, undef, nilS, sl 2 0 1 grown, .int .u32 ((k + dgN A i + dgN B i) / 65536 : Nat), .int .i64 ((i + 1 : Nat) : Int)]) rfl
      (by simp only [List.map_cons, List.map_nil, NA.rn (f := keepK 2 3) rfl, NB.rn (f := keepK 2 3) rfl]; kernel_rfl) (kept_base NA NB rfl rfl) rfl (by omega) (fun v hv => by rw [List.mem_singleton.1 hv]; rfl) (fun v hv => by
        simp only [List.mem_cons, List.not_mem_nil, or_false] at hv
        rcases hv with rfl | rfl | rfl | rfl | rfl | rfl | rfl | rfl
        · exact NA.lt (by omega)
        · exact NB.lt (by omega)
        all_goals rfl)
    refine this.mono fun e z hz => ?_
    obtain ⟨rfl, ⟨g', q1⟩, q2⟩ := hz
    subst hO' h0
    exact ⟨rfl, ⟨g', q1⟩, q2⟩
  · simp only at ht hh
    subst ht hh
    have r0 := NA.row (hu3 (wU O) y x) rfl
    have r1 := NB.row (hu3 (wU O) y x) rfl
    have hchk : appChk tU (wU O, tU) ([.int .u32 ((sm A B k i).tmod 65536)], tU) i 0 1 = true :=
      appChk_of (L := O) (M := [(sm A B k i).tmod 65536]) hO.symm (show 0 < 1 by omega) (by show O.length + 1 ≤ _; omega)
    have fin : RunsW (tabH Try.prog extY conN hcV) (aLoop Try.f18) ([.slice p n c, .slice q n' c', undef, undef, nilS, sl 2 0 i grown, .int .u32 (k : Nat), .int .i64 (i : Nat)] ++ tl 34 g, hu3 (wU O) y x, s) fun e z => e = none ∧ (∃ g, z.1 = [.slice p n c, .slice q n' c', undef, undef, nilS, sl 4 0 (i + 1) grown, .int .u32 (IntKind.u32.wrap ((sm A B k i).tdiv 65536)), .int .i64 (IntKind.i64.wrap ((i : Int) + 1))] ++ tl 34 g) ∧ z.2.1 = ⟨5, [(wU O ++ [.int .u32 ((sm A B k i).tmod 65536)], tU), ([.int .u32 ((sm A B k i).tmod 65536)], tU), ([], 2 * dead), y, x]⟩ := by
      by_cases ha : i < n
      · have hl : okLog (aLog 0 n n' k i) := okOne (decide_eq_true (by omega))
        have := goesT_runsW (tabH_ok conN_ok hcV_ok) (s0 := s) (uadd_some0 p q n c n' c' i k i x y (wU O) g) (by rw [r0.2, r1.2]; exact okW hchk (okW rfl (okW r1.1 (okW r0.1 hl))))
        rw [r0.2, r1.2] at this
        exact this
      · by_cases hb : i < n'
        · have hl : okLog (aLog 1 n n' k i) := okW (decide_eq_true (by omega)) (okOne (decide_eq_false (by omega)))
          have := goesT_runsW (tabH_ok conN_ok hcV_ok) (s0 := s) (uadd_some1 p q n c n' c' i k i x y (wU O) g) (by rw [r0.2, r1.2]; exact okW hchk (okW rfl (okW r1.1 (okW r0.1 hl))))
          rw [r0.2, r1.2] at this
          exact this
        · have hl : okLog (aLog 2 n n' k i) := okW (decide_eq_true (by omega)) (okW (decide_eq_false (by omega)) (okOne (decide_eq_false (by omega))))
          have := goesT_runsW (tabH_ok conN_ok hcV_ok) (s0 := s) (uadd_some2 p q n c n' c' i k i x y (wU O) g) (by rw [r0.2, r1.2]; exact okW hchk (okW rfl (okW r1.1 (okW r0.1 hl))))
          rw [r0.2, r1.2] at this
          exact this
    rw [e1, e2, e3] at fin
    have ew : wU O ++ [.int .u32 (((k + dgN A i + dgN B i) % 65536 : Nat) : Int)] = wU (O ++ [(((k + dgN A i + dgN B i) % 65536 : Nat) : Int)]) := by rw [wU_append]; rfl
    rw [ew] at fin
    have := fin.kept (k := 2) (b := 4) (base := [y, x]) (y := (wU (O ++ [(((k + dgN A i + dgN B i) % 65536 : Nat) : Int)]), tU)) (front' := [.slice p n c, .slice q n' c', undef, undef, nilS, sl 2 0 (i + 1) grown, .int .u32 ((k + dgN A i + dgN B i) / 65536 : Nat), .int .i64 ((i + 1 : Nat) : Int)]) rfl
      (by simp only [List.map_cons, List.map_nil, NA.rn (f := keepK 2 4) rfl, NB.rn (f := keepK 2 4) rfl]; kernel_rfl) (kept_base NA NB rfl rfl) rfl (by omega) (wU_still _) (fun v hv => by
        simp only [List.mem_cons, List.not_mem_nil, or_false] at hv
        rcases hv with rfl | rfl | rfl | rfl | rfl | rfl | rfl | rfl
        · exact NA.lt (by omega)
        · exact NB.lt (by omega)
        all_goals rfl)
    exact this
/-- the state of Add's loop: i digits are there, k is carried -/
def aSt (x y : List Value × TypeId) (p q : Option Addr) (n c n' c' : Nat) (O : List Int) (i k : Nat) (Y : Lf) : Prop :=
  (i = 0 ∧ k = 0 ∧ (∃ g, Y.1 = [.slice p n c, .slice q n' c', undef, undef, nilS, nilS, .int .u32 (k : Nat), .int .i64 (i : Nat)] ++ tl 34 g) ∧ Y.2.1 = hp2 y x) ∨ (0 < i ∧ (∃ g, Y.1 = [.slice p n c, .slice q n' c', undef, undef, nilS, sl 2 0 i grown, .int .u32 (k : Nat), .int .i64 (i : Nat)] ++ tl 34 g) ∧ Y.2.1 = hu3 (wU O) y x)
def aInv (x y : List Value × TypeId) (p q : Option Addr) (n c n' c' : Nat) (A B : List Int) (m : Nat) (Y : Lf) : Prop :=
  ∃ (i k : Nat) (O : List Int), O.length = i ∧ m = max n n' + 1 - i ∧ i ≤ max n n' + 1 ∧ k ≤ 1 ∧ (i = max n n' + 1 → k = 0) ∧ (∀ x ∈ O, Dg 65536 x) ∧ vb 65536 O + 65536 ^ O.length * k = vb 65536 (A.take i) + vb 65536 (B.take i) ∧ aSt x y p q n c n' c' O i k Y
def aFinV (x y : List Value × TypeId) (p q : Option Addr) (n c n' c' : Nat) (A B : List Int) (Y : Lf) : Prop :=
  ∃ (i : Nat) (O : List Int), O.length = i ∧ i ≤ max n n' + 1 ∧ (∀ x ∈ O, Dg 65536 x) ∧ vb 65536 O = vb 65536 A + vb 65536 B ∧ n ≤ i ∧ n' ≤ i ∧ aSt x y p q n c n' c' O i 0 Y
theorem uadd_loop (NA : Nu 0 x p n c A) (NB : Nu 1 y q n' c' B) (lA : A.length = n) (lB : B.length = n') (hA : ∀ x ∈ A, Dg 65536 x) (hB : ∀ x ∈ B, Dg 65536 x) (hn : max n n' + 2 < 1073741824) (g : Nat → Value) :
    RunsW (tabH Try.prog extY conN hcV) (.block 0 (.loop (aLoop Try.f18))) ([.slice p n c, .slice q n' c', undef, undef, nilS, nilS, .int .u32 0, .int .i64 0] ++ tl 34 g, hp2 y x, []) fun e Y => match e with | none => aFinV x y p q n c n' c' A B Y | some none => False | some (some _) => False := by
  refine RunsW.forLoop (P := aFinV x y p q n c n' c' A B) (R := fun _ => False) (aInv x y p q n c n' c' A B) ?_ (n := max n n' + 1) ⟨0, 0, [], rfl, by omega, by omega, by omega, by omega, (fun x hx => by cases hx), by simp [vb], .inl ⟨rfl, rfl, ⟨g, rfl⟩, rfl⟩⟩
  rintro m Y ⟨i, k, O, hO, hm, hi, hk, hk0, hOd, hval, hY⟩
  by_cases hgo : i < n ∨ i < n' ∨ 0 < k
  · have hmx : i ≤ max n n' := by
      rcases Nat.lt_or_ge i (max n n' + 1) with h | h
      · omega
      · have : k = 0 := hk0 (by omega)
        omega
    have r := uadd_round NA NB hA hB hk (by omega) hO hgo hY
    refine r.mono fun e z hz => ?_
    obtain ⟨rfl, z1, z2⟩ := hz
    have d1 := (dgN_lt hA i).1
    have d2 := (dgN_lt hB i).1
    refine ⟨max n n' + 1 - (i + 1), by omega, i + 1, (k + dgN A i + dgN B i) / 65536, O ++ [(((k + dgN A i + dgN B i) % 65536 : Nat) : Int)], by simp [hO], rfl, by omega, by omega, fun he => ?_, fun x hx => ?_, ?_, .inr ⟨by omega, z1, z2⟩⟩
    · have z1 : dgN A i = 0 := dgN_out (by omega)
      have z2 : dgN B i = 0 := dgN_out (by omega)
      omega
    · rcases List.mem_append.1 hx with hx | hx
      · exact hOd x hx
      · rw [List.mem_singleton.1 hx]
        exact ⟨by omega, by omega⟩
    · have := sum_stepB (a := dgN A i) (c := dgN B i) hval
      rw [vb_take, vb_take, ← hO]
      rw [List.length_append]
      rw [hO] at this ⊢
      exact this
  · have hk : k = 0 := by omega
    subst hk
    have ha : n ≤ i := by omega
    have hb : n' ≤ i := by omega
    have out : ∀ (v : Value) (h : Hp) (g : Nat → Value) (s : List Dec), RunsW (tabH Try.prog extY conN hcV) (aLoop Try.f18) ([.slice p n c, .slice q n' c', undef, undef, nilS, v, .int .u32 ((0 : Nat) : Int), .int .i64 (i : Nat)] ++ tl 34 g, h, s) fun e z => e = some (some 0) ∧ (∃ g, z.1 = [.slice p n c, .slice q n' c', undef, undef, nilS, v, .int .u32 ((0 : Nat) : Int), .int .i64 (i : Nat)] ++ tl 34 g) ∧ z.2.1 = h := fun v h g s =>
      goesT_runsW (tabH_ok conN_ok hcV_ok) (uadd_out p q n c n' c' v 0 i h g) (okW rfl (okW (decide_eq_false (by omega)) (okOne (decide_eq_false (by omega)))))
    have hv : vb 65536 O = vb 65536 A + vb 65536 B := by
      rw [List.take_of_length_le (by omega), List.take_of_length_le (by omega)] at hval
      omega
    obtain ⟨t, h', s⟩ := Y
    rcases hY with ⟨h0, k0, ⟨g, ht⟩, hh⟩ | ⟨h0, ⟨g, ht⟩, hh⟩
    · simp only at ht hh
      subst ht hh
      refine (out nilS _ g s).mono fun e z hz => ?_
      obtain ⟨rfl, z1, z2⟩ := hz
      exact ⟨rfl, i, O, hO, hi, hOd, hv, ha, hb, .inl ⟨h0, rfl, z1, z2⟩⟩
    · simp only at ht hh
      subst ht hh
      refine (out (sl 2 0 i grown) _ g s).mono fun e z hz => ?_
      obtain ⟨rfl, z1, z2⟩ := hz
      exact ⟨rfl, i, O, hO, hi, hOd, hv, ha, hb, .inr ⟨h0, z1, z2⟩⟩
theorem uadd_runs (NA : Nu 0 x p n c A) (NB : Nu 1 y q n' c' B) (lA : A.length = n) (lB : B.length = n') (hA : ∀ x ∈ A, Dg 65536 x) (hB : ∀ x ∈ B, Dg 65536 x) (hn : max n n' + 2 < 1073741824) (h0 : 0 < n ∨ 0 < n') {V : Nat} (hV : V = vb 65536 A + vb 65536 B) :
    RunsW (tabH Try.prog extY conN hcV) (seqs (aPreV Try.f18) (.seq (.seq (aR3 Try.f18) (.block 0 (.loop (aLoop Try.f18)))) (aEnd Try.f18))) ([.slice p n c, .slice q n' c'] ++ List.replicate 40 undef, hp2 y x, []) fun e z => (e = none ∨ e = some none) ∧ resS Try.prog Try.f18 z.1 z.2.1 = some (sl 2 0 (d16 V).length (d16 V).length) ∧ ∃ r, z.2.1.blk? 2 = some (wU (d16 V) ++ r, tU) := by
  refine goesT_listW (tabH_ok conN_ok hcV_ok) (uadd_pre _ _ _) (fun x hx => by cases hx) fun g => ?_
  refine seqW3 (goesT_runsW (tabH_ok conN_ok hcV_ok) (uadd_r3 _ _ _ g) (fun x hx => by cases hx)) (fun e y he => by cases he.1) (P2 := fun e Y => match e with | none => aFinV x y p q n c n' c' A B Y | some none => False | some (some _) => False) ?_ ?_ ?_
  · rintro ⟨t, h', s⟩ ⟨_, ⟨g', ht⟩, hh⟩
    simp only at ht hh
    subst ht hh
    exact RunsW.script (uadd_loop NA NB lA lB hA hB hn g')
  · intro e y he
    match e, he with
    | none, he => exact he
    | some id, he => exact he
  · rintro ⟨t, h', s⟩ ⟨i, O, hO, hi, hOd, hv, ha, hb, hY⟩
    rcases hY with ⟨e0, _⟩ | ⟨_, ⟨g', ht⟩, hh⟩
    · omega
    · simp only at ht hh
      subst ht hh
      have hrow : rowC tU (wU O) 0 i grown = true := by
        rw [← hO]
        exact rowC_wU (fun x hx => ⟨(hOd x hx).1, by have := (hOd x hx).2; omega⟩) (by omega) (capG _)
      refine (goesT_runsW (tabH_ok conN_ok hcV_ok) (uadd_end _ _ i 0 i x y (wU O) g') (okOne hrow)).mono fun e z he => ?_
      obtain ⟨rfl, ⟨g2, e1⟩, e2⟩ := he
      have et : trimN (cutI (wU O) 0 i) = (d16 V).length := by
        rw [← hO, cut_wU, trim_len (by omega) hOd, hv, ← hV]
        rfl
      refine ⟨.inr rfl, ?_, ?_⟩
      · rw [e1, e2, et]
        rfl
      · rw [e2]
        refine ⟨wU (O.drop (trimN O)), ?_⟩
        have e3 : wU (d16 V) ++ wU (O.drop (trimN O)) = wU O := by
          unfold d16
          rw [hV, ← hv, ← take_trim (by omega) _ hOd, ← wU_append, List.take_append_drop]
        rw [e3]
        rfl
end
theorem rows_hp2 {x y : List Value × TypeId} {p q : Option Addr} {n c n' c' : Nat} {A B : List Int} (NA : Nu 0 x p n c A) (NB : Nu 1 y q n' c' B) : (hp2 y x).rows := by
  refine ⟨rfl, fun b z hz => ?_⟩
  rcases blkTwo hz with ⟨rfl, rfl⟩ | ⟨rfl, rfl⟩
  · exact ⟨NA.ros.1, NA.lt0, NA.ros.2⟩
  · exact ⟨NB.ros.1, NB.lt0, NB.ros.2⟩
theorem fits_hp2 {x y : List Value × TypeId} {h : Hp} {a b : Nat} (hx : tomb x.2 = false → ∃ z r, h.blk? a = some z ∧ tomb z.2 = false ∧ rt z.2 = rt x.2 ∧ z.1 = x.1 ++ r) (hy : tomb y.2 = false → ∃ z r, h.blk? b = some z ∧ tomb z.2 = false ∧ rt z.2 = rt y.2 ∧ z.1 = y.1 ++ r) : (hp2 y x).fits (pair a b) h := by
  intro i z hz ht
  rcases blkTwo hz with ⟨rfl, rfl⟩ | ⟨rfl, rfl⟩
  · exact hx ht
  · exact hy ht
theorem uadd_body1 : Try.f18.body = some (cBody Try.f18) := by kernel_rfl
/-- the two rows of a call, and what is asked of them -/
def two16 (h : Hp) (p q : Option Addr) (n c n' c' : Nat) : Bool := rowP h p n c && rowP h q n' c' && dgB (rowOf h p n) && dgB (rowOf h q n') && Nat.blt (max n n' + 2) 1073741824
theorem two16_of {h : Hp} {p q : Option Addr} {n c n' c' : Nat} (hr : two16 h p q n c n' c' = true) : rowP h p n c = true ∧ rowP h q n' c' = true ∧ (∀ x ∈ rowOf h p n, Dg 65536 x) ∧ (∀ x ∈ rowOf h q n', Dg 65536 x) ∧ max n n' + 2 < 1073741824 := by
  unfold two16 at hr
  simp only [Bool.and_eq_true] at hr
  obtain ⟨⟨⟨⟨h1, h2⟩, h3⟩, h4⟩, h5⟩ := hr
  exact ⟨h1, h2, dgB_of h3, dgB_of h4, blt_iff.1 h5⟩
def vO (h : Hp) (p : Option Addr) (n : Nat) : Nat := vb 65536 (rowOf h p n)
/-- a number that is made: its row in a block of its own -/
theorem d16_dg (A : Nat) : ∀ x ∈ d16 A, Dg 65536 x := db_dg (by omega) A
def mk16 (V : Nat) (h : Hp) (s : List Dec) (lg : Log) : Option (Value × Hp × List Dec × Log) := some (sl h.n 0 (d16 V).length (d16 V).length, h.push (wU (d16 V)) tU, s, lg)
def gUadd : AnsH := fun vals h s =>
  match vals, s with
  | [.slice p n c, .slice q n' c'], .inr (.inr (.inr (.inl d))) :: s' =>
    match d with
    | true => mk16 (vO h p n + vO h q n') h s' [(two16 h p q n c n' c', true), (decide (0 < n ∨ 0 < n'), true)]
    | false => some (nilS, h, s', [(two16 h p q n c n' c', true), (decide (0 < n ∨ 0 < n'), false)])
  | _, _ => none
theorem gUadd_ok : AnsHOk 18 gUadd := by
  intro vals h s v h' s' lg hg hl m B w E hv
  unfold gUadd at hg
  split at hg
  · rename_i p n c q n' c' d s2
    split at hg
    · unfold mk16 at hg
      cases hg
      have q1 := hl _ (List.mem_cons_self)
      have q2 := hl _ (List.mem_cons_of_mem _ (List.mem_singleton.2 rfl))
      simp only [decide_eq_true_eq] at q1 q2
      obtain ⟨r1, r2, d1, d2, hn⟩ := two16_of q1
      obtain ⟨x, p', a, NA, eA, fA⟩ := nu_of 0 r1
      obtain ⟨y, q', b, NB, eB, fB⟩ := nu_of 1 r2
      have r := uadd_runs NA NB (rowOf_len r1) (rowOf_len r2) d1 d2 hn q2 rfl
      have := row_calls1 (T := tabH Try.prog extY conN hcV) Try.func18 uadd_body (rows_hp2 NA NB) (vals := [.slice p' n c, .slice q' n' c']) (fun v hv => by
        simp only [List.mem_cons, List.not_mem_nil, or_false] at hv
        rcases hv with rfl | rfl
        · exact NA.lt (by show 0 < 2; omega)
        · exact NB.lt (by show 1 < 2; omega)) (k := 2) (cs := wU (d16 (vO h p n + vO h q n'))) (ty := tU) (wU_lt _) (by kernel_rfl) r (by rfl) E (s := pair a b) (fits_hp2 fA fB)
      simp only [List.map_cons, List.map_nil] at this
      rw [eA _ rfl, eB _ rfl] at this
      exact this
    · cases hg
      have q1 := hl _ (List.mem_cons_self)
      have q2 := hl _ (List.mem_cons_of_mem _ (List.mem_singleton.2 rfl))
      simp only [decide_eq_false_iff_not] at q1 q2
      obtain ⟨r1, r2, d1, d2, hn⟩ := two16_of q1
      obtain ⟨x, p', a, NA, eA, fA⟩ := nu_of 0 r1
      obtain ⟨y, q', b, NB, eB, fB⟩ := nu_of 1 r2
      have hr : Runs (tabH Try.prog extY conN hcV) (cBody Try.f18) ([.slice p' n c, .slice q' n' c'] ++ List.replicate 40 undef, hp2 y x, []) fun e z => (e = none ∨ e = some none) ∧ resS Try.prog Try.f18 z.1 z.2.1 = some nilS := by
        refine (goesT_runs (tabH_ok conN_ok hcV_ok) (uadd_empty p' q' n c n' c' _) (okW rfl (okW (decide_eq_false (by omega)) (okOne (decide_eq_false (by omega)))))).mono fun e z he => ?_
        obtain ⟨rfl, ⟨g, e2⟩, e3⟩ := he
        refine ⟨.inr rfl, ?_⟩
        rw [e2, e3]
        rfl
      have := row_calls0 (T := tabH Try.prog extY conN hcV) Try.func18 uadd_body1 (rows_hp2 NA NB) (vals := [.slice p' n c, .slice q' n' c']) (fun v hv => by
        simp only [List.mem_cons, List.not_mem_nil, or_false] at hv
        rcases hv with rfl | rfl
        · exact NA.lt (by show 0 < 2; omega)
        · exact NB.lt (by show 1 < 2; omega)) (v := nilS) (by rfl) hr.w E (s := pair a b) (fits_hp2 fA fB)
      simp only [List.map_cons, List.map_nil] at this
      rw [eA _ rfl, eB _ rfl] at this
      exact this
  · cases hg
end Go.Proofs.Ytmgcnijpoklhkaa
namespace Go.Proofs.Ytmgcnijpoklhkaa
open Go.KRun Go.Wd Go.Nt
set_option maxRecDepth 100000
def hcO : Hc := altH 27 gFrom hcN
theorem hcO_ok : HcOk hcO := altH_ok Try.func27 rfl gFrom_ok hcN_ok
/-- the halves of a word -/
def lo4 (z : Int) : Int := IntKind.u32.wrap (z.tmod 4294967296)
def hi4 (z : Int) : Int := IntKind.u32.wrap (IntKind.u64.wrap (z.tdiv 4294967296))
def c8L (x : W4) : List Int := [lo4 x.a, hi4 x.a, lo4 x.b, hi4 x.b, lo4 x.c, hi4 x.c, lo4 x.d, hi4 x.d]
def c2 (z : Int) : List Value × TypeId := ([.int .u32 (lo4 z), .int .u32 (hi4 z)], tU)
def tbF : List Value × TypeId := ([], 2 * dead)
def ofT (x : W4) : Nat := v32 (wU (c8L x)) 0 8
def ofHpG (A : List Value × TypeId) (x : W4) : Hp := ⟨10, [A, (wU (c8L x), tU), c2 x.d, tbF, c2 x.c, tbF, c2 x.b, tbF, c2 x.a, ([.int .u64 x.a, .int .u64 x.b, .int .u64 x.c, .int .u64 x.d], 23)]⟩
def ofHp (x : W4) : Hp := ofHpG (wU (d16 (ofT x)), tU) x
theorem ofHp_blk (A : List Value × TypeId) (x : W4) : (ofHpG A x).blk? 9 = some A := rfl
theorem of_body (x : W4) : GoesT (evC (tabH Try.prog extY conN hcO) 600 false (cBody Try.f9) ([vW x] ++ List.replicate 23 undef, ⟨0, []⟩, [at_, at_, at_, at_, at_, at_, at_, at_, at_, at_, at_, at_, cmp false, cmp true]) ⟨[], [], []⟩) 3 21 (some none) [vW x, .pointer (some ⟨0, 0, none⟩), sl 9 0 (d16 (ofT x)).length (d16 (ofT x)).length] (ofHp x) [(rowC tU (wU (c8L x)) 0 8 grown && (wU (c8L x)).all still && Nat.ble (2 * 8) 1073741824, true), (true, true), (false, false), (true, true), (true, true), (true, true), (true, true), (true, true), (true, true), (true, true), (true, true), (true, true), (true, true), (true, true), (true, true)] := ⟨by kernel_rfl, by kernel_rfl, by kernel_rfl⟩
theorem of_res (x : W4) (h : Hp) (g : Nat → Value) : resS Try.prog Try.f9 ([vW x, .pointer (some ⟨0, 0, none⟩), sl 9 0 (d16 (ofT x)).length (d16 (ofT x)).length] ++ tl 21 g) h = some (sl 9 0 (d16 (ofT x)).length (d16 (ofT x)).length) := by
  generalize (d16 (ofT x)).length = L
  rfl
theorem of_cbody : Try.f9.body = some (cBody Try.f9) := by kernel_rfl
theorem lo4_eq {z : Int} (h : 0 ≤ z ∧ z < 18446744073709551616) : lo4 z = z % 4294967296 := by
  unfold lo4
  rw [Int.tmod_eq_emod_of_nonneg h.1]
  simp [IntKind.wrap, IntKind.bits, IntKind.signed]
theorem hi4_eq {z : Int} (h : 0 ≤ z ∧ z < 18446744073709551616) : hi4 z = z / 4294967296 := by
  unfold hi4
  rw [Int.tdiv_eq_ediv_of_nonneg h.1]
  simp [IntKind.wrap, IntKind.bits, IntKind.signed]
  omega
theorem c8_rng {x : W4} (h : x.ok) : ∀ z ∈ c8L x, 0 ≤ z ∧ z < 4294967296 := by
  obtain ⟨h1, h2, h3, h4⟩ := h
  intro z hz
  unfold c8L at hz
  rw [lo4_eq h1, lo4_eq h2, lo4_eq h3, lo4_eq h4, hi4_eq h1, hi4_eq h2, hi4_eq h3, hi4_eq h4] at hz
  simp only [List.mem_cons, List.not_mem_nil, or_false] at hz
  rcases hz with rfl | rfl | rfl | rfl | rfl | rfl | rfl | rfl <;> omega
theorem halves {z : Int} (h : 0 ≤ z ∧ z < 18446744073709551616) : (lo4 z).toNat + 4294967296 * (hi4 z).toNat = z.toNat := by
  rw [lo4_eq h, hi4_eq h]
  omega
theorem ofT_is {x : W4} (h : x.ok) : ofT x = x.nat := by
  have hl : (c8L x).length = 8 := rfl
  have e : cutI (wU (c8L x)) 0 8 = c8L x := by rw [← hl]; exact cut_wU (c8L x)
  have hv : x.nat = x.a.toNat + 18446744073709551616 * x.b.toNat + 340282366920938463463374607431768211456 * x.c.toNat + 6277101735386680763835789423207666416102355444464034512896 * x.d.toNat := by
    obtain ⟨h1, h2, h3, h4⟩ := h
    unfold W4.nat W4.val
    omega
  unfold ofT v32
  rw [e, hv]
  obtain ⟨h1, h2, h3, h4⟩ := h
  rw [← halves h1, ← halves h2, ← halves h3, ← halves h4]
  unfold c8L
  simp only [vb]
  omega
theorem c8_row {x : W4} (h : x.ok) : (rowC tU (wU (c8L x)) 0 8 grown && (wU (c8L x)).all still && Nat.ble (2 * 8) 1073741824) = true := by
  have e1 : (wU (c8L x)).all still = true := List.all_eq_true.2 (wU_still _)
  have e2 : (cutV (wU (c8L x)) 0 8).all isU = true := by
    rw [List.all_eq_true]
    intro v hv
    have hv' : v ∈ wU (c8L x) := List.mem_of_mem_drop (List.mem_of_mem_take hv)
    unfold wU at hv'
    obtain ⟨z, hz, rfl⟩ := List.mem_map.1 hv'
    exact decide_eq_true (c8_rng h z hz)
  unfold rowC
  rw [e1, e2]
  rfl
theorem okTs {l : Log} (h : (l.all fun p => p.1 == p.2) = true) : okLog l := fun p hp => by simpa using List.all_eq_true.1 h p hp
def gOf5 : AnsH := fun vals h s =>
  match vals with
  | [v] => match w4 v with
    | some x => mk16 x.nat h s [(decide x.ok, true)]
    | none => none
  | _ => none
theorem gOf5_ok : AnsHOk 9 gOf5 := by
  intro vals h s v h' s' lg hg hl m B w E hv
  unfold gOf5 at hg
  split at hg
  · split at hg
    · rename_i u x hx
      unfold mk16 at hg
      cases hg
      have l1 := of_decide_eq_true (hl _ (List.mem_singleton.2 rfl))
      rw [w4_spec hx]
      have eT := ofT_is l1
      have r : Runs (tabH Try.prog extY conN hcO) (cBody Try.f9) ([vW x] ++ List.replicate 23 undef, ⟨0, []⟩, []) fun e z => (e = none ∨ e = some none) ∧ resS Try.prog Try.f9 z.1 z.2.1 = some (sl 9 0 (d16 x.nat).length (d16 x.nat).length) ∧ ∃ r, z.2.1.blk? 9 = some (wU (d16 x.nat) ++ r, tU) := by
        have g := of_body x
        have hb := ofHp_blk (wU (d16 (ofT x)), tU) x
        have hr := of_res x (ofHp x)
        change (ofHp x).blk? 9 = _ at hb
        refine (goesT_runs (tabH_ok conN_ok hcO_ok) g (okCons (c8_row l1) (okTs (by decide)))).mono fun e z he => ?_
        obtain ⟨rfl, ⟨g, e1⟩, e2⟩ := he
        refine ⟨.inr rfl, ?_, [], ?_⟩
        · rw [e1, e2, ← eT]
          exact hr g
        · rw [e2, List.append_nil, ← eT]
          exact hb
      generalize hL : (d16 x.nat).length = L at r ⊢
      have hA : ∀ u ∈ wU (d16 x.nat), lt1 0 u = true := wU_lt _
      generalize wU (d16 x.nat) = A at r hA ⊢
      have := row_calls1 (T := tabH Try.prog extY conN hcO) Try.func9 of_cbody (h0 := ⟨0, []⟩) ⟨rfl, fun b x hx => by have : b < 0 := Hp.blk_lt hx; omega⟩ (vals := [vW x]) (fun v hv => by rw [List.mem_singleton.1 hv]; rfl) (k := 9) (cs := A) (ty := tU) hA (by kernel_rfl) r.w (by rfl) E (s := fun i => i) (fun i x hx _ => by have : i < 0 := Hp.blk_lt hx; omega)
      have er : [vW x].map (rn fun i => i) = [vW x] := by simp [vW, rn, rn2, rn1]
      have e2 : rn (fun _ => h.n) (sl 9 0 L L) = sl h.n 0 L L := by simp [rn, rn2, rn1, sl]
      rw [er, e2] at this
      exact this
    · cases hg
  · cases hg
end Go.Proofs.Ytmgcnijpoklhkaa
namespace Go.Proofs.Ytmgcnijpoklhkaa
open Go.KRun Go.Nt
set_option maxRecDepth 100000
def cmpZ (a b : Nat) : Int := if a < b then -1 else if a = b then 0 else 1
theorem vb_split (b : Nat) (L : List Int) (k : Nat) : vb b L = vb b (L.take k) + b ^ k * vb b (L.drop k) := by
  by_cases h : k ≤ L.length
  · have e : (L.take k).length = k := by rw [List.length_take]; omega
    have := vb_append b (L.take k) (L.drop k)
    rw [List.take_append_drop, e] at this
    exact this
  · rw [List.take_of_length_le (by omega), List.drop_eq_nil_of_le (by omega)]
    simp [vb]
theorem vb_drop {L : List Int} (k : Nat) : vb 65536 (L.drop k) = dgN L k + 65536 * vb 65536 (L.drop (k + 1)) := by
  by_cases h : k < L.length
  · rw [List.drop_eq_getElem_cons h]
    simp only [vb, dgN]
    rw [getD_get h]
  · rw [List.drop_eq_nil_of_le (by omega), List.drop_eq_nil_of_le (by omega), dgN_out (by omega)]
    rfl
theorem take_lt {L : List Int} (h : ∀ x ∈ L, Dg 65536 x) (k : Nat) : vb 65536 (L.take k) < 65536 ^ k := by
  have h1 := vb_lt (b := 65536) (by omega) (L.take k) (fun x hx => h x (List.mem_of_mem_take hx))
  have h2 : (L.take k).length ≤ k := by rw [List.length_take]; omega
  exact Nat.lt_of_lt_of_le h1 (Nat.pow_le_pow_right (by omega) h2)
theorem less_of {A B : List Int} (hA : ∀ x ∈ A, Dg 65536 x) {k : Nat} (he : vb 65536 (A.drop (k + 1)) = vb 65536 (B.drop (k + 1))) (hd : dgN A k < dgN B k) : vb 65536 A < vb 65536 B := by
  have a1 := vb_split 65536 A k
  have b1 := vb_split 65536 B k
  have a2 := take_lt hA k
  rw [vb_drop, he] at a1
  rw [vb_drop] at b1
  generalize vb 65536 (B.drop (k + 1)) = D at *
  generalize 65536 ^ k = P at *
  have h1 : P * (dgN A k + 65536 * D + 1) ≤ P * (dgN B k + 65536 * D) := Nat.mul_le_mul_left _ (by omega)
  rw [Nat.mul_add P _ 1, Nat.mul_one] at h1
  omega
def kPre (F : Func) : List Code := [cFst (cBody F)]
def kR1 (F : Func) : Code := cFst (cFst (cSnd (cBody F)))
def kLoop (F : Func) : Code := cIn (cIn (cSnd (cFst (cSnd (cBody F)))))
def kEnd (F : Func) : Code := cSnd (cSnd (cBody F))
theorem ucmp_body : Try.f12.body = some (seqs (kPre Try.f12) (.seq (.seq (kR1 Try.f12) (.block 0 (.loop (kLoop Try.f12)))) (kEnd Try.f12))) := by kernel_rfl
def mxI (n n' : Nat) : Int := IntKind.i64.wrap ((if (n' : Int) > n then (n' : Int) else n) - 1)
theorem ucmp_pre (a b : Value) (h : Hp) : GoesT (evL (tabH Try.prog extY conN hcV) 100 (kPre Try.f12) ([a, b] ++ List.replicate 28 undef, h, []) ⟨[], [], []⟩) 5 25 none [a, b, undef, undef, .int .i64 0] h [] := ⟨by kernel_rfl, by kernel_rfl, by kernel_rfl⟩
theorem ucmp_r1 (p q : Option Addr) (n c n' c' : Nat) (h : Hp) (g : Nat → Value) : GoesT (evC (tabH Try.prog extY conN hcV) 100 false (kR1 Try.f12) ([.slice p n c, .slice q n' c', undef, undef, .int .i64 0] ++ tl 25 g, h, []) ⟨[], [], []⟩) 6 24 none [.slice p n c, .slice q n' c', undef, undef, .int .i64 0, .int .i64 (mxI n n')] h [] := ⟨by kernel_rfl, by kernel_rfl, by kernel_rfl⟩
theorem ucmp_lt (p q : Option Addr) (n c n' c' : Nat) (i : Int) (x y : List Value × TypeId) (g : Nat → Value) : GoesT (evC (tabH Try.prog extY conN hcV) 100 false (kLoop Try.f12) ([.slice p n c, .slice q n' c', undef, undef, .int .i64 0, .int .i64 i] ++ tl 24 g, hp2 y x, [cmp true, cmp true]) ⟨[], [], []⟩) 6 24 (some none) [.slice p n c, .slice q n' c', undef, undef, .int .i64 (-1), .int .i64 i] (hp2 y x) [(decide (atN (rowOf (hp2 y x) p n) i < atN (rowOf (hp2 y x) q n') i), true), rP (hp2 y x) q n' c', rP (hp2 y x) p n c, (decide (i ≥ 0), true)] := ⟨by kernel_rfl, by kernel_rfl, by kernel_rfl⟩
theorem ucmp_gt (p q : Option Addr) (n c n' c' : Nat) (i : Int) (x y : List Value × TypeId) (g : Nat → Value) : GoesT (evC (tabH Try.prog extY conN hcV) 100 false (kLoop Try.f12) ([.slice p n c, .slice q n' c', undef, undef, .int .i64 0, .int .i64 i] ++ tl 24 g, hp2 y x, [cmp true, cmp false, cmp true]) ⟨[], [], []⟩) 6 24 (some none) [.slice p n c, .slice q n' c', undef, undef, .int .i64 1, .int .i64 i] (hp2 y x) [(decide (atN (rowOf (hp2 y x) p n) i > atN (rowOf (hp2 y x) q n') i), true), rP (hp2 y x) q n' c', rP (hp2 y x) p n c, (decide (atN (rowOf (hp2 y x) p n) i < atN (rowOf (hp2 y x) q n') i), false), rP (hp2 y x) q n' c', rP (hp2 y x) p n c, (decide (i ≥ 0), true)] := ⟨by kernel_rfl, by kernel_rfl, by kernel_rfl⟩
theorem ucmp_eq (p q : Option Addr) (n c n' c' : Nat) (i : Int) (x y : List Value × TypeId) (g : Nat → Value) : GoesT (evC (tabH Try.prog extY conN hcV) 100 false (kLoop Try.f12) ([.slice p n c, .slice q n' c', undef, undef, .int .i64 0, .int .i64 i] ++ tl 24 g, hp2 y x, [cmp true, cmp false, cmp false]) ⟨[], [], []⟩) 6 24 none [.slice p n c, .slice q n' c', undef, undef, .int .i64 0, .int .i64 (i1 i)] (hp2 y x) [(decide (atN (rowOf (hp2 y x) p n) i > atN (rowOf (hp2 y x) q n') i), false), rP (hp2 y x) q n' c', rP (hp2 y x) p n c, (decide (atN (rowOf (hp2 y x) p n) i < atN (rowOf (hp2 y x) q n') i), false), rP (hp2 y x) q n' c', rP (hp2 y x) p n c, (decide (i ≥ 0), true)] := ⟨by kernel_rfl, by kernel_rfl, by kernel_rfl⟩
theorem ucmp_out (a b : Value) (i : Int) (h : Hp) (g : Nat → Value) : GoesT (evC (tabH Try.prog extY conN hcV) 100 false (kLoop Try.f12) ([a, b, undef, undef, .int .i64 0, .int .i64 i] ++ tl 24 g, h, [cmp false]) ⟨[], [], []⟩) 6 24 (some (some 0)) [a, b, undef, undef, .int .i64 0, .int .i64 i] h [(decide (i ≥ 0), false)] := ⟨by kernel_rfl, by kernel_rfl, by kernel_rfl⟩
theorem ucmp_end (a b : Value) (i : Int) (h : Hp) (g : Nat → Value) : GoesT (evC (tabH Try.prog extY conN hcV) 100 false (kEnd Try.f12) ([a, b, undef, undef, .int .i64 0, .int .i64 i] ++ tl 24 g, h, []) ⟨[], [], []⟩) 5 25 (some none) [a, b, undef, undef, .int .i64 0] h [] := ⟨by kernel_rfl, by kernel_rfl, by kernel_rfl⟩
section
variable {x y : List Value × TypeId} {p q : Option Addr} {n c n' c' : Nat} {A B : List Int}
def kRet (p q : Option Addr) (n c n' c' : Nat) (A B : List Int) (Y : Lf) : Prop := ∃ i g, Y.1 = [.slice p n c, .slice q n' c', undef, undef, .int .i64 (cmpZ (vb 65536 A) (vb 65536 B)), .int .i64 i] ++ tl 24 g
theorem ucmp_loop (NA : Nu 0 x p n c A) (NB : Nu 1 y q n' c' B) (lA : A.length = n) (lB : B.length = n') (hA : ∀ x ∈ A, Dg 65536 x) (hB : ∀ x ∈ B, Dg 65536 x) (hn : max n n' + 2 < 1073741824) (g : Nat → Value) :
    Runs (tabH Try.prog extY conN hcV) (.block 0 (.loop (kLoop Try.f12))) ([.slice p n c, .slice q n' c', undef, undef, .int .i64 0, .int .i64 (mxI n n')] ++ tl 24 g, hp2 y x, []) fun e Y => match e with | none => cmpZ (vb 65536 A) (vb 65536 B) = 0 ∧ ∃ i g, Y.1 = [.slice p n c, .slice q n' c', undef, undef, .int .i64 0, .int .i64 i] ++ tl 24 g | some none => kRet p q n c n' c' A B Y | some (some _) => False := by
  have em : mxI n n' = ((max n n' : Nat) : Int) - 1 := by
    unfold mxI
    split
    · rw [wrapI (by omega) (by omega)]; omega
    · rw [wrapI (by omega) (by omega)]; omega
  refine Runs.forLoop (P := fun Y => cmpZ (vb 65536 A) (vb 65536 B) = 0 ∧ ∃ i g, Y.1 = [.slice p n c, .slice q n' c', undef, undef, .int .i64 0, .int .i64 i] ++ tl 24 g) (R := kRet p q n c n' c' A B)
    (fun k Y => k ≤ max n n' ∧ vb 65536 (A.drop k) = vb 65536 (B.drop k) ∧ (∃ g, Y.1 = [.slice p n c, .slice q n' c', undef, undef, .int .i64 0, .int .i64 ((k : Nat) - 1 : Int)] ++ tl 24 g) ∧ Y.2.1 = hp2 y x) ?_ (n := max n n') ⟨Nat.le_refl _, by rw [List.drop_eq_nil_of_le (by omega), List.drop_eq_nil_of_le (by omega)], ⟨g, by rw [em]⟩, rfl⟩
  rintro k ⟨t, h', s⟩ ⟨hk, he, ⟨g, ht⟩, hh⟩
  simp only at ht hh
  subst ht hh
  cases k with
  | zero =>
    refine (goesT_runs (tabH_ok conN_ok hcV_ok) (ucmp_out _ _ _ _ g) (okOne (decide_eq_false (by omega)))).mono fun e z hz => ?_
    obtain ⟨rfl, ⟨g', z1⟩, z2⟩ := hz
    refine ⟨rfl, ?_, _, g', z1⟩
    simp only [List.drop_zero] at he
    unfold cmpZ
    rw [he]
    simp
  | succ k =>
    have ek : ((k + 1 : Nat) : Int) - 1 = (k : Int) := by omega
    rw [ek]
    have r0 := NA.row (hp2 y x) rfl
    have r1 := NB.row (hp2 y x) rfl
    have d1 := dgN_lt hA k
    have d2 := dgN_lt hB k
    have hg : decide ((k : Int) ≥ 0) = true := decide_eq_true (by omega)
    by_cases h1 : dgN A k < dgN B k
    · have hlt := less_of hA he h1
      refine (goesT_runs (tabH_ok conN_ok hcV_ok) (ucmp_lt p q n c n' c' k x y g) (by
        rw [r0.2, r1.2, atN_nat, atN_nat, ← d1.2, ← d2.2]
        exact okW (decide_eq_true (by omega)) (okW r1.1 (okW r0.1 (okOne hg))))).mono fun e z hz => ?_
      obtain ⟨rfl, ⟨g', z1⟩, z2⟩ := hz
      refine ⟨k, g', ?_⟩
      rw [z1]
      unfold cmpZ
      rw [if_pos hlt]
    · by_cases h2 : dgN B k < dgN A k
      · have hlt := less_of hB he.symm h2
        refine (goesT_runs (tabH_ok conN_ok hcV_ok) (ucmp_gt p q n c n' c' k x y g) (by
          rw [r0.2, r1.2, atN_nat, atN_nat, ← d1.2, ← d2.2]
          exact okW (decide_eq_true (by omega)) (okW r1.1 (okW r0.1 (okW (decide_eq_false (by omega)) (okW r1.1 (okW r0.1 (okOne hg)))))))).mono fun e z hz => ?_
        obtain ⟨rfl, ⟨g', z1⟩, z2⟩ := hz
        refine ⟨k, g', ?_⟩
        rw [z1]
        unfold cmpZ
        rw [if_neg (by omega), if_neg (by omega)]
      · refine (goesT_runs (tabH_ok conN_ok hcV_ok) (ucmp_eq p q n c n' c' k x y g) (by
          rw [r0.2, r1.2, atN_nat, atN_nat, ← d1.2, ← d2.2]
          exact okW (decide_eq_false (by omega)) (okW r1.1 (okW r0.1 (okW (decide_eq_false (by omega)) (okW r1.1 (okW r0.1 (okOne hg)))))))).mono fun e z hz => ?_
        obtain ⟨rfl, ⟨g', z1⟩, z2⟩ := hz
        have e1 : i1 (k : Int) = (k : Int) - 1 := by unfold i1; rw [wrapI (by omega) (by omega)]
        refine ⟨k, by omega, by omega, ?_, ⟨g', by rw [z1, e1]⟩, z2⟩
        rw [vb_drop, vb_drop (L := B), he]
        omega
theorem ucmp_runs (NA : Nu 0 x p n c A) (NB : Nu 1 y q n' c' B) (lA : A.length = n) (lB : B.length = n') (hA : ∀ x ∈ A, Dg 65536 x) (hB : ∀ x ∈ B, Dg 65536 x) (hn : max n n' + 2 < 1073741824) :
    Runs (tabH Try.prog extY conN hcV) (seqs (kPre Try.f12) (.seq (.seq (kR1 Try.f12) (.block 0 (.loop (kLoop Try.f12)))) (kEnd Try.f12))) ([.slice p n c, .slice q n' c'] ++ List.replicate 28 undef, hp2 y x, []) fun e z => (e = none ∨ e = some none) ∧ resS Try.prog Try.f12 z.1 z.2.1 = some (.int .i64 (cmpZ (vb 65536 A) (vb 65536 B))) := by
  refine goesT_list (tabH_ok conN_ok hcV_ok) (ucmp_pre _ _ _) (fun x hx => by cases hx) fun g => ?_
  refine Runs.seq (P1 := fun e Y => match e with | none => cmpZ (vb 65536 A) (vb 65536 B) = 0 ∧ ∃ i g, Y.1 = [.slice p n c, .slice q n' c', undef, undef, .int .i64 0, .int .i64 i] ++ tl 24 g | some none => kRet p q n c n' c' A B Y | some (some _) => False) (Runs.seq (P1 := fun e Y => e = none ∧ (∃ g, Y.1 = [.slice p n c, .slice q n' c', undef, undef, .int .i64 0, .int .i64 (mxI n n')] ++ tl 24 g) ∧ Y.2.1 = hp2 y x) (goesT_runs (tabH_ok conN_ok hcV_ok) (ucmp_r1 p q n c n' c' _ g) (fun x hx => by cases hx)) ?_ (fun e y he => by cases he.1)) ?_ ?_
  · rintro ⟨t, h', s⟩ ⟨_, ⟨g', ht⟩, hh⟩
    simp only at ht hh
    subst ht hh
    exact Runs.script (ucmp_loop NA NB lA lB hA hB hn g')
  · rintro ⟨t, h', s⟩ ⟨e0, i, g', ht⟩
    simp only at ht
    subst ht
    refine (goesT_runs (tabH_ok conN_ok hcV_ok) (ucmp_end _ _ i h' g') (fun x hx => by cases hx)).mono fun e z hz => ?_
    obtain ⟨rfl, ⟨g2, z1⟩, z2⟩ := hz
    refine ⟨.inr rfl, ?_⟩
    rw [z1, e0]
    rfl
  · intro e Y he
    match e, he with
    | none, ⟨i, g', h1⟩ =>
      refine ⟨.inr rfl, ?_⟩
      rw [h1]
      rfl
end
def gUcmp : AnsH := fun vals h s =>
  match vals with
  | [.slice p n c, .slice q n' c'] => some (.int .i64 (cmpZ (vO h p n) (vO h q n')), h, s, [(two16 h p q n c n' c', true)])
  | _ => none
theorem gUcmp_ok : AnsHOk 12 gUcmp := by
  intro vals h s v h' s' lg hg hl m B w E hv
  unfold gUcmp at hg
  split at hg
  · rename_i p n c q n' c'
    cases hg
    have q1 := hl _ (List.mem_singleton.2 rfl)
    simp only at q1
    obtain ⟨r1, r2, d1, d2, hn⟩ := two16_of q1
    obtain ⟨x, p', a, NA, eA, fA⟩ := nu_of 0 r1
    obtain ⟨y, q', b, NB, eB, fB⟩ := nu_of 1 r2
    have r := ucmp_runs NA NB (rowOf_len r1) (rowOf_len r2) d1 d2 hn
    have := row_calls0 (T := tabH Try.prog extY conN hcV) Try.func12 ucmp_body (rows_hp2 NA NB) (vals := [.slice p' n c, .slice q' n' c']) (fun v hv => by
      simp only [List.mem_cons, List.not_mem_nil, or_false] at hv
      rcases hv with rfl | rfl
      · exact NA.lt (by show 0 < 2; omega)
      · exact NB.lt (by show 1 < 2; omega)) (by rfl) r.w E (s := pair a b) (fits_hp2 fA fB)
    simp only [List.map_cons, List.map_nil] at this
    rw [eA _ rfl, eB _ rfl] at this
    exact this
  · cases hg
end Go.Proofs.Ytmgcnijpoklhkaa
namespace Go.Nt
theorem pow16 (k : Nat) : 65536 ^ k = 2 ^ (16 * k) := by rw [show (65536 : Nat) = 2 ^ 16 from rfl, ← Nat.pow_mul]
end Go.Nt
namespace Go.Proofs.Ytmgcnijpoklhkaa
open Go.KRun Go.Nt
set_option maxRecDepth 100000
def sA (F : Func) : Code := cFst (cSnd (cBody F))
def sR (F : Func) : Code := cSnd (cSnd (cBody F))
def sR3 (F : Func) : Code := cFst (sR F)
def sR4 (F : Func) : Code := cFst (cSnd (sR F))
def sR5 (F : Func) : Code := cFst (cFst (cSnd (cSnd (sR F))))
def sL1 (F : Func) : Code := cIn (cIn (cSnd (cFst (cSnd (cSnd (sR F))))))
def sR9 (F : Func) : Code := cFst (cSnd (cSnd (cSnd (sR F))))
def sT (F : Func) : Code := cSnd (cSnd (cSnd (cSnd (sR F))))
def sR10 (F : Func) : Code := cFst (cFst (sT F))
def sL2 (F : Func) : Code := cIn (cIn (cSnd (cFst (sT F))))
def sEn (F : Func) : Code := cSnd (sT F)
def sPr (F : Func) : List Code := [cFst (cBody F), sA F, sR3 F, sR4 F]
theorem ushl_body : Try.f11.body = some (seqs (sPr Try.f11) (.seq (.seq (sR5 Try.f11) (.block 0 (.loop (sL1 Try.f11)))) (.seq (sR9 Try.f11) (.seq (.seq (sR10 Try.f11) (.block 2 (.loop (sL2 Try.f11)))) (sEn Try.f11))))) := by kernel_rfl
theorem ushl_body1 : Try.f11.body = some (cBody Try.f11) := by kernel_rfl
def k16 (k : Int) : Int := IntKind.i64.wrap (k.tdiv 16)
def zz (z : Nat) : List Value := List.replicate z (.int .u32 0)
theorem ushl_zero (p : Option Addr) (n c : Nat) (k : Value) (h : Hp) : GoesT (evC (tabH Try.prog extY conN hcV) 100 false (cBody Try.f11) ([.slice p n c, k] ++ List.replicate 48 undef, h, [cmp true]) ⟨[], [], []⟩) 5 45 (some none) [.slice p n c, k, undef, undef, nilS] h [((n : Int) == 0, true)] := ⟨by kernel_rfl, by kernel_rfl, by kernel_rfl⟩
theorem ushl_pre (o n c : Nat) (k : Int) (x : List Value × TypeId) : GoesT (evL (tabH Try.prog extY conN hcV) 100 (sPr Try.f11) ([sl 0 o n c, .int .i64 k] ++ List.replicate 48 undef, ⟨1, [x]⟩, [cmp false, at_]) ⟨[], [], []⟩) 7 43 none [sl 0 o n c, .int .i64 k, undef, undef, nilS, sl 1 0 (k16 k).toNat (k16 k).toNat, .int .u32 1] ⟨2, [(zz (k16 k).toNat, tU), x]⟩ [(okMakeB 4 (k16 k) (k16 k), true), ((n : Int) == 0, false)] := ⟨by kernel_rfl, by kernel_rfl, by kernel_rfl⟩
theorem ushl_r5 (a v : Value) (k : Int) (h : Hp) (g : Nat → Value) : GoesT (evC (tabH Try.prog extY conN hcV) 100 false (sR5 Try.f11) ([a, .int .i64 k, undef, undef, nilS, v, .int .u32 1] ++ tl 43 g, h, []) ⟨[], [], []⟩) 8 42 none [a, .int .i64 k, undef, undef, nilS, v, .int .u32 1, .int .i64 0] h [] := ⟨by kernel_rfl, by kernel_rfl, by kernel_rfl⟩
theorem ushl_l1 (a v : Value) (k b i : Int) (h : Hp) (g : Nat → Value) : GoesT (evC (tabH Try.prog extY conN hcV) 100 false (sL1 Try.f11) ([a, .int .i64 k, undef, undef, nilS, v, .int .u32 b, .int .i64 i] ++ tl 42 g, h, [cmp true, cmp true]) ⟨[], [], []⟩) 8 42 none [a, .int .i64 k, undef, undef, nilS, v, .int .u32 (IntKind.u32.wrap (2 * b)), .int .i64 (IntKind.i64.wrap (i + 1))] h [(decide (i < k.tmod 16), true), (decide ((16 : Int) = 0), false)] := ⟨by kernel_rfl, by kernel_rfl, by kernel_rfl⟩
theorem ushl_o1 (a v : Value) (k b i : Int) (h : Hp) (g : Nat → Value) : GoesT (evC (tabH Try.prog extY conN hcV) 100 false (sL1 Try.f11) ([a, .int .i64 k, undef, undef, nilS, v, .int .u32 b, .int .i64 i] ++ tl 42 g, h, [cmp true, cmp false]) ⟨[], [], []⟩) 8 42 (some (some 0)) [a, .int .i64 k, undef, undef, nilS, v, .int .u32 b, .int .i64 i] h [(decide (i < k.tmod 16), false), (decide ((16 : Int) = 0), false)] := ⟨by kernel_rfl, by kernel_rfl, by kernel_rfl⟩
theorem ushl_r9 (a v : Value) (k b i : Int) (h : Hp) (g : Nat → Value) : GoesT (evC (tabH Try.prog extY conN hcV) 100 false (sR9 Try.f11) ([a, .int .i64 k, undef, undef, nilS, v, .int .u32 b, .int .i64 i] ++ tl 42 g, h, []) ⟨[], [], []⟩) 9 41 none [a, .int .i64 k, undef, undef, nilS, v, .int .u32 b, .int .i64 i, .int .u32 0] h [] := ⟨by kernel_rfl, by kernel_rfl, by kernel_rfl⟩
theorem ushl_r10 (a v : Value) (k b i : Int) (h : Hp) (g : Nat → Value) : GoesT (evC (tabH Try.prog extY conN hcV) 100 false (sR10 Try.f11) ([a, .int .i64 k, undef, undef, nilS, v, .int .u32 b, .int .i64 i, .int .u32 0] ++ tl 41 g, h, []) ⟨[], [], []⟩) 10 40 none [a, .int .i64 k, undef, undef, nilS, v, .int .u32 b, .int .i64 i, .int .u32 0, .int .i64 0] h [] := ⟨by kernel_rfl, by kernel_rfl, by kernel_rfl⟩
/-- what is carried and one part more -/
def cy (e x b : Int) : Int := IntKind.u32.wrap (e + IntKind.u32.wrap (x * b))
def lAx (l : List Value) (o n : Nat) (i x : Int) : Log := [(decide ((65536 : Int) = 0), false), (cellIs (l[o + i.toNat * 1]?) (.int .u32 x), true), (decide (0 ≤ i ∧ i < n), true), (decide (i < n), true)]
theorem ushl_fst (o n c z z' : Nat) (b e i x : Int) (l lo : List Value) (j1 j7 : Value) (g : Nat → Value) : GoesT (evC (tabH Try.prog extY conN hcV) 100 false (sL2 Try.f11) ([sl 0 o n c, j1, undef, undef, nilS, sl 1 0 z z', .int .u32 b, j7, .int .u32 e, .int .i64 i] ++ tl 40 g, ⟨2, [(lo, tU), (l, tR)]⟩, [cmp true, at_, val (.int .u32 x), cmp true, num 0]) ⟨[], [], []⟩) 10 40 none [sl 0 o n c, j1, undef, undef, nilS, sl 3 0 (z + 1) grown, .int .u32 b, j7, .int .u32 (IntKind.u32.wrap ((cy e x b).tdiv 65536)), .int .i64 (IntKind.i64.wrap (i + 1))] ⟨4, [(lo ++ [.int .u32 ((cy e x b).tmod 65536)], tU), ([.int .u32 ((cy e x b).tmod 65536)], tU), (lo, tU), (l, tR)]⟩ ((appChz (lo, tU) ([.int .u32 ((cy e x b).tmod 65536)], tU) z z' 0 1, true) :: lAx l o n i x) := ⟨by kernel_rfl, by kernel_rfl, by kernel_rfl⟩
theorem ushl_nxt (o n c z : Nat) (b e i x : Int) (l lo : List Value) (j1 j7 : Value) (g : Nat → Value) : GoesT (evC (tabH Try.prog extY conN hcV) 100 false (sL2 Try.f11) ([sl 0 o n c, j1, undef, undef, nilS, sl 1 0 z grown, .int .u32 b, j7, .int .u32 e, .int .i64 i] ++ tl 40 g, ⟨2, [(lo, tU), (l, tR)]⟩, [cmp true, at_, val (.int .u32 x), cmp true, at_]) ⟨[], [], []⟩) 10 40 none [sl 0 o n c, j1, undef, undef, nilS, sl 3 0 (z + 1) grown, .int .u32 b, j7, .int .u32 (IntKind.u32.wrap ((cy e x b).tdiv 65536)), .int .i64 (IntKind.i64.wrap (i + 1))] ⟨4, [(lo ++ [.int .u32 ((cy e x b).tmod 65536)], tU), ([.int .u32 ((cy e x b).tmod 65536)], tU), ([], 2 * dead), (l, tR)]⟩ ((appChk tU (lo, tU) ([.int .u32 ((cy e x b).tmod 65536)], tU) z 0 1, true) :: lAx l o n i x) := ⟨by kernel_rfl, by kernel_rfl, by kernel_rfl⟩
theorem ushl_o2 (p : Option Addr) (n c : Nat) (v : Value) (b e i : Int) (h : Hp) (j1 j7 : Value) (g : Nat → Value) : GoesT (evC (tabH Try.prog extY conN hcV) 100 false (sL2 Try.f11) ([.slice p n c, j1, undef, undef, nilS, v, .int .u32 b, j7, .int .u32 e, .int .i64 i] ++ tl 40 g, h, [cmp false]) ⟨[], [], []⟩) 10 40 (some (some 2)) [.slice p n c, j1, undef, undef, nilS, v, .int .u32 b, j7, .int .u32 e, .int .i64 i] h [(decide (i < n), false)] := ⟨by kernel_rfl, by kernel_rfl, by kernel_rfl⟩
theorem ushl_end (a : Value) (z : Nat) (b e i : Int) (x : List Value × TypeId) (lo : List Value) (j1 j7 : Value) (g : Nat → Value) : GoesT (evC (tabH Try.prog extY conN hcV) 100 false (sEn Try.f11) ([a, j1, undef, undef, nilS, sl 1 0 z grown, .int .u32 b, j7, .int .u32 e, .int .i64 i] ++ tl 40 g, ⟨2, [(lo, tU), x]⟩, [at_]) ⟨[], [], []⟩) 5 45 (some none) [a, j1, undef, undef, sl 3 0 (trimN (cutI (lo ++ [.int .u32 e]) 0 (z + 1))) (trimN (cutI (lo ++ [.int .u32 e]) 0 (z + 1)))] ⟨4, [(lo ++ [.int .u32 e], tU), ([.int .u32 e], tU), ([], 2 * dead), x]⟩ [(rowC tU (lo ++ [.int .u32 e]) 0 (z + 1) grown, true), (appChk tU (lo, tU) ([.int .u32 e], tU) z 0 1, true)] := ⟨by kernel_rfl, by kernel_rfl, by kernel_rfl⟩
end Go.Proofs.Ytmgcnijpoklhkaa
