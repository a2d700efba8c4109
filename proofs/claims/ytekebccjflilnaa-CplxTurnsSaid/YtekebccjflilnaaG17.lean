/-
  ConV5, ConV6, ConV7
-/
import Derived.Test.YtekebccjflilnaaG16
namespace Go.Proofs.Ytekebccjflilnaa
open Go.KRun Go.Nt
set_option maxRecDepth 100000
theorem wrap32 {n : Int} (h0 : 0 ≤ n) (h1 : n < 4294967296) : IntKind.u32.wrap n = n := by simp [IntKind.wrap, IntKind.bits, IntKind.signed]; omega
/-- a digit's number -/
def dgN (L : List Int) (i : Nat) : Nat := (L.getD i 0).toNat
theorem dgN_lt {L : List Int} (h : ∀ x ∈ L, Dg 65536 x) (i : Nat) : dgN L i < 65536 ∧ ((dgN L i : Nat) : Int) = L.getD i 0 := by
  have := at_dg h i
  unfold dgN
  omega
theorem dgN_out {L : List Int} {i : Nat} (h : L.length ≤ i) : dgN L i = 0 := by unfold dgN; simp [List.getD, List.getElem?_eq_none h]
theorem sm_eq {A B : List Int} (hA : ∀ x ∈ A, Dg 65536 x) (hB : ∀ x ∈ B, Dg 65536 x) {k : Nat} (hk : k ≤ 1) (i : Nat) : sm A B k i = ((k + dgN A i + dgN B i : Nat) : Int) := by
  have h1 := dgN_lt hA i
  have h2 := dgN_lt hB i
  unfold sm
  rw [atN_nat, atN_nat, ← h1.2, ← h2.2, wrap32 (n := (k : Int) + _) (by omega) (by omega), wrap32 (by omega) (by omega)]
  omega
theorem tmod_nat (a : Nat) : ((a : Int)).tmod 65536 = ((a % 65536 : Nat) : Int) := by rw [Int.tmod_eq_emod_of_nonneg (by omega)]; omega
theorem tdiv_nat {a : Nat} (h : a < 4294967296) : IntKind.u32.wrap ((a : Int).tdiv 65536) = ((a / 65536 : Nat) : Int) := by
  rw [Int.tdiv_eq_ediv_of_nonneg (by omega), wrap32 (by omega) (by omega)]
  omega
theorem okW {p : Bool × Bool} {l : Log} (h : p.1 = p.2) (hl : okLog l) : okLog (p :: l) := okTwo h hl
section
variable {x y : List Value × TypeId} {p q : Option Addr} {n c n' c' : Nat} {A B : List Int}
theorem kept_base (NA : Nu 0 x p n c A) (NB : Nu 1 y q n' c' B) {h : Hp} (h0 : h.blk? 0 = some x) (h1 : h.blk? 1 = some y) : ∀ i z, (⟨2, [y, x]⟩ : Hp).blk? i = some z → h.blk? i = some z ∧ ∀ v ∈ z.1, still v = true := fun i z hz => by
  rcases blkTwo hz with ⟨rfl, rfl⟩ | ⟨rfl, rfl⟩
  · exact ⟨h0, NA.st⟩
  · exact ⟨h1, NB.st⟩
/-- one round of Add -/
theorem uadd_round (NA : Nu 0 x p n c A) (NB : Nu 1 y q n' c' B) (hA : ∀ x ∈ A, Dg 65536 x) (hB : ∀ x ∈ B, Dg 65536 x) {k i : Nat} {O : List Int} (hk : k ≤ 1) (hi : i < 1073741823) (hO : O.length = i) (hgo : i < n ∨ i < n' ∨ 0 < k) {Y : Lf}
    (hY : (i = 0 ∧ k = 0 ∧ (∃ g, Y.1 = [.slice p n c, .slice q n' c', undef, undef, nilS, nilS, .int .u32 (k : Nat), .int .i64 (i : Nat)] ++ tl 34 g) ∧ Y.2.1 = hp2 y x) ∨ (0 < i ∧ (∃ g, Y.1 = [.slice p n c, .slice q n' c', undef, undef, nilS, sl 2 0 i grown, .int .u32 (k : Nat), .int .i64 (i : Nat)] ++ tl 34 g) ∧ Y.2.1 = hu3 (wU O) y x)) :
    RunsW (tabH Try.prog extY conN hcV) (aLoop Try.f78) Y fun e z => e = none ∧ (∃ g, z.1 = [.slice p n c, .slice q n' c', undef, undef, nilS, sl 2 0 (i + 1) grown, .int .u32 ((k + dgN A i + dgN B i) / 65536 : Nat), .int .i64 ((i + 1 : Nat) : Int)] ++ tl 34 g) ∧ z.2.1 = hu3 (wU (O ++ [(((k + dgN A i + dgN B i) % 65536 : Nat) : Int)])) y x := by
  obtain ⟨t, h', s⟩ := Y
  have hd1 := (dgN_lt hA i).1
  have hd2 := (dgN_lt hB i).1
  have es := sm_eq hA hB hk i
  have e1 : (sm A B k i).tmod 65536 = (((k + dgN A i + dgN B i) % 65536 : Nat) : Int) := by rw [es, tmod_nat]
  have e2 : IntKind.u32.wrap ((sm A B k i).tdiv 65536) = (((k + dgN A i + dgN B i) / 65536 : Nat) : Int) := by rw [es, tdiv_nat (by omega)]
  have e3 : IntKind.i64.wrap ((i : Int) + 1) = ((i + 1 : Nat) : Int) := by rw [wrapI (by omega) (by omega)]; omega
  rcases hY with ⟨h0, k0, ⟨g, ht⟩, hh⟩ | ⟨h0, ⟨g, ht⟩, hh⟩
  · simp only at ht hh
    subst ht hh
    have r0 := NA.row (hp2 y x) rfl
    have r1 := NB.row (hp2 y x) rfl
    have fin : RunsW (tabH Try.prog extY conN hcV) (aLoop Try.f78) ([.slice p n c, .slice q n' c', undef, undef, nilS, nilS, .int .u32 (k : Nat), .int .i64 (i : Nat)] ++ tl 34 g, hp2 y x, s) fun e z => e = none ∧ (∃ g, z.1 = [.slice p n c, .slice q n' c', undef, undef, nilS, sl 3 0 1 grown, .int .u32 (IntKind.u32.wrap ((sm A B k i).tdiv 65536)), .int .i64 (IntKind.i64.wrap ((i : Int) + 1))] ++ tl 34 g) ∧ z.2.1 = ⟨4, [([.int .u32 ((sm A B k i).tmod 65536)], tU), ([.int .u32 ((sm A B k i).tmod 65536)], tU), y, x]⟩ := by
      by_cases ha : i < n
      · have := goesT_runsW (tabH_ok conN_ok hcV_ok) (s0 := s) (uadd_nil0 p q n c n' c' k i x y g) (okW rfl (okW r1.1 (okW r0.1 (okOne (decide_eq_true (by omega))))))
        rw [r0.2, r1.2] at this
        exact this
      · have := goesT_runsW (tabH_ok conN_ok hcV_ok) (s0 := s) (uadd_nil1 p q n c n' c' k i x y g) (okW rfl (okW r1.1 (okW r0.1 (okW (decide_eq_true (by omega)) (okOne (decide_eq_false (by omega)))))))
        rw [r0.2, r1.2] at this
        exact this
    have hO' : O = [] := List.length_eq_zero_iff.1 (by omega)
    rw [e1, e2, e3] at fin
    have := fin.kept (k := 2) (b := 3) (base := [y, x]) (y := ([.int .u32 (((k + dgN A i + dgN B i) % 65536 : Nat) : Int)], tU)) (front' := [.slice p n c, .slice q n' c', undef, undef, nilS, sl 2 0 1 grown, .int .u32 ((k + dgN A i + dgN B i) / 65536 : Nat), .int .i64 ((i + 1 : Nat) : Int)]) rfl
      (by simp only [List.map_cons, List.map_nil, NA.rn (f := keepK 2 3) rfl, NB.rn (f := keepK 2 3) rfl]; kernel_rfl) (kept_base NA NB rfl rfl) rfl (by omega) (fun v hv => by rw [List.mem_singleton.1 hv]; rfl) (fun v hv => by
        simp only [List.mem_cons, List.not_mem_nil, or_false] at hv
        rcases hv with rfl | rfl | rfl | rfl | rfl | rfl | rfl | rfl
        · exact NA.lt (by omega)
        · exact NB.lt (by omega)
        all_goals rfl)
    refine this.mono fun e z hz => ?_
    obtain ⟨rfl, ⟨g', q1⟩, q2⟩ := hz
    subst hO' h0
    exact ⟨rfl, ⟨g', q1⟩, q2⟩
  · simp only at ht hh
    subst ht hh
    have r0 := NA.row (hu3 (wU O) y x) rfl
    have r1 := NB.row (hu3 (wU O) y x) rfl
    have hchk : appChk tU (wU O, tU) ([.int .u32 ((sm A B k i).tmod 65536)], tU) i 0 1 = true :=
      appChk_of (L := O) (M := [(sm A B k i).tmod 65536]) hO.symm (show 0 < 1 by omega) (by show O.length + 1 ≤ _; omega)
    have fin : RunsW (tabH Try.prog extY conN hcV) (aLoop Try.f78) ([.slice p n c, .slice q n' c', undef, undef, nilS, sl 2 0 i grown, .int .u32 (k : Nat), .int .i64 (i : Nat)] ++ tl 34 g, hu3 (wU O) y x, s) fun e z => e = none ∧ (∃ g, z.1 = [.slice p n c, .slice q n' c', undef, undef, nilS, sl 4 0 (i + 1) grown, .int .u32 (IntKind.u32.wrap ((sm A B k i).tdiv 65536)), .int .i64 (IntKind.i64.wrap ((i : Int) + 1))] ++ tl 34 g) ∧ z.2.1 = ⟨5, [(wU O ++ [.int .u32 ((sm A B k i).tmod 65536)], tU), ([.int .u32 ((sm A B k i).tmod 65536)], tU), ([], 2 * dead), y, x]⟩ := by
      by_cases ha : i < n
      · have hl : okLog (aLog 0 n n' k i) := okOne (decide_eq_true (by omega))
        have := goesT_runsW (tabH_ok conN_ok hcV_ok) (s0 := s) (uadd_some0 p q n c n' c' i k i x y (wU O) g) (by rw [r0.2, r1.2]; exact okW hchk (okW rfl (okW r1.1 (okW r0.1 hl))))
        rw [r0.2, r1.2] at this
        exact this
      · by_cases hb : i < n'
        · have hl : okLog (aLog 1 n n' k i) := okW (decide_eq_true (by omega)) (okOne (decide_eq_false (by omega)))
          have := goesT_runsW (tabH_ok conN_ok hcV_ok) (s0 := s) (uadd_some1 p q n c n' c' i k i x y (wU O) g) (by rw [r0.2, r1.2]; exact okW hchk (okW rfl (okW r1.1 (okW r0.1 hl))))
          rw [r0.2, r1.2] at this
          exact this
        · have hl : okLog (aLog 2 n n' k i) := okW (decide_eq_true (by omega)) (okW (decide_eq_false (by omega)) (okOne (decide_eq_false (by omega))))
          have := goesT_runsW (tabH_ok conN_ok hcV_ok) (s0 := s) (uadd_some2 p q n c n' c' i k i x y (wU O) g) (by rw [r0.2, r1.2]; exact okW hchk (okW rfl (okW r1.1 (okW r0.1 hl))))
          rw [r0.2, r1.2] at this
          exact this
    rw [e1, e2, e3] at fin
    have ew : wU O ++ [.int .u32 (((k + dgN A i + dgN B i) % 65536 : Nat) : Int)] = wU (O ++ [(((k + dgN A i + dgN B i) % 65536 : Nat) : Int)]) := by rw [wU_append]; rfl
    rw [ew] at fin
    have := fin.kept (k := 2) (b := 4) (base := [y, x]) (y := (wU (O ++ [(((k + dgN A i + dgN B i) % 65536 : Nat) : Int)]), tU)) (front' := [.slice p n c, .slice q n' c', undef, undef, nilS, sl 2 0 (i + 1) grown, .int .u32 ((k + dgN A i + dgN B i) / 65536 : Nat), .int .i64 ((i + 1 : Nat) : Int)]) rfl
      (by simp only [List.map_cons, List.map_nil, NA.rn (f := keepK 2 4) rfl, NB.rn (f := keepK 2 4) rfl]; kernel_rfl) (kept_base NA NB rfl rfl) rfl (by omega) (wU_still _) (fun v hv => by
        simp only [List.mem_cons, List.not_mem_nil, or_false] at hv
        rcases hv with rfl | rfl | rfl | rfl | rfl | rfl | rfl | rfl
        · exact NA.lt (by omega)
        · exact NB.lt (by omega)
        all_goals rfl)
    exact this
/-- the state of Add's loop: i digits are there, k is carried -/
def aSt (x y : List Value × TypeId) (p q : Option Addr) (n c n' c' : Nat) (O : List Int) (i k : Nat) (Y : Lf) : Prop :=
  (i = 0 ∧ k = 0 ∧ (∃ g, Y.1 = [.slice p n c, .slice q n' c', undef, undef, nilS, nilS, .int .u32 (k : Nat), .int .i64 (i : Nat)] ++ tl 34 g) ∧ Y.2.1 = hp2 y x) ∨ (0 < i ∧ (∃ g, Y.1 = [.slice p n c, .slice q n' c', undef, undef, nilS, sl 2 0 i grown, .int .u32 (k : Nat), .int .i64 (i : Nat)] ++ tl 34 g) ∧ Y.2.1 = hu3 (wU O) y x)
def aInv (x y : List Value × TypeId) (p q : Option Addr) (n c n' c' : Nat) (A B : List Int) (m : Nat) (Y : Lf) : Prop :=
  ∃ (i k : Nat) (O : List Int), O.length = i ∧ m = max n n' + 1 - i ∧ i ≤ max n n' + 1 ∧ k ≤ 1 ∧ (i = max n n' + 1 → k = 0) ∧ (∀ x ∈ O, Dg 65536 x) ∧ vb 65536 O + 65536 ^ O.length * k = vb 65536 (A.take i) + vb 65536 (B.take i) ∧ aSt x y p q n c n' c' O i k Y
def aFinV (x y : List Value × TypeId) (p q : Option Addr) (n c n' c' : Nat) (A B : List Int) (Y : Lf) : Prop :=
  ∃ (i : Nat) (O : List Int), O.length = i ∧ i ≤ max n n' + 1 ∧ (∀ x ∈ O, Dg 65536 x) ∧ vb 65536 O = vb 65536 A + vb 65536 B ∧ n ≤ i ∧ n' ≤ i ∧ aSt x y p q n c n' c' O i 0 Y
theorem uadd_loop (NA : Nu 0 x p n c A) (NB : Nu 1 y q n' c' B) (lA : A.length = n) (lB : B.length = n') (hA : ∀ x ∈ A, Dg 65536 x) (hB : ∀ x ∈ B, Dg 65536 x) (hn : max n n' + 2 < 1073741824) (g : Nat → Value) :
    RunsW (tabH Try.prog extY conN hcV) (.block 0 (.loop (aLoop Try.f78))) ([.slice p n c, .slice q n' c', undef, undef, nilS, nilS, .int .u32 0, .int .i64 0] ++ tl 34 g, hp2 y x, []) fun e Y => match e with | none => aFinV x y p q n c n' c' A B Y | some none => False | some (some _) => False := by
  refine RunsW.forLoop (P := aFinV x y p q n c n' c' A B) (R := fun _ => False) (aInv x y p q n c n' c' A B) ?_ (n := max n n' + 1) ⟨0, 0, [], rfl, by omega, by omega, by omega, by omega, (fun x hx => by cases hx), by simp [vb], .inl ⟨rfl, rfl, ⟨g, rfl⟩, rfl⟩⟩
  rintro m Y ⟨i, k, O, hO, hm, hi, hk, hk0, hOd, hval, hY⟩
  by_cases hgo : i < n ∨ i < n' ∨ 0 < k
  · have hmx : i ≤ max n n' := by
      rcases Nat.lt_or_ge i (max n n' + 1) with h | h
      · omega
      · have : k = 0 := hk0 (by omega)
        omega
    have r := uadd_round NA NB hA hB hk (by omega) hO hgo hY
    refine r.mono fun e z hz => ?_
    obtain ⟨rfl, z1, z2⟩ := hz
    have d1 := (dgN_lt hA i).1
    have d2 := (dgN_lt hB i).1
    refine ⟨max n n' + 1 - (i + 1), by omega, i + 1, (k + dgN A i + dgN B i) / 65536, O ++ [(((k + dgN A i + dgN B i) % 65536 : Nat) : Int)], by simp [hO], rfl, by omega, by omega, fun he => ?_, fun x hx => ?_, ?_, .inr ⟨by omega, z1, z2⟩⟩
    · have z1 : dgN A i = 0 := dgN_out (by omega)
      have z2 : dgN B i = 0 := dgN_out (by omega)
      omega
    · rcases List.mem_append.1 hx with hx | hx
      · exact hOd x hx
      · rw [List.mem_singleton.1 hx]
        exact ⟨by omega, by omega⟩
    · have := sum_stepB (a := dgN A i) (c := dgN B i) hval
      rw [vb_take, vb_take, ← hO]
      rw [List.length_append]
      rw [hO] at this ⊢
      exact this
  · have hk : k = 0 := by omega
    subst hk
    have ha : n ≤ i := by omega
    have hb : n' ≤ i := by omega
    have out : ∀ (v : Value) (h : Hp) (g : Nat → Value) (s : List Dec), RunsW (tabH Try.prog extY conN hcV) (aLoop Try.f78) ([.slice p n c, .slice q n' c', undef, undef, nilS, v, .int .u32 ((0 : Nat) : Int), .int .i64 (i : Nat)] ++ tl 34 g, h, s) fun e z => e = some (some 0) ∧ (∃ g, z.1 = [.slice p n c, .slice q n' c', undef, undef, nilS, v, .int .u32 ((0 : Nat) : Int), .int .i64 (i : Nat)] ++ tl 34 g) ∧ z.2.1 = h := fun v h g s =>
      goesT_runsW (tabH_ok conN_ok hcV_ok) (uadd_out p q n c n' c' v 0 i h g) (okW rfl (okW (decide_eq_false (by omega)) (okOne (decide_eq_false (by omega)))))
    have hv : vb 65536 O = vb 65536 A + vb 65536 B := by
      rw [List.take_of_length_le (by omega), List.take_of_length_le (by omega)] at hval
      omega
    obtain ⟨t, h', s⟩ := Y
    rcases hY with ⟨h0, k0, ⟨g, ht⟩, hh⟩ | ⟨h0, ⟨g, ht⟩, hh⟩
    · simp only at ht hh
      subst ht hh
      refine (out nilS _ g s).mono fun e z hz => ?_
      obtain ⟨rfl, z1, z2⟩ := hz
      exact ⟨rfl, i, O, hO, hi, hOd, hv, ha, hb, .inl ⟨h0, rfl, z1, z2⟩⟩
    · simp only at ht hh
      subst ht hh
      refine (out (sl 2 0 i grown) _ g s).mono fun e z hz => ?_
      obtain ⟨rfl, z1, z2⟩ := hz
      exact ⟨rfl, i, O, hO, hi, hOd, hv, ha, hb, .inr ⟨h0, z1, z2⟩⟩
theorem uadd_runs (NA : Nu 0 x p n c A) (NB : Nu 1 y q n' c' B) (lA : A.length = n) (lB : B.length = n') (hA : ∀ x ∈ A, Dg 65536 x) (hB : ∀ x ∈ B, Dg 65536 x) (hn : max n n' + 2 < 1073741824) (h0 : 0 < n ∨ 0 < n') {V : Nat} (hV : V = vb 65536 A + vb 65536 B) :
    RunsW (tabH Try.prog extY conN hcV) (seqs (aPreV Try.f78) (.seq (.seq (aR3 Try.f78) (.block 0 (.loop (aLoop Try.f78)))) (aEnd Try.f78))) ([.slice p n c, .slice q n' c'] ++ List.replicate 40 undef, hp2 y x, []) fun e z => (e = none ∨ e = some none) ∧ resS Try.prog Try.f78 z.1 z.2.1 = some (sl 2 0 (d16 V).length (d16 V).length) ∧ ∃ r, z.2.1.blk? 2 = some (wU (d16 V) ++ r, tU) := by
  refine goesT_listW (tabH_ok conN_ok hcV_ok) (uadd_pre _ _ _) (fun x hx => by cases hx) fun g => ?_
  refine seqW3 (goesT_runsW (tabH_ok conN_ok hcV_ok) (uadd_r3 _ _ _ g) (fun x hx => by cases hx)) (fun e y he => by cases he.1) (P2 := fun e Y => match e with | none => aFinV x y p q n c n' c' A B Y | some none => False | some (some _) => False) ?_ ?_ ?_
  · rintro ⟨t, h', s⟩ ⟨_, ⟨g', ht⟩, hh⟩
    simp only at ht hh
    subst ht hh
    exact RunsW.script (uadd_loop NA NB lA lB hA hB hn g')
  · intro e y he
    match e, he with
    | none, he => exact he
    | some id, he => exact he
  · rintro ⟨t, h', s⟩ ⟨i, O, hO, hi, hOd, hv, ha, hb, hY⟩
    rcases hY with ⟨e0, _⟩ | ⟨_, ⟨g', ht⟩, hh⟩
    · omega
    · simp only at ht hh
      subst ht hh
      have hrow : rowC tU (wU O) 0 i grown = true := by
        rw [← hO]
        exact rowC_wU (fun x hx => ⟨(hOd x hx).1, by have := (hOd x hx).2; omega⟩) (by omega) (capG _)
      refine (goesT_runsW (tabH_ok conN_ok hcV_ok) (uadd_end _ _ i 0 i x y (wU O) g') (okOne hrow)).mono fun e z he => ?_
      obtain ⟨rfl, ⟨g2, e1⟩, e2⟩ := he
      have et : trimN (cutI (wU O) 0 i) = (d16 V).length := by
        rw [← hO, cut_wU, trim_len (by omega) hOd, hv, ← hV]
        rfl
      refine ⟨.inr rfl, ?_, ?_⟩
      · rw [e1, e2, et]
        rfl
      · rw [e2]
        refine ⟨wU (O.drop (trimN O)), ?_⟩
        have e3 : wU (d16 V) ++ wU (O.drop (trimN O)) = wU O := by
          unfold d16
          rw [hV, ← hv, ← take_trim (by omega) _ hOd, ← wU_append, List.take_append_drop]
        rw [e3]
        rfl
end
theorem rows_hp2 {x y : List Value × TypeId} {p q : Option Addr} {n c n' c' : Nat} {A B : List Int} (NA : Nu 0 x p n c A) (NB : Nu 1 y q n' c' B) : (hp2 y x).rows := by
  refine ⟨rfl, fun b z hz => ?_⟩
  rcases blkTwo hz with ⟨rfl, rfl⟩ | ⟨rfl, rfl⟩
  · exact ⟨NA.ros.1, NA.lt0, NA.ros.2⟩
  · exact ⟨NB.ros.1, NB.lt0, NB.ros.2⟩
theorem fits_hp2 {x y : List Value × TypeId} {h : Hp} {a b : Nat} (hx : tomb x.2 = false → ∃ z r, h.blk? a = some z ∧ tomb z.2 = false ∧ rt z.2 = rt x.2 ∧ z.1 = x.1 ++ r) (hy : tomb y.2 = false → ∃ z r, h.blk? b = some z ∧ tomb z.2 = false ∧ rt z.2 = rt y.2 ∧ z.1 = y.1 ++ r) : (hp2 y x).fits (pair a b) h := by
  intro i z hz ht
  rcases blkTwo hz with ⟨rfl, rfl⟩ | ⟨rfl, rfl⟩
  · exact hx ht
  · exact hy ht
theorem uadd_body1 : Try.f78.body = some (cBody Try.f78) := by kernel_rfl
/-- the two rows of a call, and what is asked of them -/
def two16 (h : Hp) (p q : Option Addr) (n c n' c' : Nat) : Bool := rowP h p n c && rowP h q n' c' && dgB (rowOf h p n) && dgB (rowOf h q n') && Nat.blt (max n n' + 2) 1073741824
theorem two16_of {h : Hp} {p q : Option Addr} {n c n' c' : Nat} (hr : two16 h p q n c n' c' = true) : rowP h p n c = true ∧ rowP h q n' c' = true ∧ (∀ x ∈ rowOf h p n, Dg 65536 x) ∧ (∀ x ∈ rowOf h q n', Dg 65536 x) ∧ max n n' + 2 < 1073741824 := by
  unfold two16 at hr
  simp only [Bool.and_eq_true] at hr
  obtain ⟨⟨⟨⟨h1, h2⟩, h3⟩, h4⟩, h5⟩ := hr
  exact ⟨h1, h2, dgB_of h3, dgB_of h4, blt_iff.1 h5⟩
def vO (h : Hp) (p : Option Addr) (n : Nat) : Nat := vb 65536 (rowOf h p n)
/-- a number that is made: its row in a block of its own -/
theorem d16_dg (A : Nat) : ∀ x ∈ d16 A, Dg 65536 x := db_dg (by omega) A
def mk16 (V : Nat) (h : Hp) (s : List Dec) (lg : Log) : Option (Value × Hp × List Dec × Log) := some (sl h.n 0 (d16 V).length (d16 V).length, h.push (wU (d16 V)) tU, s, lg)
def gUadd : AnsH := fun vals h s =>
  match vals, s with
  | [.slice p n c, .slice q n' c'], .inr (.inr (.inr (.inl d))) :: s' =>
    match d with
    | true => mk16 (vO h p n + vO h q n') h s' [(two16 h p q n c n' c', true), (decide (0 < n ∨ 0 < n'), true)]
    | false => some (nilS, h, s', [(two16 h p q n c n' c', true), (decide (0 < n ∨ 0 < n'), false)])
  | _, _ => none
theorem gUadd_ok : AnsHOk 78 gUadd := by
  intro vals h s v h' s' lg hg hl m B w E hv
  unfold gUadd at hg
  split at hg
  · rename_i p n c q n' c' d s2
    split at hg
    · unfold mk16 at hg
      cases hg
      have q1 := hl _ (List.mem_cons_self)
      have q2 := hl _ (List.mem_cons_of_mem _ (List.mem_singleton.2 rfl))
      simp only [decide_eq_true_eq] at q1 q2
      obtain ⟨r1, r2, d1, d2, hn⟩ := two16_of q1
      obtain ⟨x, p', a, NA, eA, fA⟩ := nu_of 0 r1
      obtain ⟨y, q', b, NB, eB, fB⟩ := nu_of 1 r2
      have r := uadd_runs NA NB (rowOf_len r1) (rowOf_len r2) d1 d2 hn q2 rfl
      have := row_calls1 (T := tabH Try.prog extY conN hcV) Try.func78 uadd_body (rows_hp2 NA NB) (vals := [.slice p' n c, .slice q' n' c']) (fun v hv => by
        simp only [List.mem_cons, List.not_mem_nil, or_false] at hv
        rcases hv with rfl | rfl
        · exact NA.lt (by show 0 < 2; omega)
        · exact NB.lt (by show 1 < 2; omega)) (k := 2) (cs := wU (d16 (vO h p n + vO h q n'))) (ty := tU) (wU_lt _) (by kernel_rfl) r (by rfl) E (s := pair a b) (fits_hp2 fA fB)
      simp only [List.map_cons, List.map_nil] at this
      rw [eA _ rfl, eB _ rfl] at this
      exact this
    · cases hg
      have q1 := hl _ (List.mem_cons_self)
      have q2 := hl _ (List.mem_cons_of_mem _ (List.mem_singleton.2 rfl))
      simp only [decide_eq_false_iff_not] at q1 q2
      obtain ⟨r1, r2, d1, d2, hn⟩ := two16_of q1
      obtain ⟨x, p', a, NA, eA, fA⟩ := nu_of 0 r1
      obtain ⟨y, q', b, NB, eB, fB⟩ := nu_of 1 r2
      have hr : Runs (tabH Try.prog extY conN hcV) (cBody Try.f78) ([.slice p' n c, .slice q' n' c'] ++ List.replicate 40 undef, hp2 y x, []) fun e z => (e = none ∨ e = some none) ∧ resS Try.prog Try.f78 z.1 z.2.1 = some nilS := by
        refine (goesT_runs (tabH_ok conN_ok hcV_ok) (uadd_empty p' q' n c n' c' _) (okW rfl (okW (decide_eq_false (by omega)) (okOne (decide_eq_false (by omega)))))).mono fun e z he => ?_
        obtain ⟨rfl, ⟨g, e2⟩, e3⟩ := he
        refine ⟨.inr rfl, ?_⟩
        rw [e2, e3]
        rfl
      have := row_calls0 (T := tabH Try.prog extY conN hcV) Try.func78 uadd_body1 (rows_hp2 NA NB) (vals := [.slice p' n c, .slice q' n' c']) (fun v hv => by
        simp only [List.mem_cons, List.not_mem_nil, or_false] at hv
        rcases hv with rfl | rfl
        · exact NA.lt (by show 0 < 2; omega)
        · exact NB.lt (by show 1 < 2; omega)) (v := nilS) (by rfl) hr.w E (s := pair a b) (fits_hp2 fA fB)
      simp only [List.map_cons, List.map_nil] at this
      rw [eA _ rfl, eB _ rfl] at this
      exact this
  · cases hg
theorem usub_body : Try.f80.body = some (seqs (aPreV Try.f80) (.seq (.seq (aR3 Try.f80) (.block 0 (.loop (aLoop Try.f80)))) (aEnd Try.f80))) := by kernel_rfl
theorem usub_body1 : Try.f80.body = some (cBody Try.f80) := by kernel_rfl
theorem usub_pre (a b : Value) (h : Hp) : GoesT (evL (tabH Try.prog extY conN hcV) 100 (aPreV Try.f80) ([a, b] ++ List.replicate 33 undef, h, []) ⟨[], [], []⟩) 7 28 none [a, b, undef, undef, nilS, nilS, .int .u32 0] h [] := ⟨by kernel_rfl, by kernel_rfl, by kernel_rfl⟩
theorem usub_r3 (a b : Value) (h : Hp) (g : Nat → Value) : GoesT (evC (tabH Try.prog extY conN hcV) 100 false (aR3 Try.f80) ([a, b, undef, undef, nilS, nilS, .int .u32 0] ++ tl 28 g, h, []) ⟨[], [], []⟩) 8 27 none [a, b, undef, undef, nilS, nilS, .int .u32 0, .int .i64 0] h [] := ⟨by kernel_rfl, by kernel_rfl, by kernel_rfl⟩
def df (A B : List Int) (k i : Int) : Int := IntKind.u32.wrap (IntKind.u32.wrap (IntKind.u32.wrap (65536 + atN A i) - atN B i) - k)
theorem usub_nil (p q : Option Addr) (n c n' c' : Nat) (k i : Int) (x y : List Value × TypeId) (g : Nat → Value) : GoesT (evC (tabH Try.prog extY conN hcV) 100 false (aLoop Try.f80) ([.slice p n c, .slice q n' c', undef, undef, nilS, nilS, .int .u32 k, .int .i64 i] ++ tl 27 g, hp2 y x, [cmp true, cmp true]) ⟨[], [], []⟩) 8 27 none [.slice p n c, .slice q n' c', undef, undef, nilS, sl 3 0 1 grown, .int .u32 (IntKind.u32.wrap (1 - IntKind.u32.wrap ((df (rowOf (hp2 y x) p n) (rowOf (hp2 y x) q n') k i).tdiv 65536))), .int .i64 (IntKind.i64.wrap (i + 1))] ⟨4, [([.int .u32 ((df (rowOf (hp2 y x) p n) (rowOf (hp2 y x) q n') k i).tmod 65536)], tU), ([.int .u32 ((df (rowOf (hp2 y x) p n) (rowOf (hp2 y x) q n') k i).tmod 65536)], tU), y, x]⟩ [(decide ((65536 : Int) = 0), false), rP (hp2 y x) q n' c', rP (hp2 y x) p n c, (decide (i < n), true)] := ⟨by kernel_rfl, by kernel_rfl, by kernel_rfl⟩
theorem usub_some (p q : Option Addr) (n c n' c' z : Nat) (k i : Int) (x y : List Value × TypeId) (lo : List Value) (g : Nat → Value) : GoesT (evC (tabH Try.prog extY conN hcV) 100 false (aLoop Try.f80) ([.slice p n c, .slice q n' c', undef, undef, nilS, sl 2 0 z grown, .int .u32 k, .int .i64 i] ++ tl 27 g, hu3 lo y x, [cmp true, cmp true, at_]) ⟨[], [], []⟩) 8 27 none [.slice p n c, .slice q n' c', undef, undef, nilS, sl 4 0 (z + 1) grown, .int .u32 (IntKind.u32.wrap (1 - IntKind.u32.wrap ((df (rowOf (hu3 lo y x) p n) (rowOf (hu3 lo y x) q n') k i).tdiv 65536))), .int .i64 (IntKind.i64.wrap (i + 1))] ⟨5, [(lo ++ [.int .u32 ((df (rowOf (hu3 lo y x) p n) (rowOf (hu3 lo y x) q n') k i).tmod 65536)], tU), ([.int .u32 ((df (rowOf (hu3 lo y x) p n) (rowOf (hu3 lo y x) q n') k i).tmod 65536)], tU), ([], 2 * dead), y, x]⟩ [(appChk tU (lo, tU) ([.int .u32 ((df (rowOf (hu3 lo y x) p n) (rowOf (hu3 lo y x) q n') k i).tmod 65536)], tU) z 0 1, true), (decide ((65536 : Int) = 0), false), rP (hu3 lo y x) q n' c', rP (hu3 lo y x) p n c, (decide (i < n), true)] := ⟨by kernel_rfl, by kernel_rfl, by kernel_rfl⟩
theorem usub_out (p q : Option Addr) (n c n' c' : Nat) (v : Value) (k i : Int) (h : Hp) (g : Nat → Value) : GoesT (evC (tabH Try.prog extY conN hcV) 100 false (aLoop Try.f80) ([.slice p n c, .slice q n' c', undef, undef, nilS, v, .int .u32 k, .int .i64 i] ++ tl 27 g, h, [cmp false]) ⟨[], [], []⟩) 8 27 (some (some 0)) [.slice p n c, .slice q n' c', undef, undef, nilS, v, .int .u32 k, .int .i64 i] h [(decide (i < n), false)] := ⟨by kernel_rfl, by kernel_rfl, by kernel_rfl⟩
theorem usub_end (a b : Value) (z : Nat) (k i : Int) (x y : List Value × TypeId) (lo : List Value) (g : Nat → Value) : GoesT (evC (tabH Try.prog extY conN hcV) 100 false (aEnd Try.f80) ([a, b, undef, undef, nilS, sl 2 0 z grown, .int .u32 k, .int .i64 i] ++ tl 27 g, hu3 lo y x, []) ⟨[], [], []⟩) 5 30 (some none) [a, b, undef, undef, sl 2 0 (trimN (cutI lo 0 z)) (trimN (cutI lo 0 z))] (hu3 lo y x) [(rowC tU lo 0 z grown, true)] := ⟨by kernel_rfl, by kernel_rfl, by kernel_rfl⟩
theorem usub_empty (p q : Option Addr) (n c n' c' : Nat) (h : Hp) : GoesT (evC (tabH Try.prog extY conN hcV) 100 false (cBody Try.f80) ([.slice p n c, .slice q n' c'] ++ List.replicate 33 undef, h, [cmp false]) ⟨[], [], []⟩) 5 30 (some none) [.slice p n c, .slice q n' c', undef, undef, nilS] h [(decide ((0 : Int) < n), false)] := ⟨by kernel_rfl, by kernel_rfl, by kernel_rfl⟩
/-- a digit of a difference, and what is borrowed -/
def dfN (A B : List Int) (k i : Nat) : Nat := 65536 + dgN A i - dgN B i - k
theorem df_eq {A B : List Int} (hA : ∀ x ∈ A, Dg 65536 x) (hB : ∀ x ∈ B, Dg 65536 x) {k : Nat} (hk : k ≤ 1) (i : Nat) : df A B k i = ((dfN A B k i : Nat) : Int) ∧ dfN A B k i < 131072 ∧ dfN A B k i + dgN B i + k = 65536 + dgN A i := by
  have h1 := dgN_lt hA i
  have h2 := dgN_lt hB i
  unfold df dfN
  rw [atN_nat, atN_nat, ← h1.2, ← h2.2, wrap32 (n := 65536 + _) (by omega) (by omega), wrap32 (n := 65536 + _ - _) (by omega) (by omega), wrap32 (by omega) (by omega)]
  omega
theorem bor_eq {d : Nat} (h : d < 131072) : IntKind.u32.wrap (1 - IntKind.u32.wrap ((d : Int).tdiv 65536)) = ((1 - d / 65536 : Nat) : Int) := by
  rw [tdiv_nat (by omega), wrap32 (by omega) (by omega)]
  omega
section
variable {x y : List Value × TypeId} {p q : Option Addr} {n c n' c' : Nat} {A B : List Int}
/-- one round of Sub -/
theorem usub_round (NA : Nu 0 x p n c A) (NB : Nu 1 y q n' c' B) (hA : ∀ x ∈ A, Dg 65536 x) (hB : ∀ x ∈ B, Dg 65536 x) {k i : Nat} {O : List Int} (hk : k ≤ 1) (hi : i < 1073741823) (hO : O.length = i) (hgo : i < n) {Y : Lf}
    (hY : (i = 0 ∧ k = 0 ∧ (∃ g, Y.1 = [.slice p n c, .slice q n' c', undef, undef, nilS, nilS, .int .u32 (k : Nat), .int .i64 (i : Nat)] ++ tl 27 g) ∧ Y.2.1 = hp2 y x) ∨ (0 < i ∧ (∃ g, Y.1 = [.slice p n c, .slice q n' c', undef, undef, nilS, sl 2 0 i grown, .int .u32 (k : Nat), .int .i64 (i : Nat)] ++ tl 27 g) ∧ Y.2.1 = hu3 (wU O) y x)) :
    RunsW (tabH Try.prog extY conN hcV) (aLoop Try.f80) Y fun e z => e = none ∧ (∃ g, z.1 = [.slice p n c, .slice q n' c', undef, undef, nilS, sl 2 0 (i + 1) grown, .int .u32 ((1 - dfN A B k i / 65536 : Nat) : Int), .int .i64 ((i + 1 : Nat) : Int)] ++ tl 27 g) ∧ z.2.1 = hu3 (wU (O ++ [((dfN A B k i % 65536 : Nat) : Int)])) y x := by
  obtain ⟨t, h', s⟩ := Y
  obtain ⟨es, hlt, _⟩ := df_eq hA hB hk i
  have e1 : (df A B k i).tmod 65536 = ((dfN A B k i % 65536 : Nat) : Int) := by rw [es, tmod_nat]
  have e2 : IntKind.u32.wrap (1 - IntKind.u32.wrap ((df A B k i).tdiv 65536)) = ((1 - dfN A B k i / 65536 : Nat) : Int) := by rw [es, bor_eq hlt]
  have e3 : IntKind.i64.wrap ((i : Int) + 1) = ((i + 1 : Nat) : Int) := by rw [wrapI (by omega) (by omega)]; omega
  have hl : decide ((i : Int) < (n : Nat)) = true := decide_eq_true (by omega)
  rcases hY with ⟨h0, k0, ⟨g, ht⟩, hh⟩ | ⟨h0, ⟨g, ht⟩, hh⟩
  · simp only at ht hh
    subst ht hh
    have r0 := NA.row (hp2 y x) rfl
    have r1 := NB.row (hp2 y x) rfl
    have fin := goesT_runsW (tabH_ok conN_ok hcV_ok) (s0 := s) (usub_nil p q n c n' c' k i x y g) (okW rfl (okW r1.1 (okW r0.1 (okOne hl))))
    have hO' : O = [] := List.length_eq_zero_iff.1 (by omega)
    rw [r0.2, r1.2, e1, e2, e3] at fin
    have := fin.kept (k := 2) (b := 3) (base := [y, x]) (y := ([.int .u32 ((dfN A B k i % 65536 : Nat) : Int)], tU)) (front' := [.slice p n c, .slice q n' c', undef, undef, nilS, sl 2 0 1 grown, .int .u32 ((1 - dfN A B k i / 65536 : Nat) : Int), .int .i64 ((i + 1 : Nat) : Int)]) rfl
      (by simp only [List.map_cons, List.map_nil, NA.rn (f := keepK 2 3) rfl, NB.rn (f := keepK 2 3) rfl]; kernel_rfl) (kept_base NA NB rfl rfl) rfl (by omega) (fun v hv => by rw [List.mem_singleton.1 hv]; rfl) (fun v hv => by
        simp only [List.mem_cons, List.not_mem_nil, or_false] at hv
        rcases hv with rfl | rfl | rfl | rfl | rfl | rfl | rfl | rfl
        · exact NA.lt (by omega)
        · exact NB.lt (by omega)
        all_goals rfl)
    refine this.mono fun e z hz => ?_
    obtain ⟨rfl, ⟨g', q1⟩, q2⟩ := hz
    subst hO' h0
    exact ⟨rfl, ⟨g', q1⟩, q2⟩
  · simp only at ht hh
    subst ht hh
    have r0 := NA.row (hu3 (wU O) y x) rfl
    have r1 := NB.row (hu3 (wU O) y x) rfl
    have hchk : appChk tU (wU O, tU) ([.int .u32 ((df A B k i).tmod 65536)], tU) i 0 1 = true :=
      appChk_of (L := O) (M := [(df A B k i).tmod 65536]) hO.symm (show 0 < 1 by omega) (by show O.length + 1 ≤ _; omega)
    have fin := goesT_runsW (tabH_ok conN_ok hcV_ok) (s0 := s) (usub_some p q n c n' c' i k i x y (wU O) g) (by rw [r0.2, r1.2]; exact okW hchk (okW rfl (okW r1.1 (okW r0.1 (okOne hl)))))
    rw [r0.2, r1.2, e1, e2, e3] at fin
    have ew : wU O ++ [.int .u32 ((dfN A B k i % 65536 : Nat) : Int)] = wU (O ++ [((dfN A B k i % 65536 : Nat) : Int)]) := by rw [wU_append]; rfl
    rw [ew] at fin
    exact fin.kept (k := 2) (b := 4) (base := [y, x]) (y := (wU (O ++ [((dfN A B k i % 65536 : Nat) : Int)]), tU)) (front' := [.slice p n c, .slice q n' c', undef, undef, nilS, sl 2 0 (i + 1) grown, .int .u32 ((1 - dfN A B k i / 65536 : Nat) : Int), .int .i64 ((i + 1 : Nat) : Int)]) rfl
      (by simp only [List.map_cons, List.map_nil, NA.rn (f := keepK 2 4) rfl, NB.rn (f := keepK 2 4) rfl]; kernel_rfl) (kept_base NA NB rfl rfl) rfl (by omega) (wU_still _) (fun v hv => by
        simp only [List.mem_cons, List.not_mem_nil, or_false] at hv
        rcases hv with rfl | rfl | rfl | rfl | rfl | rfl | rfl | rfl
        · exact NA.lt (by omega)
        · exact NB.lt (by omega)
        all_goals rfl)
def sSt (x y : List Value × TypeId) (p q : Option Addr) (n c n' c' : Nat) (O : List Int) (i k : Nat) (Y : Lf) : Prop :=
  (i = 0 ∧ k = 0 ∧ (∃ g, Y.1 = [.slice p n c, .slice q n' c', undef, undef, nilS, nilS, .int .u32 (k : Nat), .int .i64 (i : Nat)] ++ tl 27 g) ∧ Y.2.1 = hp2 y x) ∨ (0 < i ∧ (∃ g, Y.1 = [.slice p n c, .slice q n' c', undef, undef, nilS, sl 2 0 i grown, .int .u32 (k : Nat), .int .i64 (i : Nat)] ++ tl 27 g) ∧ Y.2.1 = hu3 (wU O) y x)
def sInv (x y : List Value × TypeId) (p q : Option Addr) (n c n' c' : Nat) (A B : List Int) (m : Nat) (Y : Lf) : Prop :=
  ∃ (i k : Nat) (O : List Int), O.length = i ∧ m = n - i ∧ i ≤ n ∧ k ≤ 1 ∧ (∀ x ∈ O, Dg 65536 x) ∧ vb 65536 O + vb 65536 (B.take i) = vb 65536 (A.take i) + 65536 ^ O.length * k ∧ sSt x y p q n c n' c' O i k Y
def sFin (x y : List Value × TypeId) (p q : Option Addr) (n c n' c' : Nat) (A B : List Int) (Y : Lf) : Prop :=
  ∃ (k : Nat) (O : List Int), O.length = n ∧ (∀ x ∈ O, Dg 65536 x) ∧ vb 65536 O + vb 65536 (B.take n) = vb 65536 A + 65536 ^ n * k ∧ sSt x y p q n c n' c' O n k Y
theorem usub_loop (NA : Nu 0 x p n c A) (NB : Nu 1 y q n' c' B) (lA : A.length = n) (hA : ∀ x ∈ A, Dg 65536 x) (hB : ∀ x ∈ B, Dg 65536 x) (hn : n < 1073741823) (g : Nat → Value) :
    RunsW (tabH Try.prog extY conN hcV) (.block 0 (.loop (aLoop Try.f80))) ([.slice p n c, .slice q n' c', undef, undef, nilS, nilS, .int .u32 0, .int .i64 0] ++ tl 27 g, hp2 y x, []) fun e Y => match e with | none => sFin x y p q n c n' c' A B Y | some none => False | some (some _) => False := by
  refine RunsW.forLoop (P := sFin x y p q n c n' c' A B) (R := fun _ => False) (sInv x y p q n c n' c' A B) ?_ (n := n) ⟨0, 0, [], rfl, by omega, by omega, by omega, (fun x hx => by cases hx), by simp [vb], .inl ⟨rfl, rfl, ⟨g, rfl⟩, rfl⟩⟩
  rintro m Y ⟨i, k, O, hO, hm, hi, hk, hOd, hval, hY⟩
  by_cases hgo : i < n
  · have r := usub_round NA NB hA hB hk (by omega) hO hgo hY
    refine r.mono fun e z hz => ?_
    obtain ⟨rfl, z1, z2⟩ := hz
    obtain ⟨_, hlt, hsum⟩ := df_eq hA hB hk i
    refine ⟨n - (i + 1), by omega, i + 1, 1 - dfN A B k i / 65536, O ++ [((dfN A B k i % 65536 : Nat) : Int)], by simp [hO], rfl, by omega, by omega, fun x hx => ?_, ?_, .inr ⟨by omega, z1, z2⟩⟩
    · rcases List.mem_append.1 hx with hx | hx
      · exact hOd x hx
      · rw [List.mem_singleton.1 hx]
        exact ⟨by omega, by omega⟩
    · have ha : vb 65536 (A.take (i + 1)) = vb 65536 (A.take i) + 65536 ^ i * dgN A i := vb_take 65536 A i
      have hb : vb 65536 (B.take (i + 1)) = vb 65536 (B.take i) + 65536 ^ i * dgN B i := vb_take 65536 B i
      rw [ha, hb, vb_snoc, Int.toNat_natCast, List.length_append, hO, List.length_singleton, Nat.pow_succ, Nat.mul_assoc]
      rw [hO] at hval
      generalize 65536 ^ i = P at *
      have hq : dfN A B k i / 65536 ≤ 1 := by omega
      have e : dfN A B k i % 65536 + dgN B i + k = dgN A i + 65536 * (1 - dfN A B k i / 65536) := by omega
      have e' : P * (dfN A B k i % 65536) + P * dgN B i + P * k = P * dgN A i + P * (65536 * (1 - dfN A B k i / 65536)) := by rw [← Nat.mul_add, ← Nat.mul_add, ← Nat.mul_add, e]
      omega
  · have hin : i = n := by omega
    subst hin
    have hv : vb 65536 O + vb 65536 (B.take i) = vb 65536 A + 65536 ^ i * k := by
      rw [List.take_of_length_le (show A.length ≤ i by omega), hO] at hval
      exact hval
    have out : ∀ (v : Value) (h : Hp) (g : Nat → Value) (s : List Dec), RunsW (tabH Try.prog extY conN hcV) (aLoop Try.f80) ([.slice p i c, .slice q n' c', undef, undef, nilS, v, .int .u32 (k : Nat), .int .i64 (i : Nat)] ++ tl 27 g, h, s) fun e z => e = some (some 0) ∧ (∃ g, z.1 = [.slice p i c, .slice q n' c', undef, undef, nilS, v, .int .u32 (k : Nat), .int .i64 (i : Nat)] ++ tl 27 g) ∧ z.2.1 = h := fun v h g s =>
      goesT_runsW (tabH_ok conN_ok hcV_ok) (usub_out p q i c n' c' v k i h g) (okOne (decide_eq_false (by omega)))
    obtain ⟨t, h', s⟩ := Y
    rcases hY with ⟨h0, k0, ⟨g, ht⟩, hh⟩ | ⟨h0, ⟨g, ht⟩, hh⟩
    · simp only at ht hh
      subst ht hh
      refine (out nilS _ g s).mono fun e z hz => ?_
      obtain ⟨rfl, z1, z2⟩ := hz
      exact ⟨rfl, k, O, hO, hOd, hv, .inl ⟨h0, k0, z1, z2⟩⟩
    · simp only at ht hh
      subst ht hh
      refine (out (sl 2 0 i grown) _ g s).mono fun e z hz => ?_
      obtain ⟨rfl, z1, z2⟩ := hz
      exact ⟨rfl, k, O, hO, hOd, hv, .inr ⟨h0, z1, z2⟩⟩
theorem usub_runs (NA : Nu 0 x p n c A) (NB : Nu 1 y q n' c' B) (lA : A.length = n) (hA : ∀ x ∈ A, Dg 65536 x) (hB : ∀ x ∈ B, Dg 65536 x) (hn : n < 1073741823) (h0 : 0 < n) (hle : vb 65536 B ≤ vb 65536 A) {V : Nat} (hV : V = vb 65536 A - vb 65536 B) :
    RunsW (tabH Try.prog extY conN hcV) (seqs (aPreV Try.f80) (.seq (.seq (aR3 Try.f80) (.block 0 (.loop (aLoop Try.f80)))) (aEnd Try.f80))) ([.slice p n c, .slice q n' c'] ++ List.replicate 33 undef, hp2 y x, []) fun e z => (e = none ∨ e = some none) ∧ resS Try.prog Try.f80 z.1 z.2.1 = some (sl 2 0 (d16 V).length (d16 V).length) ∧ ∃ r, z.2.1.blk? 2 = some (wU (d16 V) ++ r, tU) := by
  refine goesT_listW (tabH_ok conN_ok hcV_ok) (usub_pre _ _ _) (fun x hx => by cases hx) fun g => ?_
  refine seqW3 (goesT_runsW (tabH_ok conN_ok hcV_ok) (usub_r3 _ _ _ g) (fun x hx => by cases hx)) (fun e y he => by cases he.1) (P2 := fun e Y => match e with | none => sFin x y p q n c n' c' A B Y | some none => False | some (some _) => False) ?_ ?_ ?_
  · rintro ⟨t, h', s⟩ ⟨_, ⟨g', ht⟩, hh⟩
    simp only at ht hh
    subst ht hh
    exact RunsW.script (usub_loop NA NB lA hA hB hn g')
  · intro e y he
    match e, he with
    | none, he => exact he
    | some id, he => exact he
  · rintro ⟨t, h', s⟩ ⟨k, O, hO, hOd, hval, hY⟩
    have hv : vb 65536 O = vb 65536 A - vb 65536 B := by
      have l1 := vb_lt (by omega) A hA
      have l2 := vb_lt (by omega) O hOd
      have hsp : vb 65536 B = vb 65536 (B.take n) + 65536 ^ (B.take n).length * vb 65536 (B.drop n) := by rw [← vb_append, List.take_append_drop]
      rw [lA] at l1
      rw [hO] at l2
      have hpos : 0 < 65536 ^ n := Nat.pow_pos (by omega)
      have hz : 65536 ^ (B.take n).length * vb 65536 (B.drop n) = 0 := by
        by_cases hb : B.length ≤ n
        · rw [List.drop_eq_nil_of_le hb]; simp [vb]
        · have hl : (B.take n).length = n := by rw [List.length_take]; omega
          rw [hl] at hsp ⊢
          rcases Nat.eq_zero_or_pos (vb 65536 (B.drop n)) with h | h
          · rw [h]; rfl
          · have := Nat.le_mul_of_pos_right (65536 ^ n) h
            omega
      have hk : k = 0 := by
        rcases Nat.eq_zero_or_pos k with h | h
        · exact h
        · have := Nat.le_mul_of_pos_right (65536 ^ n) h
          omega
      subst hk
      omega
    rcases hY with ⟨e0, _⟩ | ⟨_, ⟨g', ht⟩, hh⟩
    · omega
    · simp only at ht hh
      subst ht hh
      have hrow : rowC tU (wU O) 0 n grown = true := by
        rw [← hO]
        exact rowC_wU (fun x hx => ⟨(hOd x hx).1, by have := (hOd x hx).2; omega⟩) (by omega) (capG _)
      refine (goesT_runsW (tabH_ok conN_ok hcV_ok) (usub_end _ _ n k n x y (wU O) g') (okOne hrow)).mono fun e z he => ?_
      obtain ⟨rfl, ⟨g2, e1⟩, e2⟩ := he
      have et : trimN (cutI (wU O) 0 n) = (d16 V).length := by
        rw [← hO, cut_wU, trim_len (by omega) hOd, hv, ← hV]
        rfl
      refine ⟨.inr rfl, ?_, ?_⟩
      · rw [e1, e2, et]
        rfl
      · rw [e2]
        refine ⟨wU (O.drop (trimN O)), ?_⟩
        have e3 : wU (d16 V) ++ wU (O.drop (trimN O)) = wU O := by
          unfold d16
          rw [hV, ← hv, ← take_trim (by omega) _ hOd, ← wU_append, List.take_append_drop]
        rw [e3]
        rfl
end
def gUsub : AnsH := fun vals h s =>
  match vals, s with
  | [.slice p n c, .slice q n' c'], .inr (.inr (.inr (.inl d))) :: s' =>
    match d with
    | true => mk16 (vO h p n - vO h q n') h s' [(two16 h p q n c n' c' && Nat.ble (vO h q n') (vO h p n), true), (decide (0 < n), true)]
    | false => some (nilS, h, s', [(two16 h p q n c n' c', true), (decide (0 < n), false)])
  | _, _ => none
theorem gUsub_ok : AnsHOk 80 gUsub := by
  intro vals h s v h' s' lg hg hl m B w E hv
  unfold gUsub at hg
  split at hg
  · rename_i p n c q n' c' d s2
    split at hg
    · unfold mk16 at hg
      cases hg
      have q1 := hl _ (List.mem_cons_self)
      have q2 := hl _ (List.mem_cons_of_mem _ (List.mem_singleton.2 rfl))
      simp only [decide_eq_true_eq, Bool.and_eq_true] at q1 q2
      obtain ⟨q1, q3⟩ := q1
      have q3 := Nat.le_of_ble_eq_true q3
      obtain ⟨r1, r2, d1, d2, hn⟩ := two16_of q1
      obtain ⟨x, p', a, NA, eA, fA⟩ := nu_of 0 r1
      obtain ⟨y, q', b, NB, eB, fB⟩ := nu_of 1 r2
      have r := usub_runs NA NB (rowOf_len r1) d1 d2 (by omega) q2 q3 rfl
      have := row_calls1 (T := tabH Try.prog extY conN hcV) Try.func80 usub_body (rows_hp2 NA NB) (vals := [.slice p' n c, .slice q' n' c']) (fun v hv => by
        simp only [List.mem_cons, List.not_mem_nil, or_false] at hv
        rcases hv with rfl | rfl
        · exact NA.lt (by show 0 < 2; omega)
        · exact NB.lt (by show 1 < 2; omega)) (k := 2) (cs := wU (d16 (vO h p n - vO h q n'))) (ty := tU) (wU_lt _) (by kernel_rfl) r (by rfl) E (s := pair a b) (fits_hp2 fA fB)
      simp only [List.map_cons, List.map_nil] at this
      rw [eA _ rfl, eB _ rfl] at this
      exact this
    · cases hg
      have q1 := hl _ (List.mem_cons_self)
      have q2 := hl _ (List.mem_cons_of_mem _ (List.mem_singleton.2 rfl))
      simp only [decide_eq_false_iff_not] at q1 q2
      obtain ⟨r1, r2, d1, d2, hn⟩ := two16_of q1
      obtain ⟨x, p', a, NA, eA, fA⟩ := nu_of 0 r1
      obtain ⟨y, q', b, NB, eB, fB⟩ := nu_of 1 r2
      have hr : Runs (tabH Try.prog extY conN hcV) (cBody Try.f80) ([.slice p' n c, .slice q' n' c'] ++ List.replicate 33 undef, hp2 y x, []) fun e z => (e = none ∨ e = some none) ∧ resS Try.prog Try.f80 z.1 z.2.1 = some nilS := by
        refine (goesT_runs (tabH_ok conN_ok hcV_ok) (usub_empty p' q' n c n' c' _) (okOne (decide_eq_false (by omega)))).mono fun e z he => ?_
        obtain ⟨rfl, ⟨g, e2⟩, e3⟩ := he
        refine ⟨.inr rfl, ?_⟩
        rw [e2, e3]
        rfl
      have := row_calls0 (T := tabH Try.prog extY conN hcV) Try.func80 usub_body1 (rows_hp2 NA NB) (vals := [.slice p' n c, .slice q' n' c']) (fun v hv => by
        simp only [List.mem_cons, List.not_mem_nil, or_false] at hv
        rcases hv with rfl | rfl
        · exact NA.lt (by show 0 < 2; omega)
        · exact NB.lt (by show 1 < 2; omega)) (v := nilS) (by rfl) hr.w E (s := pair a b) (fits_hp2 fA fB)
      simp only [List.map_cons, List.map_nil] at this
      rw [eA _ rfl, eB _ rfl] at this
      exact this
  · cases hg
def cmpZ (a b : Nat) : Int := if a < b then -1 else if a = b then 0 else 1
theorem vb_split (b : Nat) (L : List Int) (k : Nat) : vb b L = vb b (L.take k) + b ^ k * vb b (L.drop k) := by
  by_cases h : k ≤ L.length
  · have e : (L.take k).length = k := by rw [List.length_take]; omega
    have := vb_append b (L.take k) (L.drop k)
    rw [List.take_append_drop, e] at this
    exact this
  · rw [List.take_of_length_le (by omega), List.drop_eq_nil_of_le (by omega)]
    simp [vb]
theorem vb_drop {L : List Int} (k : Nat) : vb 65536 (L.drop k) = dgN L k + 65536 * vb 65536 (L.drop (k + 1)) := by
  by_cases h : k < L.length
  · rw [List.drop_eq_getElem_cons h]
    simp only [vb, dgN]
    rw [getD_get h]
  · rw [List.drop_eq_nil_of_le (by omega), List.drop_eq_nil_of_le (by omega), dgN_out (by omega)]
    rfl
theorem take_lt {L : List Int} (h : ∀ x ∈ L, Dg 65536 x) (k : Nat) : vb 65536 (L.take k) < 65536 ^ k := by
  have h1 := vb_lt (b := 65536) (by omega) (L.take k) (fun x hx => h x (List.mem_of_mem_take hx))
  have h2 : (L.take k).length ≤ k := by rw [List.length_take]; omega
  exact Nat.lt_of_lt_of_le h1 (Nat.pow_le_pow_right (by omega) h2)
theorem less_of {A B : List Int} (hA : ∀ x ∈ A, Dg 65536 x) {k : Nat} (he : vb 65536 (A.drop (k + 1)) = vb 65536 (B.drop (k + 1))) (hd : dgN A k < dgN B k) : vb 65536 A < vb 65536 B := by
  have a1 := vb_split 65536 A k
  have b1 := vb_split 65536 B k
  have a2 := take_lt hA k
  rw [vb_drop, he] at a1
  rw [vb_drop] at b1
  generalize vb 65536 (B.drop (k + 1)) = D at *
  generalize 65536 ^ k = P at *
  have h1 : P * (dgN A k + 65536 * D + 1) ≤ P * (dgN B k + 65536 * D) := Nat.mul_le_mul_left _ (by omega)
  rw [Nat.mul_add P _ 1, Nat.mul_one] at h1
  omega
def kPre (F : Func) : List Code := [cFst (cBody F)]
def kR1 (F : Func) : Code := cFst (cFst (cSnd (cBody F)))
def kLoop (F : Func) : Code := cIn (cIn (cSnd (cFst (cSnd (cBody F)))))
def kEnd (F : Func) : Code := cSnd (cSnd (cBody F))
theorem ucmp_body : Try.f79.body = some (seqs (kPre Try.f79) (.seq (.seq (kR1 Try.f79) (.block 0 (.loop (kLoop Try.f79)))) (kEnd Try.f79))) := by kernel_rfl
def mxI (n n' : Nat) : Int := IntKind.i64.wrap ((if (n' : Int) > n then (n' : Int) else n) - 1)
theorem ucmp_pre (a b : Value) (h : Hp) : GoesT (evL (tabH Try.prog extY conN hcV) 100 (kPre Try.f79) ([a, b] ++ List.replicate 28 undef, h, []) ⟨[], [], []⟩) 5 25 none [a, b, undef, undef, .int .i64 0] h [] := ⟨by kernel_rfl, by kernel_rfl, by kernel_rfl⟩
theorem ucmp_r1 (p q : Option Addr) (n c n' c' : Nat) (h : Hp) (g : Nat → Value) : GoesT (evC (tabH Try.prog extY conN hcV) 100 false (kR1 Try.f79) ([.slice p n c, .slice q n' c', undef, undef, .int .i64 0] ++ tl 25 g, h, []) ⟨[], [], []⟩) 6 24 none [.slice p n c, .slice q n' c', undef, undef, .int .i64 0, .int .i64 (mxI n n')] h [] := ⟨by kernel_rfl, by kernel_rfl, by kernel_rfl⟩
theorem ucmp_lt (p q : Option Addr) (n c n' c' : Nat) (i : Int) (x y : List Value × TypeId) (g : Nat → Value) : GoesT (evC (tabH Try.prog extY conN hcV) 100 false (kLoop Try.f79) ([.slice p n c, .slice q n' c', undef, undef, .int .i64 0, .int .i64 i] ++ tl 24 g, hp2 y x, [cmp true, cmp true]) ⟨[], [], []⟩) 6 24 (some none) [.slice p n c, .slice q n' c', undef, undef, .int .i64 (-1), .int .i64 i] (hp2 y x) [(decide (atN (rowOf (hp2 y x) p n) i < atN (rowOf (hp2 y x) q n') i), true), rP (hp2 y x) q n' c', rP (hp2 y x) p n c, (decide (i ≥ 0), true)] := ⟨by kernel_rfl, by kernel_rfl, by kernel_rfl⟩
theorem ucmp_gt (p q : Option Addr) (n c n' c' : Nat) (i : Int) (x y : List Value × TypeId) (g : Nat → Value) : GoesT (evC (tabH Try.prog extY conN hcV) 100 false (kLoop Try.f79) ([.slice p n c, .slice q n' c', undef, undef, .int .i64 0, .int .i64 i] ++ tl 24 g, hp2 y x, [cmp true, cmp false, cmp true]) ⟨[], [], []⟩) 6 24 (some none) [.slice p n c, .slice q n' c', undef, undef, .int .i64 1, .int .i64 i] (hp2 y x) [(decide (atN (rowOf (hp2 y x) p n) i > atN (rowOf (hp2 y x) q n') i), true), rP (hp2 y x) q n' c', rP (hp2 y x) p n c, (decide (atN (rowOf (hp2 y x) p n) i < atN (rowOf (hp2 y x) q n') i), false), rP (hp2 y x) q n' c', rP (hp2 y x) p n c, (decide (i ≥ 0), true)] := ⟨by kernel_rfl, by kernel_rfl, by kernel_rfl⟩
theorem ucmp_eq (p q : Option Addr) (n c n' c' : Nat) (i : Int) (x y : List Value × TypeId) (g : Nat → Value) : GoesT (evC (tabH Try.prog extY conN hcV) 100 false (kLoop Try.f79) ([.slice p n c, .slice q n' c', undef, undef, .int .i64 0, .int .i64 i] ++ tl 24 g, hp2 y x, [cmp true, cmp false, cmp false]) ⟨[], [], []⟩) 6 24 none [.slice p n c, .slice q n' c', undef, undef, .int .i64 0, .int .i64 (i1 i)] (hp2 y x) [(decide (atN (rowOf (hp2 y x) p n) i > atN (rowOf (hp2 y x) q n') i), false), rP (hp2 y x) q n' c', rP (hp2 y x) p n c, (decide (atN (rowOf (hp2 y x) p n) i < atN (rowOf (hp2 y x) q n') i), false), rP (hp2 y x) q n' c', rP (hp2 y x) p n c, (decide (i ≥ 0), true)] := ⟨by kernel_rfl, by kernel_rfl, by kernel_rfl⟩
theorem ucmp_out (a b : Value) (i : Int) (h : Hp) (g : Nat → Value) : GoesT (evC (tabH Try.prog extY conN hcV) 100 false (kLoop Try.f79) ([a, b, undef, undef, .int .i64 0, .int .i64 i] ++ tl 24 g, h, [cmp false]) ⟨[], [], []⟩) 6 24 (some (some 0)) [a, b, undef, undef, .int .i64 0, .int .i64 i] h [(decide (i ≥ 0), false)] := ⟨by kernel_rfl, by kernel_rfl, by kernel_rfl⟩
theorem ucmp_end (a b : Value) (i : Int) (h : Hp) (g : Nat → Value) : GoesT (evC (tabH Try.prog extY conN hcV) 100 false (kEnd Try.f79) ([a, b, undef, undef, .int .i64 0, .int .i64 i] ++ tl 24 g, h, []) ⟨[], [], []⟩) 5 25 (some none) [a, b, undef, undef, .int .i64 0] h [] := ⟨by kernel_rfl, by kernel_rfl, by kernel_rfl⟩
section
variable {x y : List Value × TypeId} {p q : Option Addr} {n c n' c' : Nat} {A B : List Int}
def kRet (p q : Option Addr) (n c n' c' : Nat) (A B : List Int) (Y : Lf) : Prop := ∃ i g, Y.1 = [.slice p n c, .slice q n' c', undef, undef, .int .i64 (cmpZ (vb 65536 A) (vb 65536 B)), .int .i64 i] ++ tl 24 g
theorem ucmp_loop (NA : Nu 0 x p n c A) (NB : Nu 1 y q n' c' B) (lA : A.length = n) (lB : B.length = n') (hA : ∀ x ∈ A, Dg 65536 x) (hB : ∀ x ∈ B, Dg 65536 x) (hn : max n n' + 2 < 1073741824) (g : Nat → Value) :
    Runs (tabH Try.prog extY conN hcV) (.block 0 (.loop (kLoop Try.f79))) ([.slice p n c, .slice q n' c', undef, undef, .int .i64 0, .int .i64 (mxI n n')] ++ tl 24 g, hp2 y x, []) fun e Y => match e with | none => cmpZ (vb 65536 A) (vb 65536 B) = 0 ∧ ∃ i g, Y.1 = [.slice p n c, .slice q n' c', undef, undef, .int .i64 0, .int .i64 i] ++ tl 24 g | some none => kRet p q n c n' c' A B Y | some (some _) => False := by
  have em : mxI n n' = ((max n n' : Nat) : Int) - 1 := by
    unfold mxI
    split
    · rw [wrapI (by omega) (by omega)]; omega
    · rw [wrapI (by omega) (by omega)]; omega
  refine Runs.forLoop (P := fun Y => cmpZ (vb 65536 A) (vb 65536 B) = 0 ∧ ∃ i g, Y.1 = [.slice p n c, .slice q n' c', undef, undef, .int .i64 0, .int .i64 i] ++ tl 24 g) (R := kRet p q n c n' c' A B)
    (fun k Y => k ≤ max n n' ∧ vb 65536 (A.drop k) = vb 65536 (B.drop k) ∧ (∃ g, Y.1 = [.slice p n c, .slice q n' c', undef, undef, .int .i64 0, .int .i64 ((k : Nat) - 1 : Int)] ++ tl 24 g) ∧ Y.2.1 = hp2 y x) ?_ (n := max n n') ⟨Nat.le_refl _, by rw [List.drop_eq_nil_of_le (by omega), List.drop_eq_nil_of_le (by omega)], ⟨g, by rw [em]⟩, rfl⟩
  rintro k ⟨t, h', s⟩ ⟨hk, he, ⟨g, ht⟩, hh⟩
  simp only at ht hh
  subst ht hh
  cases k with
  | zero =>
    refine (goesT_runs (tabH_ok conN_ok hcV_ok) (ucmp_out _ _ _ _ g) (okOne (decide_eq_false (by omega)))).mono fun e z hz => ?_
    obtain ⟨rfl, ⟨g', z1⟩, z2⟩ := hz
    refine ⟨rfl, ?_, _, g', z1⟩
    simp only [List.drop_zero] at he
    unfold cmpZ
    rw [he]
    simp
  | succ k =>
    have ek : ((k + 1 : Nat) : Int) - 1 = (k : Int) := by omega
    rw [ek]
    have r0 := NA.row (hp2 y x) rfl
    have r1 := NB.row (hp2 y x) rfl
    have d1 := dgN_lt hA k
    have d2 := dgN_lt hB k
    have hg : decide ((k : Int) ≥ 0) = true := decide_eq_true (by omega)
    by_cases h1 : dgN A k < dgN B k
    · have hlt := less_of hA he h1
      refine (goesT_runs (tabH_ok conN_ok hcV_ok) (ucmp_lt p q n c n' c' k x y g) (by
        rw [r0.2, r1.2, atN_nat, atN_nat, ← d1.2, ← d2.2]
        exact okW (decide_eq_true (by omega)) (okW r1.1 (okW r0.1 (okOne hg))))).mono fun e z hz => ?_
      obtain ⟨rfl, ⟨g', z1⟩, z2⟩ := hz
      refine ⟨k, g', ?_⟩
      rw [z1]
      unfold cmpZ
      rw [if_pos hlt]
    · by_cases h2 : dgN B k < dgN A k
      · have hlt := less_of hB he.symm h2
        refine (goesT_runs (tabH_ok conN_ok hcV_ok) (ucmp_gt p q n c n' c' k x y g) (by
          rw [r0.2, r1.2, atN_nat, atN_nat, ← d1.2, ← d2.2]
          exact okW (decide_eq_true (by omega)) (okW r1.1 (okW r0.1 (okW (decide_eq_false (by omega)) (okW r1.1 (okW r0.1 (okOne hg)))))))).mono fun e z hz => ?_
        obtain ⟨rfl, ⟨g', z1⟩, z2⟩ := hz
        refine ⟨k, g', ?_⟩
        rw [z1]
        unfold cmpZ
        rw [if_neg (by omega), if_neg (by omega)]
      · refine (goesT_runs (tabH_ok conN_ok hcV_ok) (ucmp_eq p q n c n' c' k x y g) (by
          rw [r0.2, r1.2, atN_nat, atN_nat, ← d1.2, ← d2.2]
          exact okW (decide_eq_false (by omega)) (okW r1.1 (okW r0.1 (okW (decide_eq_false (by omega)) (okW r1.1 (okW r0.1 (okOne hg)))))))).mono fun e z hz => ?_
        obtain ⟨rfl, ⟨g', z1⟩, z2⟩ := hz
        have e1 : i1 (k : Int) = (k : Int) - 1 := by unfold i1; rw [wrapI (by omega) (by omega)]
        refine ⟨k, by omega, by omega, ?_, ⟨g', by rw [z1, e1]⟩, z2⟩
        rw [vb_drop, vb_drop (L := B), he]
        omega
theorem ucmp_runs (NA : Nu 0 x p n c A) (NB : Nu 1 y q n' c' B) (lA : A.length = n) (lB : B.length = n') (hA : ∀ x ∈ A, Dg 65536 x) (hB : ∀ x ∈ B, Dg 65536 x) (hn : max n n' + 2 < 1073741824) :
    Runs (tabH Try.prog extY conN hcV) (seqs (kPre Try.f79) (.seq (.seq (kR1 Try.f79) (.block 0 (.loop (kLoop Try.f79)))) (kEnd Try.f79))) ([.slice p n c, .slice q n' c'] ++ List.replicate 28 undef, hp2 y x, []) fun e z => (e = none ∨ e = some none) ∧ resS Try.prog Try.f79 z.1 z.2.1 = some (.int .i64 (cmpZ (vb 65536 A) (vb 65536 B))) := by
  refine goesT_list (tabH_ok conN_ok hcV_ok) (ucmp_pre _ _ _) (fun x hx => by cases hx) fun g => ?_
  refine Runs.seq (P1 := fun e Y => match e with | none => cmpZ (vb 65536 A) (vb 65536 B) = 0 ∧ ∃ i g, Y.1 = [.slice p n c, .slice q n' c', undef, undef, .int .i64 0, .int .i64 i] ++ tl 24 g | some none => kRet p q n c n' c' A B Y | some (some _) => False) (Runs.seq (P1 := fun e Y => e = none ∧ (∃ g, Y.1 = [.slice p n c, .slice q n' c', undef, undef, .int .i64 0, .int .i64 (mxI n n')] ++ tl 24 g) ∧ Y.2.1 = hp2 y x) (goesT_runs (tabH_ok conN_ok hcV_ok) (ucmp_r1 p q n c n' c' _ g) (fun x hx => by cases hx)) ?_ (fun e y he => by cases he.1)) ?_ ?_
  · rintro ⟨t, h', s⟩ ⟨_, ⟨g', ht⟩, hh⟩
    simp only at ht hh
    subst ht hh
    exact Runs.script (ucmp_loop NA NB lA lB hA hB hn g')
  · rintro ⟨t, h', s⟩ ⟨e0, i, g', ht⟩
    simp only at ht
    subst ht
    refine (goesT_runs (tabH_ok conN_ok hcV_ok) (ucmp_end _ _ i h' g') (fun x hx => by cases hx)).mono fun e z hz => ?_
    obtain ⟨rfl, ⟨g2, z1⟩, z2⟩ := hz
    refine ⟨.inr rfl, ?_⟩
    rw [z1, e0]
    rfl
  · intro e Y he
    match e, he with
    | none, ⟨i, g', h1⟩ =>
      refine ⟨.inr rfl, ?_⟩
      rw [h1]
      rfl
end
def gUcmp : AnsH := fun vals h s =>
  match vals with
  | [.slice p n c, .slice q n' c'] => some (.int .i64 (cmpZ (vO h p n) (vO h q n')), h, s, [(two16 h p q n c n' c', true)])
  | _ => none
theorem gUcmp_ok : AnsHOk 79 gUcmp := by
  intro vals h s v h' s' lg hg hl m B w E hv
  unfold gUcmp at hg
  split at hg
  · rename_i p n c q n' c'
    cases hg
    have q1 := hl _ (List.mem_singleton.2 rfl)
    simp only at q1
    obtain ⟨r1, r2, d1, d2, hn⟩ := two16_of q1
    obtain ⟨x, p', a, NA, eA, fA⟩ := nu_of 0 r1
    obtain ⟨y, q', b, NB, eB, fB⟩ := nu_of 1 r2
    have r := ucmp_runs NA NB (rowOf_len r1) (rowOf_len r2) d1 d2 hn
    have := row_calls0 (T := tabH Try.prog extY conN hcV) Try.func79 ucmp_body (rows_hp2 NA NB) (vals := [.slice p' n c, .slice q' n' c']) (fun v hv => by
      simp only [List.mem_cons, List.not_mem_nil, or_false] at hv
      rcases hv with rfl | rfl
      · exact NA.lt (by show 0 < 2; omega)
      · exact NB.lt (by show 1 < 2; omega)) (by rfl) r.w E (s := pair a b) (fits_hp2 fA fB)
    simp only [List.map_cons, List.map_nil] at this
    rw [eA _ rfl, eB _ rfl] at this
    exact this
  · cases hg
end Go.Proofs.Ytekebccjflilnaa
