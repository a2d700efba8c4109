/-
  ConVA, ConVB, R16, ToS, ToD, NumS, ConVC, NumI, ConVG
-/
import Derived.Test.YtmgcnijpoklhkaaG13
namespace Go.Proofs.Ytmgcnijpoklhkaa
open Go.KRun Go.Nt
set_option maxRecDepth 100000
theorem ushl_loop1 (a v : Value) (k : Nat) (h : Hp) (g : Nat → Value) :
    Runs (tabH Try.prog extY conN hcV) (.block 0 (.loop (sL1 Try.f11))) ([a, .int .i64 (k : Nat), undef, undef, nilS, v, .int .u32 1, .int .i64 0] ++ tl 42 g, h, []) fun e Y => match e with | none => (∃ g, Y.1 = [a, .int .i64 (k : Nat), undef, undef, nilS, v, .int .u32 ((2 ^ (k % 16) : Nat) : Int), .int .i64 ((k % 16 : Nat) : Int)] ++ tl 42 g) ∧ Y.2.1 = h | some none => False | some (some _) => False := by
  have em : (k : Int).tmod 16 = ((k % 16 : Nat) : Int) := by rw [Int.tmod_eq_emod_of_nonneg (by omega)]; omega
  refine Runs.forLoop (P := fun Y => (∃ g, Y.1 = [a, .int .i64 (k : Nat), undef, undef, nilS, v, .int .u32 ((2 ^ (k % 16) : Nat) : Int), .int .i64 ((k % 16 : Nat) : Int)] ++ tl 42 g) ∧ Y.2.1 = h) (R := fun _ => False)
    (fun m Y => ∃ j : Nat, j ≤ k % 16 ∧ m = k % 16 - j ∧ (∃ g, Y.1 = [a, .int .i64 (k : Nat), undef, undef, nilS, v, .int .u32 ((2 ^ j : Nat) : Int), .int .i64 (j : Nat)] ++ tl 42 g) ∧ Y.2.1 = h) ?_ (n := k % 16) ⟨0, by omega, by omega, ⟨g, rfl⟩, rfl⟩
  rintro m ⟨t, h', s⟩ ⟨j, hj, hm, ⟨g, ht⟩, hh⟩
  simp only at ht hh
  subst ht hh
  by_cases hlt : j < k % 16
  · refine (goesT_runs (tabH_ok conN_ok hcV_ok) (ushl_l1 a v k _ j h' g) (okTwo (by rw [em]; exact decide_eq_true (by omega)) (okOne rfl))).mono fun e z hz => ?_
    obtain ⟨rfl, ⟨g', z1⟩, z2⟩ := hz
    have hp : 2 ^ j ≤ 32768 := by
      have := Nat.pow_le_pow_right (show 0 < 2 by omega) (show j ≤ 15 by omega)
      omega
    have e1 : IntKind.u32.wrap (2 * ((2 ^ j : Nat) : Int)) = ((2 ^ (j + 1) : Nat) : Int) := by
      rw [Nat.pow_succ]
      generalize 2 ^ j = Q at hp ⊢
      rw [wrap32 (by omega) (by omega)]
      omega
    have e2 : IntKind.i64.wrap ((j : Int) + 1) = ((j + 1 : Nat) : Int) := by rw [wrapI (by omega) (by omega)]; omega
    exact ⟨k % 16 - (j + 1), by omega, j + 1, by omega, rfl, ⟨g', by rw [z1, e1, e2]⟩, z2⟩
  · have hj' : j = k % 16 := by omega
    subst hj'
    refine (goesT_runs (tabH_ok conN_ok hcV_ok) (ushl_o1 a v k _ _ h' g) (okTwo (by rw [em]; exact decide_eq_false (by omega)) (okOne rfl))).mono fun e z hz => ?_
    obtain ⟨rfl, ⟨g', z1⟩, z2⟩ := hz
    exact ⟨rfl, ⟨g', z1⟩, z2⟩
theorem appChz_of {L M : List Int} {k c : Nat} (hk : k = L.length) (hc : k = c) (hM : 0 < M.length) (hb : L.length + M.length ≤ 1073741824) : appChz (wU L, tU) (wU M, tU) k c 0 M.length = true := by
  subst hc
  subst hk
  unfold appChz
  simp only [Bool.and_eq_true, Bool.not_eq_true', wU_len]
  refine ⟨⟨⟨⟨⟨⟨⟨⟨Nat.beq_refl _, Nat.ble_eq_true_of_le hb⟩, by kernel_rfl⟩, blt_iff.2 (by unfold dead; omega)⟩, ?_⟩, by kernel_rfl⟩, Nat.ble_eq_true_of_le (by omega)⟩, blt_iff.2 hM⟩, ?_⟩
  · cases h : Nat.ble (L.length + M.length) L.length
    · rfl
    · have := Nat.le_of_ble_eq_true h
      omega
  · rw [List.drop_zero, ← wU_len, List.take_length]
    exact wU_one M
theorem cy_eq {e x P : Nat} (he : e < P) (hx : x < 65536) (hP : P ≤ 32768) : cy e x P = ((e + x * P : Nat) : Int) ∧ e + x * P < 65536 * P := by
  have h1 : x * P ≤ 65535 * P := Nat.mul_le_mul_right P (by omega)
  have e1 : (x : Int) * (P : Int) = ((x * P : Nat) : Int) := by simp
  unfold cy
  rw [e1, wrap32 (n := ((x * P : Nat) : Int)) (by omega) (by omega), wrap32 (by omega) (by omega)]
  omega
/-- one part more of a number moved up -/
theorem shl_step {O : List Int} {z i e x P W : Nat} (hO : O.length = z + i) (h : vb 65536 O + 65536 ^ (z + i) * e = 65536 ^ z * (P * W)) :
    vb 65536 (O ++ [(((e + x * P) % 65536 : Nat) : Int)]) + 65536 ^ (z + (i + 1)) * ((e + x * P) / 65536) = 65536 ^ z * (P * (W + 65536 ^ i * x)) := by
  rw [vb_snoc, Int.toNat_natCast, hO, ← Nat.add_assoc, Nat.pow_succ, Nat.mul_assoc]
  have e0 := Nat.mod_add_div (e + x * P) 65536
  have e1 : 65536 ^ (z + i) * ((e + x * P) % 65536) + 65536 ^ (z + i) * (65536 * ((e + x * P) / 65536)) = 65536 ^ (z + i) * e + 65536 ^ (z + i) * (x * P) := by rw [← Nat.mul_add, e0, Nat.mul_add]
  have e2 : 65536 ^ z * (P * (W + 65536 ^ i * x)) = 65536 ^ z * (P * W) + 65536 ^ (z + i) * (x * P) := by
    rw [Nat.mul_add P, Nat.mul_add (65536 ^ z), Nat.pow_add]
    congr 1
    rw [Nat.mul_assoc (65536 ^ z), Nat.mul_comm x P, Nat.mul_left_comm P]
  omega
section
variable {l : List Value} {o c : Nat} {A : List Int}
def hSt (l : List Value) (o c n z i P e : Nat) (j1 j7 : Value) (O : List Int) (Y : Lf) : Prop :=
  (i = 0 ∧ (∃ g, Y.1 = [sl 0 o n c, j1, undef, undef, nilS, sl 1 0 z z, .int .u32 (P : Nat), j7, .int .u32 (e : Nat), .int .i64 (i : Nat)] ++ tl 40 g) ∨ (0 < i ∧ ∃ g, Y.1 = [sl 0 o n c, j1, undef, undef, nilS, sl 1 0 (z + i) grown, .int .u32 (P : Nat), j7, .int .u32 (e : Nat), .int .i64 (i : Nat)] ++ tl 40 g)) ∧ Y.2.1 = ⟨2, [(wU O, tU), (l, tR)]⟩
theorem ushl_round (hR : Row l o A) (hs : ∀ v ∈ l, still v = true) (hA : ∀ x ∈ A, Dg 65536 x) {z i P e : Nat} {O : List Int} (hO : O.length = z + i) (he : e < P) (hP : P ≤ 32768) (hi : i < A.length) (hz : z + A.length + 2 < 1073741824) {j1 j7 : Value} (w1 : lt 2 j1 = true ∧ rn (keepK 1 3) j1 = j1) (w7 : lt 2 j7 = true ∧ rn (keepK 1 3) j7 = j7) {Y : Lf} (hY : hSt l o c A.length z i P e j1 j7 O Y) :
    RunsW (tabH Try.prog extY conN hcV) (sL2 Try.f11) Y fun ex W => ex = none ∧ (∃ g, W.1 = [sl 0 o A.length c, j1, undef, undef, nilS, sl 1 0 (z + (i + 1)) grown, .int .u32 (P : Nat), j7, .int .u32 (((e + dgN A i * P) / 65536 : Nat) : Int), .int .i64 ((i + 1 : Nat) : Int)] ++ tl 40 g) ∧ W.2.1 = ⟨2, [(wU (O ++ [(((e + dgN A i * P) % 65536 : Nat) : Int)]), tU), (l, tR)]⟩ := by
  obtain ⟨t, h', s⟩ := Y
  have hd := dgN_lt hA i
  obtain ⟨ec, hlt⟩ := cy_eq he hd.1 hP
  have e1 : (cy e (A.getD i 0) P).tmod 65536 = (((e + dgN A i * P) % 65536 : Nat) : Int) := by rw [← hd.2, ec, tmod_nat]
  have e2 : IntKind.u32.wrap ((cy e (A.getD i 0) P).tdiv 65536) = (((e + dgN A i * P) / 65536 : Nat) : Int) := by rw [← hd.2, ec, tdiv_nat (by omega)]
  have e3 : IntKind.i64.wrap ((i : Int) + 1) = ((i + 1 : Nat) : Int) := by rw [wrapI (by omega) (by omega)]; omega
  have hlog : okLog (lAx l o A.length i (A.getD i 0)) := okTwo rfl (okTwo (by
    show cellIs (l[o + (i : Int).toNat * 1]?) _ = true
    rw [Int.toNat_natCast, Nat.mul_one, hR.cell hi]; simp [cellIs]) (okTwo (decide_eq_true (by omega)) (okOne (decide_eq_true (by omega)))))
  have ew : wU O ++ [.int .u32 (((e + dgN A i * P) % 65536 : Nat) : Int)] = wU (O ++ [(((e + dgN A i * P) % 65536 : Nat) : Int)]) := by rw [wU_append]; rfl
  have key : ∀ {X : List Value × TypeId}, RunsW (tabH Try.prog extY conN hcV) (sL2 Try.f11) (t, h', s) (fun ex W => ex = none ∧ (∃ g, W.1 = [sl 0 o A.length c, j1, undef, undef, nilS, sl 3 0 (z + i + 1) grown, .int .u32 (P : Nat), j7, .int .u32 (((e + dgN A i * P) / 65536 : Nat) : Int), .int .i64 ((i + 1 : Nat) : Int)] ++ tl 40 g) ∧ W.2.1 = ⟨4, [(wU (O ++ [(((e + dgN A i * P) % 65536 : Nat) : Int)]), tU), ([.int .u32 (((e + dgN A i * P) % 65536 : Nat) : Int)], tU), X, (l, tR)]⟩) →
      RunsW (tabH Try.prog extY conN hcV) (sL2 Try.f11) (t, h', s) fun ex W => ex = none ∧ (∃ g, W.1 = [sl 0 o A.length c, j1, undef, undef, nilS, sl 1 0 (z + (i + 1)) grown, .int .u32 (P : Nat), j7, .int .u32 (((e + dgN A i * P) / 65536 : Nat) : Int), .int .i64 ((i + 1 : Nat) : Int)] ++ tl 40 g) ∧ W.2.1 = ⟨2, [(wU (O ++ [(((e + dgN A i * P) % 65536 : Nat) : Int)]), tU), (l, tR)]⟩ := fun {X} fin =>
    fin.kept (k := 1) (b := 3) (base := [(l, tR)]) (y := (wU (O ++ [(((e + dgN A i * P) % 65536 : Nat) : Int)]), tU)) (front' := [sl 0 o A.length c, j1, undef, undef, nilS, sl 1 0 (z + (i + 1)) grown, .int .u32 (P : Nat), j7, .int .u32 (((e + dgN A i * P) / 65536 : Nat) : Int), .int .i64 ((i + 1 : Nat) : Int)]) rfl
      (by simp only [List.map_cons, List.map_nil, w1.2, w7.2]; kernel_rfl) (fun j x hx => by
        have hj : j < 1 := Hp.blk_lt hx
        have hj0 : j = 0 := by omega
        subst hj0
        have hx' : x = (l, tR) := (Option.some.inj hx).symm
        subst hx'
        exact ⟨rfl, hs⟩) rfl (by omega) (wU_still _) (fun v hv => by
        simp only [List.mem_cons, List.not_mem_nil, or_false] at hv
        rcases hv with rfl | rfl | rfl | rfl | rfl | rfl | rfl | rfl | rfl | rfl
        · rfl
        · exact w1.1
        · rfl
        · rfl
        · rfl
        · rfl
        · rfl
        · exact w7.1
        · rfl
        · rfl)
  obtain ⟨hY, hh⟩ := hY
  simp only at hY hh
  subst hh
  rcases hY with ⟨h0, g, ht⟩ | ⟨h0, g, ht⟩
  · subst ht
    have hchk : appChz (wU O, tU) ([.int .u32 ((cy e (A.getD i 0) P).tmod 65536)], tU) z z 0 1 = true :=
      appChz_of (L := O) (M := [(cy e (A.getD i 0) P).tmod 65536]) (by omega) rfl (show 0 < 1 by omega) (by show O.length + 1 ≤ _; omega)
    have fin := goesT_runsW (tabH_ok conN_ok hcV_ok) (s0 := s) (ushl_fst o A.length c z z P e i (A.getD i 0) l (wU O) j1 j7 g) (okTwo hchk hlog)
    rw [e1, e2, e3, ew] at fin
    refine key (X := (wU O, tU)) (fin.mono fun ex W hW => ?_)
    subst h0
    exact hW
  · subst ht
    have hchk : appChk tU (wU O, tU) ([.int .u32 ((cy e (A.getD i 0) P).tmod 65536)], tU) (z + i) 0 1 = true :=
      appChk_of (L := O) (M := [(cy e (A.getD i 0) P).tmod 65536]) hO.symm (show 0 < 1 by omega) (by show O.length + 1 ≤ _; omega)
    have fin := goesT_runsW (tabH_ok conN_ok hcV_ok) (s0 := s) (ushl_nxt o A.length c (z + i) P e i (A.getD i 0) l (wU O) j1 j7 g) (okTwo hchk hlog)
    rw [e1, e2, e3, ew] at fin
    exact key (X := ([], 2 * dead)) fin
def hInv (l : List Value) (o c z P : Nat) (A : List Int) (j1 j7 : Value) (m : Nat) (Y : Lf) : Prop :=
  ∃ (i e : Nat) (O : List Int), m = A.length - i ∧ i ≤ A.length ∧ O.length = z + i ∧ e < P ∧ (∀ x ∈ O, Dg 65536 x) ∧ vb 65536 O + 65536 ^ (z + i) * e = 65536 ^ z * (P * vb 65536 (A.take i)) ∧ hSt l o c A.length z i P e j1 j7 O Y
def hFin (l : List Value) (o c z P : Nat) (A : List Int) (j1 j7 : Value) (Y : Lf) : Prop :=
  ∃ (e : Nat) (O : List Int), O.length = z + A.length ∧ e < P ∧ (∀ x ∈ O, Dg 65536 x) ∧ vb 65536 O + 65536 ^ (z + A.length) * e = 65536 ^ z * (P * vb 65536 A) ∧ hSt l o c A.length z A.length P e j1 j7 O Y
theorem ushl_loop2 (hR : Row l o A) (hs : ∀ v ∈ l, still v = true) (hA : ∀ x ∈ A, Dg 65536 x) {z P : Nat} (h0 : 0 < P) (hP : P ≤ 32768) (hz : z + A.length + 2 < 1073741824) {j1 j7 : Value} (w1 : lt 2 j1 = true ∧ rn (keepK 1 3) j1 = j1) (w7 : lt 2 j7 = true ∧ rn (keepK 1 3) j7 = j7) (g : Nat → Value) :
    RunsW (tabH Try.prog extY conN hcV) (.block 2 (.loop (sL2 Try.f11))) ([sl 0 o A.length c, j1, undef, undef, nilS, sl 1 0 z z, .int .u32 (P : Nat), j7, .int .u32 0, .int .i64 0] ++ tl 40 g, ⟨2, [(zz z, tU), (l, tR)]⟩, []) fun e Y => match e with | none => hFin l o c z P A j1 j7 Y | some none => False | some (some _) => False := by
  have ez : zz z = wU (List.replicate z 0) := by unfold zz wU; rw [List.map_replicate]
  have vz : ∀ k, vb 65536 (List.replicate k 0) = 0 := fun k => by
    induction k with
    | zero => rfl
    | succ k ih => rw [List.replicate_succ]; simp [vb, ih]
  refine RunsW.forLoop (P := hFin l o c z P A j1 j7) (R := fun _ => False) (hInv l o c z P A j1 j7) ?_ (n := A.length) ⟨0, 0, List.replicate z 0, by omega, by omega, by simp, h0, (fun x hx => by rw [List.eq_of_mem_replicate hx]; exact ⟨by omega, by omega⟩), by rw [vz]; simp [vb], .inl ⟨rfl, g, rfl⟩, by rw [ez]⟩
  rintro m Y ⟨i, e, O, hm, hi, hO, he, hOd, hv, hY⟩
  by_cases hlt : i < A.length
  · have r := ushl_round hR hs hA hO he hP hlt hz w1 w7 hY
    refine r.mono fun ex W hW => ?_
    obtain ⟨rfl, z1, z2⟩ := hW
    have hd := dgN_lt hA i
    obtain ⟨_, hl2⟩ := cy_eq he hd.1 hP
    refine ⟨A.length - (i + 1), by omega, i + 1, (e + dgN A i * P) / 65536, O ++ [(((e + dgN A i * P) % 65536 : Nat) : Int)], rfl, by omega, by rw [List.length_append, hO]; rfl, Nat.div_lt_of_lt_mul hl2, fun x hx => ?_, ?_, .inr ⟨by omega, z1⟩, z2⟩
    · rcases List.mem_append.1 hx with hx | hx
      · exact hOd x hx
      · rw [List.mem_singleton.1 hx]
        exact ⟨by omega, by omega⟩
    · have e1 : vb 65536 (A.take (i + 1)) = vb 65536 (A.take i) + 65536 ^ i * dgN A i := vb_take 65536 A i
      rw [e1]
      exact shl_step hO hv
  · have hil : i = A.length := by omega
    subst hil
    rw [List.take_length] at hv
    obtain ⟨t, h', s⟩ := Y
    obtain ⟨hY, hh⟩ := hY
    simp only at hY hh
    subst hh
    rcases hY with ⟨h0, g, ht⟩ | ⟨h0, g, ht⟩
    · subst ht
      refine (goesT_runsW (tabH_ok conN_ok hcV_ok) (ushl_o2 _ _ _ _ _ _ _ _ j1 j7 g) (okOne (decide_eq_false (by omega)))).mono fun ex W hW => ?_
      obtain ⟨rfl, ⟨g', z1⟩, z2⟩ := hW
      exact ⟨rfl, e, O, hO, he, hOd, hv, .inl ⟨h0, g', z1⟩, z2⟩
    · subst ht
      refine (goesT_runsW (tabH_ok conN_ok hcV_ok) (ushl_o2 _ _ _ _ _ _ _ _ j1 j7 g) (okOne (decide_eq_false (by omega)))).mono fun ex W hW => ?_
      obtain ⟨rfl, ⟨g', z1⟩, z2⟩ := hW
      exact ⟨rfl, e, O, hO, he, hOd, hv, .inr ⟨h0, g', z1⟩, z2⟩
end
theorem ushl_runs {l : List Value} {o c : Nat} {A : List Int} (hR : Row l o A) (hs : ∀ v ∈ l, still v = true) (hA : ∀ x ∈ A, Dg 65536 x) (h0 : 0 < A.length) {k : Nat} (hk : k / 16 + A.length + 3 < 1073741824) {V : Nat} (hV : V = vb 65536 A * 2 ^ k) :
    RunsW (tabH Try.prog extY conN hcV) (seqs (sPr Try.f11) (.seq (.seq (sR5 Try.f11) (.block 0 (.loop (sL1 Try.f11)))) (.seq (sR9 Try.f11) (.seq (.seq (sR10 Try.f11) (.block 2 (.loop (sL2 Try.f11)))) (sEn Try.f11))))) ([sl 0 o A.length c, .int .i64 (k : Nat)] ++ List.replicate 48 undef, ⟨1, [(l, tR)]⟩, []) fun e z => (e = none ∨ e = some none) ∧ resS Try.prog Try.f11 z.1 z.2.1 = some (sl 3 0 (d16 V).length (d16 V).length) ∧ ∃ r, z.2.1.blk? 3 = some (wU (d16 V) ++ r, tU) := by
  have ek : k16 (k : Int) = ((k / 16 : Nat) : Int) := by
    unfold k16
    rw [Int.tdiv_eq_ediv_of_nonneg (by omega), wrapI (by omega) (by omega)]
    omega
  have hP : 2 ^ (k % 16) ≤ 32768 := by
    have := Nat.pow_le_pow_right (show 0 < 2 by omega) (show k % 16 ≤ 15 by omega)
    omega
  have hP0 : 0 < 2 ^ (k % 16) := Nat.pow_pos (by omega)
  have hpk : 2 ^ k = 65536 ^ (k / 16) * 2 ^ (k % 16) := by
    rw [pow16, ← Nat.pow_add]
    congr 1
    omega
  refine goesT_listW (tabH_ok conN_ok hcV_ok) (ushl_pre o A.length c k (l, tR)) (okTwo (by rw [ek]; exact decide_eq_true (by omega)) (okOne (beq_eq_false_iff_ne.2 (by omega)))) fun g => ?_
  rw [ek, Int.toNat_natCast]
  refine seqW3 (goesT_runsW (tabH_ok conN_ok hcV_ok) (ushl_r5 _ _ k _ g) (fun x hx => by cases hx)) (fun e y he => by cases he.1) (P2 := fun e Y => match e with | none => (∃ g, Y.1 = [sl 0 o A.length c, .int .i64 (k : Nat), undef, undef, nilS, sl 1 0 (k / 16) (k / 16), .int .u32 ((2 ^ (k % 16) : Nat) : Int), .int .i64 ((k % 16 : Nat) : Int)] ++ tl 42 g) ∧ Y.2.1 = ⟨2, [(zz (k / 16), tU), (l, tR)]⟩ | some none => False | some (some _) => False) ?_ ?_ ?_
  · rintro ⟨t, h', s⟩ ⟨_, ⟨g', ht⟩, hh⟩
    simp only at ht hh
    subst ht hh
    exact RunsW.script (ushl_loop1 _ _ k _ g').w
  · intro e y he
    match e, he with
    | none, he => exact he
    | some id, he => exact he
  · rintro ⟨t, h', s⟩ ⟨⟨g', ht⟩, hh⟩
    simp only at ht hh
    subst ht hh
    refine RunsW.seq (P1 := fun e Y => e = none ∧ (∃ g, Y.1 = [sl 0 o A.length c, .int .i64 (k : Nat), undef, undef, nilS, sl 1 0 (k / 16) (k / 16), .int .u32 ((2 ^ (k % 16) : Nat) : Int), .int .i64 ((k % 16 : Nat) : Int), .int .u32 0] ++ tl 41 g) ∧ Y.2.1 = ⟨2, [(zz (k / 16), tU), (l, tR)]⟩) (goesT_runsW (tabH_ok conN_ok hcV_ok) (ushl_r9 _ _ k _ _ _ g') (fun x hx => by cases hx)) ?_ (fun e y he => by cases he.1)
    rintro ⟨t, h', s⟩ ⟨_, ⟨g', ht⟩, hh⟩
    simp only at ht hh
    subst ht hh
    refine seqW3 (goesT_runsW (tabH_ok conN_ok hcV_ok) (ushl_r10 _ _ k _ _ _ g') (fun x hx => by cases hx)) (fun e y he => by cases he.1) (P2 := fun e Y => match e with | none => hFin l o c (k / 16) (2 ^ (k % 16)) A (.int .i64 (k : Nat)) (.int .i64 ((k % 16 : Nat) : Int)) Y | some none => False | some (some _) => False) ?_ ?_ ?_
    · rintro ⟨t, h', s⟩ ⟨_, ⟨g', ht⟩, hh⟩
      simp only at ht hh
      subst ht hh
      exact RunsW.script (ushl_loop2 hR hs hA hP0 hP (by omega) ⟨rfl, rfl⟩ ⟨rfl, rfl⟩ g')
    · intro e y he
      match e, he with
      | none, he => exact he
      | some id, he => exact he
    · rintro ⟨t, h', s⟩ ⟨e, O, hO, he, hOd, hv, hY, hh⟩
      simp only at hY hh
      subst hh
      rcases hY with ⟨e0, _⟩ | ⟨_, g', ht⟩
      · omega
      · subst ht
        have hOd' : ∀ x ∈ O ++ [(e : Int)], Dg 65536 x := fun x hx => by
          rcases List.mem_append.1 hx with hx | hx
          · exact hOd x hx
          · rw [List.mem_singleton.1 hx]; exact ⟨by omega, by omega⟩
        have hlen : (O ++ [(e : Int)]).length = k / 16 + A.length + 1 := by rw [List.length_append, hO]; rfl
        have ew : wU O ++ [.int .u32 (e : Int)] = wU (O ++ [(e : Int)]) := by rw [wU_append]; rfl
        have hval : vb 65536 (O ++ [(e : Int)]) = V := by
          rw [vb_snoc, hO, Int.toNat_natCast, hv, hV, hpk, Nat.mul_comm (vb 65536 A), Nat.mul_assoc]
        have hrow : rowC tU (wU (O ++ [(e : Int)])) 0 (k / 16 + A.length + 1) grown = true := by
          rw [← hlen]
          exact rowC_wU (fun x hx => ⟨(hOd' x hx).1, by have := (hOd' x hx).2; omega⟩) (by omega) (capG _)
        have hchk : appChk tU (wU O, tU) ([.int .u32 (e : Int)], tU) (k / 16 + A.length) 0 1 = true :=
          appChk_of (L := O) (M := [(e : Int)]) hO.symm (show 0 < 1 by omega) (by show O.length + 1 ≤ _; omega)
        refine (goesT_runsW (tabH_ok conN_ok hcV_ok) (ushl_end _ (k / 16 + A.length) _ e _ (l, tR) (wU O) _ _ g') (by rw [ew]; exact okTwo hrow (okOne hchk))).mono fun ex W hW => ?_
        rw [ew] at hW
        obtain ⟨rfl, ⟨g2, z1⟩, z2⟩ := hW
        have et : trimN (cutI (wU (O ++ [(e : Int)])) 0 (k / 16 + A.length + 1)) = (d16 V).length := by
          rw [← hlen, cut_wU, trim_len (by omega) hOd', hval]
          rfl
        refine ⟨.inr rfl, ?_, ?_⟩
        · rw [z1, z2, et]
          rfl
        · rw [z2]
          refine ⟨wU ((O ++ [(e : Int)]).drop (trimN (O ++ [(e : Int)]))), ?_⟩
          have e3 : wU (d16 V) ++ wU ((O ++ [(e : Int)]).drop (trimN (O ++ [(e : Int)]))) = wU (O ++ [(e : Int)]) := by
            unfold d16
            rw [← hval, ← take_trim (by omega) _ hOd', ← wU_append, List.take_append_drop]
          rw [e3]
          rfl
def gUshl : AnsH := fun vals h s =>
  match vals, s with
  | [.slice p n c, .int .i64 k], .inr (.inr (.inr (.inl d))) :: s' =>
    match d with
    | true => mk16 (vO h p n * 2 ^ k.toNat) h s' [(rowP h p n c && dgB (rowOf h p n) && Nat.blt (k.toNat / 16 + n + 3) 1073741824 && decide (0 ≤ k), true), (decide (0 < n), true)]
    | false => some (nilS, h, s', [(rowP h p n c, true), (decide (0 < n), false)])
  | _, _ => none
theorem gUshl_ok : AnsHOk 11 gUshl := by
  intro vals h s v h' s' lg hg hl m B w E hv
  unfold gUshl at hg
  split at hg
  · rename_i p n c k d s2
    split at hg
    · unfold mk16 at hg
      cases hg
      have q1 := hl _ (List.mem_cons_self)
      have q2 := hl _ (List.mem_cons_of_mem _ (List.mem_singleton.2 rfl))
      simp only [Bool.and_eq_true, decide_eq_true_eq] at q1 q2
      obtain ⟨⟨⟨r1, r2⟩, r3⟩, r4⟩ := q1
      have r2 := dgB_of r2
      have r3 := blt_iff.1 r3
      obtain ⟨K, rfl⟩ := Int.eq_ofNat_of_zero_le r4
      rw [Int.toNat_natCast] at r3 ⊢
      rcases rowP_cases r1 with ⟨rfl, rfl, rfl, e0⟩ | ⟨b, o, x, rfl, hx, t1, t2, e0⟩
      · omega
      · rw [e0] at r2
        obtain ⟨h1, h2, h3, h4, h5, h6, h7⟩ := rowC_of t1
        have ev : vO h (some ⟨b, o, none⟩) n = vb 65536 (cutI x.1 o n) := by unfold vO; rw [e0]
        have r := ushl_runs (c := c) h1 t2 r2 (by rw [h2]; exact q2) (k := K) (by rw [h2]; exact r3) rfl
        rw [h2] at r
        rw [ev]
        exact row_calls1 (T := tabH Try.prog extY conN hcV) Try.func11 ushl_body (rows1 h7) (vals := [sl 0 o n c, .int .i64 (K : Nat)]) (fun v hv => by
          simp only [List.mem_cons, List.not_mem_nil, or_false] at hv
          rcases hv with rfl | rfl <;> rfl) (k := 3) (cs := wU (d16 (vb 65536 (cutI x.1 o n) * 2 ^ K))) (ty := tU) (wU_lt _) (by kernel_rfl) r (by rfl) E (s := fun _ => b) (fitsR1 hx h5 h6 rfl)
    · cases hg
      have q1 := hl _ (List.mem_cons_self)
      have q2 := hl _ (List.mem_cons_of_mem _ (List.mem_singleton.2 rfl))
      simp only [decide_eq_false_iff_not] at q1 q2
      have hn : n = 0 := by omega
      subst hn
      obtain ⟨x, p', a, NA, eA, fA⟩ := nu_of 0 q1
      have hr : Runs (tabH Try.prog extY conN hcV) (cBody Try.f11) ([.slice p' 0 c, .int .i64 k] ++ List.replicate 48 undef, ⟨1, [x]⟩, []) fun e z => (e = none ∨ e = some none) ∧ resS Try.prog Try.f11 z.1 z.2.1 = some nilS := by
        refine (goesT_runs (tabH_ok conN_ok hcV_ok) (ushl_zero p' 0 c _ _) (okOne rfl)).mono fun e z he => ?_
        obtain ⟨rfl, ⟨g, e2⟩, e3⟩ := he
        refine ⟨.inr rfl, ?_⟩
        rw [e2, e3]
        rfl
      have b1 : ∀ {i : Nat} {z : List Value × TypeId}, (⟨1, [x]⟩ : Hp).blk? i = some z → i = 0 ∧ z = x := fun {i z} hz => by
        have : i < 1 := Hp.blk_lt hz
        have hi : i = 0 := by omega
        subst hi
        exact ⟨rfl, (Option.some.inj hz).symm⟩
      have := row_calls0 (T := tabH Try.prog extY conN hcV) Try.func11 ushl_body1 (h0 := ⟨1, [x]⟩) ⟨rfl, fun b z hz => by obtain ⟨_, rfl⟩ := b1 hz; exact ⟨NA.ros.1, NA.lt0, NA.ros.2⟩⟩ (vals := [.slice p' 0 c, .int .i64 k]) (fun v hv => by
        simp only [List.mem_cons, List.not_mem_nil, or_false] at hv
        rcases hv with rfl | rfl
        · exact NA.lt (by show 0 < 1; omega)
        · rfl) (v := nilS) (by rfl) hr.w E (s := fun _ => a) (fun i z hz ht => by obtain ⟨_, rfl⟩ := b1 hz; exact fA ht)
      simp only [List.map_cons, List.map_nil] at this
      rw [eA _ rfl] at this
      exact this
  · cases hg
/-! ### Of -/
def f4 (n : Int) : List Int := [IntKind.u32.wrap (n.tmod 65536), IntKind.u32.wrap ((IntKind.u64.wrap (n.tdiv 65536)).tmod 65536), IntKind.u32.wrap ((IntKind.u64.wrap (n.tdiv 4294967296)).tmod 65536), IntKind.u32.wrap (IntKind.u64.wrap (n.tdiv 281474976710656))]
theorem uof_body : Try.f19.body = some (cBody Try.f19) := by kernel_rfl
theorem uof_go (n : Int) : GoesT (evC (tabH Try.prog extY conN hcV) 100 false (cBody Try.f19) ([.int .u64 n] ++ List.replicate 18 undef, ⟨0, []⟩, [cmp true, cmp true, cmp true]) ⟨[], [], []⟩) 3 16 (some none) [.int .u64 n, undef, sl 0 0 (trimN (cutI (wU (f4 n)) 0 4)) (trimN (cutI (wU (f4 n)) 0 4))] ⟨1, [(wU (f4 n), tU)]⟩ [(rowC tU (wU (f4 n)) 0 4 4, true), (decide ((65536 : Int) = 0), false), (decide ((65536 : Int) = 0), false), (decide ((65536 : Int) = 0), false)] := ⟨by kernel_rfl, by kernel_rfl, by kernel_rfl⟩
theorem wrap64 {n : Int} (h0 : 0 ≤ n) (h1 : n < 18446744073709551616) : IntKind.u64.wrap n = n := by simp [IntKind.wrap, IntKind.bits, IntKind.signed]; omega
theorem f4_eq {n : Int} (h0 : 0 ≤ n) (h1 : n < 18446744073709551616) : f4 n = [n % 65536, n / 65536 % 65536, n / 4294967296 % 65536, n / 281474976710656] := by
  unfold f4
  rw [Int.tmod_eq_emod_of_nonneg h0, Int.tdiv_eq_ediv_of_nonneg h0, Int.tdiv_eq_ediv_of_nonneg h0, Int.tdiv_eq_ediv_of_nonneg h0, wrap64 (n := n / 65536) (by omega) (by omega), wrap64 (n := n / 4294967296) (by omega) (by omega), wrap64 (n := n / 281474976710656) (by omega) (by omega), Int.tmod_eq_emod_of_nonneg (by omega), Int.tmod_eq_emod_of_nonneg (by omega), wrap32 (n := n % 65536) (by omega) (by omega), wrap32 (n := n / 65536 % 65536) (by omega) (by omega), wrap32 (n := n / 4294967296 % 65536) (by omega) (by omega), wrap32 (by omega) (by omega)]
theorem f4_dg {n : Int} (h0 : 0 ≤ n) (h1 : n < 18446744073709551616) : ∀ x ∈ f4 n, Dg 65536 x := by
  rw [f4_eq h0 h1]
  intro x hx
  simp only [List.mem_cons, List.not_mem_nil, or_false] at hx
  rcases hx with rfl | rfl | rfl | rfl <;> exact ⟨by omega, by omega⟩
theorem f4_val {n : Int} (h0 : 0 ≤ n) (h1 : n < 18446744073709551616) : vb 65536 (f4 n) = n.toNat := by
  rw [f4_eq h0 h1]
  simp only [vb]
  omega
def gUof : AnsH := fun vals h s =>
  match vals with
  | [.int .u64 n] => mk16 n.toNat h s [(decide (0 ≤ n ∧ n < 18446744073709551616), true)]
  | _ => none
theorem gUof_ok : AnsHOk 19 gUof := by
  intro vals h s v h' s' lg hg hl m B w E hv
  unfold gUof at hg
  split at hg
  · rename_i n
    unfold mk16 at hg
    cases hg
    have q := of_decide_eq_true (hl _ (List.mem_singleton.2 rfl))
    have hd := f4_dg q.1 q.2
    have hv4 := f4_val q.1 q.2
    have hl4 : (f4 n).length = 4 := rfl
    have ec : cutI (wU (f4 n)) 0 4 = f4 n := by
      have := cut_wU (f4 n)
      rw [hl4] at this
      exact this
    have et : trimN (f4 n) = (d16 n.toNat).length := by
      rw [trim_len (by omega) hd, hv4]
      rfl
    have hrow : rowC tU (wU (f4 n)) 0 4 4 = true := by
      have := rowC_wU (L := f4 n) (fun x hx => ⟨(hd x hx).1, by have := (hd x hx).2; omega⟩) (by rw [hl4]; omega) (c := 4) (by rw [hl4]; rfl)
      rw [hl4] at this
      exact this
    have hr : Runs (tabH Try.prog extY conN hcV) (cBody Try.f19) ([.int .u64 n] ++ List.replicate 18 undef, ⟨0, []⟩, []) fun e z => (e = none ∨ e = some none) ∧ resS Try.prog Try.f19 z.1 z.2.1 = some (sl 0 0 (d16 n.toNat).length (d16 n.toNat).length) ∧ ∃ r, z.2.1.blk? 0 = some (wU (d16 n.toNat) ++ r, tU) := by
      refine (goesT_runs (tabH_ok conN_ok hcV_ok) (uof_go n) (okTwo hrow (okTwo rfl (okTwo rfl (okOne rfl))))).mono fun e z he => ?_
      obtain ⟨rfl, ⟨g, e1⟩, e2⟩ := he
      refine ⟨.inr rfl, ?_, ?_⟩
      · rw [e1, e2, ec, et]
        rfl
      · rw [e2]
        refine ⟨wU ((f4 n).drop (trimN (f4 n))), ?_⟩
        have e3 : wU (d16 n.toNat) ++ wU ((f4 n).drop (trimN (f4 n))) = wU (f4 n) := by
          unfold d16
          rw [← hv4, ← take_trim (by omega) _ hd, ← wU_append, List.take_append_drop]
        rw [e3]
        rfl
    have := row_calls1 (T := tabH Try.prog extY conN hcV) Try.func19 uof_body (h0 := ⟨0, []⟩) ⟨rfl, fun b x hx => by have : b < 0 := Hp.blk_lt hx; omega⟩ (vals := [.int .u64 n]) (fun v hv => by rw [List.mem_singleton.1 hv]; rfl) (k := 0) (cs := wU (d16 n.toNat)) (ty := tU) (wU_lt _) (by kernel_rfl) hr.w (by rfl) E (s := fun i => i) (fun i x hx _ => by have : i < 0 := Hp.blk_lt hx; omega)
    exact this
  · cases hg
/-! ### Low -/
/-! ### rows that were made -/
theorem d16_len {A k : Nat} (h : A < 2 ^ (16 * k)) : (d16 A).length ≤ k := db_len (by omega) k A (by rw [pow16]; exact h)
theorem rowOf_d16 {h : Hp} {b A : Nat} {ty : TypeId} (hb : h.blk? b = some (wU (d16 A), ty)) : rowOf h (some ⟨b, 0, none⟩) (d16 A).length = d16 A := by
  simp only [rowOf, hb]
  exact cut_wU _
theorem rowP_d16 {h : Hp} {b A : Nat} (hb : h.blk? b = some (wU (d16 A), tU)) (hl : (d16 A).length < 1073741824) : rowP h (some ⟨b, 0, none⟩) (d16 A).length (d16 A).length = true := by
  simp only [rowP, hb, Bool.and_eq_true]
  refine ⟨rowC_wU (fun x hx => ⟨(d16_dg A x hx).1, by have := (d16_dg A x hx).2; omega⟩) (by omega) ?_, List.all_eq_true.2 (wU_still _)⟩
  unfold capOk
  simp only [Bool.or_eq_true, Bool.and_eq_true]
  exact .inl ⟨blt_iff.2 (by unfold dead; omega), Nat.ble_eq_true_of_le (Nat.le_refl _)⟩
theorem log_tlT {x : Bool × Bool} {l : Log} (h : okLog (x :: l)) : x.1 = x.2 ∧ okLog l := ⟨h _ List.mem_cons_self, fun y hy => h y (List.mem_cons_of_mem _ hy)⟩
def okSh (h : Hp) (p : Option Addr) (n c : Nat) (k : Int) : Bool := rowP h p n c && dgB (rowOf h p n) && Nat.blt (k.toNat / 16 + n + 3) 1073741824 && decide (0 ≤ k)
def gUshlT : AnsH := fun vals h s =>
  match vals, s with
  | [.slice p n c, .int .i64 k], .inr (.inr (.inr (.inl d))) :: s' =>
    match d, s' with
    | true, .inr (.inl V) :: s2 => mk16 V.toNat h s2 [(decide (vO h p n * 2 ^ k.toNat = V.toNat), true), (okSh h p n c k, true), (decide (0 < n), true)]
    | false, _ => some (nilS, h, s', [(rowP h p n c, true), (decide (0 < n), false)])
    | _, _ => none
  | _, _ => none
theorem gUshlT_ok : AnsHOk 11 gUshlT := by
  intro vals h s v h' s' lg hg hl
  unfold gUshlT at hg
  split at hg
  · rename_i p n c k d s2
    split at hg
    · rename_i V s3
      unfold mk16 at hg
      cases hg
      obtain ⟨l1, l2⟩ := log_tlT hl
      have l1 := of_decide_eq_true l1
      refine gUshl_ok _ h [cmp true] _ _ [] _ ?_ l2
      simp only [gUshl, mk16, l1]
      rfl
    · cases hg
      exact gUshl_ok _ h [cmp false] _ _ [] _ rfl hl
    · cases hg
  · cases hg
def gUcmpT : AnsH := fun vals h s =>
  match vals, s with
  | [.slice p n c, .slice q n' c'], .inr (.inl k) :: s' => some (.int .i64 k, h, s', [(decide (cmpZ (vO h p n) (vO h q n') = k), true), (two16 h p q n c n' c', true)])
  | _, _ => none
theorem gUcmpT_ok : AnsHOk 12 gUcmpT := by
  intro vals h s v h' s' lg hg hl
  unfold gUcmpT at hg
  split at hg
  · rename_i p n c q n' c' V s3
    cases hg
    obtain ⟨l1, l2⟩ := log_tlT hl
    have l1 := of_decide_eq_true l1
    refine gUcmp_ok _ h [] _ _ [] _ ?_ l2
    simp only [gUcmp, l1]
  · cases hg
/-! ### what is asked of a row that is the number V -/
/-- a block, by its number -/
def aP16 (b : Nat) : Option Addr := some ⟨b, 0, none⟩
def w16 (X : Nat) : List Value × TypeId := (wU (d16 X), tU)
def gUaddT : AnsH := fun vals h s =>
  match vals, s with
  | [.slice p n c, .slice q n' c'], .inr (.inr (.inr (.inl d))) :: s' =>
    match d, s' with
    | true, .inr (.inl V) :: s2 => mk16 V.toNat h s2 [(decide (vO h p n + vO h q n' = V.toNat), true), (two16 h p q n c n' c', true), (decide (0 < n ∨ 0 < n'), true)]
    | false, _ => some (nilS, h, s', [(two16 h p q n c n' c', true), (decide (0 < n ∨ 0 < n'), false)])
    | _, _ => none
  | _, _ => none
theorem gUaddT_ok : AnsHOk 18 gUaddT := by
  intro vals h s v h' s' lg hg hl
  unfold gUaddT at hg
  split at hg
  · rename_i p n c q n' c' d s2
    split at hg
    · rename_i V s3
      unfold mk16 at hg
      cases hg
      obtain ⟨l1, l2⟩ := log_tlT hl
      have l1 := of_decide_eq_true l1
      refine gUadd_ok _ h [cmp true] _ _ [] _ ?_ l2
      simp only [gUadd, mk16, l1]
    · cases hg
      exact gUadd_ok _ h [cmp false] _ _ [] _ rfl hl
    · cases hg
  · cases hg
end Go.Proofs.Ytmgcnijpoklhkaa
namespace Go.Nt
def dgS (L : List Int) (i : Nat) : Nat := (L.getD i 0).toNat
theorem dg_lt {L : List Int} (h : ∀ x ∈ L, Dg 65536 x) (i : Nat) : dgS L i < 65536 := by
  unfold dgS
  by_cases hi : i < L.length
  · have := h (L.getD i 0) (by simp [List.getD, List.getElem?_eq_getElem hi])
    omega
  · simp [List.getD, List.getElem?_eq_none (show L.length ≤ i by omega)]
end Go.Nt
namespace Go.Proofs.Ytmgcnijpoklhkaa
open Go.KRun Go.Nt
set_option maxRecDepth 100000
/-! ### Bit -/
theorem dg_dgN (L : List Int) (i : Nat) : dgS L i = dgN L i := rfl
end Go.Proofs.Ytmgcnijpoklhkaa
namespace Go.Nt
theorem vb_set {b : Nat} : ∀ {L : List Int} {j : Nat}, j < L.length → ∀ v : Int, vb b (L.set j v) + b ^ j * (L.getD j 0).toNat = vb b L + b ^ j * v.toNat
  | [], _, h, _ => by simp at h
  | x :: L, 0, _, v => by simp [vb]; omega
  | x :: L, j + 1, h, v => by
    have ih := vb_set (b := b) (L := L) (j := j) (by simpa using h) v
    have e : (x :: L).getD (j + 1) 0 = L.getD j 0 := by simp [List.getD]
    simp only [List.set, vb, e]
    have h2 := congrArg (fun t => b * t) ih
    simp only [Nat.mul_add] at h2
    rw [Nat.pow_succ, Nat.mul_comm (b ^ j) b, Nat.mul_assoc, Nat.mul_assoc]
    omega
theorem set_dg {L : List Int} (h : ∀ x ∈ L, Dg 65536 x) {v : Int} (hv : Dg 65536 v) (j : Nat) : ∀ x ∈ L.set j v, Dg 65536 x := fun x hx => by
  rcases List.mem_or_eq_of_mem_set hx with hx | rfl
  · exact h x hx
  · exact hv
/-- one step: what is carried, a digit and a product -/
theorem mul_step {L : List Int} {j : Nat} (hj : j < L.length) (hL : ∀ x ∈ L, Dg 65536 x) {c p q : Nat} (hc : c < 65536) (hp : p < 65536) (hq : q < 65536) :
    let t := c + (L.getD j 0).toNat + p * q
    vb 65536 (L.set j ((t % 65536 : Nat) : Int)) + t / 65536 * 65536 ^ (j + 1) = vb 65536 L + c * 65536 ^ j + p * q * 65536 ^ j ∧ t / 65536 < 65536 ∧ (∀ x ∈ L.set j ((t % 65536 : Nat) : Int), Dg 65536 x) := by
  intro t
  have hd : (L.getD j 0).toNat < 65536 := dg_lt hL j
  have hpq : p * q ≤ 65535 * 65535 := Nat.mul_le_mul (by omega) (by omega)
  have ht : t = c + (L.getD j 0).toNat + p * q := rfl
  refine ⟨?_, by omega, set_dg hL ⟨by omega, by omega⟩ j⟩
  have h1 := vb_set (b := 65536) hj ((t % 65536 : Nat) : Int)
  rw [Int.toNat_natCast] at h1
  have h2 := Nat.div_add_mod t 65536
  have h3 : 65536 ^ j * t = 65536 ^ j * (65536 * (t / 65536)) + 65536 ^ j * (t % 65536) := by rw [← Nat.mul_add, h2]
  have h4 : 65536 ^ j * t = 65536 ^ j * c + 65536 ^ j * (L.getD j 0).toNat + 65536 ^ j * (p * q) := by rw [ht, Nat.mul_add, Nat.mul_add]
  have h5 : t / 65536 * 65536 ^ (j + 1) = 65536 ^ j * (65536 * (t / 65536)) := by rw [Nat.pow_succ, Nat.mul_comm, Nat.mul_assoc]
  rw [h5, Nat.mul_comm c, Nat.mul_comm (p * q)]
  omega
end Go.Nt
namespace Go.Proofs.Ytmgcnijpoklhkaa
open Go.KRun Go.Nt
set_option maxRecDepth 100000
set_option linter.unusedVariables false
def muB (F : Func) : Code := cFst (cSnd (cSnd (cBody F)))
def muO (F : Func) : Code := cIn (cIn (cSnd (muB F)))
def muI (F : Func) : Code := cIn (cFst (cSnd (muO F)))
def muL (F : Func) : Code := cIn (cIn (cSnd (cFst (cSnd (muI F)))))
def muPr (F : Func) : List Code := [cFst (cBody F), cFst (cSnd (cBody F))]
def muE (F : Func) : Code := cSnd (cSnd (cSnd (cBody F)))
theorem umul_body : Try.f8.body = some (seqs (muPr Try.f8) (.seq (.seq (cFst (muB Try.f8)) (.block 0 (.loop (muO Try.f8)))) (muE Try.f8))) := by kernel_rfl
theorem umul_out : muO Try.f8 = .seq (cFst (muO Try.f8)) (.seq (.block 1 (muI Try.f8)) (cSnd (cSnd (muO Try.f8)))) := by kernel_rfl
theorem umul_row : muI Try.f8 = .seq (cFst (muI Try.f8)) (.seq (.seq (cFst (cFst (cSnd (muI Try.f8)))) (.block 2 (.loop (muL Try.f8)))) (cSnd (cSnd (muI Try.f8)))) := by kernel_rfl
def mFr (o n c o' n' c' z : Nat) (i v7 v8 : Value) : List Value := [sl 0 o n c, sl 1 o' n' c', undef, undef, nilS, sl 2 0 z z, i, v7, v8]
def hM3 (lo lb la : List Value) : Hp := ⟨3, [(lo, tU), (lb, tR), (la, tR)]⟩
def zM (n n' : Nat) : Int := IntKind.i64.wrap ((n : Int) + n')
def inM (j : Int) (n : Nat) : Bool × Bool := (decide (0 ≤ j ∧ j < (n : Int)), true)
def ceM (l : List Value) (o : Nat) (j x : Int) : Bool × Bool := (cellIs (l[o + j.toNat * 1]?) (.int .u32 x), true)
def stM (l : List Value) (j : Int) : Bool × Bool := (decide (0 + j.toNat * 1 < l.length), true)
def d65 : Bool × Bool := (decide ((65536 : Int) = 0), false)
def tM (c7 d p q : Int) : Int := IntKind.u64.wrap (IntKind.u64.wrap (c7 + IntKind.u64.wrap d) + IntKind.u64.wrap (IntKind.u64.wrap p * IntKind.u64.wrap q))
def ijM (i k : Int) : Int := IntKind.i64.wrap (i + k)
theorem mu_pre (o n c o' n' c' : Nat) (la lb : List Value) : GoesT (evL (tabH Try.prog extY conN hcV) 200 (muPr Try.f8) ([sl 0 o n c, sl 1 o' n' c'] ++ List.replicate 66 undef, h2 la lb, [at_]) ⟨[], [], []⟩) 6 62 none [sl 0 o n c, sl 1 o' n' c', undef, undef, nilS, sl 2 0 (zM n n').toNat (zM n n').toNat] (hM3 (List.replicate (zM n n').toNat (.int .u32 0)) lb la) [(okMakeB 4 (zM n n') (zM n n'), true)] := ⟨by kernel_rfl, by kernel_rfl, by kernel_rfl⟩
theorem mu_r2 (v0 v1 v5 : Value) (h : Hp) (g : Nat → Value) : GoesT (evC (tabH Try.prog extY conN hcV) 200 false (cFst (muB Try.f8)) ([v0, v1, undef, undef, nilS, v5] ++ tl 62 g, h, []) ⟨[], [], []⟩) 9 59 none [v0, v1, undef, undef, nilS, v5, .int .i64 0, g 1, g 2] h [] := ⟨by kernel_rfl, by kernel_rfl, by kernel_rfl⟩
theorem mu_h1 (o n c o' n' c' z : Nat) (i c7 k d p q : Int) (v7 v8 : Value) (lo lb la : List Value) (g : Nat → Value) : GoesT (evC (tabH Try.prog extY conN hcV) 200 false (cFst (muO Try.f8)) (mFr o n c o' n' c' z (.int .i64 i) v7 v8 ++ tl 59 g, hM3 lo lb la, [cmp true]) ⟨[], [], []⟩) 9 59 none (mFr o n c o' n' c' z (.int .i64 i) v7 v8) (hM3 lo lb la) [(decide (i < (n : Int)), true)] := ⟨by kernel_rfl, by kernel_rfl, by kernel_rfl⟩
theorem mu_h0 (o n c o' n' c' z : Nat) (i c7 k d p q : Int) (v7 v8 : Value) (lo lb la : List Value) (g : Nat → Value) : GoesT (evC (tabH Try.prog extY conN hcV) 200 false (cFst (muO Try.f8)) (mFr o n c o' n' c' z (.int .i64 i) v7 v8 ++ tl 59 g, hM3 lo lb la, [cmp false]) ⟨[], [], []⟩) 9 59 (some (some 0)) (mFr o n c o' n' c' z (.int .i64 i) v7 v8) (hM3 lo lb la) [(decide (i < (n : Int)), false)] := ⟨by kernel_rfl, by kernel_rfl, by kernel_rfl⟩
theorem mu_r5 (o n c o' n' c' z : Nat) (i c7 k d p q : Int) (v7 v8 : Value) (lo lb la : List Value) (g : Nat → Value) : GoesT (evC (tabH Try.prog extY conN hcV) 200 false (cFst (muI Try.f8)) (mFr o n c o' n' c' z (.int .i64 i) v7 v8 ++ tl 59 g, hM3 lo lb la, []) ⟨[], [], []⟩) 9 59 none (mFr o n c o' n' c' z (.int .i64 i) (.int .u64 0) v8) (hM3 lo lb la) [] := ⟨by kernel_rfl, by kernel_rfl, by kernel_rfl⟩
theorem mu_r6 (o n c o' n' c' z : Nat) (i c7 k d p q : Int) (v7 v8 : Value) (lo lb la : List Value) (g : Nat → Value) : GoesT (evC (tabH Try.prog extY conN hcV) 200 false (cFst (cFst (cSnd (muI Try.f8)))) (mFr o n c o' n' c' z (.int .i64 i) v7 v8 ++ tl 59 g, hM3 lo lb la, []) ⟨[], [], []⟩) 9 59 none (mFr o n c o' n' c' z (.int .i64 i) v7 (.int .i64 0)) (hM3 lo lb la) [] := ⟨by kernel_rfl, by kernel_rfl, by kernel_rfl⟩
theorem mu_in (o n c o' n' c' z : Nat) (i c7 k d p q : Int) (v7 v8 : Value) (lo lb la : List Value) (g : Nat → Value) : GoesT (evC (tabH Try.prog extY conN hcV) 200 false (muL Try.f8) (mFr o n c o' n' c' z (.int .i64 i) (.int .u64 c7) (.int .i64 k) ++ tl 59 g, hM3 lo lb la, [cmp true, at_, val (.int .u32 d), at_, val (.int .u32 p), at_, val (.int .u32 q), cmp true, at_, at_]) ⟨[], [], []⟩) 9 59 none (mFr o n c o' n' c' z (.int .i64 i) (.int .u64 (IntKind.u64.wrap ((tM c7 d p q).tdiv 65536))) (.int .i64 (IntKind.i64.wrap (k + 1)))) (hM3 (lo.set (0 + (ijM i k).toNat * 1) (.int .u32 (IntKind.u32.wrap ((tM c7 d p q).tmod 65536)))) lb la) [stM lo (ijM i k), inM (ijM i k) z, d65, ceM lb o' k q, inM k n', ceM la o i p, inM i n, ceM lo 0 (ijM i k) d, inM (ijM i k) z, (decide (k < (n' : Int)), true)] := ⟨by kernel_rfl, by kernel_rfl, by kernel_rfl⟩
theorem mu_out (o n c o' n' c' z : Nat) (i c7 k d p q : Int) (v7 v8 : Value) (lo lb la : List Value) (g : Nat → Value) : GoesT (evC (tabH Try.prog extY conN hcV) 200 false (muL Try.f8) (mFr o n c o' n' c' z (.int .i64 i) (.int .u64 c7) (.int .i64 k) ++ tl 59 g, hM3 lo lb la, [cmp false]) ⟨[], [], []⟩) 9 59 (some (some 2)) (mFr o n c o' n' c' z (.int .i64 i) (.int .u64 c7) (.int .i64 k)) (hM3 lo lb la) [(decide (k < (n' : Int)), false)] := ⟨by kernel_rfl, by kernel_rfl, by kernel_rfl⟩
theorem mu_r12 (o n c o' n' c' z : Nat) (i c7 k d p q : Int) (v7 v8 : Value) (lo lb la : List Value) (g : Nat → Value) : GoesT (evC (tabH Try.prog extY conN hcV) 200 false (cSnd (cSnd (muI Try.f8))) (mFr o n c o' n' c' z (.int .i64 i) (.int .u64 c7) v8 ++ tl 59 g, hM3 lo lb la, [at_, at_]) ⟨[], [], []⟩) 9 59 none (mFr o n c o' n' c' z (.int .i64 i) (.int .u64 c7) v8) (hM3 (lo.set (0 + (ijM i n').toNat * 1) (.int .u32 (IntKind.u32.wrap c7))) lb la) [stM lo (ijM i n'), inM (ijM i n') z] := ⟨by kernel_rfl, by kernel_rfl, by kernel_rfl⟩
theorem mu_r4 (o n c o' n' c' z : Nat) (i c7 k d p q : Int) (v7 v8 : Value) (lo lb la : List Value) (g : Nat → Value) : GoesT (evC (tabH Try.prog extY conN hcV) 200 false (cSnd (cSnd (muO Try.f8))) (mFr o n c o' n' c' z (.int .i64 i) v7 v8 ++ tl 59 g, hM3 lo lb la, []) ⟨[], [], []⟩) 9 59 none (mFr o n c o' n' c' z (.int .i64 (IntKind.i64.wrap (i + 1))) v7 v8) (hM3 lo lb la) [] := ⟨by kernel_rfl, by kernel_rfl, by kernel_rfl⟩
theorem mu_end (o n c o' n' c' z : Nat) (i c7 k d p q : Int) (v7 v8 : Value) (lo lb la : List Value) (g : Nat → Value) : GoesT (evC (tabH Try.prog extY conN hcV) 200 false (muE Try.f8) (mFr o n c o' n' c' z (.int .i64 i) v7 v8 ++ tl 59 g, hM3 lo lb la, []) ⟨[], [], []⟩) 5 63 (some none) [sl 0 o n c, sl 1 o' n' c', undef, undef, sl 2 0 (trimN (cutI lo 0 z)) (trimN (cutI lo 0 z))] (hM3 lo lb la) [(rowC tU lo 0 z z, true)] := ⟨by kernel_rfl, by kernel_rfl, by kernel_rfl⟩
end Go.Proofs.Ytmgcnijpoklhkaa
