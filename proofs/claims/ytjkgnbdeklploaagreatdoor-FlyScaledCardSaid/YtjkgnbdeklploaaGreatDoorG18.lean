/-
  ConVA, ConVB, ConVC
-/
import Derived.Test.YtjkgnbdeklploaaGreatDoorG17
namespace Go.Proofs.YtjkgnbdeklploaaGreatDoor
open Go.KRun Go.Nt
set_option maxRecDepth 100000
theorem ushl_loop1 (a v : Value) (k : Nat) (h : Hp) (g : Nat → Value) :
    Runs (tabH Tryz.prog extY conN hcV) (.block 0 (.loop (sL1 Tryz.f64))) ([a, .int .i64 (k : Nat), undef, undef, nilS, v, .int .u32 1, .int .i64 0] ++ tl 42 g, h, []) fun e Y => match e with | none => (∃ g, Y.1 = [a, .int .i64 (k : Nat), undef, undef, nilS, v, .int .u32 ((2 ^ (k % 16) : Nat) : Int), .int .i64 ((k % 16 : Nat) : Int)] ++ tl 42 g) ∧ Y.2.1 = h | some none => False | some (some _) => False := by
  have em : (k : Int).tmod 16 = ((k % 16 : Nat) : Int) := by rw [Int.tmod_eq_emod_of_nonneg (by omega)]; omega
  refine Runs.forLoop (P := fun Y => (∃ g, Y.1 = [a, .int .i64 (k : Nat), undef, undef, nilS, v, .int .u32 ((2 ^ (k % 16) : Nat) : Int), .int .i64 ((k % 16 : Nat) : Int)] ++ tl 42 g) ∧ Y.2.1 = h) (R := fun _ => False)
    (fun m Y => ∃ j : Nat, j ≤ k % 16 ∧ m = k % 16 - j ∧ (∃ g, Y.1 = [a, .int .i64 (k : Nat), undef, undef, nilS, v, .int .u32 ((2 ^ j : Nat) : Int), .int .i64 (j : Nat)] ++ tl 42 g) ∧ Y.2.1 = h) ?_ (n := k % 16) ⟨0, by omega, by omega, ⟨g, rfl⟩, rfl⟩
  rintro m ⟨t, h', s⟩ ⟨j, hj, hm, ⟨g, ht⟩, hh⟩
  simp only at ht hh
  subst ht hh
  by_cases hlt : j < k % 16
  · refine (goesT_runs (tabH_ok conN_ok hcV_ok) (ushl_l1 a v k _ j h' g) (okTwo (by rw [em]; exact decide_eq_true (by omega)) (okOne rfl))).mono fun e z hz => ?_
    obtain ⟨rfl, ⟨g', z1⟩, z2⟩ := hz
    have hp : 2 ^ j ≤ 32768 := by
      have := Nat.pow_le_pow_right (show 0 < 2 by omega) (show j ≤ 15 by omega)
      omega
    have e1 : IntKind.u32.wrap (2 * ((2 ^ j : Nat) : Int)) = ((2 ^ (j + 1) : Nat) : Int) := by
      rw [Nat.pow_succ]
      generalize 2 ^ j = Q at hp ⊢
      rw [wrap32 (by omega) (by omega)]
      omega
    have e2 : IntKind.i64.wrap ((j : Int) + 1) = ((j + 1 : Nat) : Int) := by rw [wrapI (by omega) (by omega)]; omega
    exact ⟨k % 16 - (j + 1), by omega, j + 1, by omega, rfl, ⟨g', by rw [z1, e1, e2]⟩, z2⟩
  · have hj' : j = k % 16 := by omega
    subst hj'
    refine (goesT_runs (tabH_ok conN_ok hcV_ok) (ushl_o1 a v k _ _ h' g) (okTwo (by rw [em]; exact decide_eq_false (by omega)) (okOne rfl))).mono fun e z hz => ?_
    obtain ⟨rfl, ⟨g', z1⟩, z2⟩ := hz
    exact ⟨rfl, ⟨g', z1⟩, z2⟩
theorem appChz_of {L M : List Int} {k c : Nat} (hk : k = L.length) (hc : k = c) (hM : 0 < M.length) (hb : L.length + M.length ≤ 1073741824) : appChz (wU L, tU) (wU M, tU) k c 0 M.length = true := by
  subst hc
  subst hk
  unfold appChz
  simp only [Bool.and_eq_true, Bool.not_eq_true', wU_len]
  refine ⟨⟨⟨⟨⟨⟨⟨⟨Nat.beq_refl _, Nat.ble_eq_true_of_le hb⟩, by kernel_rfl⟩, blt_iff.2 (by unfold dead; omega)⟩, ?_⟩, by kernel_rfl⟩, Nat.ble_eq_true_of_le (by omega)⟩, blt_iff.2 hM⟩, ?_⟩
  · cases h : Nat.ble (L.length + M.length) L.length
    · rfl
    · have := Nat.le_of_ble_eq_true h
      omega
  · rw [List.drop_zero, ← wU_len, List.take_length]
    exact wU_one M
theorem cy_eq {e x P : Nat} (he : e < P) (hx : x < 65536) (hP : P ≤ 32768) : cy e x P = ((e + x * P : Nat) : Int) ∧ e + x * P < 65536 * P := by
  have h1 : x * P ≤ 65535 * P := Nat.mul_le_mul_right P (by omega)
  have e1 : (x : Int) * (P : Int) = ((x * P : Nat) : Int) := by simp
  unfold cy
  rw [e1, wrap32 (n := ((x * P : Nat) : Int)) (by omega) (by omega), wrap32 (by omega) (by omega)]
  omega
/-- one part more of a number moved up -/
theorem shl_step {O : List Int} {z i e x P W : Nat} (hO : O.length = z + i) (h : vb 65536 O + 65536 ^ (z + i) * e = 65536 ^ z * (P * W)) :
    vb 65536 (O ++ [(((e + x * P) % 65536 : Nat) : Int)]) + 65536 ^ (z + (i + 1)) * ((e + x * P) / 65536) = 65536 ^ z * (P * (W + 65536 ^ i * x)) := by
  rw [vb_snoc, Int.toNat_natCast, hO, ← Nat.add_assoc, Nat.pow_succ, Nat.mul_assoc]
  have e0 := Nat.mod_add_div (e + x * P) 65536
  have e1 : 65536 ^ (z + i) * ((e + x * P) % 65536) + 65536 ^ (z + i) * (65536 * ((e + x * P) / 65536)) = 65536 ^ (z + i) * e + 65536 ^ (z + i) * (x * P) := by rw [← Nat.mul_add, e0, Nat.mul_add]
  have e2 : 65536 ^ z * (P * (W + 65536 ^ i * x)) = 65536 ^ z * (P * W) + 65536 ^ (z + i) * (x * P) := by
    rw [Nat.mul_add P, Nat.mul_add (65536 ^ z), Nat.pow_add]
    congr 1
    rw [Nat.mul_assoc (65536 ^ z), Nat.mul_comm x P, Nat.mul_left_comm P]
  omega
section
variable {l : List Value} {o c : Nat} {A : List Int}
def hSt (l : List Value) (o c n z i P e : Nat) (j1 j7 : Value) (O : List Int) (Y : Lf) : Prop :=
  (i = 0 ∧ (∃ g, Y.1 = [sl 0 o n c, j1, undef, undef, nilS, sl 1 0 z z, .int .u32 (P : Nat), j7, .int .u32 (e : Nat), .int .i64 (i : Nat)] ++ tl 40 g) ∨ (0 < i ∧ ∃ g, Y.1 = [sl 0 o n c, j1, undef, undef, nilS, sl 1 0 (z + i) grown, .int .u32 (P : Nat), j7, .int .u32 (e : Nat), .int .i64 (i : Nat)] ++ tl 40 g)) ∧ Y.2.1 = ⟨2, [(wU O, tU), (l, tR)]⟩
theorem ushl_round (hR : Row l o A) (hs : ∀ v ∈ l, still v = true) (hA : ∀ x ∈ A, Dg 65536 x) {z i P e : Nat} {O : List Int} (hO : O.length = z + i) (he : e < P) (hP : P ≤ 32768) (hi : i < A.length) (hz : z + A.length + 2 < 1073741824) {j1 j7 : Value} (w1 : lt 2 j1 = true ∧ rn (keepK 1 3) j1 = j1) (w7 : lt 2 j7 = true ∧ rn (keepK 1 3) j7 = j7) {Y : Lf} (hY : hSt l o c A.length z i P e j1 j7 O Y) :
    RunsW (tabH Tryz.prog extY conN hcV) (sL2 Tryz.f64) Y fun ex W => ex = none ∧ (∃ g, W.1 = [sl 0 o A.length c, j1, undef, undef, nilS, sl 1 0 (z + (i + 1)) grown, .int .u32 (P : Nat), j7, .int .u32 (((e + dgN A i * P) / 65536 : Nat) : Int), .int .i64 ((i + 1 : Nat) : Int)] ++ tl 40 g) ∧ W.2.1 = ⟨2, [(wU (O ++ [(((e + dgN A i * P) % 65536 : Nat) : Int)]), tU), (l, tR)]⟩ := by
  obtain ⟨t, h', s⟩ := Y
  have hd := dgN_lt hA i
  obtain ⟨ec, hlt⟩ := cy_eq he hd.1 hP
  have e1 : (cy e (A.getD i 0) P).tmod 65536 = (((e + dgN A i * P) % 65536 : Nat) : Int) := by rw [← hd.2, ec, tmod_nat]
  have e2 : IntKind.u32.wrap ((cy e (A.getD i 0) P).tdiv 65536) = (((e + dgN A i * P) / 65536 : Nat) : Int) := by rw [← hd.2, ec, tdiv_nat (by omega)]
  have e3 : IntKind.i64.wrap ((i : Int) + 1) = ((i + 1 : Nat) : Int) := by rw [wrapI (by omega) (by omega)]; omega
  have hlog : okLog (lAx l o A.length i (A.getD i 0)) := okTwo rfl (okTwo (by
    show cellIs (l[o + (i : Int).toNat * 1]?) _ = true
    rw [Int.toNat_natCast, Nat.mul_one, hR.cell hi]; simp [cellIs]) (okTwo (decide_eq_true (by omega)) (okOne (decide_eq_true (by omega)))))
  have ew : wU O ++ [.int .u32 (((e + dgN A i * P) % 65536 : Nat) : Int)] = wU (O ++ [(((e + dgN A i * P) % 65536 : Nat) : Int)]) := by rw [wU_append]; rfl
  have key : ∀ {X : List Value × TypeId}, RunsW (tabH Tryz.prog extY conN hcV) (sL2 Tryz.f64) (t, h', s) (fun ex W => ex = none ∧ (∃ g, W.1 = [sl 0 o A.length c, j1, undef, undef, nilS, sl 3 0 (z + i + 1) grown, .int .u32 (P : Nat), j7, .int .u32 (((e + dgN A i * P) / 65536 : Nat) : Int), .int .i64 ((i + 1 : Nat) : Int)] ++ tl 40 g) ∧ W.2.1 = ⟨4, [(wU (O ++ [(((e + dgN A i * P) % 65536 : Nat) : Int)]), tU), ([.int .u32 (((e + dgN A i * P) % 65536 : Nat) : Int)], tU), X, (l, tR)]⟩) →
      RunsW (tabH Tryz.prog extY conN hcV) (sL2 Tryz.f64) (t, h', s) fun ex W => ex = none ∧ (∃ g, W.1 = [sl 0 o A.length c, j1, undef, undef, nilS, sl 1 0 (z + (i + 1)) grown, .int .u32 (P : Nat), j7, .int .u32 (((e + dgN A i * P) / 65536 : Nat) : Int), .int .i64 ((i + 1 : Nat) : Int)] ++ tl 40 g) ∧ W.2.1 = ⟨2, [(wU (O ++ [(((e + dgN A i * P) % 65536 : Nat) : Int)]), tU), (l, tR)]⟩ := fun {X} fin =>
    fin.kept (k := 1) (b := 3) (base := [(l, tR)]) (y := (wU (O ++ [(((e + dgN A i * P) % 65536 : Nat) : Int)]), tU)) (front' := [sl 0 o A.length c, j1, undef, undef, nilS, sl 1 0 (z + (i + 1)) grown, .int .u32 (P : Nat), j7, .int .u32 (((e + dgN A i * P) / 65536 : Nat) : Int), .int .i64 ((i + 1 : Nat) : Int)]) rfl
      (by simp only [List.map_cons, List.map_nil, w1.2, w7.2]; kernel_rfl) (fun j x hx => by
        have hj : j < 1 := Hp.blk_lt hx
        have hj0 : j = 0 := by omega
        subst hj0
        have hx' : x = (l, tR) := (Option.some.inj hx).symm
        subst hx'
        exact ⟨rfl, hs⟩) rfl (by omega) (wU_still _) (fun v hv => by
        simp only [List.mem_cons, List.not_mem_nil, or_false] at hv
        rcases hv with rfl | rfl | rfl | rfl | rfl | rfl | rfl | rfl | rfl | rfl
        · rfl
        · exact w1.1
        · rfl
        · rfl
        · rfl
        · rfl
        · rfl
        · exact w7.1
        · rfl
        · rfl)
  obtain ⟨hY, hh⟩ := hY
  simp only at hY hh
  subst hh
  rcases hY with ⟨h0, g, ht⟩ | ⟨h0, g, ht⟩
  · subst ht
    have hchk : appChz (wU O, tU) ([.int .u32 ((cy e (A.getD i 0) P).tmod 65536)], tU) z z 0 1 = true :=
      appChz_of (L := O) (M := [(cy e (A.getD i 0) P).tmod 65536]) (by omega) rfl (show 0 < 1 by omega) (by show O.length + 1 ≤ _; omega)
    have fin := goesT_runsW (tabH_ok conN_ok hcV_ok) (s0 := s) (ushl_fst o A.length c z z P e i (A.getD i 0) l (wU O) j1 j7 g) (okTwo hchk hlog)
    rw [e1, e2, e3, ew] at fin
    refine key (X := (wU O, tU)) (fin.mono fun ex W hW => ?_)
    subst h0
    exact hW
  · subst ht
    have hchk : appChk tU (wU O, tU) ([.int .u32 ((cy e (A.getD i 0) P).tmod 65536)], tU) (z + i) 0 1 = true :=
      appChk_of (L := O) (M := [(cy e (A.getD i 0) P).tmod 65536]) hO.symm (show 0 < 1 by omega) (by show O.length + 1 ≤ _; omega)
    have fin := goesT_runsW (tabH_ok conN_ok hcV_ok) (s0 := s) (ushl_nxt o A.length c (z + i) P e i (A.getD i 0) l (wU O) j1 j7 g) (okTwo hchk hlog)
    rw [e1, e2, e3, ew] at fin
    exact key (X := ([], 2 * dead)) fin
def hInv (l : List Value) (o c z P : Nat) (A : List Int) (j1 j7 : Value) (m : Nat) (Y : Lf) : Prop :=
  ∃ (i e : Nat) (O : List Int), m = A.length - i ∧ i ≤ A.length ∧ O.length = z + i ∧ e < P ∧ (∀ x ∈ O, Dg 65536 x) ∧ vb 65536 O + 65536 ^ (z + i) * e = 65536 ^ z * (P * vb 65536 (A.take i)) ∧ hSt l o c A.length z i P e j1 j7 O Y
def hFin (l : List Value) (o c z P : Nat) (A : List Int) (j1 j7 : Value) (Y : Lf) : Prop :=
  ∃ (e : Nat) (O : List Int), O.length = z + A.length ∧ e < P ∧ (∀ x ∈ O, Dg 65536 x) ∧ vb 65536 O + 65536 ^ (z + A.length) * e = 65536 ^ z * (P * vb 65536 A) ∧ hSt l o c A.length z A.length P e j1 j7 O Y
theorem ushl_loop2 (hR : Row l o A) (hs : ∀ v ∈ l, still v = true) (hA : ∀ x ∈ A, Dg 65536 x) {z P : Nat} (h0 : 0 < P) (hP : P ≤ 32768) (hz : z + A.length + 2 < 1073741824) {j1 j7 : Value} (w1 : lt 2 j1 = true ∧ rn (keepK 1 3) j1 = j1) (w7 : lt 2 j7 = true ∧ rn (keepK 1 3) j7 = j7) (g : Nat → Value) :
    RunsW (tabH Tryz.prog extY conN hcV) (.block 2 (.loop (sL2 Tryz.f64))) ([sl 0 o A.length c, j1, undef, undef, nilS, sl 1 0 z z, .int .u32 (P : Nat), j7, .int .u32 0, .int .i64 0] ++ tl 40 g, ⟨2, [(zz z, tU), (l, tR)]⟩, []) fun e Y => match e with | none => hFin l o c z P A j1 j7 Y | some none => False | some (some _) => False := by
  have ez : zz z = wU (List.replicate z 0) := by unfold zz wU; rw [List.map_replicate]
  have vz : ∀ k, vb 65536 (List.replicate k 0) = 0 := fun k => by
    induction k with
    | zero => rfl
    | succ k ih => rw [List.replicate_succ]; simp [vb, ih]
  refine RunsW.forLoop (P := hFin l o c z P A j1 j7) (R := fun _ => False) (hInv l o c z P A j1 j7) ?_ (n := A.length) ⟨0, 0, List.replicate z 0, by omega, by omega, by simp, h0, (fun x hx => by rw [List.eq_of_mem_replicate hx]; exact ⟨by omega, by omega⟩), by rw [vz]; simp [vb], .inl ⟨rfl, g, rfl⟩, by rw [ez]⟩
  rintro m Y ⟨i, e, O, hm, hi, hO, he, hOd, hv, hY⟩
  by_cases hlt : i < A.length
  · have r := ushl_round hR hs hA hO he hP hlt hz w1 w7 hY
    refine r.mono fun ex W hW => ?_
    obtain ⟨rfl, z1, z2⟩ := hW
    have hd := dgN_lt hA i
    obtain ⟨_, hl2⟩ := cy_eq he hd.1 hP
    refine ⟨A.length - (i + 1), by omega, i + 1, (e + dgN A i * P) / 65536, O ++ [(((e + dgN A i * P) % 65536 : Nat) : Int)], rfl, by omega, by rw [List.length_append, hO]; rfl, Nat.div_lt_of_lt_mul hl2, fun x hx => ?_, ?_, .inr ⟨by omega, z1⟩, z2⟩
    · rcases List.mem_append.1 hx with hx | hx
      · exact hOd x hx
      · rw [List.mem_singleton.1 hx]
        exact ⟨by omega, by omega⟩
    · have e1 : vb 65536 (A.take (i + 1)) = vb 65536 (A.take i) + 65536 ^ i * dgN A i := vb_take 65536 A i
      rw [e1]
      exact shl_step hO hv
  · have hil : i = A.length := by omega
    subst hil
    rw [List.take_length] at hv
    obtain ⟨t, h', s⟩ := Y
    obtain ⟨hY, hh⟩ := hY
    simp only at hY hh
    subst hh
    rcases hY with ⟨h0, g, ht⟩ | ⟨h0, g, ht⟩
    · subst ht
      refine (goesT_runsW (tabH_ok conN_ok hcV_ok) (ushl_o2 _ _ _ _ _ _ _ _ j1 j7 g) (okOne (decide_eq_false (by omega)))).mono fun ex W hW => ?_
      obtain ⟨rfl, ⟨g', z1⟩, z2⟩ := hW
      exact ⟨rfl, e, O, hO, he, hOd, hv, .inl ⟨h0, g', z1⟩, z2⟩
    · subst ht
      refine (goesT_runsW (tabH_ok conN_ok hcV_ok) (ushl_o2 _ _ _ _ _ _ _ _ j1 j7 g) (okOne (decide_eq_false (by omega)))).mono fun ex W hW => ?_
      obtain ⟨rfl, ⟨g', z1⟩, z2⟩ := hW
      exact ⟨rfl, e, O, hO, he, hOd, hv, .inr ⟨h0, g', z1⟩, z2⟩
end
theorem ushl_runs {l : List Value} {o c : Nat} {A : List Int} (hR : Row l o A) (hs : ∀ v ∈ l, still v = true) (hA : ∀ x ∈ A, Dg 65536 x) (h0 : 0 < A.length) {k : Nat} (hk : k / 16 + A.length + 3 < 1073741824) {V : Nat} (hV : V = vb 65536 A * 2 ^ k) :
    RunsW (tabH Tryz.prog extY conN hcV) (seqs (sPr Tryz.f64) (.seq (.seq (sR5 Tryz.f64) (.block 0 (.loop (sL1 Tryz.f64)))) (.seq (sR9 Tryz.f64) (.seq (.seq (sR10 Tryz.f64) (.block 2 (.loop (sL2 Tryz.f64)))) (sEn Tryz.f64))))) ([sl 0 o A.length c, .int .i64 (k : Nat)] ++ List.replicate 48 undef, ⟨1, [(l, tR)]⟩, []) fun e z => (e = none ∨ e = some none) ∧ resS Tryz.prog Tryz.f64 z.1 z.2.1 = some (sl 3 0 (d16 V).length (d16 V).length) ∧ ∃ r, z.2.1.blk? 3 = some (wU (d16 V) ++ r, tU) := by
  have ek : k16 (k : Int) = ((k / 16 : Nat) : Int) := by
    unfold k16
    rw [Int.tdiv_eq_ediv_of_nonneg (by omega), wrapI (by omega) (by omega)]
    omega
  have hP : 2 ^ (k % 16) ≤ 32768 := by
    have := Nat.pow_le_pow_right (show 0 < 2 by omega) (show k % 16 ≤ 15 by omega)
    omega
  have hP0 : 0 < 2 ^ (k % 16) := Nat.pow_pos (by omega)
  have hpk : 2 ^ k = 65536 ^ (k / 16) * 2 ^ (k % 16) := by
    rw [pow16, ← Nat.pow_add]
    congr 1
    omega
  refine goesT_listW (tabH_ok conN_ok hcV_ok) (ushl_pre o A.length c k (l, tR)) (okTwo (by rw [ek]; exact decide_eq_true (by omega)) (okOne (beq_eq_false_iff_ne.2 (by omega)))) fun g => ?_
  rw [ek, Int.toNat_natCast]
  refine seqW3 (goesT_runsW (tabH_ok conN_ok hcV_ok) (ushl_r5 _ _ k _ g) (fun x hx => by cases hx)) (fun e y he => by cases he.1) (P2 := fun e Y => match e with | none => (∃ g, Y.1 = [sl 0 o A.length c, .int .i64 (k : Nat), undef, undef, nilS, sl 1 0 (k / 16) (k / 16), .int .u32 ((2 ^ (k % 16) : Nat) : Int), .int .i64 ((k % 16 : Nat) : Int)] ++ tl 42 g) ∧ Y.2.1 = ⟨2, [(zz (k / 16), tU), (l, tR)]⟩ | some none => False | some (some _) => False) ?_ ?_ ?_
  · rintro ⟨t, h', s⟩ ⟨_, ⟨g', ht⟩, hh⟩
    simp only at ht hh
    subst ht hh
    exact RunsW.script (ushl_loop1 _ _ k _ g').w
  · intro e y he
    match e, he with
    | none, he => exact he
    | some id, he => exact he
  · rintro ⟨t, h', s⟩ ⟨⟨g', ht⟩, hh⟩
    simp only at ht hh
    subst ht hh
    refine RunsW.seq (P1 := fun e Y => e = none ∧ (∃ g, Y.1 = [sl 0 o A.length c, .int .i64 (k : Nat), undef, undef, nilS, sl 1 0 (k / 16) (k / 16), .int .u32 ((2 ^ (k % 16) : Nat) : Int), .int .i64 ((k % 16 : Nat) : Int), .int .u32 0] ++ tl 41 g) ∧ Y.2.1 = ⟨2, [(zz (k / 16), tU), (l, tR)]⟩) (goesT_runsW (tabH_ok conN_ok hcV_ok) (ushl_r9 _ _ k _ _ _ g') (fun x hx => by cases hx)) ?_ (fun e y he => by cases he.1)
    rintro ⟨t, h', s⟩ ⟨_, ⟨g', ht⟩, hh⟩
    simp only at ht hh
    subst ht hh
    refine seqW3 (goesT_runsW (tabH_ok conN_ok hcV_ok) (ushl_r10 _ _ k _ _ _ g') (fun x hx => by cases hx)) (fun e y he => by cases he.1) (P2 := fun e Y => match e with | none => hFin l o c (k / 16) (2 ^ (k % 16)) A (.int .i64 (k : Nat)) (.int .i64 ((k % 16 : Nat) : Int)) Y | some none => False | some (some _) => False) ?_ ?_ ?_
    · rintro ⟨t, h', s⟩ ⟨_, ⟨g', ht⟩, hh⟩
      simp only at ht hh
      subst ht hh
      exact RunsW.script (ushl_loop2 hR hs hA hP0 hP (by omega) ⟨rfl, rfl⟩ ⟨rfl, rfl⟩ g')
    · intro e y he
      match e, he with
      | none, he => exact he
      | some id, he => exact he
    · rintro ⟨t, h', s⟩ ⟨e, O, hO, he, hOd, hv, hY, hh⟩
      simp only at hY hh
      subst hh
      rcases hY with ⟨e0, _⟩ | ⟨_, g', ht⟩
      · omega
      · subst ht
        have hOd' : ∀ x ∈ O ++ [(e : Int)], Dg 65536 x := fun x hx => by
          rcases List.mem_append.1 hx with hx | hx
          · exact hOd x hx
          · rw [List.mem_singleton.1 hx]; exact ⟨by omega, by omega⟩
        have hlen : (O ++ [(e : Int)]).length = k / 16 + A.length + 1 := by rw [List.length_append, hO]; rfl
        have ew : wU O ++ [.int .u32 (e : Int)] = wU (O ++ [(e : Int)]) := by rw [wU_append]; rfl
        have hval : vb 65536 (O ++ [(e : Int)]) = V := by
          rw [vb_snoc, hO, Int.toNat_natCast, hv, hV, hpk, Nat.mul_comm (vb 65536 A), Nat.mul_assoc]
        have hrow : rowC tU (wU (O ++ [(e : Int)])) 0 (k / 16 + A.length + 1) grown = true := by
          rw [← hlen]
          exact rowC_wU (fun x hx => ⟨(hOd' x hx).1, by have := (hOd' x hx).2; omega⟩) (by omega) (capG _)
        have hchk : appChk tU (wU O, tU) ([.int .u32 (e : Int)], tU) (k / 16 + A.length) 0 1 = true :=
          appChk_of (L := O) (M := [(e : Int)]) hO.symm (show 0 < 1 by omega) (by show O.length + 1 ≤ _; omega)
        refine (goesT_runsW (tabH_ok conN_ok hcV_ok) (ushl_end _ (k / 16 + A.length) _ e _ (l, tR) (wU O) _ _ g') (by rw [ew]; exact okTwo hrow (okOne hchk))).mono fun ex W hW => ?_
        rw [ew] at hW
        obtain ⟨rfl, ⟨g2, z1⟩, z2⟩ := hW
        have et : trimN (cutI (wU (O ++ [(e : Int)])) 0 (k / 16 + A.length + 1)) = (d16 V).length := by
          rw [← hlen, cut_wU, trim_len (by omega) hOd', hval]
          rfl
        refine ⟨.inr rfl, ?_, ?_⟩
        · rw [z1, z2, et]
          rfl
        · rw [z2]
          refine ⟨wU ((O ++ [(e : Int)]).drop (trimN (O ++ [(e : Int)]))), ?_⟩
          have e3 : wU (d16 V) ++ wU ((O ++ [(e : Int)]).drop (trimN (O ++ [(e : Int)]))) = wU (O ++ [(e : Int)]) := by
            unfold d16
            rw [← hval, ← take_trim (by omega) _ hOd', ← wU_append, List.take_append_drop]
          rw [e3]
          rfl
def gUshl : AnsH := fun vals h s =>
  match vals, s with
  | [.slice p n c, .int .i64 k], .inr (.inr (.inr (.inl d))) :: s' =>
    match d with
    | true => mk16 (vO h p n * 2 ^ k.toNat) h s' [(rowP h p n c && dgB (rowOf h p n) && Nat.blt (k.toNat / 16 + n + 3) 1073741824 && decide (0 ≤ k), true), (decide (0 < n), true)]
    | false => some (nilS, h, s', [(rowP h p n c, true), (decide (0 < n), false)])
  | _, _ => none
theorem gUshl_ok : AnsHOk 64 gUshl := by
  intro vals h s v h' s' lg hg hl m B w E hv
  unfold gUshl at hg
  split at hg
  · rename_i p n c k d s2
    split at hg
    · unfold mk16 at hg
      cases hg
      have q1 := hl _ (List.mem_cons_self)
      have q2 := hl _ (List.mem_cons_of_mem _ (List.mem_singleton.2 rfl))
      simp only [Bool.and_eq_true, decide_eq_true_eq] at q1 q2
      obtain ⟨⟨⟨r1, r2⟩, r3⟩, r4⟩ := q1
      have r2 := dgB_of r2
      have r3 := blt_iff.1 r3
      obtain ⟨K, rfl⟩ := Int.eq_ofNat_of_zero_le r4
      rw [Int.toNat_natCast] at r3 ⊢
      rcases rowP_cases r1 with ⟨rfl, rfl, rfl, e0⟩ | ⟨b, o, x, rfl, hx, t1, t2, e0⟩
      · omega
      · rw [e0] at r2
        obtain ⟨h1, h2, h3, h4, h5, h6, h7⟩ := rowC_of t1
        have ev : vO h (some ⟨b, o, none⟩) n = vb 65536 (cutI x.1 o n) := by unfold vO; rw [e0]
        have r := ushl_runs (c := c) h1 t2 r2 (by rw [h2]; exact q2) (k := K) (by rw [h2]; exact r3) rfl
        rw [h2] at r
        rw [ev]
        exact row_calls1 (T := tabH Tryz.prog extY conN hcV) Tryz.func64 ushl_body (rows1 h7) (vals := [sl 0 o n c, .int .i64 (K : Nat)]) (fun v hv => by
          simp only [List.mem_cons, List.not_mem_nil, or_false] at hv
          rcases hv with rfl | rfl <;> rfl) (k := 3) (cs := wU (d16 (vb 65536 (cutI x.1 o n) * 2 ^ K))) (ty := tU) (wU_lt _) (by kernel_rfl) r (by rfl) E (s := fun _ => b) (fitsR1 hx h5 h6 rfl)
    · cases hg
      have q1 := hl _ (List.mem_cons_self)
      have q2 := hl _ (List.mem_cons_of_mem _ (List.mem_singleton.2 rfl))
      simp only [decide_eq_false_iff_not] at q1 q2
      have hn : n = 0 := by omega
      subst hn
      obtain ⟨x, p', a, NA, eA, fA⟩ := nu_of 0 q1
      have hr : Runs (tabH Tryz.prog extY conN hcV) (cBody Tryz.f64) ([.slice p' 0 c, .int .i64 k] ++ List.replicate 48 undef, ⟨1, [x]⟩, []) fun e z => (e = none ∨ e = some none) ∧ resS Tryz.prog Tryz.f64 z.1 z.2.1 = some nilS := by
        refine (goesT_runs (tabH_ok conN_ok hcV_ok) (ushl_zero p' 0 c _ _) (okOne rfl)).mono fun e z he => ?_
        obtain ⟨rfl, ⟨g, e2⟩, e3⟩ := he
        refine ⟨.inr rfl, ?_⟩
        rw [e2, e3]
        rfl
      have b1 : ∀ {i : Nat} {z : List Value × TypeId}, (⟨1, [x]⟩ : Hp).blk? i = some z → i = 0 ∧ z = x := fun {i z} hz => by
        have : i < 1 := Hp.blk_lt hz
        have hi : i = 0 := by omega
        subst hi
        exact ⟨rfl, (Option.some.inj hz).symm⟩
      have := row_calls0 (T := tabH Tryz.prog extY conN hcV) Tryz.func64 ushl_body1 (h0 := ⟨1, [x]⟩) ⟨rfl, fun b z hz => by obtain ⟨_, rfl⟩ := b1 hz; exact ⟨NA.ros.1, NA.lt0, NA.ros.2⟩⟩ (vals := [.slice p' 0 c, .int .i64 k]) (fun v hv => by
        simp only [List.mem_cons, List.not_mem_nil, or_false] at hv
        rcases hv with rfl | rfl
        · exact NA.lt (by show 0 < 1; omega)
        · rfl) (v := nilS) (by rfl) hr.w E (s := fun _ => a) (fun i z hz ht => by obtain ⟨_, rfl⟩ := b1 hz; exact fA ht)
      simp only [List.map_cons, List.map_nil] at this
      rw [eA _ rfl] at this
      exact this
  · cases hg
/-! ### Of -/
def f4 (n : Int) : List Int := [IntKind.u32.wrap (n.tmod 65536), IntKind.u32.wrap ((IntKind.u64.wrap (n.tdiv 65536)).tmod 65536), IntKind.u32.wrap ((IntKind.u64.wrap (n.tdiv 4294967296)).tmod 65536), IntKind.u32.wrap (IntKind.u64.wrap (n.tdiv 281474976710656))]
theorem uof_body : Tryz.f61.body = some (cBody Tryz.f61) := by kernel_rfl
theorem uof_go (n : Int) : GoesT (evC (tabH Tryz.prog extY conN hcV) 100 false (cBody Tryz.f61) ([.int .u64 n] ++ List.replicate 18 undef, ⟨0, []⟩, [cmp true, cmp true, cmp true]) ⟨[], [], []⟩) 3 16 (some none) [.int .u64 n, undef, sl 0 0 (trimN (cutI (wU (f4 n)) 0 4)) (trimN (cutI (wU (f4 n)) 0 4))] ⟨1, [(wU (f4 n), tU)]⟩ [(rowC tU (wU (f4 n)) 0 4 4, true), (decide ((65536 : Int) = 0), false), (decide ((65536 : Int) = 0), false), (decide ((65536 : Int) = 0), false)] := ⟨by kernel_rfl, by kernel_rfl, by kernel_rfl⟩
theorem wrap64 {n : Int} (h0 : 0 ≤ n) (h1 : n < 18446744073709551616) : IntKind.u64.wrap n = n := by simp [IntKind.wrap, IntKind.bits, IntKind.signed]; omega
theorem f4_eq {n : Int} (h0 : 0 ≤ n) (h1 : n < 18446744073709551616) : f4 n = [n % 65536, n / 65536 % 65536, n / 4294967296 % 65536, n / 281474976710656] := by
  unfold f4
  rw [Int.tmod_eq_emod_of_nonneg h0, Int.tdiv_eq_ediv_of_nonneg h0, Int.tdiv_eq_ediv_of_nonneg h0, Int.tdiv_eq_ediv_of_nonneg h0, wrap64 (n := n / 65536) (by omega) (by omega), wrap64 (n := n / 4294967296) (by omega) (by omega), wrap64 (n := n / 281474976710656) (by omega) (by omega), Int.tmod_eq_emod_of_nonneg (by omega), Int.tmod_eq_emod_of_nonneg (by omega), wrap32 (n := n % 65536) (by omega) (by omega), wrap32 (n := n / 65536 % 65536) (by omega) (by omega), wrap32 (n := n / 4294967296 % 65536) (by omega) (by omega), wrap32 (by omega) (by omega)]
theorem f4_dg {n : Int} (h0 : 0 ≤ n) (h1 : n < 18446744073709551616) : ∀ x ∈ f4 n, Dg 65536 x := by
  rw [f4_eq h0 h1]
  intro x hx
  simp only [List.mem_cons, List.not_mem_nil, or_false] at hx
  rcases hx with rfl | rfl | rfl | rfl <;> exact ⟨by omega, by omega⟩
theorem f4_val {n : Int} (h0 : 0 ≤ n) (h1 : n < 18446744073709551616) : vb 65536 (f4 n) = n.toNat := by
  rw [f4_eq h0 h1]
  simp only [vb]
  omega
def gUof : AnsH := fun vals h s =>
  match vals with
  | [.int .u64 n] => mk16 n.toNat h s [(decide (0 ≤ n ∧ n < 18446744073709551616), true)]
  | _ => none
theorem gUof_ok : AnsHOk 61 gUof := by
  intro vals h s v h' s' lg hg hl m B w E hv
  unfold gUof at hg
  split at hg
  · rename_i n
    unfold mk16 at hg
    cases hg
    have q := of_decide_eq_true (hl _ (List.mem_singleton.2 rfl))
    have hd := f4_dg q.1 q.2
    have hv4 := f4_val q.1 q.2
    have hl4 : (f4 n).length = 4 := rfl
    have ec : cutI (wU (f4 n)) 0 4 = f4 n := by
      have := cut_wU (f4 n)
      rw [hl4] at this
      exact this
    have et : trimN (f4 n) = (d16 n.toNat).length := by
      rw [trim_len (by omega) hd, hv4]
      rfl
    have hrow : rowC tU (wU (f4 n)) 0 4 4 = true := by
      have := rowC_wU (L := f4 n) (fun x hx => ⟨(hd x hx).1, by have := (hd x hx).2; omega⟩) (by rw [hl4]; omega) (c := 4) (by rw [hl4]; rfl)
      rw [hl4] at this
      exact this
    have hr : Runs (tabH Tryz.prog extY conN hcV) (cBody Tryz.f61) ([.int .u64 n] ++ List.replicate 18 undef, ⟨0, []⟩, []) fun e z => (e = none ∨ e = some none) ∧ resS Tryz.prog Tryz.f61 z.1 z.2.1 = some (sl 0 0 (d16 n.toNat).length (d16 n.toNat).length) ∧ ∃ r, z.2.1.blk? 0 = some (wU (d16 n.toNat) ++ r, tU) := by
      refine (goesT_runs (tabH_ok conN_ok hcV_ok) (uof_go n) (okTwo hrow (okTwo rfl (okTwo rfl (okOne rfl))))).mono fun e z he => ?_
      obtain ⟨rfl, ⟨g, e1⟩, e2⟩ := he
      refine ⟨.inr rfl, ?_, ?_⟩
      · rw [e1, e2, ec, et]
        rfl
      · rw [e2]
        refine ⟨wU ((f4 n).drop (trimN (f4 n))), ?_⟩
        have e3 : wU (d16 n.toNat) ++ wU ((f4 n).drop (trimN (f4 n))) = wU (f4 n) := by
          unfold d16
          rw [← hv4, ← take_trim (by omega) _ hd, ← wU_append, List.take_append_drop]
        rw [e3]
        rfl
    have := row_calls1 (T := tabH Tryz.prog extY conN hcV) Tryz.func61 uof_body (h0 := ⟨0, []⟩) ⟨rfl, fun b x hx => by have : b < 0 := Hp.blk_lt hx; omega⟩ (vals := [.int .u64 n]) (fun v hv => by rw [List.mem_singleton.1 hv]; rfl) (k := 0) (cs := wU (d16 n.toNat)) (ty := tU) (wU_lt _) (by kernel_rfl) hr.w (by rfl) E (s := fun i => i) (fun i x hx _ => by have : i < 0 := Hp.blk_lt hx; omega)
    exact this
  · cases hg
/-! ### Low -/
def wPre (F : Func) : List Code := [cFst (cBody F), cFst (cSnd (cBody F))]
def wR2 (F : Func) : Code := cFst (cFst (cSnd (cSnd (cBody F))))
def wLp (F : Func) : Code := cIn (cIn (cSnd (cFst (cSnd (cSnd (cBody F))))))
def wEn (F : Func) : Code := cSnd (cSnd (cSnd (cBody F)))
def m4 (n : Nat) : Int := IntKind.i64.wrap ((if (4 : Int) < (n : Int) then 4 else (n : Int)) - 1)
theorem ulow_body : Tryz.f81.body = some (seqs (wPre Tryz.f81) (.seq (.seq (wR2 Tryz.f81) (.block 0 (.loop (wLp Tryz.f81)))) (wEn Tryz.f81))) := by kernel_rfl
theorem ulow_pre (a : Value) (h : Hp) : GoesT (evL (tabH Tryz.prog extY conN hcV) 100 (wPre Tryz.f81) ([a] ++ List.replicate 21 undef, h, []) ⟨[], [], []⟩) 4 18 none [a, undef, .int .u64 0, .int .u64 0] h [] := ⟨by kernel_rfl, by kernel_rfl, by kernel_rfl⟩
theorem ulow_r2 (p : Option Addr) (n c : Nat) (h : Hp) (g : Nat → Value) : GoesT (evC (tabH Tryz.prog extY conN hcV) 100 false (wR2 Tryz.f81) ([.slice p n c, undef, .int .u64 0, .int .u64 0] ++ tl 18 g, h, []) ⟨[], [], []⟩) 5 17 none [.slice p n c, undef, .int .u64 0, .int .u64 0, .int .i64 (m4 n)] h [] := ⟨by kernel_rfl, by kernel_rfl, by kernel_rfl⟩
def lw (y x : Int) : Int := IntKind.u64.wrap (IntKind.u64.wrap (65536 * y) + IntKind.u64.wrap x)
theorem ulow_go (o n c : Nat) (x y k : Int) (l : List Value) (g : Nat → Value) : GoesT (evC (tabH Tryz.prog extY conN hcV) 100 false (wLp Tryz.f81) ([sl 0 o n c, undef, .int .u64 0, .int .u64 y, .int .i64 k] ++ tl 17 g, ⟨1, [(l, tR)]⟩, [cmp true, at_, val (.int .u32 x)]) ⟨[], [], []⟩) 5 17 none [sl 0 o n c, undef, .int .u64 0, .int .u64 (lw y x), .int .i64 (IntKind.i64.wrap (k - 1))] ⟨1, [(l, tR)]⟩ [(cellIs (l[o + k.toNat * 1]?) (.int .u32 x), true), (decide (0 ≤ k ∧ k < n), true), (decide (k ≥ 0), true)] := ⟨by kernel_rfl, by kernel_rfl, by kernel_rfl⟩
theorem ulow_out (a : Value) (y k : Int) (h : Hp) (g : Nat → Value) : GoesT (evC (tabH Tryz.prog extY conN hcV) 100 false (wLp Tryz.f81) ([a, undef, .int .u64 0, .int .u64 y, .int .i64 k] ++ tl 17 g, h, [cmp false]) ⟨[], [], []⟩) 5 17 (some (some 0)) [a, undef, .int .u64 0, .int .u64 y, .int .i64 k] h [(decide (k ≥ 0), false)] := ⟨by kernel_rfl, by kernel_rfl, by kernel_rfl⟩
theorem ulow_end (a : Value) (y k : Int) (h : Hp) (g : Nat → Value) : GoesT (evC (tabH Tryz.prog extY conN hcV) 100 false (wEn Tryz.f81) ([a, undef, .int .u64 0, .int .u64 y, .int .i64 k] ++ tl 17 g, h, []) ⟨[], [], []⟩) 3 19 (some none) [a, undef, .int .u64 y] h [] := ⟨by kernel_rfl, by kernel_rfl, by kernel_rfl⟩
/-- the digits from k on, of the first four -/
def hiV (L : List Int) (k : Nat) : Nat := vb 65536 ((L.take 4).drop k)
theorem hiV_step {L : List Int} {k : Nat} (hk : k < (L.take 4).length) : hiV L k = dgN L k + 65536 * hiV L (k + 1) := by
  unfold hiV dgN
  rw [List.drop_eq_getElem_cons hk]
  simp only [vb]
  congr 2
  rw [List.getElem_take]
  rw [List.length_take] at hk
  simp [List.getD, List.getElem?_eq_getElem (show k < L.length by omega)]
theorem hiV_lt {L : List Int} (hd : ∀ x ∈ L, Dg 65536 x) (k : Nat) : hiV L k < 65536 ^ (4 - k) := by
  have h := vb_lt (b := 65536) (by omega) ((L.take 4).drop k) (fun x hx => hd x (List.mem_of_mem_take (List.mem_of_mem_drop hx)))
  have hl : ((L.take 4).drop k).length ≤ 4 - k := by simp; omega
  exact Nat.lt_of_lt_of_le h (Nat.pow_le_pow_right (by omega) hl)
theorem hiV_zero {L : List Int} (hd : ∀ x ∈ L, Dg 65536 x) : hiV L 0 = vb 65536 L % 18446744073709551616 := by
  have e : L = L.take 4 ++ L.drop 4 := (List.take_append_drop 4 L).symm
  have h4 := hiV_lt hd 0
  unfold hiV at *
  rw [List.drop_zero] at *
  have ev : vb 65536 L = vb 65536 (L.take 4) + 65536 ^ (L.take 4).length * vb 65536 (L.drop 4) := by
    conv => lhs; rw [e]
    exact vb_append _ _ _
  rw [ev]
  have e4 : (65536 : Nat) ^ (4 - 0) = 18446744073709551616 := rfl
  by_cases hl : L.length ≤ 4
  · rw [List.drop_of_length_le hl]
    simp only [vb, Nat.mul_zero, Nat.add_zero]
    omega
  · have : (L.take 4).length = 4 := by simp; omega
    have e5 : (65536 : Nat) ^ 4 = 18446744073709551616 := rfl
    rw [this, e5]
    omega
theorem ulow_runs {l : List Value} {o c : Nat} {L : List Int} (hR : Row l o L) (hd : ∀ x ∈ L, Dg 65536 x) (hn : L.length < 1073741824) :
    Runs (tabH Tryz.prog extY conN hcV) (seqs (wPre Tryz.f81) (.seq (.seq (wR2 Tryz.f81) (.block 0 (.loop (wLp Tryz.f81)))) (wEn Tryz.f81))) ([sl 0 o L.length c] ++ List.replicate 21 undef, ⟨1, [(l, tR)]⟩, []) fun e z => (e = none ∨ e = some none) ∧ resS Tryz.prog Tryz.f81 z.1 z.2.1 = some (.int .u64 ((vb 65536 L % 18446744073709551616 : Nat) : Int)) := by
  have hm : m4 L.length = (((L.take 4).length : Nat) : Int) - 1 := by
    unfold m4
    rw [List.length_take]
    split
    · rw [wrapI (by omega) (by omega)]; omega
    · rw [wrapI (by omega) (by omega)]; omega
  have hz : hiV L (L.take 4).length = 0 := by unfold hiV; rw [List.drop_of_length_le (Nat.le_refl _)]; rfl
  refine goesT_list (tabH_ok conN_ok hcV_ok) (ulow_pre _ _) (fun x hx => by cases hx) fun g => ?_
  refine Runs.seq (P1 := fun e Y => match e with | none => (∃ g, Y.1 = [sl 0 o L.length c, undef, .int .u64 0, .int .u64 (hiV L 0 : Nat), .int .i64 (-1)] ++ tl 17 g) ∧ Y.2.1 = ⟨1, [(l, tR)]⟩ | some none => False | some (some _) => False) (Runs.seq (P1 := fun e Y => e = none ∧ (∃ g, Y.1 = [sl 0 o L.length c, undef, .int .u64 0, .int .u64 0, .int .i64 (m4 L.length)] ++ tl 17 g) ∧ Y.2.1 = ⟨1, [(l, tR)]⟩) (goesT_runs (tabH_ok conN_ok hcV_ok) (ulow_r2 _ L.length c _ g) (fun x hx => by cases hx)) ?_ (fun e y he => by cases he.1)) ?_ (fun e Y he => by match e, he with | none, he => exact he.elim | some id, he => exact he.elim)
  · rintro ⟨t, h', s⟩ ⟨_, ⟨g', ht⟩, hh⟩
    simp only at ht hh
    subst ht hh
    refine Runs.script (s := []) (Runs.forLoop (P := fun Y => (∃ g, Y.1 = [sl 0 o L.length c, undef, .int .u64 0, .int .u64 (hiV L 0 : Nat), .int .i64 (-1)] ++ tl 17 g) ∧ Y.2.1 = ⟨1, [(l, tR)]⟩) (R := fun _ => False)
      (fun k Y => k ≤ (L.take 4).length ∧ (∃ g, Y.1 = [sl 0 o L.length c, undef, .int .u64 0, .int .u64 (hiV L k : Nat), .int .i64 ((k : Int) - 1)] ++ tl 17 g) ∧ Y.2.1 = ⟨1, [(l, tR)]⟩) ?_ (n := (L.take 4).length) ⟨Nat.le_refl _, ⟨g', by rw [hz, hm]; rfl⟩, rfl⟩)
    rintro k ⟨t, h', s⟩ ⟨hk, ⟨g, ht⟩, hh⟩
    simp only at ht hh
    subst ht hh
    have hl4 : (L.take 4).length ≤ L.length := by simp; omega
    have hl5 : (L.take 4).length ≤ 4 := by simp; omega
    cases k with
    | zero =>
      refine (goesT_runs (tabH_ok conN_ok hcV_ok) (ulow_out _ _ _ _ g) (okOne (decide_eq_false (by omega)))).mono fun e z hz => ?_
      obtain ⟨rfl, ⟨g', z1⟩, z2⟩ := hz
      exact ⟨rfl, ⟨g', z1⟩, z2⟩
    | succ k =>
      have hd1 := dgN_lt hd k
      have hlt := hiV_lt hd (k + 1)
      have hs := hiV_step (L := L) (k := k) (by omega)
      have ek : ((k + 1 : Nat) : Int) - 1 = (k : Int) := by omega
      have hp : hiV L (k + 1) < 281474976710656 := by
        have : 65536 ^ (4 - (k + 1)) ≤ 65536 ^ 3 := Nat.pow_le_pow_right (by omega) (by omega)
        have e3 : (65536 : Nat) ^ 3 = 281474976710656 := rfl
        omega
      rw [ek]
      refine (goesT_runs (tabH_ok conN_ok hcV_ok) (ulow_go o L.length c (L.getD k 0) _ k l g) (okTwo (by rw [Int.toNat_natCast, Nat.mul_one, hR.cell (by omega)]; simp [cellIs]) (okTwo (decide_eq_true (by omega)) (okOne (show decide ((k : Int) ≥ 0) = true from decide_eq_true (by omega)))))).mono fun e z hz => ?_
      obtain ⟨rfl, ⟨g', z1⟩, z2⟩ := hz
      have e1 : lw (hiV L (k + 1) : Nat) (L.getD k 0) = ((hiV L k : Nat) : Int) := by
        unfold lw
        rw [← hd1.2, wrap64 (n := 65536 * ((hiV L (k + 1) : Nat) : Int)) (by omega) (by omega), wrap64 (n := ((dgN L k : Nat) : Int)) (by omega) (by omega), wrap64 (by omega) (by omega)]
        omega
      have e2 : IntKind.i64.wrap ((k : Int) - 1) = (k : Int) - 1 := wrapI (by omega) (by omega)
      exact ⟨k, by omega, by omega, ⟨g', by rw [z1, e1, e2]⟩, z2⟩
  · rintro ⟨t, h', s⟩ ⟨⟨g', ht⟩, hh⟩
    simp only at ht hh
    subst ht hh
    refine (goesT_runs (tabH_ok conN_ok hcV_ok) (ulow_end _ _ _ _ g') (fun x hx => by cases hx)).mono fun e z hz => ?_
    obtain ⟨rfl, ⟨g2, z1⟩, z2⟩ := hz
    refine ⟨.inr rfl, ?_⟩
    rw [z1, z2, hiV_zero hd]
    rfl
theorem ulow_body1 : Tryz.f81.body = some (cBody Tryz.f81) := by kernel_rfl
theorem ulow_zero (p : Option Addr) (c : Nat) (h : Hp) : GoesT (evC (tabH Tryz.prog extY conN hcV) 100 false (cBody Tryz.f81) ([.slice p 0 c] ++ List.replicate 21 undef, h, [cmp false]) ⟨[], [], []⟩) 3 19 (some none) [.slice p 0 c, undef, .int .u64 0] h [(decide (m4 0 ≥ 0), false)] := ⟨by kernel_rfl, by kernel_rfl, by kernel_rfl⟩
theorem m4_zero : decide (m4 0 ≥ 0) = false := by decide
/-- a number's row, or nothing -/
def rowS (h : Hp) (p : Option Addr) (n c : Nat) : Bool := rowP h p n c && dgB (rowOf h p n) && Nat.blt n 1073741824
def gUlow : AnsH := fun vals h s =>
  match vals with
  | [.slice p n c] => some (.int .u64 ((vO h p n % 18446744073709551616 : Nat) : Int), h, s, [(rowS h p n c, true)])
  | _ => none
theorem gUlow_ok : AnsHOk 81 gUlow := by
  intro vals h s v h' s' lg hg hl m B w E hv
  unfold gUlow at hg
  split at hg
  · rename_i p n c
    cases hg
    have q := hl _ (List.mem_singleton.2 rfl)
    simp only [rowS, Bool.and_eq_true] at q
    obtain ⟨⟨q1, q2⟩, q3⟩ := q
    have q2 := dgB_of q2
    have q3 := blt_iff.1 q3
    have hlen := rowOf_len q1
    by_cases hn : n = 0
    · subst hn
      have e0 : rowOf h p 0 = [] := List.length_eq_zero_iff.1 hlen
      have ev : vO h p 0 = 0 := by unfold vO; rw [e0]; rfl
      obtain ⟨x, p', a, NA, eA, fA⟩ := nu_of 0 q1
      have hr : Runs (tabH Tryz.prog extY conN hcV) (cBody Tryz.f81) ([.slice p' 0 c] ++ List.replicate 21 undef, ⟨1, [x]⟩, []) fun e z => (e = none ∨ e = some none) ∧ resS Tryz.prog Tryz.f81 z.1 z.2.1 = some (.int .u64 ((vO h p 0 % 18446744073709551616 : Nat) : Int)) := by
        refine (goesT_runs (tabH_ok conN_ok hcV_ok) (ulow_zero p' c _) (okOne m4_zero)).mono fun e z he => ?_
        obtain ⟨rfl, ⟨g, e2⟩, e3⟩ := he
        refine ⟨.inr rfl, ?_⟩
        rw [e2, e3, ev]
        rfl
      have b1 : ∀ {i : Nat} {z : List Value × TypeId}, (⟨1, [x]⟩ : Hp).blk? i = some z → i = 0 ∧ z = x := fun {i z} hz => by
        have : i < 1 := Hp.blk_lt hz
        have hi : i = 0 := by omega
        subst hi
        exact ⟨rfl, (Option.some.inj hz).symm⟩
      have := row_calls0 (T := tabH Tryz.prog extY conN hcV) Tryz.func81 ulow_body1 (h0 := ⟨1, [x]⟩) ⟨rfl, fun b z hz => by obtain ⟨_, rfl⟩ := b1 hz; exact ⟨NA.ros.1, NA.lt0, NA.ros.2⟩⟩ (vals := [.slice p' 0 c]) (fun v hv => by rw [List.mem_singleton.1 hv]; exact NA.lt (by show 0 < 1; omega)) (by rfl) hr.w E (s := fun _ => a) (fun i z hz ht => by obtain ⟨_, rfl⟩ := b1 hz; exact fA ht)
      simp only [List.map_cons, List.map_nil] at this
      rw [eA _ rfl] at this
      exact this
    rcases rowP_cases q1 with ⟨rfl, rfl, rfl, e0⟩ | ⟨b, o, x, rfl, hx, r1, _, e0⟩
    · exact absurd rfl hn
    · rw [e0] at q2 hlen
      obtain ⟨h1, h2, h3, h4, h5, h6, h7⟩ := rowC_of r1
      have r := ulow_runs (c := c) h1 q2 (by rw [h2]; exact q3)
      rw [h2] at r
      have ev : vO h (some ⟨b, o, none⟩) n = vb 65536 (cutI x.1 o n) := by unfold vO; rw [e0]
      rw [ev]
      exact row_calls0 (T := tabH Tryz.prog extY conN hcV) Tryz.func81 ulow_body (rows1 h7) (vals := [sl 0 o n c]) (fun v hv => by rw [List.mem_singleton.1 hv]; rfl) (by rfl) r.w E (s := fun _ => b) (fitsR1 hx h5 h6 rfl)
  · cases hg
/-! ### Bit -/
theorem ubit_body : Tryz.f98.body = some (seqs (wPre Tryz.f98) (.seq (.seq (wR2 Tryz.f98) (.block 0 (.loop (wLp Tryz.f98)))) (wEn Tryz.f98))) := by kernel_rfl
theorem ubit_pre (p : Option Addr) (n c : Nat) (k : Int) (h : Hp) : GoesT (evL (tabH Tryz.prog extY conN hcV) 100 (wPre Tryz.f98) ([.slice p n c, .int .i64 k] ++ List.replicate 20 undef, h, []) ⟨[], [], []⟩) 6 16 none [.slice p n c, .int .i64 k, undef, undef, .int .i64 0, .int .u32 (atN (rowOf h p n) (k16 k))] h [(rowP h p n c, true)] := ⟨by kernel_rfl, by kernel_rfl, by kernel_rfl⟩
theorem ubit_r2 (a : Value) (k x : Int) (h : Hp) (g : Nat → Value) : GoesT (evC (tabH Tryz.prog extY conN hcV) 100 false (wR2 Tryz.f98) ([a, .int .i64 k, undef, undef, .int .i64 0, .int .u32 x] ++ tl 16 g, h, []) ⟨[], [], []⟩) 7 15 none [a, .int .i64 k, undef, undef, .int .i64 0, .int .u32 x, .int .i64 0] h [] := ⟨by kernel_rfl, by kernel_rfl, by kernel_rfl⟩
theorem ubit_go (a : Value) (k x i : Int) (h : Hp) (g : Nat → Value) : GoesT (evC (tabH Tryz.prog extY conN hcV) 100 false (wLp Tryz.f98) ([a, .int .i64 k, undef, undef, .int .i64 0, .int .u32 x, .int .i64 i] ++ tl 15 g, h, [cmp true, cmp true]) ⟨[], [], []⟩) 7 15 none [a, .int .i64 k, undef, undef, .int .i64 0, .int .u32 (IntKind.u32.wrap (x.tdiv 2)), .int .i64 (IntKind.i64.wrap (i + 1))] h [(decide (i < k.tmod 16), true), (decide ((16 : Int) = 0), false)] := ⟨by kernel_rfl, by kernel_rfl, by kernel_rfl⟩
theorem ubit_out (a : Value) (k x i : Int) (h : Hp) (g : Nat → Value) : GoesT (evC (tabH Tryz.prog extY conN hcV) 100 false (wLp Tryz.f98) ([a, .int .i64 k, undef, undef, .int .i64 0, .int .u32 x, .int .i64 i] ++ tl 15 g, h, [cmp true, cmp false]) ⟨[], [], []⟩) 7 15 (some (some 0)) [a, .int .i64 k, undef, undef, .int .i64 0, .int .u32 x, .int .i64 i] h [(decide (i < k.tmod 16), false), (decide ((16 : Int) = 0), false)] := ⟨by kernel_rfl, by kernel_rfl, by kernel_rfl⟩
theorem ubit_end (a : Value) (k x i : Int) (h : Hp) (g : Nat → Value) : GoesT (evC (tabH Tryz.prog extY conN hcV) 100 false (wEn Tryz.f98) ([a, .int .i64 k, undef, undef, .int .i64 0, .int .u32 x, .int .i64 i] ++ tl 15 g, h, [cmp true]) ⟨[], [], []⟩) 5 17 (some none) [a, .int .i64 k, undef, undef, .int .i64 (IntKind.i64.wrap (x.tmod 2))] h [(decide ((2 : Int) = 0), false)] := ⟨by kernel_rfl, by kernel_rfl, by kernel_rfl⟩
theorem ubit_loop (a : Value) (k x : Nat) (hx : x < 65536) (h : Hp) (g : Nat → Value) :
    Runs (tabH Tryz.prog extY conN hcV) (.block 0 (.loop (wLp Tryz.f98))) ([a, .int .i64 (k : Nat), undef, undef, .int .i64 0, .int .u32 (x : Nat), .int .i64 0] ++ tl 15 g, h, []) fun e Y => match e with | none => (∃ g i, Y.1 = [a, .int .i64 (k : Nat), undef, undef, .int .i64 0, .int .u32 ((x / 2 ^ (k % 16) : Nat) : Int), .int .i64 i] ++ tl 15 g) ∧ Y.2.1 = h | some none => False | some (some _) => False := by
  have em : (k : Int).tmod 16 = ((k % 16 : Nat) : Int) := by rw [Int.tmod_eq_emod_of_nonneg (by omega)]; omega
  refine Runs.forLoop (P := fun Y => (∃ g i, Y.1 = [a, .int .i64 (k : Nat), undef, undef, .int .i64 0, .int .u32 ((x / 2 ^ (k % 16) : Nat) : Int), .int .i64 i] ++ tl 15 g) ∧ Y.2.1 = h) (R := fun _ => False)
    (fun m Y => ∃ j : Nat, j ≤ k % 16 ∧ m = k % 16 - j ∧ (∃ g, Y.1 = [a, .int .i64 (k : Nat), undef, undef, .int .i64 0, .int .u32 ((x / 2 ^ j : Nat) : Int), .int .i64 (j : Nat)] ++ tl 15 g) ∧ Y.2.1 = h) ?_ (n := k % 16) ⟨0, by omega, by omega, ⟨g, by simp⟩, rfl⟩
  rintro m ⟨t, h', s⟩ ⟨j, hj, hm, ⟨g, ht⟩, hh⟩
  simp only at ht hh
  subst ht hh
  have hle : x / 2 ^ j ≤ x := Nat.div_le_self _ _
  by_cases hlt : j < k % 16
  · refine (goesT_runs (tabH_ok conN_ok hcV_ok) (ubit_go a k _ j h' g) (okTwo (by rw [em]; exact decide_eq_true (by omega)) (okOne rfl))).mono fun e z hz => ?_
    obtain ⟨rfl, ⟨g', z1⟩, z2⟩ := hz
    have e1 : IntKind.u32.wrap (((x / 2 ^ j : Nat) : Int).tdiv 2) = ((x / 2 ^ (j + 1) : Nat) : Int) := by
      rw [Nat.pow_succ, ← Nat.div_div_eq_div_mul]
      generalize x / 2 ^ j = y at hle ⊢
      rw [Int.tdiv_eq_ediv_of_nonneg (by omega), wrap32 (by omega) (by omega)]
      rfl
    have e2 : IntKind.i64.wrap ((j : Int) + 1) = ((j + 1 : Nat) : Int) := by rw [wrapI (by omega) (by omega)]; omega
    exact ⟨k % 16 - (j + 1), by omega, j + 1, by omega, rfl, ⟨g', by rw [z1, e1, e2]⟩, z2⟩
  · have hj' : j = k % 16 := by omega
    subst hj'
    refine (goesT_runs (tabH_ok conN_ok hcV_ok) (ubit_out a k _ _ h' g) (okTwo (by rw [em]; exact decide_eq_false (by omega)) (okOne rfl))).mono fun e z hz => ?_
    obtain ⟨rfl, ⟨g', z1⟩, z2⟩ := hz
    exact ⟨rfl, ⟨g', _, z1⟩, z2⟩
/-- a row or nothing: its digits -/
def rowD (h : Hp) (p : Option Addr) (n c : Nat) : Bool := rowP h p n c && dgB (rowOf h p n) && Nat.blt n 1073741824
def gUbit : AnsH := fun vals h s =>
  match vals with
  | [.slice p n c, .int .i64 k] => some (.int .i64 ((vO h p n / 2 ^ k.toNat % 2 : Nat) : Int), h, s, [(rowD h p n c, true), (decide (0 ≤ k ∧ k < 4611686018427387904), true)])
  | _ => none
theorem dg_dgN (L : List Int) (i : Nat) : dgS L i = dgN L i := rfl
theorem blkOne {x : List Value × TypeId} {i : Nat} {z : List Value × TypeId} (hz : (⟨1, [x]⟩ : Hp).blk? i = some z) : i = 0 ∧ z = x := by
  have : i < 1 := Hp.blk_lt hz
  have hi : i = 0 := by omega
  subst hi
  exact ⟨rfl, (Option.some.inj hz).symm⟩
theorem gUbit_ok : AnsHOk 98 gUbit := by
  intro vals h s v h' s' lg hg hl m B w E hv
  unfold gUbit at hg
  split at hg
  · rename_i p n c k
    cases hg
    have q := hl _ (List.mem_cons_self)
    have qk := of_decide_eq_true (hl _ (List.mem_cons_of_mem _ (List.mem_singleton.2 rfl)))
    simp only [rowD, Bool.and_eq_true] at q
    obtain ⟨⟨q1, q2⟩, q3⟩ := q
    have q2 := dgB_of q2
    obtain ⟨K, rfl⟩ := Int.eq_ofNat_of_zero_le qk.1
    obtain ⟨x, p', a, NA, eA, fA⟩ := nu_of 0 q1
    obtain ⟨rp, ro'⟩ := NA.row ⟨1, [x]⟩ rfl
    have ek : k16 (K : Int) = ((K / 16 : Nat) : Int) := by unfold k16; rw [Int.tdiv_eq_ediv_of_nonneg (by omega), wrapI (by omega) (by omega)]; omega
    have hd := dgN_lt q2 (K / 16)
    have hr : Runs (tabH Tryz.prog extY conN hcV) (seqs (wPre Tryz.f98) (.seq (.seq (wR2 Tryz.f98) (.block 0 (.loop (wLp Tryz.f98)))) (wEn Tryz.f98))) ([.slice p' n c, .int .i64 (K : Nat)] ++ List.replicate 20 undef, ⟨1, [x]⟩, []) fun e z => (e = none ∨ e = some none) ∧ resS Tryz.prog Tryz.f98 z.1 z.2.1 = some (.int .i64 ((vO h p n / 2 ^ K % 2 : Nat) : Int)) := by
      refine goesT_list (tabH_ok conN_ok hcV_ok) (ubit_pre p' n c K _) (okOne rp) fun g => ?_
      rw [ro', ek, atN_nat, ← hd.2]
      refine Runs.seq (P1 := fun e Y => match e with | none => (∃ g i, Y.1 = [.slice p' n c, .int .i64 (K : Nat), undef, undef, .int .i64 0, .int .u32 ((dgN (rowOf h p n) (K / 16) / 2 ^ (K % 16) : Nat) : Int), .int .i64 i] ++ tl 15 g) ∧ Y.2.1 = ⟨1, [x]⟩ | some none => False | some (some _) => False) (Runs.seq (P1 := fun e Y => e = none ∧ (∃ g, Y.1 = [.slice p' n c, .int .i64 (K : Nat), undef, undef, .int .i64 0, .int .u32 ((dgN (rowOf h p n) (K / 16) : Nat) : Int), .int .i64 0] ++ tl 15 g) ∧ Y.2.1 = ⟨1, [x]⟩) (goesT_runs (tabH_ok conN_ok hcV_ok) (ubit_r2 _ K _ _ g) (fun x hx => by cases hx)) ?_ (fun e y he => by cases he.1)) ?_ (fun e Y he => by match e, he with | none, he => exact he.elim | some id, he => exact he.elim)
      · rintro ⟨t, h', s⟩ ⟨_, ⟨g', ht⟩, hh⟩
        simp only at ht hh
        subst ht hh
        exact Runs.script (ubit_loop _ K _ hd.1 _ g')
      · rintro ⟨t, h', s⟩ ⟨⟨g', i, ht⟩, hh⟩
        simp only at ht hh
        subst ht hh
        refine (goesT_runs (tabH_ok conN_ok hcV_ok) (ubit_end _ _ _ _ _ g') (okOne rfl)).mono fun e z hz => ?_
        obtain ⟨rfl, ⟨g2, z1⟩, z2⟩ := hz
        refine ⟨.inr rfl, ?_⟩
        have e1 : IntKind.i64.wrap ((((dgN (rowOf h p n) (K / 16) / 2 ^ (K % 16) : Nat) : Int)).tmod 2) = ((vO h p n / 2 ^ K % 2 : Nat) : Int) := by
          unfold vO
          rw [bit_dg q2 K, dg_dgN]
          generalize dgN (rowOf h p n) (K / 16) / 2 ^ (K % 16) = y
          rw [Int.tmod_eq_emod_of_nonneg (by omega), wrapI (by omega) (by omega)]
          rfl
        rw [z1, z2, e1]
        rfl
    have := row_calls0 (T := tabH Tryz.prog extY conN hcV) Tryz.func98 ubit_body (h0 := ⟨1, [x]⟩) ⟨rfl, fun b z hz => by obtain ⟨_, rfl⟩ := blkOne hz; exact ⟨NA.ros.1, NA.lt0, NA.ros.2⟩⟩ (vals := [.slice p' n c, .int .i64 (K : Nat)]) (fun v hv => by
      simp only [List.mem_cons, List.not_mem_nil, or_false] at hv
      rcases hv with rfl | rfl
      · exact NA.lt (by show 0 < 1; omega)
      · rfl) (by rfl) hr.w E (s := fun _ => a) (fun i z hz ht => by obtain ⟨_, rfl⟩ := blkOne hz; exact fA ht)
    simp only [List.map_cons, List.map_nil] at this
    rw [eA _ rfl] at this
    exact this
  · cases hg
end Go.Proofs.YtjkgnbdeklploaaGreatDoor
