/-
  The document's product by a small number (tillerref02.Small), as a contract.
-/
import Derived.Test.YtbjgkhbhabdjgaaDoorG29
import Derived.Test.YtbjgkhbhabdjgaaDoorG07
import Derived.Test.YtbjgkhbhabdjgaaDoorG19
import Derived.Test.YtbjgkhbhabdjgaaDoorG20
namespace Go.Proofs.YtbjgkhbhabdjgaaDoor
open Go.KRun Go.Nt
set_option maxRecDepth 100000
set_option linter.unusedVariables false

theorem wrap64s {n : Int} (h0 : 0 ≤ n) (h1 : n < 18446744073709551616) : IntKind.u64.wrap n = n := by simp [IntKind.wrap, IntKind.bits, IntKind.signed]; omega
theorem sv_eq {A : List Int} (hA : ∀ x ∈ A, Dg 65536 x) {b k : Nat} (hb : b < 4294967296) (hk : k < 4294967296) (i : Nat) : sv A b k i = ((k + dgN A i * b : Nat) : Int) := by
  have h1 := (dgN_lt hA i).1
  have h2 := (dgN_lt hA i).2
  have hp : dgN A i * b ≤ 65535 * 4294967295 := Nat.mul_le_mul (by omega) (by omega)
  have e0 : atN A (i : Int) = ((dgN A i : Nat) : Int) := by
    have := at_dg hA i
    rw [atN_nat]
    unfold dgN
    have := this.1
    omega
  unfold sv
  rw [e0, wrap64s (n := ((dgN A i : Nat) : Int)) (by omega) (by omega), wrap64s (n := (b : Int)) (by omega) (by omega)]
  have e1 : ((dgN A i : Nat) : Int) * (b : Int) = ((dgN A i * b : Nat) : Int) := by simp
  rw [e1, wrap64s (n := ((dgN A i * b : Nat) : Int)) (by omega) (by omega), wrap64s (by omega) (by omega)]
  omega
theorem small_step {O : List Int} {A : List Int} {i k b e : Nat} (hO : O.length = i) (h : vb 65536 O + 65536 ^ i * k = vb 65536 (A.take i) * b + e) :
    vb 65536 (O ++ [(((k + dgN A i * b) % 65536 : Nat) : Int)]) + 65536 ^ (i + 1) * ((k + dgN A i * b) / 65536) = vb 65536 (A.take (i + 1)) * b + e := by
  rw [vb_snoc, hO, Int.toNat_natCast, vb_take, Nat.add_mul]
  have h2 := Nat.div_add_mod (k + dgN A i * b) 65536
  have h3 : 65536 ^ i * (k + dgN A i * b) = 65536 ^ i * (65536 * ((k + dgN A i * b) / 65536)) + 65536 ^ i * ((k + dgN A i * b) % 65536) := by rw [← Nat.mul_add, h2]
  have h4 : 65536 ^ i * (k + dgN A i * b) = 65536 ^ i * k + 65536 ^ i * (dgN A i * b) := Nat.mul_add _ _ _
  have h5 : 65536 ^ (i + 1) * ((k + dgN A i * b) / 65536) = 65536 ^ i * (65536 * ((k + dgN A i * b) / 65536)) := by rw [Nat.pow_succ, Nat.mul_assoc]
  have h6 : 65536 ^ i * (A.getD i 0).toNat * b = 65536 ^ i * (dgN A i * b) := by rw [Nat.mul_assoc]; rfl
  rw [h5, h6]
  omega
section
variable {x : List Value × TypeId} {p : Option Addr} {n c : Nat} {A : List Int}
theorem kept_one (NA : Nu 0 x p n c A) {h : Hp} (h0 : h.blk? 0 = some x) : ∀ i z, (⟨1, [x]⟩ : Hp).blk? i = some z → h.blk? i = some z ∧ ∀ v ∈ z.1, still v = true := fun i z hz => by
  have hi : i = 0 := by have : i < 1 := Hp.blk_lt hz; omega
  subst hi
  have : z = x := (Option.some.inj hz).symm
  subst this
  exact ⟨h0, NA.st⟩
def sFr (p : Option Addr) (n c : Nat) (b e : Nat) (out : Value) (k i : Nat) : List Value := [.slice p n c, .int .u32 ((b : Nat) : Int), .int .u32 ((e : Nat) : Int), undef, undef, undef, nilS, out, .int .u64 ((k : Nat) : Int), .int .i64 ((i : Nat) : Int)]
def sStJ (x : List Value × TypeId) (p : Option Addr) (n c b e : Nat) (O : List Int) (i k : Nat) (Y : Lf) : Prop :=
  (i = 0 ∧ (∃ g, Y.1 = sFr p n c b e nilS k i ++ tl 31 g) ∧ Y.2.1 = hs1' x) ∨ (0 < i ∧ (∃ g, Y.1 = sFr p n c b e (sl 1 0 i grown) k i ++ tl 31 g) ∧ Y.2.1 = hs2' (wU O) x)
theorem usm_round (NA : Nu 0 x p n c A) (hA : ∀ x ∈ A, Dg 65536 x) {b e k i : Nat} (hb : b < 4294967296) {O : List Int} (hk : k < 4294967296) (hi : i < 1073741823) (hO : O.length = i) (hgo : i < n ∨ 0 < k) {Y : Lf} (hY : sStJ x p n c b e O i k Y) :
    RunsW (tabH Tryd.prog extY conN hcV) (sLoop Tryd.f50) Y fun ex z => ex = none ∧ (∃ g, z.1 = sFr p n c b e (sl 1 0 (i + 1) grown) ((k + dgN A i * b) / 65536) (i + 1) ++ tl 31 g) ∧ z.2.1 = hs2' (wU (O ++ [(((k + dgN A i * b) % 65536 : Nat) : Int)])) x := by
  obtain ⟨t, h', s⟩ := Y
  have hd1 := (dgN_lt hA i).1
  have hp : dgN A i * b ≤ 65535 * 4294967295 := Nat.mul_le_mul (by omega) (by omega)
  have es := sv_eq hA hb hk i
  have e1 : IntKind.u32.wrap ((sv A b k i).tmod 65536) = (((k + dgN A i * b) % 65536 : Nat) : Int) := by rw [es, Int.tmod_eq_emod_of_nonneg (by omega), wrap32 (by omega) (by omega)]; omega
  have e2 : IntKind.u64.wrap ((sv A b k i).tdiv 65536) = (((k + dgN A i * b) / 65536 : Nat) : Int) := by rw [es, Int.tdiv_eq_ediv_of_nonneg (by omega), wrap64s (by omega) (by omega)]; omega
  have e3 : IntKind.i64.wrap ((i : Int) + 1) = ((i + 1 : Nat) : Int) := by rw [wrapI (by omega) (by omega)]; omega
  have hw : ∃ w, w ≤ 1 ∧ okLog (sLog w n k i) := by
    by_cases ha : i < n
    · exact ⟨0, by omega, okOne (decide_eq_true (by omega))⟩
    · exact ⟨1, by omega, okW (decide_eq_true (by omega)) (okOne (decide_eq_false (by omega)))⟩
  obtain ⟨w, hw1, hl⟩ := hw
  rcases hY with ⟨h0, ⟨g, ht⟩, hh⟩ | ⟨h0, ⟨g, ht⟩, hh⟩
  · simp only at ht hh
    subst ht hh
    have r0 := NA.row (hs1' x) rfl
    have hO' : O = [] := List.length_eq_zero_iff.1 (by omega)
    have fin : RunsW (tabH Tryd.prog extY conN hcV) (sLoop Tryd.f50) (sFr p n c b e nilS k i ++ tl 31 g, hs1' x, s) fun ex z => ex = none ∧ (∃ g, z.1 = [.slice p n c, .int .u32 ((b : Nat) : Int), .int .u32 ((e : Nat) : Int), undef, undef, undef, nilS, sl 2 0 1 grown, .int .u64 (IntKind.u64.wrap ((sv A b k i).tdiv 65536)), .int .i64 (IntKind.i64.wrap ((i : Int) + 1))] ++ tl 31 g) ∧ z.2.1 = ⟨3, [([.int .u32 (IntKind.u32.wrap ((sv A b k i).tmod 65536))], tU), ([.int .u32 (IntKind.u32.wrap ((sv A b k i).tmod 65536))], tU), x]⟩ := by
      match w, hw1, hl with
      | 0, _, hl =>
        have := goesT_runsW (tabH_ok conN_ok hcV_ok) (s0 := s) (usm_nil0 p n c b e k i x g) (okW rfl (okW r0.1 hl))
        rw [r0.2] at this
        exact this
      | 1, _, hl =>
        have := goesT_runsW (tabH_ok conN_ok hcV_ok) (s0 := s) (usm_nil1 p n c b e k i x g) (okW rfl (okW r0.1 hl))
        rw [r0.2] at this
        exact this
    rw [e1, e2, e3] at fin
    have := fin.kept (k := 1) (b := 2) (base := [x]) (y := ([.int .u32 (((k + dgN A i * b) % 65536 : Nat) : Int)], tU)) (front' := sFr p n c b e (sl 1 0 1 grown) ((k + dgN A i * b) / 65536) (i + 1)) rfl
      (by simp only [sFr, List.map_cons, List.map_nil, NA.rn (f := keepK 1 2) rfl]; kernel_rfl) (kept_one NA rfl) rfl (by omega) (fun v hv => by rw [List.mem_singleton.1 hv]; rfl) (fun v hv => by
        simp only [sFr, List.mem_cons, List.not_mem_nil, or_false] at hv
        rcases hv with rfl | rfl | rfl | rfl | rfl | rfl | rfl | rfl | rfl | rfl
        · exact NA.lt (by omega)
        all_goals rfl)
    refine this.mono fun ex z hz => ?_
    obtain ⟨rfl, ⟨g', q1⟩, q2⟩ := hz
    subst hO' h0
    exact ⟨rfl, ⟨g', q1⟩, q2⟩
  · simp only at ht hh
    subst ht hh
    have r0 := NA.row (hs2' (wU O) x) rfl
    have hchk : appChk tU (wU O, tU) ([.int .u32 (IntKind.u32.wrap ((sv A b k i).tmod 65536))], tU) i 0 1 = true :=
      appChk_of (L := O) (M := [IntKind.u32.wrap ((sv A b k i).tmod 65536)]) hO.symm (show 0 < 1 by omega) (by show O.length + 1 ≤ _; omega)
    have fin : RunsW (tabH Tryd.prog extY conN hcV) (sLoop Tryd.f50) (sFr p n c b e (sl 1 0 i grown) k i ++ tl 31 g, hs2' (wU O) x, s) fun ex z => ex = none ∧ (∃ g, z.1 = [.slice p n c, .int .u32 ((b : Nat) : Int), .int .u32 ((e : Nat) : Int), undef, undef, undef, nilS, sl 3 0 (i + 1) grown, .int .u64 (IntKind.u64.wrap ((sv A b k i).tdiv 65536)), .int .i64 (IntKind.i64.wrap ((i : Int) + 1))] ++ tl 31 g) ∧ z.2.1 = ⟨4, [(wU O ++ [.int .u32 (IntKind.u32.wrap ((sv A b k i).tmod 65536))], tU), ([.int .u32 (IntKind.u32.wrap ((sv A b k i).tmod 65536))], tU), ([], 2 * dead), x]⟩ := by
      match w, hw1, hl with
      | 0, _, hl =>
        have := goesT_runsW (tabH_ok conN_ok hcV_ok) (s0 := s) (usm_some0 p n c i b e k i x (wU O) g) (by rw [r0.2]; exact okW hchk (okW rfl (okW r0.1 hl)))
        rw [r0.2] at this
        exact this
      | 1, _, hl =>
        have := goesT_runsW (tabH_ok conN_ok hcV_ok) (s0 := s) (usm_some1 p n c i b e k i x (wU O) g) (by rw [r0.2]; exact okW hchk (okW rfl (okW r0.1 hl)))
        rw [r0.2] at this
        exact this
    rw [e1, e2, e3] at fin
    have ew : wU O ++ [.int .u32 (((k + dgN A i * b) % 65536 : Nat) : Int)] = wU (O ++ [(((k + dgN A i * b) % 65536 : Nat) : Int)]) := by rw [wU_append]; rfl
    rw [ew] at fin
    have := fin.kept (k := 1) (b := 3) (base := [x]) (y := (wU (O ++ [(((k + dgN A i * b) % 65536 : Nat) : Int)]), tU)) (front' := sFr p n c b e (sl 1 0 (i + 1) grown) ((k + dgN A i * b) / 65536) (i + 1)) rfl
      (by simp only [sFr, List.map_cons, List.map_nil, NA.rn (f := keepK 1 3) rfl]; kernel_rfl) (kept_one NA rfl) rfl (by omega) (wU_still _) (fun v hv => by
        simp only [sFr, List.mem_cons, List.not_mem_nil, or_false] at hv
        rcases hv with rfl | rfl | rfl | rfl | rfl | rfl | rfl | rfl | rfl | rfl
        · exact NA.lt (by omega)
        all_goals rfl)
    exact this
def sInvJ (x : List Value × TypeId) (p : Option Addr) (n c : Nat) (A : List Int) (b e m : Nat) (Y : Lf) : Prop :=
  ∃ (i k : Nat) (O : List Int), O.length = i ∧ m = n + 2 - i ∧ i ≤ n + 2 ∧ k < 4294967296 ∧ ((i = n + 1 → k < 65536) ∧ (i = n + 2 → k = 0)) ∧ (∀ x ∈ O, Dg 65536 x) ∧ vb 65536 O + 65536 ^ i * k = vb 65536 (A.take i) * b + e ∧ sStJ x p n c b e O i k Y
def sFinJ (x : List Value × TypeId) (p : Option Addr) (n c : Nat) (A : List Int) (b e : Nat) (Y : Lf) : Prop :=
  ∃ (i : Nat) (O : List Int), O.length = i ∧ i ≤ n + 2 ∧ (∀ x ∈ O, Dg 65536 x) ∧ vb 65536 O = vb 65536 A * b + e ∧ n ≤ i ∧ sStJ x p n c b e O i 0 Y
theorem usm_loop (NA : Nu 0 x p n c A) (lA : A.length = n) (hA : ∀ x ∈ A, Dg 65536 x) {b e : Nat} (hb : b < 4294967296) (he : e < 4294967296) (hn : n + 3 < 1073741824) (g : Nat → Value) :
    RunsW (tabH Tryd.prog extY conN hcV) (.block 0 (.loop (sLoop Tryd.f50))) (sFr p n c b e nilS e 0 ++ tl 31 g, hs1' x, []) fun ex Y => match ex with | none => sFinJ x p n c A b e Y | some none => False | some (some _) => False := by
  refine RunsW.forLoop (P := sFinJ x p n c A b e) (R := fun _ => False) (sInvJ x p n c A b e) ?_ (n := n + 2) ⟨0, e, [], rfl, by omega, by omega, he, ⟨by omega, by omega⟩, (fun x hx => by cases hx), by simp [vb], .inl ⟨rfl, ⟨g, rfl⟩, rfl⟩⟩
  rintro m Y ⟨i, k, O, hO, hm, hi, hk, ⟨hk1, hk0⟩, hOd, hval, hY⟩
  by_cases hgo : i < n ∨ 0 < k
  · have hmx : i ≤ n + 1 := by
      rcases Nat.lt_or_ge i (n + 2) with h | h
      · omega
      · have : k = 0 := hk0 (by omega)
        omega
    have r := usm_round NA hA (e := e) hb hk (by omega) hO hgo hY
    refine r.mono fun ex z hz => ?_
    obtain ⟨rfl, z1, z2⟩ := hz
    have d1 := (dgN_lt hA i).1
    have hp : dgN A i * b ≤ 65535 * 4294967295 := Nat.mul_le_mul (by omega) (by omega)
    refine ⟨n + 2 - (i + 1), by omega, i + 1, (k + dgN A i * b) / 65536, O ++ [(((k + dgN A i * b) % 65536 : Nat) : Int)], by simp [hO], rfl, by omega, by omega, ⟨fun he' => ?_, fun he' => ?_⟩, fun x hx => ?_, small_step hO hval, .inr ⟨by omega, z1, z2⟩⟩
    · have z1 : dgN A i = 0 := dgN_out (by omega)
      rw [z1]
      omega
    · have z1 : dgN A i = 0 := dgN_out (by omega)
      have := hk1 (by omega)
      rw [z1]
      omega
    · rcases List.mem_append.1 hx with hx | hx
      · exact hOd x hx
      · rw [List.mem_singleton.1 hx]
        exact ⟨by omega, by omega⟩
  · have hk : k = 0 := by omega
    subst hk
    have ha : n ≤ i := by omega
    have out : ∀ (v : Value) (h : Hp) (g : Nat → Value) (s : List Dec), RunsW (tabH Tryd.prog extY conN hcV) (sLoop Tryd.f50) (sFr p n c b e v 0 i ++ tl 31 g, h, s) fun ex z => ex = some (some 0) ∧ (∃ g, z.1 = sFr p n c b e v 0 i ++ tl 31 g) ∧ z.2.1 = h := fun v h g s =>
      goesT_runsW (tabH_ok conN_ok hcV_ok) (usm_out p n c b e 0 i v h g) (okW rfl (okOne (decide_eq_false (by omega))))
    have hv : vb 65536 O = vb 65536 A * b + e := by
      rw [List.take_of_length_le (by omega)] at hval
      omega
    obtain ⟨t, h', s⟩ := Y
    rcases hY with ⟨h0, ⟨g, ht⟩, hh⟩ | ⟨h0, ⟨g, ht⟩, hh⟩
    · simp only at ht hh
      subst ht hh
      refine (out nilS _ g s).mono fun ex z hz => ?_
      obtain ⟨rfl, z1, z2⟩ := hz
      exact ⟨rfl, i, O, hO, hi, hOd, hv, ha, .inl ⟨h0, z1, z2⟩⟩
    · simp only at ht hh
      subst ht hh
      refine (out (sl 1 0 i grown) _ g s).mono fun ex z hz => ?_
      obtain ⟨rfl, z1, z2⟩ := hz
      exact ⟨rfl, i, O, hO, hi, hOd, hv, ha, .inr ⟨h0, z1, z2⟩⟩
theorem usm_runs (NA : Nu 0 x p n c A) (lA : A.length = n) (hA : ∀ x ∈ A, Dg 65536 x) {b e : Nat} (hb : b < 4294967296) (he : e < 4294967296) (hn : n + 3 < 1073741824) (h0 : 0 < n ∨ 0 < e) {V : Nat} (hV : V = vb 65536 A * b + e) :
    RunsW (tabH Tryd.prog extY conN hcV) (seqs (sPre Tryd.f50) (.seq (.seq (sR3J Tryd.f50) (.block 0 (.loop (sLoop Tryd.f50)))) (sEnd Tryd.f50))) ([.slice p n c, .int .u32 ((b : Nat) : Int), .int .u32 ((e : Nat) : Int)] ++ List.replicate 38 undef, hs1' x, []) fun ex z => (ex = none ∨ ex = some none) ∧ resS Tryd.prog Tryd.f50 z.1 z.2.1 = some (sl 1 0 (d16 V).length (d16 V).length) ∧ ∃ r, z.2.1.blk? 1 = some (wU (d16 V) ++ r, tU) := by
  refine goesT_listW (tabH_ok conN_ok hcV_ok) (usm_pre p n c b e (hs1' x)) (fun x hx => by cases hx) fun g => ?_
  have ee : IntKind.u64.wrap ((e : Nat) : Int) = ((e : Nat) : Int) := wrap64s (by omega) (by omega)
  rw [ee]
  refine seqW3 (goesT_runsW (tabH_ok conN_ok hcV_ok) (usm_r3 p n c b e e (hs1' x) g) (fun x hx => by cases hx)) (fun ex y he => by cases he.1) (P2 := fun ex Y => match ex with | none => sFinJ x p n c A b e Y | some none => False | some (some _) => False) ?_ ?_ ?_
  · rintro ⟨t, h', s⟩ ⟨_, ⟨g', ht⟩, hh⟩
    simp only at ht hh
    subst ht hh
    exact RunsW.script (usm_loop NA lA hA hb he hn g')
  · intro ex y hy
    match ex, hy with
    | none, hy => exact hy
    | some id, hy => exact hy
  · rintro ⟨t, h', s⟩ ⟨i, O, hO, hi, hOd, hv, ha, hY⟩
    rcases hY with ⟨e0, _⟩ | ⟨_, ⟨g', ht⟩, hh⟩
    · exfalso
      have hO' : O = [] := List.length_eq_zero_iff.1 (by omega)
      rw [hO'] at hv
      have : vb 65536 [] = 0 := rfl
      omega
    · simp only at ht hh
      subst ht hh
      have hrow : rowC tU (wU O) 0 i grown = true := by
        rw [← hO]
        exact rowC_wU (fun x hx => ⟨(hOd x hx).1, by have := (hOd x hx).2; omega⟩) (by omega) (capG _)
      refine (goesT_runsW (tabH_ok conN_ok hcV_ok) (usm_end p n c i b e 0 i x (wU O) g') (okOne hrow)).mono fun ex z hz => ?_
      obtain ⟨rfl, ⟨g2, e1⟩, e2⟩ := hz
      have et : trimN (cutI (wU O) 0 i) = (d16 V).length := by
        rw [← hO, cut_wU, trim_len (by omega) hOd, hv, ← hV]
        rfl
      refine ⟨.inr rfl, ?_, ?_⟩
      · rw [e1, e2, et]
        rfl
      · rw [e2]
        refine ⟨wU (O.drop (trimN O)), ?_⟩
        have e3 : wU (d16 V) ++ wU (O.drop (trimN O)) = wU O := by
          unfold d16
          rw [hV, ← hv, ← take_trim (by omega) _ hOd, ← wU_append, List.take_append_drop]
        rw [e3]
        rfl
theorem rows_hs1 (NA : Nu 0 x p n c A) : (hs1' x).rows := by
  refine ⟨rfl, fun b z hz => ?_⟩
  have hb : b = 0 := by have : b < 1 := Hp.blk_lt hz; omega
  subst hb
  have : z = x := (Option.some.inj hz).symm
  subst this
  exact ⟨NA.ros.1, NA.lt0, NA.ros.2⟩
theorem fits_hs1 {h : Hp} {a : Nat} (hx : tomb x.2 = false → ∃ z r, h.blk? a = some z ∧ tomb z.2 = false ∧ rt z.2 = rt x.2 ∧ z.1 = x.1 ++ r) : (hs1' x).fits (fun _ => a) h := by
  intro i z hz ht
  have hb : i = 0 := by have : i < 1 := Hp.blk_lt hz; omega
  subst hb
  have : z = x := (Option.some.inj hz).symm
  subst this
  exact hx ht
end
theorem usm_body1 : Tryd.f50.body = some (cBody Tryd.f50) := by kernel_rfl
def okSml (h : Hp) (p : Option Addr) (n c : Nat) (b e : Int) : Bool := rowP h p n c && dgB (rowOf h p n) && Nat.blt (n + 3) 1073741824 && decide ((0 ≤ b ∧ b < 4294967296) ∧ (0 ≤ e ∧ e < 4294967296))
def gUsm : AnsH := fun vals h s =>
  match vals, s with
  | [.slice p n c, .int .u32 b, .int .u32 e], .inr (.inr (.inr (.inl d))) :: s' =>
    match d with
    | true => mk16 (vO h p n * b.toNat + e.toNat) h s' [(okSml h p n c b e, true), (decide (0 < n ∨ 0 < e), true)]
    | false => some (nilS, h, s', [(okSml h p n c b e, true), (decide (0 < n ∨ 0 < e), false)])
  | _, _ => none
theorem gUsm_ok : AnsHOk 50 gUsm := by
  intro vals h s v h' s' lg hg hl m B w E hv
  unfold gUsm at hg
  split at hg
  · rename_i p n c b e d s2
    have key : okSml h p n c b e = true → ∃ b' e' : Nat, b = (b' : Int) ∧ e = (e' : Int) ∧ b' < 4294967296 ∧ e' < 4294967296 ∧ rowP h p n c = true ∧ (∀ x ∈ rowOf h p n, Dg 65536 x) ∧ n + 3 < 1073741824 := fun hk => by
      simp only [okSml, Bool.and_eq_true, decide_eq_true_eq] at hk
      obtain ⟨⟨⟨r1, r2⟩, r3⟩, r4⟩ := hk
      exact ⟨b.toNat, e.toNat, by omega, by omega, by omega, by omega, r1, dgB_of r2, blt_iff.1 r3⟩
    split at hg
    · unfold mk16 at hg
      cases hg
      have q1 := hl _ (List.mem_cons_self)
      have q2 := hl _ (List.mem_cons_of_mem _ (List.mem_singleton.2 rfl))
      simp only [decide_eq_true_eq] at q2
      obtain ⟨b', e', rfl, rfl, hb, he, r1, r2, r3⟩ := key q1
      rw [Int.toNat_natCast, Int.toNat_natCast]
      obtain ⟨x, p', a, NA, eA, fA⟩ := nu_of 0 r1
      have r := usm_runs NA (rowOf_len r1) r2 hb he r3 (by omega) rfl
      have := row_calls1 (T := tabH Tryd.prog extY conN hcV) Tryd.func50 usm_body (rows_hs1 NA) (vals := [.slice p' n c, .int .u32 ((b' : Nat) : Int), .int .u32 ((e' : Nat) : Int)]) (fun v hv => by
        simp only [List.mem_cons, List.not_mem_nil, or_false] at hv
        rcases hv with rfl | rfl | rfl
        · exact NA.lt (by show 0 < 1; omega)
        all_goals rfl) (k := 1) (cs := wU (d16 (vO h p n * b' + e'))) (ty := tU) (wU_lt _) (by kernel_rfl) r (by rfl) E (s := fun _ => a) (fits_hs1 fA)
      simp only [List.map_cons, List.map_nil] at this
      rw [eA _ rfl] at this
      exact this
    · cases hg
      have q1 := hl _ (List.mem_cons_self)
      have q2 := hl _ (List.mem_cons_of_mem _ (List.mem_singleton.2 rfl))
      simp only [decide_eq_false_iff_not] at q2
      obtain ⟨b', e', rfl, rfl, hb, he, r1, r2, r3⟩ := key q1
      obtain ⟨x, p', a, NA, eA, fA⟩ := nu_of 0 r1
      have hr : Runs (tabH Tryd.prog extY conN hcV) (cBody Tryd.f50) ([.slice p' n c, .int .u32 ((b' : Nat) : Int), .int .u32 ((e' : Nat) : Int)] ++ List.replicate 38 undef, hs1' x, []) fun ex z => (ex = none ∨ ex = some none) ∧ resS Tryd.prog Tryd.f50 z.1 z.2.1 = some nilS := by
        refine (goesT_runs (tabH_ok conN_ok hcV_ok) (usm_empty p' n c b' e' _) (okW (decide_eq_false (by rw [wrap64s (by omega) (by omega)]; omega)) (okOne (decide_eq_false (by omega))))).mono fun ex z he => ?_
        obtain ⟨rfl, ⟨g, e2⟩, e3⟩ := he
        refine ⟨.inr rfl, ?_⟩
        rw [e2, e3]
        rfl
      have := row_calls0 (T := tabH Tryd.prog extY conN hcV) Tryd.func50 usm_body1 (rows_hs1 NA) (vals := [.slice p' n c, .int .u32 ((b' : Nat) : Int), .int .u32 ((e' : Nat) : Int)]) (fun v hv => by
        simp only [List.mem_cons, List.not_mem_nil, or_false] at hv
        rcases hv with rfl | rfl | rfl
        · exact NA.lt (by show 0 < 1; omega)
        all_goals rfl) (v := nilS) (by rfl) hr.w E (s := fun _ => a) (fits_hs1 fA)
      simp only [List.map_cons, List.map_nil] at this
      rw [eA _ rfl] at this
      exact this
  · cases hg
end Go.Proofs.YtbjgkhbhabdjgaaDoor

/-
  The document's Pow (tillerref02), as a contract.
-/
namespace Go.Proofs.YtbjgkhbhabdjgaaDoor
open Go.KRun Go.Nt
set_option maxRecDepth 100000
set_option linter.unusedVariables false

theorem log_tlP {x : Bool × Bool} {l : Log} (h : okLog (x :: l)) : x.1 = x.2 ∧ okLog l := ⟨h _ List.mem_cons_self, fun y hy => h y (List.mem_cons_of_mem _ hy)⟩
def gUsmT : AnsH := fun vals h s =>
  match vals, s with
  | [.slice p n c, .int .u32 b, .int .u32 e], .inr (.inr (.inr (.inl d))) :: s' =>
    match d, s' with
    | true, .inr (.inl V) :: s2 => mk16 V.toNat h s2 [(decide (vO h p n * b.toNat + e.toNat = V.toNat), true), (okSml h p n c b e, true), (decide (0 < n ∨ 0 < e), true)]
    | false, _ => some (nilS, h, s', [(okSml h p n c b e, true), (decide (0 < n ∨ 0 < e), false)])
    | _, _ => none
  | _, _ => none
theorem gUsmT_ok : AnsHOk 50 gUsmT := by
  intro vals h s v h' s' lg hg hl
  unfold gUsmT at hg
  split at hg
  · rename_i p n c b e d s2
    split at hg
    · rename_i V s3
      unfold mk16 at hg
      cases hg
      obtain ⟨l1, l2⟩ := log_tlP hl
      have l1 := of_decide_eq_true l1
      refine gUsm_ok _ h [cmp true] _ _ [] _ ?_ l2
      simp only [gUsm, mk16, l1]
    · cases hg
      exact gUsm_ok _ h [cmp false] _ _ [] _ rfl hl
    · cases hg
  · cases hg
def hcPw : Hc := altH 50 gUsmT hcN
theorem hcPw_ok : HcOk hcPw := altH_ok Tryd.func50 rfl gUsmT_ok hcN_ok
end Go.Proofs.YtbjgkhbhabdjgaaDoor

/-
  Rows of parts of 16 bits that were made: what is asked of them.
-/
namespace Go.Proofs.YtbjgkhbhabdjgaaDoor
open Go.KRun Go.Nt
set_option maxRecDepth 100000

/-! ### rows that were made -/
theorem d16_len {A k : Nat} (h : A < 2 ^ (16 * k)) : (d16 A).length ≤ k := db_len (by omega) k A (by rw [pow16]; exact h)
theorem rowOf_d16 {h : Hp} {b A : Nat} {ty : TypeId} (hb : h.blk? b = some (wU (d16 A), ty)) : rowOf h (some ⟨b, 0, none⟩) (d16 A).length = d16 A := by
  simp only [rowOf, hb]
  exact cut_wU _
theorem vO_d16 {h : Hp} {b A : Nat} {ty : TypeId} (hb : h.blk? b = some (wU (d16 A), ty)) : vO h (some ⟨b, 0, none⟩) (d16 A).length = A := by
  unfold vO
  rw [rowOf_d16 hb]
  exact vb_db (by omega) A
theorem vO_nil (h : Hp) : vO h none 0 = 0 := rfl
theorem rowP_d16 {h : Hp} {b A : Nat} (hb : h.blk? b = some (wU (d16 A), tU)) (hl : (d16 A).length < 1073741824) : rowP h (some ⟨b, 0, none⟩) (d16 A).length (d16 A).length = true := by
  simp only [rowP, hb, Bool.and_eq_true]
  refine ⟨rowC_wU (fun x hx => ⟨(d16_dg A x hx).1, by have := (d16_dg A x hx).2; omega⟩) (by omega) ?_, List.all_eq_true.2 (wU_still _)⟩
  unfold capOk
  simp only [Bool.or_eq_true, Bool.and_eq_true]
  exact .inl ⟨blt_iff.2 (by unfold dead; omega), Nat.ble_eq_true_of_le (Nat.le_refl _)⟩
theorem dgB_d16 {h : Hp} {b A : Nat} {ty : TypeId} (hb : h.blk? b = some (wU (d16 A), ty)) : dgB (rowOf h (some ⟨b, 0, none⟩) (d16 A).length) = true := by
  rw [rowOf_d16 hb]
  exact dgB_mk (d16_dg A)
theorem two_d16 {h : Hp} {b b' A A' : Nat} (hb : h.blk? b = some (wU (d16 A), tU)) (hb' : h.blk? b' = some (wU (d16 A'), tU)) (hl : (d16 A).length < 1073741800) (hl' : (d16 A').length < 1073741800) : two16 h (some ⟨b, 0, none⟩) (some ⟨b', 0, none⟩) (d16 A).length (d16 A).length (d16 A').length (d16 A').length = true := by
  unfold two16
  rw [rowP_d16 hb (by omega), rowP_d16 hb' (by omega), dgB_d16 hb, dgB_d16 hb']
  simp only [Bool.true_and]
  exact blt_iff.2 (by omega)
theorem two_nil {h : Hp} {b A : Nat} (hb : h.blk? b = some (wU (d16 A), tU)) (hl : (d16 A).length < 1073741800) : two16 h none (some ⟨b, 0, none⟩) 0 0 (d16 A).length (d16 A).length = true := by
  unfold two16
  rw [rowP_d16 hb (by omega), dgB_d16 hb]
  simp only [Bool.and_true]
  exact Bool.and_eq_true_iff.2 ⟨rfl, blt_iff.2 (by omega)⟩
theorem d16_pos {A : Nat} (h : 0 < (d16 A).length) : A ≠ 0 := by
  rintro rfl
  unfold d16 at h
  rw [db_zero] at h
  simp at h
end Go.Proofs.YtbjgkhbhabdjgaaDoor
