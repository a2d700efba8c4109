/-
  RpC, Con1, Con2, NumRm, RpD, UuV, UuR
-/
import Derived.Test.YtjlponbdflkbjaaGreatDoorG10
import Derived.Scope
import Derived.Test.YtjlponbdflkbjaaGreatDoorG06
import Derived.Test.YtjlponbdflkbjaaGreatDoorG07
import Derived.Test.YtjlponbdflkbjaaGreatDoorG09
namespace Go.KRun
theorem Runs.scope {T : Tab} {c : Code} {x : Lf} {P : Ex → Lf → Prop} (h : Runs T c x P) : Runs T (.scope c) x P := fun m B a w R Q hQ => wp_scope_straight (h m B a w R _ fun e y he a' w' hR => by
  have := hQ e y he a' w' hR
  match e, this with
  | none, t => exact t
  | some none, t => exact t
  | some (some id), t => exact t)
end Go.KRun
namespace Go.Proofs.YtjlponbdflkbjaaGreatDoor
open Go.KRun Go.Nt Go.Rd
set_option maxRecDepth 100000
def conTd : Con := alt 69 gDvP (alt 70 gCtD (alt 71 Na.gTrl (alt 72 gTrR conN)))
theorem conTd_ok : ConOk conTd := alt_ok Tryz.func69 rfl gDvP_ok (alt_ok Tryz.func70 rfl gCtD_ok (alt_ok Tryz.func71 rfl Na.gTrl_ok (alt_ok Tryz.func72 rfl gTrR_ok conN_ok)))
def tdS (F : Func) : Code := cIn (cSnd (cBody F))
def tdL (F : Func) : Code := cIn (cIn (cFst (cSnd (cSnd (tdS F)))))
def tdE (F : Func) : Code := cSnd (cSnd (cSnd (tdS F)))
theorem td_body : Tryz.f31.body = some (seqs [cFst (cBody Tryz.f31)] (.scope (seqs [cFst (tdS Tryz.f31), cFst (cSnd (tdS Tryz.f31))] (.seq (.block 0 (.loop (tdL Tryz.f31))) (tdE Tryz.f31))))) := by kernel_rfl
def nuB (b : Int) (D : List UInt8) (k P : Int) : List Value × TypeId := ([.int .i64 b, bR D, .int .i64 k, .int .i64 P], 47)
def tdM : Hp := ⟨1, [nuB 0 [] 0 0]⟩
def tdF (s : List UInt8) (b i : Int) (p : Bool) (v9 : Value) : List Value := [bR s, .int .i64 b, undef, undef, pO 0, bR [], .bool false, .int .i64 i, .bool p, v9]
theorem td_p1 (s : List UInt8) (b : Int) : GoesT (evL (tabOf Tryz.prog extY conTd true) 100 [cFst (cBody Tryz.f31)] ([bR s, .int .i64 b] ++ List.replicate 66 undef, ⟨0, []⟩, []) ⟨[], [], []⟩) 7 61 none [bR s, .int .i64 b, undef, undef, pO 0, bR [], .bool false] tdM [] := ⟨by kernel_rfl, by kernel_rfl, by kernel_rfl⟩
theorem td_p2 (s : List UInt8) (b : Int) (g : Nat → Value) : GoesT (evL (tabOf Tryz.prog extY conTd true) 100 [cFst (tdS Tryz.f31), cFst (cSnd (tdS Tryz.f31))] ([bR s, .int .i64 b, undef, undef, pO 0, bR [], .bool false] ++ tl 61 g, tdM, []) ⟨[], [], []⟩) 9 59 none [bR s, .int .i64 b, undef, undef, pO 0, bR [], .bool false, .int .i64 0, .bool false] tdM [] := ⟨by kernel_rfl, by kernel_rfl, by kernel_rfl⟩
theorem td_x (s : List UInt8) (b i : Int) (p : Bool) (v9 : Value) (g : Nat → Value) : GoesT (evC (tabOf Tryz.prog extY conTd true) 100 false (tdL Tryz.f31) (tdF s b i p v9 ++ tl 58 g, tdM, [cmp false]) ⟨[], [], []⟩) 10 58 (some (some 0)) (tdF s b i p v9) tdM [(decide (i < (s.length : Nat)), false)] := ⟨by kernel_rfl, by kernel_rfl, by kernel_rfl⟩
theorem td_d (s : List UInt8) (b i : Int) (p : Bool) (v9 : Value) (g : Nat → Value) : GoesT (evC (tabOf Tryz.prog extY conTd true) 100 false (tdL Tryz.f31) (tdF s b i p v9 ++ tl 58 g, tdM, [cmp true, cmp true]) ⟨[], [], []⟩) 10 58 none (tdF s b (IntKind.i64.wrap (i + 1)) p (.int .u8 (byR s i))) tdM [(decide (dvB (byR s i) < b), true), (decide (0 ≤ byR s i ∧ byR s i < 256), true), (decide (0 ≤ i ∧ i.toNat < s.length), true), (decide (i < (s.length : Nat)), true)] := ⟨by kernel_rfl, by kernel_rfl, by kernel_rfl⟩
theorem td_p (s : List UInt8) (b i : Int) (v9 : Value) (g : Nat → Value) : GoesT (evC (tabOf Tryz.prog extY conTd true) 100 false (tdL Tryz.f31) (tdF s b i false v9 ++ tl 58 g, tdM, [cmp true, cmp false, cmp true]) ⟨[], [], []⟩) 10 58 none (tdF s b (IntKind.i64.wrap (i + 1)) true (.int .u8 (byR s i))) tdM [(byR s i == 46, true), (decide (dvB (byR s i) < b), false), (decide (0 ≤ byR s i ∧ byR s i < 256), true), (decide (0 ≤ i ∧ i.toNat < s.length), true), (decide (i < (s.length : Nat)), true)] := ⟨by kernel_rfl, by kernel_rfl, by kernel_rfl⟩
theorem td_s1 (s : List UInt8) (b i : Int) (p : Bool) (v9 : Value) (g : Nat → Value) : GoesT (evC (tabOf Tryz.prog extY conTd true) 100 false (tdL Tryz.f31) (tdF s b i p v9 ++ tl 58 g, tdM, [cmp true, cmp false, cmp false]) ⟨[], [], []⟩) 10 58 (some (some 0)) (tdF s b i p (.int .u8 (byR s i))) tdM [(byR s i == 46, false), (decide (dvB (byR s i) < b), false), (decide (0 ≤ byR s i ∧ byR s i < 256), true), (decide (0 ≤ i ∧ i.toNat < s.length), true), (decide (i < (s.length : Nat)), true)] := ⟨by kernel_rfl, by kernel_rfl, by kernel_rfl⟩
theorem td_s2 (s : List UInt8) (b i : Int) (v9 : Value) (g : Nat → Value) : GoesT (evC (tabOf Tryz.prog extY conTd true) 100 false (tdL Tryz.f31) (tdF s b i true v9 ++ tl 58 g, tdM, [cmp true, cmp false, cmp true]) ⟨[], [], []⟩) 10 58 (some (some 0)) (tdF s b i true (.int .u8 (byR s i))) tdM [(byR s i == 46, true), (decide (dvB (byR s i) < b), false), (decide (0 ≤ byR s i ∧ byR s i < 256), true), (decide (0 ≤ i ∧ i.toNat < s.length), true), (decide (i < (s.length : Nat)), true)] := ⟨by kernel_rfl, by kernel_rfl, by kernel_rfl⟩
/-- the digits, all of them -/
def alD (u : List UInt8) : List UInt8 := ctA u ++ ctB u
def tdK (u : List UInt8) : Int := IntKind.i64.wrap (((ctA u).length : Nat) - IntKind.i64.wrap (((alD u).length : Nat) - ((trZ (alD u)).length : Nat)))
theorem td_e (s : List UInt8) (b i : Int) (p : Bool) (v9 : Value) (d d' : Bool) (g : Nat → Value) : GoesT (evC (tabOf Tryz.prog extY conTd true) 100 false (tdE Tryz.f31) (tdF s b i p v9 ++ tl 58 g, tdM, [sam true, cmp d, sam true, sam true, sam d']) ⟨[], [], []⟩) 7 61 (some none) [bR s, .int .i64 b, undef, undef, pO 0, bR (s.drop i.toNat), .bool d'] ⟨2, [nuB b (nuD (alD (s.take i.toNat))) (tdK (s.take i.toNat)) 0, nuB b (nuD (alD (s.take i.toNat))) (tdK (s.take i.toNat)) 0]⟩ [lNe (alD (s.take i.toNat)) d', (decide (0 ≤ i ∧ i ≤ (s.length : Nat)), true), (true, true), (decide ((trZ (alD (s.take i.toNat))).length ≤ 100000), true), (true, true), (decide ((ctA (s.take i.toNat)).length + (ctB (s.take i.toNat)).length ≤ 9223372036854775807), true), (decide (0 ≤ Lib.indexByte (s.take i.toNat) 46), d), (true, true), (decide ((s.take i.toNat).length ≤ 100000), true), (decide (0 ≤ i ∧ i ≤ (s.length : Nat)), true)] := ⟨by kernel_rfl, by kernel_rfl, by kernel_rfl⟩
def tdJ (s : List UInt8) (b : Int) (E i : Nat) (y : Lf) : Prop := ∃ (p : Bool) (v9 : Value) (g : Nat → Value), i ≤ s.length ∧ E = i + en1 b p (s.drop i) ∧ y.1 = tdF s b i p v9 ++ tl 58 g ∧ y.2.1 = tdM
def tdO (s : List UInt8) (b : Int) (E : Nat) (y : Lf) : Prop := ∃ (p : Bool) (v9 : Value) (g : Nat → Value), E ≤ s.length ∧ y.1 = tdF s b E p v9 ++ tl 58 g ∧ y.2.1 = tdM
theorem td_round {s : List UInt8} {b : Int} {E : Nat} (h2 : s.length ≤ 100000) (r : Nat) (y : Lf) (h : ∃ i, r = s.length - i ∧ tdJ s b E i y) :
    Runs (tabOf Tryz.prog extY conTd true) (tdL Tryz.f31) y fun e z => match e with | none => ∃ r', r' < r ∧ ∃ i, r' = s.length - i ∧ tdJ s b E i z | some none => False | some (some id') => id' = 0 ∧ tdO s b E z := by
  have hT := tabY_ok conTd_ok
  obtain ⟨i, hr, p, v9, g, hi, hE, ht, hh⟩ := h
  obtain ⟨t, h', sc⟩ := y
  simp only at ht hh
  subst ht hh
  by_cases hc : i < s.length
  · have lA : decide (((i : Nat) : Int) < (s.length : Nat)) = true := decide_eq_true (by omega)
    have lI : decide ((0 : Int) ≤ (i : Nat) ∧ ((i : Nat) : Int).toNat < s.length) = true := decide_eq_true ⟨by omega, by rw [Int.toNat_natCast]; exact hc⟩
    have ew : IntKind.i64.wrap (((i : Nat) : Int) + 1) = ((i + 1 : Nat) : Int) := by rw [wrapI (by omega) (by omega)]; omega
    have ed := drop_get hc
    have eC : lq8 (s.getD i 0) = byR s (i : Nat) := by unfold lq8 byR; rw [Int.toNat_natCast]
    have lB := byR_bd s (i : Nat)
    rw [ed, en1, eC] at hE
    by_cases hd : dvB (byR s (i : Nat)) < b
    · rw [if_pos hd] at hE
      have hg := td_d s b (i : Nat) p v9 g
      rw [ew] at hg
      refine (goesT_runs (s0 := sc) hT hg (okCons (decide_eq_true hd) (okCons lB (okCons lI (okL1 lA))))).mono fun e z he => ?_
      obtain ⟨rfl, ⟨g', z1⟩, z2⟩ := he
      exact ⟨s.length - (i + 1), by omega, i + 1, rfl, p, _, g', by omega, by omega, z1, z2⟩
    · rw [if_neg hd] at hE
      have lD : decide (dvB (byR s (i : Nat)) < b) = false := decide_eq_false hd
      by_cases h46 : byR s (i : Nat) = 46
      · have l46 : (byR s (i : Nat) == 46) = true := by simpa using h46
        cases p with
        | false =>
          rw [if_pos ⟨h46, rfl⟩] at hE
          have hg := td_p s b (i : Nat) v9 g
          rw [ew] at hg
          refine (goesT_runs (s0 := sc) hT hg (okCons l46 (okCons lD (okCons lB (okCons lI (okL1 lA)))))).mono fun e z he => ?_
          obtain ⟨rfl, ⟨g', z1⟩, z2⟩ := he
          exact ⟨s.length - (i + 1), by omega, i + 1, rfl, true, _, g', by omega, by omega, z1, z2⟩
        | true =>
          rw [if_neg (fun h => by cases h.2)] at hE
          refine (goesT_runs (s0 := sc) hT (td_s2 s b (i : Nat) v9 g) (okCons l46 (okCons lD (okCons lB (okCons lI (okL1 lA)))))).mono fun e z he => ?_
          obtain ⟨rfl, ⟨g', z1⟩, z2⟩ := he
          have : E = i := by omega
          subst this
          exact ⟨rfl, true, _, g', hi, z1, z2⟩
      · rw [if_neg (fun h => h46 h.1)] at hE
        refine (goesT_runs (s0 := sc) hT (td_s1 s b (i : Nat) p v9 g) (okCons (by simpa using h46) (okCons lD (okCons lB (okCons lI (okL1 lA)))))).mono fun e z he => ?_
        obtain ⟨rfl, ⟨g', z1⟩, z2⟩ := he
        have : E = i := by omega
        subst this
        exact ⟨rfl, p, _, g', hi, z1, z2⟩
  · have es : s.drop i = [] := List.drop_eq_nil_of_le (by omega)
    rw [es] at hE
    have : E = i := hE
    subst this
    refine (goesT_runs (s0 := sc) hT (td_x s b (E : Nat) p v9 g) (okL1 (decide_eq_false (by omega)))).mono fun e z he => ?_
    obtain ⟨rfl, ⟨g', z1⟩, z2⟩ := he
    exact ⟨rfl, p, v9, g', hi, z1, z2⟩
/-- what takeDigits answers -/
def tdW (b : Int) (l : List UInt8) (d : Bool) : Value := .tuple #[.agg #[.int .i64 b, bR (nuD (sc1 b false l).1), .int .i64 (((trZ (sc1 b false l).1).length : Nat) - ((sc1 b false l).2.1 : Nat)), .int .i64 0], bR (sc1 b false l).2.2, .bool d]
theorem td_calls (s : List UInt8) (b : Int) (hb : b = 10 ∨ b = 16) (hs : s.length ≤ 100000) (w : World) : Calls Tryz.prog 31 #[bR s, .int .i64 b] w fun r w' => r = .returned (tdW b s (decide ((sc1 b false s).1 ≠ []))) ∧ Tidy w w' := by
  have hT := tabY_ok conTd_ok
  refine calls_of_runs (T := tabOf Tryz.prog extY conTd true) Tryz.func31 td_body (by rfl) (by rfl) ?_ w
  refine goesT_list hT (td_p1 s b) okN9R fun g => ?_
  refine Runs.scope ?_
  refine goesT_list hT (td_p2 s b g) okN9R fun g1 => ?_
  obtain ⟨E, hE⟩ : ∃ E, E = en1 b false s := ⟨_, rfl⟩
  have hEl := en1_le b false s
  rw [← hE] at hEl
  refine Runs.seq (P1 := fun e y => match e with | none => tdO s b E y | some none => False | some (some _) => False) ?_ ?_ ?_
  · have e0 : [bR s, .int .i64 b, undef, undef, pO 0, bR [], .bool false, .int .i64 0, .bool false] ++ tl 59 g1 = tdF s b 0 false (g1 0) ++ tl 58 (fun n => g1 (n + 1)) := by rfl
    rw [e0]
    exact Runs.forLoop (R := fun _ => False) (P := tdO s b E) (fun r y => ∃ i, r = s.length - i ∧ tdJ s b E i y) (td_round hs) (n := s.length - 0) ⟨0, rfl, false, _, _, Nat.zero_le _, by rw [hE, Nat.zero_add, List.drop_zero], rfl, rfl⟩
  · rintro ⟨t, hh, sc⟩ ⟨p, v9, g', hEs, e1, e2⟩
    simp only at e1 e2
    subst e1 e2
    have hS := sc1_false hb s
    rw [← hE] at hS
    obtain ⟨u, hu⟩ : ∃ u, u = s.take E := ⟨_, rfl⟩
    rw [← hu] at hS
    have lu : u.length ≤ 100000 := by rw [hu, List.length_take]; omega
    have la : (alD u).length = (ctA u).length + (ctB u).length := List.length_append
    have lz := trZ_len (alD u)
    have lA : (ctA u).length + (ctB u).length ≤ u.length := by
      unfold ctA ctB
      split
      · rw [List.length_take, List.length_drop]; omega
      · exact Nat.le_refl _
    have hg := td_e s b (E : Nat) p v9 (decide (0 ≤ Lib.indexByte u 46)) (decide (alD u ≠ [])) g'
    rw [Int.toNat_natCast, ← hu] at hg
    have ek : tdK u = ((trZ (alD u)).length : Nat) - ((ctB u).length : Nat) := by
      unfold tdK
      rw [wrapI (n := ((alD u).length : Nat) - ((trZ (alD u)).length : Nat)) (by omega) (by omega), wrapI (by omega) (by omega)]
      omega
    have lE : decide ((0 : Int) ≤ (E : Nat) ∧ ((E : Nat) : Int) ≤ (s.length : Nat)) = true := decide_eq_true ⟨by omega, by omega⟩
    refine (goesT_runs (s0 := sc) hT hg (okCons (ok_lNe rfl) (okCons lE (okCons rfl (okCons (decide_eq_true (by omega)) (okCons rfl (okCons (decide_eq_true (by omega)) (okCons rfl (okCons rfl (okCons (decide_eq_true lu) (okL1 lE))))))))))).mono fun e z he => ?_
    obtain ⟨rfl, ⟨g2, z1⟩, z2⟩ := he
    refine ⟨.inr rfl, ?_⟩
    rw [z1, z2, ek]
    unfold tdW
    rw [hS]
    rfl
  · rintro e y he
    match e, he with
    | none, he => exact he.elim
/-- the digits at a text's begin; told ahead whether there are some -/
def gTdR : Ans := fun vals s =>
  match vals, s with
  | [.string a, .int .i64 b], .inr (.inr (.inr (.inl d))) :: s' => some (tdW b a.data.toList d, s', [(decide ((sc1 b false a.data.toList).1 ≠ []), d), (decide ((b = 10 ∨ b = 16) ∧ a.data.toList.length ≤ 100000), true)])
  | _, _ => none
theorem gTdR_ok : AnsOk 31 gTdR := by
  intro vals s v s' lg h hl w
  unfold gTdR at h
  split at h
  · rename_i a b d s2
    cases h
    have h1 : decide ((sc1 b false a.data.toList).1 ≠ []) = d := hl _ List.mem_cons_self
    have h2 := of_decide_eq_true (hl _ (List.mem_cons_of_mem _ (List.mem_singleton.2 rfl)))
    have := td_calls a.data.toList b h2.1 h2.2 w
    rw [h1] at this
    exact this
  · cases h
end Go.Proofs.YtjlponbdflkbjaaGreatDoor
namespace Go.Proofs.YtjlponbdflkbjaaGreatDoor
open Go.KRun Go.Wd
def vW (x : W4) : Value := .agg #[.int .u64 x.a, .int .u64 x.b, .int .u64 x.c, .int .u64 x.d]
def w4 : Value → Option W4
  | .agg cs =>
    match cs.toList with
    | [.int .u64 a, .int .u64 b, .int .u64 c, .int .u64 d] => some ⟨a, b, c, d⟩
    | _ => none
  | _ => none
theorem w4_spec {v : Value} {x : W4} (h : w4 v = some x) : v = vW x := by
  unfold w4 at h
  split at h
  · rename_i cs
    split at h
    · rename_i a b c d hc
      cases h
      obtain ⟨l⟩ := cs
      simp only at hc
      subst hc
      rfl
    · cases h
  · cases h
/-- of two numbers -/
def g2 (k : W4 → W4 → List Dec → Option (Value × List Dec × Log)) : Ans := fun vals s =>
  match vals with
  | [x, y] =>
    match w4 x, w4 y with
    | some a, some b =>
      match k a b s with
      | some r => some (r.1, r.2.1, (decide (a.ok ∧ b.ok), true) :: r.2.2)
      | none => none
    | _, _ => none
  | _ => none
theorem g2_ok {f : Nat} {k : W4 → W4 → List Dec → Option (Value × List Dec × Log)}
    (hk : ∀ x y : W4, x.ok → y.ok → ∀ s v s' lg, k x y s = some (v, s', lg) → okLog lg → ∀ w, Calls Tryz.prog f #[vW x, vW y] w fun e w' => e = .returned v ∧ Tidy w w') : AnsOk f (g2 k) := by
  intro vals s v s' lg h hl w
  unfold g2 at h
  split at h
  · split at h
    · rename_i a b ha hb
      split at h
      · rename_i r hr
        cases h
        have h1 := hl _ (List.mem_cons_self)
        simp only [decide_eq_true_eq] at h1
        rw [w4_spec ha, w4_spec hb]
        exact hk a b h1.1 h1.2 s r.1 r.2.1 r.2.2 hr (fun p hp => hl p (List.mem_cons_of_mem _ hp)) w
      · cases h
    · cases h
  · cases h
/-- an answer that is told outright -/
def plain2 (k : W4 → W4 → Value) : W4 → W4 → List Dec → Option (Value × List Dec × Log) := fun x y s => some (k x y, s, [])
theorem plain2_ok {f : Nat} {k : W4 → W4 → Value} (hk : ∀ x y : W4, x.ok → y.ok → ∀ w, Calls Tryz.prog f #[vW x, vW y] w fun e w' => e = .returned (k x y) ∧ Tidy w w') : AnsOk f (g2 (plain2 k)) :=
  g2_ok fun x y hx hy s v s' lg h _ w => by
    unfold plain2 at h
    cases h
    exact hk x y hx hy w
/-! ### Add -/
def okA (x y c : Int) : Bool × Bool := (decide (0 ≤ x ∧ 0 ≤ y ∧ 0 ≤ c ∧ c ≤ 1), true)
theorem add_fits (x y : W4) : Fits (reckon (tabOf Tryz.prog extY conN true) 3000 73 [vW x, vW y] []) (.tuple #[vW (addR x y), .bool (addC x y != 0)])
    [okA x.d y.d (ca x.c y.c (ca x.b y.b (ca x.a y.a 0))), okA x.c y.c (ca x.b y.b (ca x.a y.a 0)), okA x.b y.b (ca x.a y.a 0), okA x.a y.a 0] := ⟨by kernel_rfl, by kernel_rfl, by kernel_rfl, by kernel_rfl⟩
def addV4 (x y : W4) : Value := .tuple #[vW (W4.of (x.val + y.val)), .bool (decide (115792089237316195423570985008687907853269984665640564039457584007913129639936 ≤ x.val + y.val))]
theorem add_calls (x y : W4) (hx : x.ok) (hy : y.ok) (w : World) : Calls Tryz.prog 73 #[vW x, vW y] w fun e w' => e = .returned (addV4 x y) ∧ Tidy w w' := by
  have h := fits_calls (tabY_ok conN_ok) (add_fits x y) (by
    obtain ⟨h1, h2, h3, h4⟩ := hx
    obtain ⟨k1, k2, k3, k4⟩ := hy
    have b1 : 0 ≤ ca x.a y.a 0 ∧ ca x.a y.a 0 ≤ 1 := by unfold ca; omega
    have b2 : 0 ≤ ca x.b y.b (ca x.a y.a 0) ∧ ca x.b y.b (ca x.a y.a 0) ≤ 1 := by generalize ca x.a y.a 0 = k at *; unfold ca; omega
    have b3 : 0 ≤ ca x.c y.c (ca x.b y.b (ca x.a y.a 0)) ∧ ca x.c y.c (ca x.b y.b (ca x.a y.a 0)) ≤ 1 := by generalize ca x.b y.b (ca x.a y.a 0) = k at *; unfold ca; omega
    intro p hp
    simp only [List.mem_cons, List.not_mem_nil, or_false] at hp
    rcases hp with rfl | rfl | rfl | rfl <;> simp only [okA, decide_eq_true_eq] <;> omega) (by rfl) (by rfl) w
  rw [addR_eq hx hy, addC_eq hx hy] at h
  exact h
/-- of a number and an int -/
def g1n (k : W4 → Int → List Dec → Option (Value × List Dec × Log)) : Ans := fun vals s =>
  match vals with
  | [x, .int .i64 n] =>
    match w4 x with
    | some a =>
      match k a n s with
      | some r => some (r.1, r.2.1, (decide (a.ok ∧ -9223372036854775808 ≤ n ∧ n ≤ 9223372036854775807), true) :: r.2.2)
      | none => none
    | none => none
  | _ => none
theorem g1n_ok {f : Nat} {k : W4 → Int → List Dec → Option (Value × List Dec × Log)}
    (hk : ∀ (x : W4) (n : Int), x.ok → -9223372036854775808 ≤ n → n ≤ 9223372036854775807 → ∀ s v s' lg, k x n s = some (v, s', lg) → okLog lg → ∀ w, Calls Tryz.prog f #[vW x, .int .i64 n] w fun e w' => e = .returned v ∧ Tidy w w') : AnsOk f (g1n k) := by
  intro vals s v s' lg h hl w
  unfold g1n at h
  split at h
  · split at h
    · rename_i a ha
      split at h
      · rename_i r hr
        cases h
        have h1 := hl _ (List.mem_cons_self)
        simp only [decide_eq_true_eq] at h1
        rw [w4_spec ha]
        exact hk a _ h1.1 h1.2.1 h1.2.2 s r.1 r.2.1 r.2.2 hr (fun p hp => hl p (List.mem_cons_of_mem _ hp)) w
      · cases h
    · cases h
  · cases h
def plain1n (k : W4 → Int → Value) : W4 → Int → List Dec → Option (Value × List Dec × Log) := fun x n s => some (k x n, s, [])
theorem plain1n_ok {f : Nat} {k : W4 → Int → Value} (hk : ∀ (x : W4) (n : Int), x.ok → -9223372036854775808 ≤ n → n ≤ 9223372036854775807 → ∀ w, Calls Tryz.prog f #[vW x, .int .i64 n] w fun e w' => e = .returned (k x n) ∧ Tidy w w') : AnsOk f (g1n (plain1n k)) :=
  g1n_ok fun x n hx h0 h1 s v s' lg h _ w => by
    unfold plain1n at h
    cases h
    exact hk x n hx h0 h1 w
theorem okP1 {p : Bool × Bool} (h : p.1 = p.2) : okLog [p] := fun x hx => by rw [List.mem_singleton.1 hx]; exact h
theorem okPC {p : Bool × Bool} {l : Log} (h : p.1 = p.2) (hl : okLog l) : okLog (p :: l) := fun x hx => by
  rcases List.mem_cons.1 hx with rfl | hx
  · exact h
  · exact hl x hx
/-! ### Shl -/
def lu (n : Int) : Bool × Bool := (decide (prt n < 0), false)
def ld (n : Int) : Bool × Bool := (decide (rem n < 0), false)
def lq (n k : Int) : Log := [(decide ((64 : Int) = 0), false), (decide (IntKind.i64.wrap (n.tdiv 64) = k), true), (decide (n ≥ 256), false), (decide (n < 1), false)]
theorem shl_low (x : W4) (n : Int) : Fits (reckon (tabOf Tryz.prog extY conN true) 3000 74 [vW x, .int .i64 n] [tst true]) (vW x) [(decide (n < 1), true)] := ⟨by kernel_rfl, by kernel_rfl, by kernel_rfl, by kernel_rfl⟩
theorem shl_high (x : W4) (n : Int) : Fits (reckon (tabOf Tryz.prog extY conN true) 3000 74 [vW x, .int .i64 n] [tst false, tst true]) (vW ⟨0, 0, 0, 0⟩) [(decide (n ≥ 256), true), (decide (n < 1), false)] := ⟨by kernel_rfl, by kernel_rfl, by kernel_rfl, by kernel_rfl⟩
theorem shl_0 (x : W4) (n : Int) : Fits (reckon (tabOf Tryz.prog extY conN true) 3000 74 [vW x, .int .i64 n] [tst false, tst false, num 0]) (vW (shl0 x n)) (ld n :: lu n :: ld n :: lu n :: ld n :: lu n :: lu n :: lq n 0) := ⟨by kernel_rfl, by kernel_rfl, by kernel_rfl, by kernel_rfl⟩
theorem shl_1 (x : W4) (n : Int) : Fits (reckon (tabOf Tryz.prog extY conN true) 3000 74 [vW x, .int .i64 n] [tst false, tst false, num 1]) (vW (shl1 x n)) (ld n :: lu n :: ld n :: lu n :: lu n :: lq n 1) := ⟨by kernel_rfl, by kernel_rfl, by kernel_rfl, by kernel_rfl⟩
theorem shl_2 (x : W4) (n : Int) : Fits (reckon (tabOf Tryz.prog extY conN true) 3000 74 [vW x, .int .i64 n] [tst false, tst false, num 2]) (vW (shl2 x n)) (ld n :: lu n :: lu n :: lq n 2) := ⟨by kernel_rfl, by kernel_rfl, by kernel_rfl, by kernel_rfl⟩
theorem shl_3 (x : W4) (n : Int) : Fits (reckon (tabOf Tryz.prog extY conN true) 3000 74 [vW x, .int .i64 n] [tst false, tst false, num 3]) (vW (shl3 x n)) (lu n :: lq n 3) := ⟨by kernel_rfl, by kernel_rfl, by kernel_rfl, by kernel_rfl⟩
def shlW (x : W4) (n : Int) : W4 := if n < 1 then x else if 256 ≤ n then ⟨0, 0, 0, 0⟩ else W4.of (x.val * 2 ^ n.toNat)
def shlV4 (x : W4) (n : Int) : Value := vW (shlW x n)
theorem lu_ok {n : Int} (h : 0 ≤ n) : (lu n).1 = (lu n).2 := by
  have := prt_eq h
  exact decide_eq_false (by omega)
theorem ld_ok {n : Int} (h : 0 ≤ n) : (ld n).1 = (ld n).2 := by
  have := rem_eq h
  exact decide_eq_false (by omega)
theorem lq_ok {n k : Int} (h1 : ¬ n < 1) (h2 : ¬ 256 ≤ n) (h3 : n / 64 = k) : okLog (lq n k) := by
  refine okPC (by rfl) (okPC (decide_eq_true ?_) (okPC (decide_eq_false h2) (okP1 (decide_eq_false h1))))
  rw [Int.tdiv_eq_ediv_of_nonneg (by omega), wrap_i64' (by omega) (by omega)]
  exact h3
theorem shl_calls (x : W4) (n : Int) (hx : x.ok) (_h0 : -9223372036854775808 ≤ n) (_h9 : n ≤ 9223372036854775807) (w : World) : Calls Tryz.prog 74 #[vW x, .int .i64 n] w fun e w' => e = .returned (shlV4 x n) ∧ Tidy w w' := by
  unfold shlV4 shlW
  by_cases h1 : n < 1
  · rw [if_pos h1]
    exact fits_calls (tabY_ok conN_ok) (shl_low x n) (okP1 (decide_eq_true h1)) (by rfl) (by rfl) w
  · rw [if_neg h1]
    by_cases h2 : 256 ≤ n
    · rw [if_pos h2]
      exact fits_calls (tabY_ok conN_ok) (shl_high x n) (okPC (decide_eq_true h2) (okP1 (decide_eq_false h1))) (by rfl) (by rfl) w
    · rw [if_neg h2]
      have hn : 0 ≤ n := by omega
      have u := lu_ok hn
      have d := ld_ok hn
      have hj : n / 64 = 0 ∨ n / 64 = 1 ∨ n / 64 = 2 ∨ n / 64 = 3 := by omega
      rcases hj with hj | hj | hj | hj
      · rw [← shl0_eq hx hn hj]
        exact fits_calls (tabY_ok conN_ok) (shl_0 x n) (okPC d (okPC u (okPC d (okPC u (okPC d (okPC u (okPC u (lq_ok h1 h2 hj)))))))) (by rfl) (by rfl) w
      · rw [← shl1_eq hx hn hj]
        exact fits_calls (tabY_ok conN_ok) (shl_1 x n) (okPC d (okPC u (okPC d (okPC u (okPC u (lq_ok h1 h2 hj)))))) (by rfl) (by rfl) w
      · rw [← shl2_eq hx hn hj]
        exact fits_calls (tabY_ok conN_ok) (shl_2 x n) (okPC d (okPC u (okPC u (lq_ok h1 h2 hj)))) (by rfl) (by rfl) w
      · rw [← shl3_eq hx hn hj]
        exact fits_calls (tabY_ok conN_ok) (shl_3 x n) (okPC u (lq_ok h1 h2 hj)) (by rfl) (by rfl) w
/-! ### Shr -/
def conSh : Con := alt 74 (g1n (plain1n shlV4)) conN
theorem conSh_ok : ConOk conSh := alt_ok Tryz.func74 rfl (plain1n_ok shl_calls) conN_ok
def lk (x : W4) (n : Int) : Bool × Bool := (decide (x.ok ∧ -9223372036854775808 ≤ n ∧ n ≤ 9223372036854775807), true)
def shrR (m x : W4) (n : Int) : Value := .tuple #[vW m, .bool (!(eqW (shlW m n) x))]
theorem shr_low (x : W4) (n : Int) : Fits (reckon (tabOf Tryz.prog extY conSh true) 3000 125 [vW x, .int .i64 n] [tst true]) (.tuple #[vW x, .bool false]) [(decide (n < 1), true)] := ⟨by kernel_rfl, by kernel_rfl, by kernel_rfl, by kernel_rfl⟩
theorem shr_high (x : W4) (n : Int) : Fits (reckon (tabOf Tryz.prog extY conSh true) 3000 125 [vW x, .int .i64 n] [tst false, tst true]) (.tuple #[vW ⟨0, 0, 0, 0⟩, .bool (!(eqW x ⟨0, 0, 0, 0⟩))]) [(decide (n ≥ 256), true), (decide (n < 1), false)] := ⟨by kernel_rfl, by kernel_rfl, by kernel_rfl, by kernel_rfl⟩
theorem shr_0 (x : W4) (n : Int) : Fits (reckon (tabOf Tryz.prog extY conSh true) 3000 125 [vW x, .int .i64 n] [tst false, tst false, num 0]) (shrR (shr0 x n) x n) (lk (shr0 x n) n :: lu n :: ld n :: lu n :: ld n :: lu n :: ld n :: lu n :: lq n 0) := ⟨by kernel_rfl, by kernel_rfl, by kernel_rfl, by kernel_rfl⟩
theorem shr_1 (x : W4) (n : Int) : Fits (reckon (tabOf Tryz.prog extY conSh true) 3000 125 [vW x, .int .i64 n] [tst false, tst false, num 1]) (shrR (shr1 x n) x n) (lk (shr1 x n) n :: lu n :: ld n :: lu n :: ld n :: lu n :: lq n 1) := ⟨by kernel_rfl, by kernel_rfl, by kernel_rfl, by kernel_rfl⟩
theorem shr_2 (x : W4) (n : Int) : Fits (reckon (tabOf Tryz.prog extY conSh true) 3000 125 [vW x, .int .i64 n] [tst false, tst false, num 2]) (shrR (shr2 x n) x n) (lk (shr2 x n) n :: lu n :: ld n :: lu n :: lq n 2) := ⟨by kernel_rfl, by kernel_rfl, by kernel_rfl, by kernel_rfl⟩
theorem shr_3 (x : W4) (n : Int) : Fits (reckon (tabOf Tryz.prog extY conSh true) 3000 125 [vW x, .int .i64 n] [tst false, tst false, num 3]) (shrR (shr3 x n) x n) (lk (shr3 x n) n :: lu n :: lq n 3) := ⟨by kernel_rfl, by kernel_rfl, by kernel_rfl, by kernel_rfl⟩
def shrW (x : W4) (n : Int) : W4 := if n < 1 then x else if 256 ≤ n then ⟨0, 0, 0, 0⟩ else W4.of (x.val / 2 ^ n.toNat)
/-- whether a bit is lost -/
def shrL (x : W4) (n : Int) : Bool := if n < 1 then false else if 256 ≤ n then decide (x.val ≠ 0) else decide (x.val % 2 ^ n.toNat ≠ 0)
def shrV4 (x : W4) (n : Int) : Value := .tuple #[vW (shrW x n), .bool (shrL x n)]
theorem zero_iff {x : W4} (hx : x.ok) : (!(eqW x ⟨0, 0, 0, 0⟩)) = decide (x.val ≠ 0) := by
  rw [Bool.eq_iff_iff]
  simp only [Bool.not_eq_true', decide_eq_true_eq, ← Bool.not_eq_true, eqW_iff]
  constructor
  · intro h h0
    exact h (W4.val_inj hx ⟨z64, z64, z64, z64⟩ (h0.trans (by rfl)))
  · intro h h0
    exact h (by rw [h0]; rfl)
theorem lost_iff {x : W4} (hx : x.ok) {n : Int} (h1 : ¬ n < 1) (h2 : ¬ 256 ≤ n) : (!(eqW (shlW (W4.of (x.val / 2 ^ n.toNat)) n) x)) = decide (x.val % 2 ^ n.toNat ≠ 0) := by
  have hp : (0 : Int) < 2 ^ n.toNat := Int.pow_pos (by omega)
  have b := W4.val_bd hx
  have hm := Int.mul_ediv_add_emod x.val (2 ^ n.toNat)
  have h3 := Int.emod_nonneg x.val (Int.ne_of_gt hp)
  have h4 : 0 ≤ x.val / 2 ^ n.toNat := Int.ediv_nonneg b.1 (by omega)
  have h5 : x.val / 2 ^ n.toNat ≤ x.val := by
    have := mul_le_of 1 (2 ^ n.toNat) (x.val / 2 ^ n.toNat) h4 (by omega)
    rw [Int.mul_one, Int.mul_comm] at this
    omega
  have e : shlW (W4.of (x.val / 2 ^ n.toNat)) n = W4.of (x.val - x.val % 2 ^ n.toNat) := by
    unfold shlW
    rw [if_neg h1, if_neg h2, W4.val_of, Int.emod_eq_of_lt h4 (by omega), Int.mul_comm]
    congr 1
    omega
  rw [e, Bool.eq_iff_iff]
  simp only [Bool.not_eq_true', decide_eq_true_eq, ← Bool.not_eq_true, eqW_iff]
  generalize x.val % 2 ^ n.toNat = l at *
  have h6 : 0 ≤ 2 ^ n.toNat * (x.val / 2 ^ n.toNat) := Int.mul_nonneg (by omega) h4
  constructor
  · intro h h0
    apply h
    rw [h0, Int.sub_zero, W4.of_val hx]
  · intro h h0
    have h7 := congrArg W4.val h0
    rw [W4.val_of, Int.emod_eq_of_lt (by omega) (by omega)] at h7
    omega
theorem lk_ok {x : W4} {n : Int} (h : x.ok) (h0 : -9223372036854775808 ≤ n) (h9 : n ≤ 9223372036854775807) : (lk x n).1 = (lk x n).2 := by
  unfold lk
  exact decide_eq_true ⟨h, h0, h9⟩
set_option maxRecDepth 100000 in
theorem shr_calls (x : W4) (n : Int) (hx : x.ok) (h0 : -9223372036854775808 ≤ n) (h9 : n ≤ 9223372036854775807) (w : World) : Calls Tryz.prog 125 #[vW x, .int .i64 n] w fun e w' => e = .returned (shrV4 x n) ∧ Tidy w w' := by
  unfold shrV4 shrW shrL
  by_cases h1 : n < 1
  · rw [if_pos h1, if_pos h1]
    exact fits_calls (tabY_ok conSh_ok) (shr_low x n) (okP1 (decide_eq_true h1)) (by rfl) (by rfl) w
  · rw [if_neg h1, if_neg h1]
    by_cases h2 : 256 ≤ n
    · rw [if_pos h2, if_pos h2, ← zero_iff hx]
      exact fits_calls (tabY_ok conSh_ok) (shr_high x n) (okPC (decide_eq_true h2) (okP1 (decide_eq_false h1))) (by rfl) (by rfl) w
    · rw [if_neg h2, if_neg h2]
      have hn : 0 ≤ n := by omega
      have u := lu_ok hn
      have d := ld_ok hn
      have hl := lost_iff hx h1 h2
      have hj : n / 64 = 0 ∨ n / 64 = 1 ∨ n / 64 = 2 ∨ n / 64 = 3 := by omega
      rw [← hl]
      rcases hj with hj | hj | hj | hj
      · obtain ⟨e1, e2⟩ := shr0_eq hx hn hj
        rw [← e1]
        exact fits_calls (tabY_ok conSh_ok) (shr_0 x n) (okPC (lk_ok e2 h0 h9) (okPC u (okPC d (okPC u (okPC d (okPC u (okPC d (okPC u (lq_ok h1 h2 hj))))))))) (by rfl) (by rfl) w
      · obtain ⟨e1, e2⟩ := shr1_eq hx hn hj
        rw [← e1]
        exact fits_calls (tabY_ok conSh_ok) (shr_1 x n) (okPC (lk_ok e2 h0 h9) (okPC u (okPC d (okPC u (okPC d (okPC u (lq_ok h1 h2 hj))))))) (by rfl) (by rfl) w
      · obtain ⟨e1, e2⟩ := shr2_eq hx hn hj
        rw [← e1]
        exact fits_calls (tabY_ok conSh_ok) (shr_2 x n) (okPC (lk_ok e2 h0 h9) (okPC u (okPC d (okPC u (lq_ok h1 h2 hj))))) (by rfl) (by rfl) w
      · obtain ⟨e1, e2⟩ := shr3_eq hx hn hj
        rw [← e1]
        exact fits_calls (tabY_ok conSh_ok) (shr_3 x n) (okPC (lk_ok e2 h0 h9) (okPC u (lq_ok h1 h2 hj))) (by rfl) (by rfl) w
/-- a test that is decided ahead, by another word -/
def pickC (b : Bool) : List Dec → Bool × List Dec × Log
  | .inr (.inr (.inr (.inl d))) :: s => (d, s, [(b, d)])
  | s => (b, s, [])
theorem pickC_ok {b : Bool} {s : List Dec} (h : okLog (pickC b s).2.2) : (pickC b s).1 = b := by
  unfold pickC at *
  split at h
  · rename_i d s
    exact (h (b, d) (List.mem_singleton.2 rfl)).symm
  · rfl
/-- whether a bit is lost is decided ahead -/
def shrB : W4 → Int → List Dec → Option (Value × List Dec × Log) := fun x n s => some (.tuple #[vW (shrW x n), .bool (pickC (shrL x n) s).1], (pickC (shrL x n) s).2.1, (pickC (shrL x n) s).2.2)
theorem shrB_ok : AnsOk 125 (g1n shrB) := g1n_ok fun x n hx h0 h1 s v s' lg h hl w => by
  unfold shrB at h
  cases h
  rw [pickC_ok hl]
  exact shr_calls x n hx h0 h1 w
end Go.Proofs.YtjlponbdflkbjaaGreatDoor
namespace Go.Rd
open Go.Rn Go.Nt
def bt (b : Bool) : Nat := match b with | true => 1 | false => 0
/-- how many words are below the highest eight -/
def loW (T : Nat) : Nat := (db 4294967296 T).length - 8
def hiS (T : Nat) : Nat := T / 2 ^ (32 * loW T)
def hiM (T : Nat) (m : Bool) : Bool := m || decide (T % 2 ^ (32 * loW T) ≠ 0)
def hiE (T : Nat) (e : Int) : Int := e + 32 * (loW T : Nat)
theorem words_pow (k : Nat) : (4294967296 : Nat) ^ k = 2 ^ (32 * k) := by rw [Nat.pow_mul]
theorem hi_lt (T : Nat) : hiS T < 2 ^ 256 := by
  unfold hiS
  rw [Nat.div_lt_iff_lt_mul (Nat.pow_pos (by omega)), ← Nat.pow_add]
  have h1 := vb_lt (b := 4294967296) (by omega) (db 4294967296 T) (db_dg (by omega) T)
  rw [vb_db (by omega) T, words_pow] at h1
  exact Nat.lt_of_lt_of_le h1 (Nat.pow_le_pow_right (by omega) (by unfold loW; omega))
theorem hi_big {T : Nat} (h : loW T ≠ 0) : 2 ^ 53 ≤ hiS T := by
  unfold hiS
  rw [Nat.le_div_iff_mul_le (Nat.pow_pos (by omega)), ← Nat.pow_add]
  rcases Nat.lt_or_ge T (2 ^ (53 + 32 * loW T)) with h1 | h1
  · exfalso
    have h2 : T < 4294967296 ^ (loW T + 7) := by
      rw [words_pow]
      exact Nat.lt_of_lt_of_le h1 (Nat.pow_le_pow_right (by omega) (by omega))
    have := db_len (b := 4294967296) (by omega) _ _ h2
    unfold loW at *
    omega
  · exact h1
theorem hi_round {m : Int} {n : Bool} {T : Nat} {b : Bool} {e : Int} : rnP m n (2 * hiS T + bt (hiM T b)) (hiE T e - 1) = rnP m n (2 * T + bt b) (e - 1) ∧ rnF m n (2 * hiS T + bt (hiM T b)) (hiE T e - 1) = rnF m n (2 * T + bt b) (e - 1) := by
  by_cases h0 : loW T = 0
  · have e1 : hiS T = T := by unfold hiS; rw [h0, Nat.mul_zero, Nat.pow_zero, Nat.div_one]
    have e2 : hiM T b = b := by unfold hiM; rw [h0, Nat.mul_zero, Nat.pow_zero, Nat.mod_one]; cases b <;> rfl
    have e3 : hiE T e = e := by unfold hiE; rw [h0]; omega
    rw [e1, e2, e3]
    exact ⟨rfl, rfl⟩
  · have hp : 0 < 2 ^ (32 * loW T) := Nat.pow_pos (by omega)
    have hbt : bt b ≤ 1 := by cases b <;> decide
    have d1 : (2 * T + bt b) / 2 ^ (32 * loW T + 1) = hiS T := by
      unfold hiS
      rw [Nat.pow_succ, Nat.mul_comm (2 ^ (32 * loW T)) 2, ← Nat.div_div_eq_div_mul]
      congr 1
      omega
    have d2 : (2 * T + bt b) % 2 ^ (32 * loW T + 1) = 2 * (T % 2 ^ (32 * loW T)) + bt b := by
      rw [Nat.pow_succ, Nat.mul_comm (2 ^ (32 * loW T)) 2, Nat.mod_mul, show (2 * T + bt b) / 2 = T by omega]
      omega
    have st : stk (2 * T + bt b) (32 * loW T + 1) = 2 * hiS T + bt (hiM T b) := by
      unfold stk
      rw [d1, d2]
      congr 1
      unfold hiM
      cases b with
      | true => rw [if_neg (by simp [bt])]; rfl
      | false =>
        by_cases hz : T % 2 ^ (32 * loW T) = 0
        · rw [if_pos (by rw [hz]; rfl), decide_eq_false (fun h => h hz)]; rfl
        · rw [if_neg (by simp [bt]; omega), decide_eq_true hz]; rfl
    have hb := le_len (hi_big h0)
    have r := stk_round (m := m) (neg := n) (A := 2 * T + bt b) (d := 32 * loW T + 1) (F := e - 1) (.inr (by rw [d1]; omega))
    rw [st, show e - 1 + ((32 * loW T + 1 : Nat) : Int) - 1 = hiE T e - 1 by unfold hiE; omega] at r
    exact r
/-- how far the number is moved up ahead of the division -/
def upT (A B : Nat) : Nat := ((bitLen B : Int) + 128 - (bitLen A : Int)).toNat
theorem upT_bits {A B : Nat} (hA : A ≠ 0) (hB : B ≠ 0) : 54 ≤ bitLen (A * 2 ^ upT A B / B) := by
  refine le_len (k := 53) ?_
  rw [Nat.le_div_iff_mul_le (by omega)]
  have h1 := (bitLen_spec A).2 hA
  have h2 := (bitLen_spec B).1
  have h3 := len_pos hA
  have h4 : bitLen B + 128 ≤ upT A B + bitLen A := by unfold upT; omega
  refine Nat.le_trans (Nat.mul_le_mul_left _ (Nat.le_of_lt h2)) ?_
  rw [← Nat.pow_add]
  refine Nat.le_trans (Nat.pow_le_pow_right (by omega) (show 53 + bitLen B ≤ (bitLen A - 1) + upT A B by omega)) ?_
  rw [Nat.pow_add]
  exact Nat.mul_le_mul_right _ h1
/-- a number times ten to the power of j, by its highest words -/
def teT (A : Nat) (j : Int) : Nat := if 0 ≤ j then A * 10 ^ j.toNat else A * 2 ^ upT A (10 ^ (-j).toNat) / 10 ^ (-j).toNat
def teM (A : Nat) (j : Int) : Bool := if 0 ≤ j then false else decide (A * 2 ^ upT A (10 ^ (-j).toNat) % 10 ^ (-j).toNat ≠ 0)
def teE (A : Nat) (j : Int) : Int := if 0 ≤ j then 0 else -((upT A (10 ^ (-j).toNat) : Nat) : Int)
theorem te_round {m : Int} {n : Bool} {A : Nat} {j : Int} (hA : A ≠ 0) : rnP m n (2 * hiS (teT A j) + bt (hiM (teT A j) (teM A j))) (hiE (teT A j) (teE A j) - 1) = deP m n A j ∧ rnF m n (2 * hiS (teT A j) + bt (hiM (teT A j) (teM A j))) (hiE (teT A j) (teE A j) - 1) = deF m n A j := by
  obtain ⟨h1, h2⟩ := hi_round (m := m) (n := n) (T := teT A j) (b := teM A j) (e := teE A j)
  rw [h1, h2]
  unfold teT teM teE
  by_cases hj : 0 ≤ j
  · rw [if_pos hj, if_pos hj, if_pos hj]
    have p := rnP_scale m n (A * 10 ^ j.toNat) 1 0
    have f := rnF_scale m n (A * 10 ^ j.toNat) 1 0
    obtain ⟨q1, q2⟩ := rq_one m n (A * 10 ^ j.toNat)
    rw [show 2 * (A * 10 ^ j.toNat) + bt false = A * 10 ^ j.toNat * 2 ^ 1 by simp only [bt]; omega]
    unfold deP deF
    rw [show (-j).toNat = 0 by omega, Nat.pow_zero, q1, q2]
    exact ⟨p, f⟩
  · rw [if_neg hj, if_neg hj, if_neg hj]
    have hB := ten_ne (-j).toNat
    have r := rq_any (m := m) (n := n) hA hB (upT_bits hA hB)
    have e : 2 * (A * 2 ^ upT A (10 ^ (-j).toNat) / 10 ^ (-j).toNat) + bt (decide (A * 2 ^ upT A (10 ^ (-j).toNat) % 10 ^ (-j).toNat ≠ 0)) = dvK A (10 ^ (-j).toNat) (upT A (10 ^ (-j).toNat)) := by
      unfold dvK
      congr 1
      by_cases hz : A * 2 ^ upT A (10 ^ (-j).toNat) % 10 ^ (-j).toNat = 0
      · rw [if_pos hz, decide_eq_false (fun h => h hz)]; rfl
      · rw [if_neg hz, decide_eq_true hz]; rfl
    rw [e]
    unfold deP deF
    rw [show j.toNat = 0 by omega, Nat.pow_zero, Nat.mul_one]
    exact r
/-! ### a numeral as a number -/
def noS (b : Int) (D : List UInt8) (k P : Int) : Nat := if b = 16 then nmB 16 (shR 60 D) else hiS (teT (nmB 10 (shR 800 D)) (clF (k + P) - ((shR 800 D).length : Nat)))
def noM (b : Int) (D : List UInt8) (k P : Int) : Bool := if b = 16 then false else hiM (teT (nmB 10 (shR 800 D)) (clF (k + P) - ((shR 800 D).length : Nat))) (teM (nmB 10 (shR 800 D)) (clF (k + P) - ((shR 800 D).length : Nat)))
def noE (b : Int) (D : List UInt8) (k P : Int) : Int := if b = 16 then P + 4 * (k - ((shR 60 D).length : Nat)) else hiE (teT (nmB 10 (shR 800 D)) (clF (k + P) - ((shR 800 D).length : Nat))) (teE (nmB 10 (shR 800 D)) (clF (k + P) - ((shR 800 D).length : Nat)))
theorem sh_len (k : Nat) (D : List UInt8) : (shR k D).length ≤ k + 1 := by
  unfold shR
  split
  · omega
  · rw [List.length_append, List.length_take, List.length_singleton]; omega
theorem noS_lt (b : Int) (D : List UInt8) (k P : Int) : noS b D k P < 2 ^ 256 := by
  unfold noS
  split
  · refine Nat.lt_of_lt_of_le (nm_bits (.inr rfl) _) (Nat.pow_le_pow_right (by omega) ?_)
    have := sh_len 60 D
    omega
  · exact hi_lt _
/-- a numeral's number is rounded as what the text denotes -/
theorem no_round {m : Int} {n : Bool} {b : Int} (hb : b = 10 ∨ b = 16) {l : List UInt8} (hl : l.length ≤ 10000) (ha : allB b l = true) (hz : trZ l ≠ []) {k : Nat} (hk : k ≤ l.length) {P Q : Int} (hP : alike Q P) :
    rnP m n (2 * noS b (nuD l) (((trZ l).length : Nat) - (k : Int)) Q + bt (noM b (nuD l) (((trZ l).length : Nat) - (k : Int)) Q)) (noE b (nuD l) (((trZ l).length : Nat) - (k : Int)) Q - 1) = rnP m n (dnA b (trZ l) k P).1 (dnA b (trZ l) k P).2 ∧ rnF m n (2 * noS b (nuD l) (((trZ l).length : Nat) - (k : Int)) Q + bt (noM b (nuD l) (((trZ l).length : Nat) - (k : Int)) Q)) (noE b (nuD l) (((trZ l).length : Nat) - (k : Int)) Q - 1) = rnF m n (dnA b (trZ l) k P).1 (dnA b (trZ l) k P).2 := by
  unfold noS noM noE
  rcases hb with rfl | rfl
  · rw [if_neg (by decide), if_neg (by decide), if_neg (by decide)]
    have hA : nmB 10 (shR 800 (nuD l)) ≠ 0 := by
      obtain ⟨c, r, hT⟩ : ∃ c r, trZ l = c :: r := by
        cases h : trZ l with
        | nil => exact absurd h hz
        | cons c r => exact ⟨c, r, rfl⟩
      have hc := trZ_head ha hT
      obtain ⟨r', hr'⟩ := trR_head (b := 10) (r := r) hc
      obtain ⟨r2, hr2⟩ : ∃ r2, shR 800 (nuD l) = c :: r2 := by
        unfold nuD shR
        rw [hT, hr']
        split
        · exact ⟨_, rfl⟩
        · exact ⟨_, rfl⟩
      have := nmB_pos (b := 10) (.inl rfl) (r := r2) hc
      rw [hr2]; omega
    obtain ⟨t1, t2⟩ := te_round (m := m) (n := n) (j := clF (((trZ l).length : Nat) - (k : Int) + Q) - ((shR 800 (nuD l)).length : Nat)) hA
    obtain ⟨d1, d2⟩ := dec_same (m := m) (n := n) hl ha hz hk hP
    exact ⟨t1.trans d1, t2.trans d2⟩
  · rw [if_pos rfl, if_pos rfl, if_pos rfl]
    have h := hex_same (m := m) (n := n) hl ha hz hk hP
    obtain ⟨A, hA⟩ : ∃ A, A = nmB 16 (shR 60 (nuD l)) := ⟨_, rfl⟩
    obtain ⟨E, hE⟩ : ∃ E, E = Q + 4 * (((trZ l).length : Nat) - (k : Int) - ((shR 60 (nuD l)).length : Nat)) := ⟨_, rfl⟩
    rw [← hA, ← hE] at h
    rw [← hA, ← hE]
    have p := rnP_scale m n A 1 E
    have f := rnF_scale m n A 1 E
    rw [show 2 * A + bt false = A * 2 ^ 1 by simp only [bt]; omega]
    exact ⟨p.trans h.1, f.trans h.2⟩
end Go.Rd
namespace Go.Proofs.YtjlponbdflkbjaaGreatDoor
open Go.KRun Go.Nt Go.Rd Go.Wd
set_option maxRecDepth 100000
theorem sh1 (D : List UInt8) (k : Int) : Fits (reckon (tabOf Tryz.prog extY conN true) 100 33 [bR D, .int .i64 k] [cmp true]) (bR D) [(decide (((D.length : Nat) : Int) ≤ k), true)] := ⟨by kernel_rfl, by kernel_rfl, by kernel_rfl, by kernel_rfl⟩
theorem sh2 (D : List UInt8) (k : Int) : Fits (reckon (tabOf Tryz.prog extY conN true) 100 33 [bR D, .int .i64 k] [cmp false, sam true, sam true]) (bR (D.take k.toNat ++ [49])) [(decide ((D.take k.toNat).length + 1 ≤ 9223372036854775807), true), (decide (0 ≤ k ∧ k ≤ (D.length : Nat)), true), (decide (((D.length : Nat) : Int) ≤ k), false)] := ⟨by kernel_rfl, by kernel_rfl, by kernel_rfl, by kernel_rfl⟩
def gShR : Ans := fun vals s =>
  match vals with
  | [.string a, .int .i64 k] => some (bR (shR k.toNat a.data.toList), s, [(decide (0 ≤ k ∧ k ≤ 1000 ∧ a.data.toList.length ≤ 100000), true)])
  | _ => none
theorem gShR_ok : AnsOk 33 gShR := by
  intro vals s v s' lg h hl w
  unfold gShR at h
  split at h
  · rename_i a k
    cases h
    have q := of_decide_eq_true (hl _ (List.mem_singleton.2 rfl))
    have hT := tabY_ok conN_ok
    unfold shR
    by_cases h1 : ((a.data.toList.length : Nat) : Int) ≤ k
    · rw [if_pos (by omega)]
      exact fits_calls hT (sh1 a.data.toList k) (okL1 (decide_eq_true h1)) (by rfl) (by rfl) w
    · rw [if_neg (by omega)]
      exact fits_calls hT (sh2 a.data.toList k) (okCons (decide_eq_true (by rw [List.length_take]; omega)) (okCons (decide_eq_true (by omega)) (okL1 (decide_eq_false h1)))) (by rfl) (by rfl) w
  · cases h
def conSx : Con := alt 74 (g1n (plain1n shlV4)) (alt 73 (g2 (plain2 addV4)) (alt 69 gDvP conN))
theorem conSx_ok : ConOk conSx := alt_ok Tryz.func74 rfl (plain1n_ok shl_calls) (alt_ok Tryz.func73 rfl (plain2_ok add_calls) (alt_ok Tryz.func69 rfl gDvP_ok conN_ok))
def sxI (F : Func) : Code := cFst (sP F 2)
def sxL (F : Func) : Code := cIn (cIn (cSnd (sP F 2)))
theorem sx_body : Tryz.f34.body = some (seqs [sP Tryz.f34 0, sP Tryz.f34 1] (.seq (.seq (sxI Tryz.f34) (.block 0 (.loop (sxL Tryz.f34)))) (sK Tryz.f34 3))) := by kernel_rfl
def wB9 (x : W4) : List Value × TypeId := ([.int .u64 x.a, .int .u64 x.b, .int .u64 x.c, .int .u64 x.d], 51)
def sxM (x : W4) : Hp := ⟨2, [wB9 x, wB9 ⟨0, 0, 0, 0⟩]⟩
def sxF (D : List UInt8) (v4 : Value) (i : Int) : List Value := [bR D, undef, pO 0, pO 1, v4, bR D, .int .i64 (D.length : Nat), .int .i64 i]
theorem sx_pre (D : List UInt8) : GoesT (evL (tabOf Tryz.prog extY conSx true) 100 [sP Tryz.f34 0, sP Tryz.f34 1] ([bR D] ++ List.replicate 23 undef, ⟨0, []⟩, []) ⟨[], [], []⟩) 5 19 none [bR D, undef, pO 0, pO 1, undef] (sxM ⟨0, 0, 0, 0⟩) [] := ⟨by kernel_rfl, by kernel_rfl, by kernel_rfl⟩
theorem sx_i (D : List UInt8) (g : Nat → Value) : GoesT (evC (tabOf Tryz.prog extY conSx true) 100 false (sxI Tryz.f34) ([bR D, undef, pO 0, pO 1, undef] ++ tl 19 g, sxM ⟨0, 0, 0, 0⟩, []) ⟨[], [], []⟩) 8 16 none (sxF D undef 0) (sxM ⟨0, 0, 0, 0⟩) [] := ⟨by kernel_rfl, by kernel_rfl, by kernel_rfl⟩
theorem sx_x (D : List UInt8) (x : W4) (v4 : Value) (i : Int) (g : Nat → Value) : GoesT (evC (tabOf Tryz.prog extY conSx true) 100 false (sxL Tryz.f34) (sxF D v4 i ++ tl 16 g, sxM x, [cmp false]) ⟨[], [], []⟩) 8 16 (some (some 0)) (sxF D v4 i) (sxM x) [(decide (i < (D.length : Nat)), false)] := ⟨by kernel_rfl, by kernel_rfl, by kernel_rfl⟩
theorem sx_e (D : List UInt8) (x : W4) (v4 : Value) (i : Int) (g : Nat → Value) : GoesT (evC (tabOf Tryz.prog extY conSx true) 100 false (sK Tryz.f34 3) (sxF D v4 i ++ tl 16 g, sxM x, []) ⟨[], [], []⟩) 3 21 (some none) [bR D, undef, pO 0] ⟨2, [wB9 x, wB9 x]⟩ [] := ⟨by kernel_rfl, by kernel_rfl, by kernel_rfl⟩
def wD9 (d : Int) : W4 := ⟨IntKind.u64.wrap d, 0, 0, 0⟩
theorem sx_g (D : List UInt8) (x : W4) (v4 : Value) (i : Int) (g : Nat → Value) : GoesT (evC (tabOf Tryz.prog extY conSx true) 100 false (sxL Tryz.f34) (sxF D v4 i ++ tl 16 g, sxM x, [cmp true]) ⟨[], [], []⟩) 8 16 none (sxF D (.int .i64 i) (IntKind.i64.wrap (i + 1))) (sxM (W4.of ((shlW x 4).val + (wD9 (dvB (byR D i))).val))) [(decide ((shlW x 4).ok ∧ (wD9 (dvB (byR D i))).ok), true), (decide (0 ≤ byR D i ∧ byR D i < 256), true), (decide (x.ok ∧ (-9223372036854775808 : Int) ≤ 4 ∧ (4 : Int) ≤ 9223372036854775807), true), (decide (0 ≤ i ∧ i.toNat < D.length), true), (decide (i < (D.length : Nat)), true)] := ⟨by kernel_rfl, by kernel_rfl, by kernel_rfl⟩
theorem sx_num {X d : Nat} (hX : X * 16 + d < 2 ^ 256) (hd : d < 16) : (shlW (ofN X) 4).ok ∧ (wD9 (d : Nat)).ok ∧ W4.of ((shlW (ofN X) 4).val + (wD9 (d : Nat)).val) = ofN (X * 16 + d) := by
  have h2 : (2 : Nat) ^ 256 = 115792089237316195423570985008687907853269984665640564039457584007913129639936 := rfl
  have hX2 : X < 2 ^ 256 := by omega
  have hv : (ofN X).val = (X : Int) := by rw [W4.nat_val (ofN_ok X), ofN_nat hX2]
  have e1 : shlW (ofN X) 4 = W4.of (((X * 16 : Nat)) : Int) := by
    unfold shlW
    rw [if_neg (by decide), if_neg (by decide), hv]
    congr 1
  have ew : IntKind.u64.wrap ((d : Nat) : Int) = (d : Int) := by
    simp [IntKind.wrap, IntKind.bits, IntKind.signed]
    omega
  have o2 : (wD9 (d : Nat)).ok ∧ (wD9 (d : Nat)).val = (d : Int) := by
    unfold wD9
    rw [ew]
    refine ⟨⟨⟨by dsimp only; omega, by dsimp only; omega⟩, ⟨by dsimp only; omega, by dsimp only; omega⟩, ⟨by dsimp only; omega, by dsimp only; omega⟩, ⟨by dsimp only; omega, by dsimp only; omega⟩⟩, ?_⟩
    unfold W4.val
    simp only [Int.mul_zero, Int.add_zero]
  refine ⟨by rw [e1]; exact W4.ok_of _, o2.1, ?_⟩
  rw [e1, W4.val_of, o2.2, Int.emod_eq_of_lt (by omega) (by omega)]
  unfold ofN
  congr 1
def sxJ (D : List UInt8) (i : Nat) (y : Lf) : Prop := ∃ (v4 : Value) (g : Nat → Value), i ≤ D.length ∧ y.1 = sxF D v4 i ++ tl 16 g ∧ y.2.1 = sxM (ofN (nmB 16 (D.take i)))
theorem sx_round {D : List UInt8} (h2 : D.length ≤ 62) (ha : allB 16 D = true) (r : Nat) (y : Lf) (h : ∃ i, r = D.length - i ∧ sxJ D i y) :
    Runs (tabOf Tryz.prog extY conSx true) (sxL Tryz.f34) y fun e z => match e with | none => ∃ r', r' < r ∧ ∃ i, r' = D.length - i ∧ sxJ D i z | some none => False | some (some id') => id' = 0 ∧ sxJ D D.length z := by
  have hT := tabY_ok conSx_ok
  obtain ⟨i, hr, v4, g, hi, ht, hh⟩ := h
  obtain ⟨t, h', sc⟩ := y
  simp only at ht hh
  subst ht hh
  by_cases hc : i < D.length
  · have lA : decide (((i : Nat) : Int) < (D.length : Nat)) = true := decide_eq_true (by omega)
    have lI : decide ((0 : Int) ≤ (i : Nat) ∧ ((i : Nat) : Int).toNat < D.length) = true := decide_eq_true ⟨by omega, by rw [Int.toNat_natCast]; exact hc⟩
    have ew : IntKind.i64.wrap (((i : Nat) : Int) + 1) = ((i + 1 : Nat) : Int) := by rw [wrapI (by omega) (by omega)]; omega
    have eC : lq8 (D.getD i 0) = byR D (i : Nat) := by unfold lq8 byR; rw [Int.toNat_natCast]
    have hdg : 0 ≤ dgvR (lq8 (D.getD i 0)) 16 := by
      unfold allB at ha
      refine of_decide_eq_true (List.all_eq_true.1 ha _ ?_)
      rw [List.getD_eq_getElem?_getD, List.getElem?_eq_getElem hc, Option.getD_some]
      exact List.getElem_mem hc
    have hlt := (dgvR_bd (lq8 (D.getD i 0)) 16).2
    obtain ⟨d, hd⟩ : ∃ d : Nat, d = (dgvR (lq8 (D.getD i 0)) 16).toNat := ⟨_, rfl⟩
    have ed : dvB (byR D (i : Nat)) = (d : Nat) := by rw [← eC, ← dvB_eq hdg]; omega
    have ht := nmB_take 16 D hc
    rw [← hd] at ht
    have hb : nmB 16 (D.take i) * 16 + d < 2 ^ 256 := by
      have h3 : nmB 16 (D.take i) * 16 + d = nmB 16 (D.take (i + 1)) := ht.symm
      rw [h3]
      refine Nat.lt_of_lt_of_le (nm_bits (.inr rfl) _) (Nat.pow_le_pow_right (by omega) ?_)
      rw [List.length_take]; omega
    obtain ⟨n1, n2, n3⟩ := sx_num hb (by omega)
    have hg := sx_g D (ofN (nmB 16 (D.take i))) v4 (i : Nat) g
    rw [ew, ed, n3] at hg
    refine (goesT_runs (s0 := sc) hT hg (okCons (decide_eq_true ⟨n1, n2⟩) (okCons (byR_bd D _) (okCons (decide_eq_true ⟨ofN_ok _, by decide, by decide⟩) (okCons lI (okL1 lA)))))).mono fun e z he => ?_
    obtain ⟨rfl, ⟨g', z1⟩, z2⟩ := he
    refine ⟨D.length - (i + 1), by omega, i + 1, rfl, _, g', by omega, z1, ?_⟩
    rw [z2, show nmB 16 (D.take (i + 1)) = nmB 16 (D.take i) * 16 + d from ht]
  · have : i = D.length := by omega
    subst this
    refine (goesT_runs (s0 := sc) hT (sx_x D _ v4 (D.length : Nat) g) (okL1 (decide_eq_false (by omega)))).mono fun e z he => ?_
    obtain ⟨rfl, ⟨g', z1⟩, z2⟩ := he
    exact ⟨rfl, v4, g', hi, z1, z2⟩
theorem sx_calls (D : List UInt8) (hs : D.length ≤ 62) (ha : allB 16 D = true) (w : World) : Calls Tryz.prog 34 #[bR D] w fun r w' => r = .returned (vW (ofN (nmB 16 D))) ∧ Tidy w w' := by
  have hT := tabY_ok conSx_ok
  refine calls_of_runs (T := tabOf Tryz.prog extY conSx true) Tryz.func34 sx_body (by rfl) (by rfl) ?_ w
  refine goesT_list hT (sx_pre D) okN9R fun g => ?_
  refine Runs.seq (P1 := fun e y => match e with | none => sxJ D D.length y | some none => False | some (some _) => False) ?_ ?_ ?_
  · refine Runs.seq (P1 := fun e y => e = none ∧ ∃ g', y.1 = sxF D undef 0 ++ tl 16 g' ∧ y.2.1 = sxM ⟨0, 0, 0, 0⟩) ?_ ?_ (fun e y he => by cases he.1)
    · refine (goesT_runs hT (sx_i D g) okN9R).mono fun e z he => ?_
      obtain ⟨rfl, ⟨g', z1⟩, z2⟩ := he
      exact ⟨rfl, g', z1, z2⟩
    · rintro ⟨t, hh, sc⟩ ⟨_, g', e1, e2⟩
      simp only at e1 e2
      subst e1 e2
      exact Runs.forLoop (R := fun _ => False) (P := sxJ D D.length) (fun r y => ∃ i, r = D.length - i ∧ sxJ D i y) (sx_round hs ha) (n := D.length - 0) ⟨0, rfl, undef, g', Nat.zero_le _, rfl, by rw [show ofN (nmB 16 (D.take 0)) = ⟨0, 0, 0, 0⟩ from ofN_zero]⟩
  · rintro ⟨t, hh, sc⟩ ⟨v4, g', _, e1, e2⟩
    simp only at e1 e2
    subst e1 e2
    rw [List.take_length]
    refine (goesT_runs (s0 := sc) hT (sx_e D _ v4 _ g') okN9R).mono fun e z he => ?_
    obtain ⟨rfl, ⟨g2, z1⟩, z2⟩ := he
    exact ⟨.inr rfl, by rw [z1, z2]; rfl⟩
  · rintro e y he
    match e, he with
    | none, he => exact he.elim
def gSxR : Ans := fun vals s =>
  match vals with
  | [.string a] => some (vW (ofN (nmB 16 a.data.toList)), s, [(allB 16 a.data.toList, true), (decide (a.data.toList.length ≤ 62), true)])
  | _ => none
theorem gSxR_ok : AnsOk 34 gSxR := by
  intro vals s v s' lg h hl w
  unfold gSxR at h
  split at h
  · rename_i a
    cases h
    have h1 : allB 16 a.data.toList = true := hl _ List.mem_cons_self
    have h2 := of_decide_eq_true (hl _ (List.mem_cons_of_mem _ (List.mem_singleton.2 rfl)))
    exact sx_calls _ h2 h1 w
  · cases h
end Go.Proofs.YtjlponbdflkbjaaGreatDoor
namespace Go.Proofs.YtjlponbdflkbjaaGreatDoor.Na
open Go.KRun
set_option maxRecDepth 100000
def uu (n : Int) : Value := .int .u32 n
def inR (i : Int) (n : Nat) : Bool × Bool := (decide (0 ≤ i ∧ i < n), true)
def celR (l : List Value) (o : Nat) (i x : Int) : Bool × Bool := (cellIs (l[o + i.toNat * 1]?) (uu x), true)
end Go.Proofs.YtjlponbdflkbjaaGreatDoor.Na
