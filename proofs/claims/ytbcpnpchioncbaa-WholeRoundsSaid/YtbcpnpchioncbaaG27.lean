/-
  The document's product by a small number (tillerref02.Small): its pieces.
-/
import Derived.Test.YtbcpnpchioncbaaG09
import Derived.Test.YtbcpnpchioncbaaG19
import Derived.Test.YtbcpnpchioncbaaG08
namespace Go.Proofs.Ytbcpnpchioncbaa
open Go.KRun Go.Nt
set_option maxRecDepth 100000
set_option linter.unusedVariables false

def sPre (F : Func) : List Code := [cFst (cBody F), cFst (cSnd (cBody F)), cFst (cSnd (cSnd (cBody F)))]
def sR3J (F : Func) : Code := cFst (cFst (cSnd (cSnd (cSnd (cBody F)))))
def sLoop (F : Func) : Code := cIn (cIn (cSnd (cFst (cSnd (cSnd (cSnd (cBody F)))))))
def sEnd (F : Func) : Code := cSnd (cSnd (cSnd (cSnd (cBody F))))
theorem usm_body : Try.f45.body = some (seqs (sPre Try.f45) (.seq (.seq (sR3J Try.f45) (.block 0 (.loop (sLoop Try.f45)))) (sEnd Try.f45))) := by kernel_rfl
def sv (A : List Int) (b c i : Int) : Int := IntKind.u64.wrap (c + IntKind.u64.wrap (IntKind.u64.wrap (atN A i) * IntKind.u64.wrap b))
def hs1' (x : List Value × TypeId) : Hp := ⟨1, [x]⟩
def hs2' (lo : List Value) (x : List Value × TypeId) : Hp := ⟨2, [(lo, tU), x]⟩
def sScr (w : Nat) : List Dec := match w with | 0 => [cmp true] | _ => [cmp false, cmp true]
def sLog (w : Nat) (n : Nat) (k i : Int) : Log := match w with | 0 => [(decide (i < n), true)] | _ => [(decide (k > 0), true), (decide (i < n), false)]
def rP' (h : Hp) (p : Option Addr) (n c : Nat) : Bool × Bool := (rowP h p n c, true)
theorem usm_pre (p : Option Addr) (n c : Nat) (b e : Int) (h : Hp) : GoesT (evL (tabH Try.prog extY conN hcV) 100 (sPre Try.f45) ([.slice p n c, .int .u32 b, .int .u32 e] ++ List.replicate 38 undef, h, []) ⟨[], [], []⟩) 9 32 none [.slice p n c, .int .u32 b, .int .u32 e, undef, undef, undef, nilS, nilS, .int .u64 (IntKind.u64.wrap e)] h [] := ⟨by kernel_rfl, by kernel_rfl, by kernel_rfl⟩
theorem usm_r3 (p : Option Addr) (n c : Nat) (b e k : Int) (h : Hp) (g : Nat → Value) : GoesT (evC (tabH Try.prog extY conN hcV) 100 false (sR3J Try.f45) ([.slice p n c, .int .u32 b, .int .u32 e, undef, undef, undef, nilS, nilS, .int .u64 k] ++ tl 32 g, h, []) ⟨[], [], []⟩) 10 31 none [.slice p n c, .int .u32 b, .int .u32 e, undef, undef, undef, nilS, nilS, .int .u64 k, .int .i64 0] h [] := ⟨by kernel_rfl, by kernel_rfl, by kernel_rfl⟩
theorem usm_nil0 (p : Option Addr) (n c : Nat) (b e k i : Int) (x : List Value × TypeId) (g : Nat → Value) : GoesT (evC (tabH Try.prog extY conN hcV) 100 false (sLoop Try.f45) ([.slice p n c, .int .u32 b, .int .u32 e, undef, undef, undef, nilS, nilS, .int .u64 k, .int .i64 i] ++ tl 31 g, hs1' x, sScr 0 ++ [cmp true]) ⟨[], [], []⟩) 10 31 none [.slice p n c, .int .u32 b, .int .u32 e, undef, undef, undef, nilS, sl 2 0 1 grown, .int .u64 (IntKind.u64.wrap ((sv (rowOf (hs1' x) p n) b k i).tdiv 65536)), .int .i64 (IntKind.i64.wrap (i + 1))] ⟨3, [([.int .u32 (IntKind.u32.wrap ((sv (rowOf (hs1' x) p n) b k i).tmod 65536))], tU), ([.int .u32 (IntKind.u32.wrap ((sv (rowOf (hs1' x) p n) b k i).tmod 65536))], tU), x]⟩ ((decide ((65536 : Int) = 0), false) :: rP' (hs1' x) p n c :: sLog 0 n k i) := ⟨by kernel_rfl, by kernel_rfl, by kernel_rfl⟩
theorem usm_nil1 (p : Option Addr) (n c : Nat) (b e k i : Int) (x : List Value × TypeId) (g : Nat → Value) : GoesT (evC (tabH Try.prog extY conN hcV) 100 false (sLoop Try.f45) ([.slice p n c, .int .u32 b, .int .u32 e, undef, undef, undef, nilS, nilS, .int .u64 k, .int .i64 i] ++ tl 31 g, hs1' x, sScr 1 ++ [cmp true]) ⟨[], [], []⟩) 10 31 none [.slice p n c, .int .u32 b, .int .u32 e, undef, undef, undef, nilS, sl 2 0 1 grown, .int .u64 (IntKind.u64.wrap ((sv (rowOf (hs1' x) p n) b k i).tdiv 65536)), .int .i64 (IntKind.i64.wrap (i + 1))] ⟨3, [([.int .u32 (IntKind.u32.wrap ((sv (rowOf (hs1' x) p n) b k i).tmod 65536))], tU), ([.int .u32 (IntKind.u32.wrap ((sv (rowOf (hs1' x) p n) b k i).tmod 65536))], tU), x]⟩ ((decide ((65536 : Int) = 0), false) :: rP' (hs1' x) p n c :: sLog 1 n k i) := ⟨by kernel_rfl, by kernel_rfl, by kernel_rfl⟩
theorem usm_some0 (p : Option Addr) (n c z : Nat) (b e k i : Int) (x : List Value × TypeId) (lo : List Value) (g : Nat → Value) : GoesT (evC (tabH Try.prog extY conN hcV) 100 false (sLoop Try.f45) ([.slice p n c, .int .u32 b, .int .u32 e, undef, undef, undef, nilS, sl 1 0 z grown, .int .u64 k, .int .i64 i] ++ tl 31 g, hs2' lo x, sScr 0 ++ [cmp true, at_]) ⟨[], [], []⟩) 10 31 none [.slice p n c, .int .u32 b, .int .u32 e, undef, undef, undef, nilS, sl 3 0 (z + 1) grown, .int .u64 (IntKind.u64.wrap ((sv (rowOf (hs2' lo x) p n) b k i).tdiv 65536)), .int .i64 (IntKind.i64.wrap (i + 1))] ⟨4, [(lo ++ [.int .u32 (IntKind.u32.wrap ((sv (rowOf (hs2' lo x) p n) b k i).tmod 65536))], tU), ([.int .u32 (IntKind.u32.wrap ((sv (rowOf (hs2' lo x) p n) b k i).tmod 65536))], tU), ([], 2 * dead), x]⟩ ((appChk tU (lo, tU) ([.int .u32 (IntKind.u32.wrap ((sv (rowOf (hs2' lo x) p n) b k i).tmod 65536))], tU) z 0 1, true) :: (decide ((65536 : Int) = 0), false) :: rP' (hs2' lo x) p n c :: sLog 0 n k i) := ⟨by kernel_rfl, by kernel_rfl, by kernel_rfl⟩
theorem usm_some1 (p : Option Addr) (n c z : Nat) (b e k i : Int) (x : List Value × TypeId) (lo : List Value) (g : Nat → Value) : GoesT (evC (tabH Try.prog extY conN hcV) 100 false (sLoop Try.f45) ([.slice p n c, .int .u32 b, .int .u32 e, undef, undef, undef, nilS, sl 1 0 z grown, .int .u64 k, .int .i64 i] ++ tl 31 g, hs2' lo x, sScr 1 ++ [cmp true, at_]) ⟨[], [], []⟩) 10 31 none [.slice p n c, .int .u32 b, .int .u32 e, undef, undef, undef, nilS, sl 3 0 (z + 1) grown, .int .u64 (IntKind.u64.wrap ((sv (rowOf (hs2' lo x) p n) b k i).tdiv 65536)), .int .i64 (IntKind.i64.wrap (i + 1))] ⟨4, [(lo ++ [.int .u32 (IntKind.u32.wrap ((sv (rowOf (hs2' lo x) p n) b k i).tmod 65536))], tU), ([.int .u32 (IntKind.u32.wrap ((sv (rowOf (hs2' lo x) p n) b k i).tmod 65536))], tU), ([], 2 * dead), x]⟩ ((appChk tU (lo, tU) ([.int .u32 (IntKind.u32.wrap ((sv (rowOf (hs2' lo x) p n) b k i).tmod 65536))], tU) z 0 1, true) :: (decide ((65536 : Int) = 0), false) :: rP' (hs2' lo x) p n c :: sLog 1 n k i) := ⟨by kernel_rfl, by kernel_rfl, by kernel_rfl⟩
theorem usm_out (p : Option Addr) (n c : Nat) (b e k i : Int) (v : Value) (h : Hp) (g : Nat → Value) : GoesT (evC (tabH Try.prog extY conN hcV) 100 false (sLoop Try.f45) ([.slice p n c, .int .u32 b, .int .u32 e, undef, undef, undef, nilS, v, .int .u64 k, .int .i64 i] ++ tl 31 g, h, [cmp false, cmp false]) ⟨[], [], []⟩) 10 31 (some (some 0)) [.slice p n c, .int .u32 b, .int .u32 e, undef, undef, undef, nilS, v, .int .u64 k, .int .i64 i] h [(decide (k > 0), false), (decide (i < n), false)] := ⟨by kernel_rfl, by kernel_rfl, by kernel_rfl⟩
theorem usm_end (p : Option Addr) (n c z : Nat) (b e k i : Int) (x : List Value × TypeId) (lo : List Value) (g : Nat → Value) : GoesT (evC (tabH Try.prog extY conN hcV) 100 false (sEnd Try.f45) ([.slice p n c, .int .u32 b, .int .u32 e, undef, undef, undef, nilS, sl 1 0 z grown, .int .u64 k, .int .i64 i] ++ tl 31 g, hs2' lo x, []) ⟨[], [], []⟩) 7 34 (some none) [.slice p n c, .int .u32 b, .int .u32 e, undef, undef, undef, sl 1 0 (trimN (cutI lo 0 z)) (trimN (cutI lo 0 z))] (hs2' lo x) [(rowC tU lo 0 z grown, true)] := ⟨by kernel_rfl, by kernel_rfl, by kernel_rfl⟩
theorem usm_empty (p : Option Addr) (n c : Nat) (b e : Int) (h : Hp) : GoesT (evC (tabH Try.prog extY conN hcV) 100 false (cBody Try.f45) ([.slice p n c, .int .u32 b, .int .u32 e] ++ List.replicate 38 undef, h, [cmp false, cmp false]) ⟨[], [], []⟩) 7 34 (some none) [.slice p n c, .int .u32 b, .int .u32 e, undef, undef, undef, nilS] h [(decide (IntKind.u64.wrap e > 0), false), (decide ((0 : Int) < n), false)] := ⟨by kernel_rfl, by kernel_rfl, by kernel_rfl⟩
end Go.Proofs.Ytbcpnpchioncbaa

/-
  The document's product by a small number (tillerref02.Small), as a contract.
-/
namespace Go.Proofs.Ytbcpnpchioncbaa
open Go.KRun Go.Nt
set_option maxRecDepth 100000
set_option linter.unusedVariables false

theorem wrap64s {n : Int} (h0 : 0 ≤ n) (h1 : n < 18446744073709551616) : IntKind.u64.wrap n = n := by simp [IntKind.wrap, IntKind.bits, IntKind.signed]; omega
theorem sv_eq {A : List Int} (hA : ∀ x ∈ A, Dg 65536 x) {b k : Nat} (hb : b < 4294967296) (hk : k < 4294967296) (i : Nat) : sv A b k i = ((k + dgN A i * b : Nat) : Int) := by
  have h1 := (dgN_lt hA i).1
  have h2 := (dgN_lt hA i).2
  have hp : dgN A i * b ≤ 65535 * 4294967295 := Nat.mul_le_mul (by omega) (by omega)
  have e0 : atN A (i : Int) = ((dgN A i : Nat) : Int) := by
    have := at_dg hA i
    rw [atN_nat]
    unfold dgN
    have := this.1
    omega
  unfold sv
  rw [e0, wrap64s (n := ((dgN A i : Nat) : Int)) (by omega) (by omega), wrap64s (n := (b : Int)) (by omega) (by omega)]
  have e1 : ((dgN A i : Nat) : Int) * (b : Int) = ((dgN A i * b : Nat) : Int) := by simp
  rw [e1, wrap64s (n := ((dgN A i * b : Nat) : Int)) (by omega) (by omega), wrap64s (by omega) (by omega)]
  omega
theorem small_step {O : List Int} {A : List Int} {i k b e : Nat} (hO : O.length = i) (h : vb 65536 O + 65536 ^ i * k = vb 65536 (A.take i) * b + e) :
    vb 65536 (O ++ [(((k + dgN A i * b) % 65536 : Nat) : Int)]) + 65536 ^ (i + 1) * ((k + dgN A i * b) / 65536) = vb 65536 (A.take (i + 1)) * b + e := by
  rw [vb_snoc, hO, Int.toNat_natCast, vb_take, Nat.add_mul]
  have h2 := Nat.div_add_mod (k + dgN A i * b) 65536
  have h3 : 65536 ^ i * (k + dgN A i * b) = 65536 ^ i * (65536 * ((k + dgN A i * b) / 65536)) + 65536 ^ i * ((k + dgN A i * b) % 65536) := by rw [← Nat.mul_add, h2]
  have h4 : 65536 ^ i * (k + dgN A i * b) = 65536 ^ i * k + 65536 ^ i * (dgN A i * b) := Nat.mul_add _ _ _
  have h5 : 65536 ^ (i + 1) * ((k + dgN A i * b) / 65536) = 65536 ^ i * (65536 * ((k + dgN A i * b) / 65536)) := by rw [Nat.pow_succ, Nat.mul_assoc]
  have h6 : 65536 ^ i * (A.getD i 0).toNat * b = 65536 ^ i * (dgN A i * b) := by rw [Nat.mul_assoc]; rfl
  rw [h5, h6]
  omega
section
variable {x : List Value × TypeId} {p : Option Addr} {n c : Nat} {A : List Int}
theorem kept_one (NA : Nu 0 x p n c A) {h : Hp} (h0 : h.blk? 0 = some x) : ∀ i z, (⟨1, [x]⟩ : Hp).blk? i = some z → h.blk? i = some z ∧ ∀ v ∈ z.1, still v = true := fun i z hz => by
  have hi : i = 0 := by have : i < 1 := Hp.blk_lt hz; omega
  subst hi
  have : z = x := (Option.some.inj hz).symm
  subst this
  exact ⟨h0, NA.st⟩
def sFr (p : Option Addr) (n c : Nat) (b e : Nat) (out : Value) (k i : Nat) : List Value := [.slice p n c, .int .u32 ((b : Nat) : Int), .int .u32 ((e : Nat) : Int), undef, undef, undef, nilS, out, .int .u64 ((k : Nat) : Int), .int .i64 ((i : Nat) : Int)]
def sStJ (x : List Value × TypeId) (p : Option Addr) (n c b e : Nat) (O : List Int) (i k : Nat) (Y : Lf) : Prop :=
  (i = 0 ∧ (∃ g, Y.1 = sFr p n c b e nilS k i ++ tl 31 g) ∧ Y.2.1 = hs1' x) ∨ (0 < i ∧ (∃ g, Y.1 = sFr p n c b e (sl 1 0 i grown) k i ++ tl 31 g) ∧ Y.2.1 = hs2' (wU O) x)
theorem usm_round (NA : Nu 0 x p n c A) (hA : ∀ x ∈ A, Dg 65536 x) {b e k i : Nat} (hb : b < 4294967296) {O : List Int} (hk : k < 4294967296) (hi : i < 1073741823) (hO : O.length = i) (hgo : i < n ∨ 0 < k) {Y : Lf} (hY : sStJ x p n c b e O i k Y) :
    RunsW (tabH Try.prog extY conN hcV) (sLoop Try.f45) Y fun ex z => ex = none ∧ (∃ g, z.1 = sFr p n c b e (sl 1 0 (i + 1) grown) ((k + dgN A i * b) / 65536) (i + 1) ++ tl 31 g) ∧ z.2.1 = hs2' (wU (O ++ [(((k + dgN A i * b) % 65536 : Nat) : Int)])) x := by
  obtain ⟨t, h', s⟩ := Y
  have hd1 := (dgN_lt hA i).1
  have hp : dgN A i * b ≤ 65535 * 4294967295 := Nat.mul_le_mul (by omega) (by omega)
  have es := sv_eq hA hb hk i
  have e1 : IntKind.u32.wrap ((sv A b k i).tmod 65536) = (((k + dgN A i * b) % 65536 : Nat) : Int) := by rw [es, Int.tmod_eq_emod_of_nonneg (by omega), wrap32 (by omega) (by omega)]; omega
  have e2 : IntKind.u64.wrap ((sv A b k i).tdiv 65536) = (((k + dgN A i * b) / 65536 : Nat) : Int) := by rw [es, Int.tdiv_eq_ediv_of_nonneg (by omega), wrap64s (by omega) (by omega)]; omega
  have e3 : IntKind.i64.wrap ((i : Int) + 1) = ((i + 1 : Nat) : Int) := by rw [wrapI (by omega) (by omega)]; omega
  have hw : ∃ w, w ≤ 1 ∧ okLog (sLog w n k i) := by
    by_cases ha : i < n
    · exact ⟨0, by omega, okOne (decide_eq_true (by omega))⟩
    · exact ⟨1, by omega, okW (decide_eq_true (by omega)) (okOne (decide_eq_false (by omega)))⟩
  obtain ⟨w, hw1, hl⟩ := hw
  rcases hY with ⟨h0, ⟨g, ht⟩, hh⟩ | ⟨h0, ⟨g, ht⟩, hh⟩
  · simp only at ht hh
    subst ht hh
    have r0 := NA.row (hs1' x) rfl
    have hO' : O = [] := List.length_eq_zero_iff.1 (by omega)
    have fin : RunsW (tabH Try.prog extY conN hcV) (sLoop Try.f45) (sFr p n c b e nilS k i ++ tl 31 g, hs1' x, s) fun ex z => ex = none ∧ (∃ g, z.1 = [.slice p n c, .int .u32 ((b : Nat) : Int), .int .u32 ((e : Nat) : Int), undef, undef, undef, nilS, sl 2 0 1 grown, .int .u64 (IntKind.u64.wrap ((sv A b k i).tdiv 65536)), .int .i64 (IntKind.i64.wrap ((i : Int) + 1))] ++ tl 31 g) ∧ z.2.1 = ⟨3, [([.int .u32 (IntKind.u32.wrap ((sv A b k i).tmod 65536))], tU), ([.int .u32 (IntKind.u32.wrap ((sv A b k i).tmod 65536))], tU), x]⟩ := by
      match w, hw1, hl with
      | 0, _, hl =>
        have := goesT_runsW (tabH_ok conN_ok hcV_ok) (s0 := s) (usm_nil0 p n c b e k i x g) (okW rfl (okW r0.1 hl))
        rw [r0.2] at this
        exact this
      | 1, _, hl =>
        have := goesT_runsW (tabH_ok conN_ok hcV_ok) (s0 := s) (usm_nil1 p n c b e k i x g) (okW rfl (okW r0.1 hl))
        rw [r0.2] at this
        exact this
    rw [e1, e2, e3] at fin
    have := fin.kept (k := 1) (b := 2) (base := [x]) (y := ([.int .u32 (((k + dgN A i * b) % 65536 : Nat) : Int)], tU)) (front' := sFr p n c b e (sl 1 0 1 grown) ((k + dgN A i * b) / 65536) (i + 1)) rfl
      (by simp only [sFr, List.map_cons, List.map_nil, NA.rn (f := keepK 1 2) rfl]; kernel_rfl) (kept_one NA rfl) rfl (by omega) (fun v hv => by rw [List.mem_singleton.1 hv]; rfl) (fun v hv => by
        simp only [sFr, List.mem_cons, List.not_mem_nil, or_false] at hv
        rcases hv with rfl | rfl | rfl | rfl | rfl | rfl | rfl | rfl | rfl | rfl
        · exact NA.lt (by omega)
        all_goals rfl)
    refine this.mono fun ex z hz => ?_
    obtain ⟨rfl, ⟨g', q1⟩, q2⟩ := hz
    subst hO' h0
    exact ⟨rfl, ⟨g', q1⟩, q2⟩
  · simp only at ht hh
    subst ht hh
    have r0 := NA.row (hs2' (wU O) x) rfl
    have hchk : appChk tU (wU O, tU) ([.int .u32 (IntKind.u32.wrap ((sv A b k i).tmod 65536))], tU) i 0 1 = true :=
      appChk_of (L := O) (M := [IntKind.u32.wrap ((sv A b k i).tmod 65536)]) hO.symm (show 0 < 1 by omega) (by show O.length + 1 ≤ _; omega)
    have fin : RunsW (tabH Try.prog extY conN hcV) (sLoop Try.f45) (sFr p n c b e (sl 1 0 i grown) k i ++ tl 31 g, hs2' (wU O) x, s) fun ex z => ex = none ∧ (∃ g, z.1 = [.slice p n c, .int .u32 ((b : Nat) : Int), .int .u32 ((e : Nat) : Int), undef, undef, undef, nilS, sl 3 0 (i + 1) grown, .int .u64 (IntKind.u64.wrap ((sv A b k i).tdiv 65536)), .int .i64 (IntKind.i64.wrap ((i : Int) + 1))] ++ tl 31 g) ∧ z.2.1 = ⟨4, [(wU O ++ [.int .u32 (IntKind.u32.wrap ((sv A b k i).tmod 65536))], tU), ([.int .u32 (IntKind.u32.wrap ((sv A b k i).tmod 65536))], tU), ([], 2 * dead), x]⟩ := by
      match w, hw1, hl with
      | 0, _, hl =>
        have := goesT_runsW (tabH_ok conN_ok hcV_ok) (s0 := s) (usm_some0 p n c i b e k i x (wU O) g) (by rw [r0.2]; exact okW hchk (okW rfl (okW r0.1 hl)))
        rw [r0.2] at this
        exact this
      | 1, _, hl =>
        have := goesT_runsW (tabH_ok conN_ok hcV_ok) (s0 := s) (usm_some1 p n c i b e k i x (wU O) g) (by rw [r0.2]; exact okW hchk (okW rfl (okW r0.1 hl)))
        rw [r0.2] at this
        exact this
    rw [e1, e2, e3] at fin
    have ew : wU O ++ [.int .u32 (((k + dgN A i * b) % 65536 : Nat) : Int)] = wU (O ++ [(((k + dgN A i * b) % 65536 : Nat) : Int)]) := by rw [wU_append]; rfl
    rw [ew] at fin
    have := fin.kept (k := 1) (b := 3) (base := [x]) (y := (wU (O ++ [(((k + dgN A i * b) % 65536 : Nat) : Int)]), tU)) (front' := sFr p n c b e (sl 1 0 (i + 1) grown) ((k + dgN A i * b) / 65536) (i + 1)) rfl
      (by simp only [sFr, List.map_cons, List.map_nil, NA.rn (f := keepK 1 3) rfl]; kernel_rfl) (kept_one NA rfl) rfl (by omega) (wU_still _) (fun v hv => by
        simp only [sFr, List.mem_cons, List.not_mem_nil, or_false] at hv
        rcases hv with rfl | rfl | rfl | rfl | rfl | rfl | rfl | rfl | rfl | rfl
        · exact NA.lt (by omega)
        all_goals rfl)
    exact this
def sInvJ (x : List Value × TypeId) (p : Option Addr) (n c : Nat) (A : List Int) (b e m : Nat) (Y : Lf) : Prop :=
  ∃ (i k : Nat) (O : List Int), O.length = i ∧ m = n + 2 - i ∧ i ≤ n + 2 ∧ k < 4294967296 ∧ ((i = n + 1 → k < 65536) ∧ (i = n + 2 → k = 0)) ∧ (∀ x ∈ O, Dg 65536 x) ∧ vb 65536 O + 65536 ^ i * k = vb 65536 (A.take i) * b + e ∧ sStJ x p n c b e O i k Y
def sFinJ (x : List Value × TypeId) (p : Option Addr) (n c : Nat) (A : List Int) (b e : Nat) (Y : Lf) : Prop :=
  ∃ (i : Nat) (O : List Int), O.length = i ∧ i ≤ n + 2 ∧ (∀ x ∈ O, Dg 65536 x) ∧ vb 65536 O = vb 65536 A * b + e ∧ n ≤ i ∧ sStJ x p n c b e O i 0 Y
theorem usm_loop (NA : Nu 0 x p n c A) (lA : A.length = n) (hA : ∀ x ∈ A, Dg 65536 x) {b e : Nat} (hb : b < 4294967296) (he : e < 4294967296) (hn : n + 3 < 1073741824) (g : Nat → Value) :
    RunsW (tabH Try.prog extY conN hcV) (.block 0 (.loop (sLoop Try.f45))) (sFr p n c b e nilS e 0 ++ tl 31 g, hs1' x, []) fun ex Y => match ex with | none => sFinJ x p n c A b e Y | some none => False | some (some _) => False := by
  refine RunsW.forLoop (P := sFinJ x p n c A b e) (R := fun _ => False) (sInvJ x p n c A b e) ?_ (n := n + 2) ⟨0, e, [], rfl, by omega, by omega, he, ⟨by omega, by omega⟩, (fun x hx => by cases hx), by simp [vb], .inl ⟨rfl, ⟨g, rfl⟩, rfl⟩⟩
  rintro m Y ⟨i, k, O, hO, hm, hi, hk, ⟨hk1, hk0⟩, hOd, hval, hY⟩
  by_cases hgo : i < n ∨ 0 < k
  · have hmx : i ≤ n + 1 := by
      rcases Nat.lt_or_ge i (n + 2) with h | h
      · omega
      · have : k = 0 := hk0 (by omega)
        omega
    have r := usm_round NA hA (e := e) hb hk (by omega) hO hgo hY
    refine r.mono fun ex z hz => ?_
    obtain ⟨rfl, z1, z2⟩ := hz
    have d1 := (dgN_lt hA i).1
    have hp : dgN A i * b ≤ 65535 * 4294967295 := Nat.mul_le_mul (by omega) (by omega)
    refine ⟨n + 2 - (i + 1), by omega, i + 1, (k + dgN A i * b) / 65536, O ++ [(((k + dgN A i * b) % 65536 : Nat) : Int)], by simp [hO], rfl, by omega, by omega, ⟨fun he' => ?_, fun he' => ?_⟩, fun x hx => ?_, small_step hO hval, .inr ⟨by omega, z1, z2⟩⟩
    · have z1 : dgN A i = 0 := dgN_out (by omega)
      rw [z1]
      omega
    · have z1 : dgN A i = 0 := dgN_out (by omega)
      have := hk1 (by omega)
      rw [z1]
      omega
    · rcases List.mem_append.1 hx with hx | hx
      · exact hOd x hx
      · rw [List.mem_singleton.1 hx]
        exact ⟨by omega, by omega⟩
  · have hk : k = 0 := by omega
    subst hk
    have ha : n ≤ i := by omega
    have out : ∀ (v : Value) (h : Hp) (g : Nat → Value) (s : List Dec), RunsW (tabH Try.prog extY conN hcV) (sLoop Try.f45) (sFr p n c b e v 0 i ++ tl 31 g, h, s) fun ex z => ex = some (some 0) ∧ (∃ g, z.1 = sFr p n c b e v 0 i ++ tl 31 g) ∧ z.2.1 = h := fun v h g s =>
      goesT_runsW (tabH_ok conN_ok hcV_ok) (usm_out p n c b e 0 i v h g) (okW rfl (okOne (decide_eq_false (by omega))))
    have hv : vb 65536 O = vb 65536 A * b + e := by
      rw [List.take_of_length_le (by omega)] at hval
      omega
    obtain ⟨t, h', s⟩ := Y
    rcases hY with ⟨h0, ⟨g, ht⟩, hh⟩ | ⟨h0, ⟨g, ht⟩, hh⟩
    · simp only at ht hh
      subst ht hh
      refine (out nilS _ g s).mono fun ex z hz => ?_
      obtain ⟨rfl, z1, z2⟩ := hz
      exact ⟨rfl, i, O, hO, hi, hOd, hv, ha, .inl ⟨h0, z1, z2⟩⟩
    · simp only at ht hh
      subst ht hh
      refine (out (sl 1 0 i grown) _ g s).mono fun ex z hz => ?_
      obtain ⟨rfl, z1, z2⟩ := hz
      exact ⟨rfl, i, O, hO, hi, hOd, hv, ha, .inr ⟨h0, z1, z2⟩⟩
theorem usm_runs (NA : Nu 0 x p n c A) (lA : A.length = n) (hA : ∀ x ∈ A, Dg 65536 x) {b e : Nat} (hb : b < 4294967296) (he : e < 4294967296) (hn : n + 3 < 1073741824) (h0 : 0 < n ∨ 0 < e) {V : Nat} (hV : V = vb 65536 A * b + e) :
    RunsW (tabH Try.prog extY conN hcV) (seqs (sPre Try.f45) (.seq (.seq (sR3J Try.f45) (.block 0 (.loop (sLoop Try.f45)))) (sEnd Try.f45))) ([.slice p n c, .int .u32 ((b : Nat) : Int), .int .u32 ((e : Nat) : Int)] ++ List.replicate 38 undef, hs1' x, []) fun ex z => (ex = none ∨ ex = some none) ∧ resS Try.prog Try.f45 z.1 z.2.1 = some (sl 1 0 (d16 V).length (d16 V).length) ∧ ∃ r, z.2.1.blk? 1 = some (wU (d16 V) ++ r, tU) := by
  refine goesT_listW (tabH_ok conN_ok hcV_ok) (usm_pre p n c b e (hs1' x)) (fun x hx => by cases hx) fun g => ?_
  have ee : IntKind.u64.wrap ((e : Nat) : Int) = ((e : Nat) : Int) := wrap64s (by omega) (by omega)
  rw [ee]
  refine seqW3 (goesT_runsW (tabH_ok conN_ok hcV_ok) (usm_r3 p n c b e e (hs1' x) g) (fun x hx => by cases hx)) (fun ex y he => by cases he.1) (P2 := fun ex Y => match ex with | none => sFinJ x p n c A b e Y | some none => False | some (some _) => False) ?_ ?_ ?_
  · rintro ⟨t, h', s⟩ ⟨_, ⟨g', ht⟩, hh⟩
    simp only at ht hh
    subst ht hh
    exact RunsW.script (usm_loop NA lA hA hb he hn g')
  · intro ex y hy
    match ex, hy with
    | none, hy => exact hy
    | some id, hy => exact hy
  · rintro ⟨t, h', s⟩ ⟨i, O, hO, hi, hOd, hv, ha, hY⟩
    rcases hY with ⟨e0, _⟩ | ⟨_, ⟨g', ht⟩, hh⟩
    · exfalso
      have hO' : O = [] := List.length_eq_zero_iff.1 (by omega)
      rw [hO'] at hv
      have : vb 65536 [] = 0 := rfl
      omega
    · simp only at ht hh
      subst ht hh
      have hrow : rowC tU (wU O) 0 i grown = true := by
        rw [← hO]
        exact rowC_wU (fun x hx => ⟨(hOd x hx).1, by have := (hOd x hx).2; omega⟩) (by omega) (capG _)
      refine (goesT_runsW (tabH_ok conN_ok hcV_ok) (usm_end p n c i b e 0 i x (wU O) g') (okOne hrow)).mono fun ex z hz => ?_
      obtain ⟨rfl, ⟨g2, e1⟩, e2⟩ := hz
      have et : trimN (cutI (wU O) 0 i) = (d16 V).length := by
        rw [← hO, cut_wU, trim_len (by omega) hOd, hv, ← hV]
        rfl
      refine ⟨.inr rfl, ?_, ?_⟩
      · rw [e1, e2, et]
        rfl
      · rw [e2]
        refine ⟨wU (O.drop (trimN O)), ?_⟩
        have e3 : wU (d16 V) ++ wU (O.drop (trimN O)) = wU O := by
          unfold d16
          rw [hV, ← hv, ← take_trim (by omega) _ hOd, ← wU_append, List.take_append_drop]
        rw [e3]
        rfl
theorem rows_hs1 (NA : Nu 0 x p n c A) : (hs1' x).rows := by
  refine ⟨rfl, fun b z hz => ?_⟩
  have hb : b = 0 := by have : b < 1 := Hp.blk_lt hz; omega
  subst hb
  have : z = x := (Option.some.inj hz).symm
  subst this
  exact ⟨NA.ros.1, NA.lt0, NA.ros.2⟩
theorem fits_hs1 {h : Hp} {a : Nat} (hx : tomb x.2 = false → ∃ z r, h.blk? a = some z ∧ tomb z.2 = false ∧ rt z.2 = rt x.2 ∧ z.1 = x.1 ++ r) : (hs1' x).fits (fun _ => a) h := by
  intro i z hz ht
  have hb : i = 0 := by have : i < 1 := Hp.blk_lt hz; omega
  subst hb
  have : z = x := (Option.some.inj hz).symm
  subst this
  exact hx ht
end
theorem usm_body1 : Try.f45.body = some (cBody Try.f45) := by kernel_rfl
def okSml (h : Hp) (p : Option Addr) (n c : Nat) (b e : Int) : Bool := rowP h p n c && dgB (rowOf h p n) && Nat.blt (n + 3) 1073741824 && decide ((0 ≤ b ∧ b < 4294967296) ∧ (0 ≤ e ∧ e < 4294967296))
def gUsm : AnsH := fun vals h s =>
  match vals, s with
  | [.slice p n c, .int .u32 b, .int .u32 e], .inr (.inr (.inr (.inl d))) :: s' =>
    match d with
    | true => mk16 (vO h p n * b.toNat + e.toNat) h s' [(okSml h p n c b e, true), (decide (0 < n ∨ 0 < e), true)]
    | false => some (nilS, h, s', [(okSml h p n c b e, true), (decide (0 < n ∨ 0 < e), false)])
  | _, _ => none
theorem gUsm_ok : AnsHOk 45 gUsm := by
  intro vals h s v h' s' lg hg hl m B w E hv
  unfold gUsm at hg
  split at hg
  · rename_i p n c b e d s2
    have key : okSml h p n c b e = true → ∃ b' e' : Nat, b = (b' : Int) ∧ e = (e' : Int) ∧ b' < 4294967296 ∧ e' < 4294967296 ∧ rowP h p n c = true ∧ (∀ x ∈ rowOf h p n, Dg 65536 x) ∧ n + 3 < 1073741824 := fun hk => by
      simp only [okSml, Bool.and_eq_true, decide_eq_true_eq] at hk
      obtain ⟨⟨⟨r1, r2⟩, r3⟩, r4⟩ := hk
      exact ⟨b.toNat, e.toNat, by omega, by omega, by omega, by omega, r1, dgB_of r2, blt_iff.1 r3⟩
    split at hg
    · unfold mk16 at hg
      cases hg
      have q1 := hl _ (List.mem_cons_self)
      have q2 := hl _ (List.mem_cons_of_mem _ (List.mem_singleton.2 rfl))
      simp only [decide_eq_true_eq] at q2
      obtain ⟨b', e', rfl, rfl, hb, he, r1, r2, r3⟩ := key q1
      rw [Int.toNat_natCast, Int.toNat_natCast]
      obtain ⟨x, p', a, NA, eA, fA⟩ := nu_of 0 r1
      have r := usm_runs NA (rowOf_len r1) r2 hb he r3 (by omega) rfl
      have := row_calls1 (T := tabH Try.prog extY conN hcV) Try.func45 usm_body (rows_hs1 NA) (vals := [.slice p' n c, .int .u32 ((b' : Nat) : Int), .int .u32 ((e' : Nat) : Int)]) (fun v hv => by
        simp only [List.mem_cons, List.not_mem_nil, or_false] at hv
        rcases hv with rfl | rfl | rfl
        · exact NA.lt (by show 0 < 1; omega)
        all_goals rfl) (k := 1) (cs := wU (d16 (vO h p n * b' + e'))) (ty := tU) (wU_lt _) (by kernel_rfl) r (by rfl) E (s := fun _ => a) (fits_hs1 fA)
      simp only [List.map_cons, List.map_nil] at this
      rw [eA _ rfl] at this
      exact this
    · cases hg
      have q1 := hl _ (List.mem_cons_self)
      have q2 := hl _ (List.mem_cons_of_mem _ (List.mem_singleton.2 rfl))
      simp only [decide_eq_false_iff_not] at q2
      obtain ⟨b', e', rfl, rfl, hb, he, r1, r2, r3⟩ := key q1
      obtain ⟨x, p', a, NA, eA, fA⟩ := nu_of 0 r1
      have hr : Runs (tabH Try.prog extY conN hcV) (cBody Try.f45) ([.slice p' n c, .int .u32 ((b' : Nat) : Int), .int .u32 ((e' : Nat) : Int)] ++ List.replicate 38 undef, hs1' x, []) fun ex z => (ex = none ∨ ex = some none) ∧ resS Try.prog Try.f45 z.1 z.2.1 = some nilS := by
        refine (goesT_runs (tabH_ok conN_ok hcV_ok) (usm_empty p' n c b' e' _) (okW (decide_eq_false (by rw [wrap64s (by omega) (by omega)]; omega)) (okOne (decide_eq_false (by omega))))).mono fun ex z he => ?_
        obtain ⟨rfl, ⟨g, e2⟩, e3⟩ := he
        refine ⟨.inr rfl, ?_⟩
        rw [e2, e3]
        rfl
      have := row_calls0 (T := tabH Try.prog extY conN hcV) Try.func45 usm_body1 (rows_hs1 NA) (vals := [.slice p' n c, .int .u32 ((b' : Nat) : Int), .int .u32 ((e' : Nat) : Int)]) (fun v hv => by
        simp only [List.mem_cons, List.not_mem_nil, or_false] at hv
        rcases hv with rfl | rfl | rfl
        · exact NA.lt (by show 0 < 1; omega)
        all_goals rfl) (v := nilS) (by rfl) hr.w E (s := fun _ => a) (fits_hs1 fA)
      simp only [List.map_cons, List.map_nil] at this
      rw [eA _ rfl] at this
      exact this
  · cases hg
end Go.Proofs.Ytbcpnpchioncbaa

/-
  PLAIN ARITHMETIC: a part of a quotient, guessed by the first parts of 16 bits: never too little.
-/
namespace Go.Nt
set_option maxRecDepth 100000

theorem getD_db : ∀ (i V : Nat), ((db 65536 V).getD i 0).toNat = V / 65536 ^ i % 65536
  | i, V => by
    by_cases hV : V = 0
    · rw [hV, db_zero]; simp
    · rw [db_pos (by omega) hV]
      cases i with
      | zero => simp; omega
      | succ i =>
        have := getD_db i (V / 65536)
        rw [List.getD_cons_succ, this, Nat.div_div_eq_div_mul, Nat.pow_succ, Nat.mul_comm (65536 ^ i)]
theorem two_w {c : Nat} (h : c < 4294967296) : c / 65536 % 65536 * 65536 + c % 65536 = c := by omega
theorem three_w {v : Nat} (h : v < 281474976710656) : v / 4294967296 % 65536 * 4294967296 + v / 65536 % 65536 * 65536 + v % 65536 = v := by
  have h1 : v / 4294967296 < 65536 := by omega
  have h2 : v / 4294967296 = v / 65536 / 65536 := by rw [Nat.div_div_eq_div_mul]
  rw [Nat.mod_eq_of_lt h1, h2]
  omega
theorem one_w {v : Nat} (h : v < 4294967296) : v / 65536 % 65536 * 4294967296 + v % 65536 * 65536 + 0 = v * 65536 := by omega
/-- the three parts of a number from the (n-2)nd on, the two of its divisor -/
def topP (V n : Nat) : Nat := (V / 65536 ^ n % 65536) * 4294967296 + (V / 65536 ^ (n - 1) % 65536) * 65536 + (if 2 ≤ n then V / 65536 ^ (n - 2) % 65536 else 0)
def topB (B n : Nat) : Nat := (B / 65536 ^ (n - 1) % 65536) * 65536 + (if 2 ≤ n then B / 65536 ^ (n - 2) % 65536 else 0)
theorem top_ok {V B n : Nat} (hn : 1 ≤ n) (h0 : 65536 ^ (n - 1) ≤ B) (h1 : B < 65536 ^ n) (hV : V < 65536 * B) : 0 < topB B n ∧ topB B n < 4294967296 ∧ topP V n < 281474976710656 ∧ V / B ≤ topP V n / topB B n ∧ V / B < 65536 := by
  have hp : 0 < 65536 ^ (n - 1) := Nat.pow_pos (by omega)
  have hB : 0 < B := by omega
  have hd : V / B < 65536 := by rw [Nat.div_lt_iff_lt_mul hB]; exact hV
  have b1 : topB B n < 4294967296 := by
    have := Nat.mod_lt (B / 65536 ^ (n - 1)) (show 0 < 65536 by omega)
    have := Nat.mod_lt (B / 65536 ^ (n - 2)) (show 0 < 65536 by omega)
    unfold topB; split <;> omega
  have b2 : topP V n < 281474976710656 := by
    have := Nat.mod_lt (V / 65536 ^ n) (show 0 < 65536 by omega)
    have := Nat.mod_lt (V / 65536 ^ (n - 1)) (show 0 < 65536 by omega)
    have := Nat.mod_lt (V / 65536 ^ (n - 2)) (show 0 < 65536 by omega)
    unfold topP; split <;> omega
  by_cases h2 : 2 ≤ n
  · obtain ⟨k, rfl⟩ : ∃ k, n = k + 2 := ⟨n - 2, by omega⟩
    have e1 : k + 2 - 1 = k + 1 := by omega
    have e2 : k + 2 - 2 = k := by omega
    rw [e1] at h0
    unfold topP topB at *
    rw [e1, e2, if_pos h2] at *
    rw [if_pos h2] at *
    have hw : 0 < 65536 ^ k := Nat.pow_pos (by omega)
    -- in units of 65536 ^ k
    have dv : ∀ x j : Nat, x / 65536 ^ (k + j) = x / 65536 ^ k / 65536 ^ j := fun x j => by rw [Nat.pow_add, Nat.div_div_eq_div_mul]
    rw [dv V 2, dv V 1, dv B 1] at *
    have p1 : (65536 : Nat) ^ 1 = 65536 := rfl
    have p2 : (65536 : Nat) ^ 2 = 4294967296 := rfl
    rw [p1, p2] at *
    have hBw : B / 65536 ^ k < 4294967296 := by
      rw [Nat.div_lt_iff_lt_mul hw]
      have : 65536 ^ (k + 2) = 4294967296 * 65536 ^ k := by rw [Nat.pow_add, p2, Nat.mul_comm]
      omega
    have hBl : 65536 ≤ B / 65536 ^ k := by
      rw [Nat.le_div_iff_mul_le hw]
      have : 65536 ^ (k + 1) = 65536 * 65536 ^ k := by rw [Nat.pow_add, p1, Nat.mul_comm]
      omega
    have hVw : V / 65536 ^ k < 281474976710656 := by
      rw [Nat.div_lt_iff_lt_mul hw]
      have : 65536 ^ (k + 2) = 4294967296 * 65536 ^ k := by rw [Nat.pow_add, p2, Nat.mul_comm]
      omega
    have hm : V / B * (B / 65536 ^ k) ≤ V / 65536 ^ k := by
      rw [Nat.le_div_iff_mul_le hw, Nat.mul_assoc]
      have h3 : B / 65536 ^ k * 65536 ^ k ≤ B := Nat.div_mul_le_self _ _
      have h4 := Nat.mul_le_mul_left (V / B) h3
      have h5 := Nat.div_mul_le_self V B
      omega
    generalize V / 65536 ^ k = v at *
    generalize B / 65536 ^ k = c at *
    have ec := two_w hBw
    have ev := three_w hVw
    rw [ec, ev]
    have hc : 0 < c := Nat.lt_of_lt_of_le (by decide) hBl
    refine ⟨hc, hBw, hVw, ?_, hd⟩
    rw [Nat.le_div_iff_mul_le hc]
    exact hm
  · have e : n = 1 := by omega
    subst e
    unfold topP topB at *
    rw [if_neg h2] at *
    rw [if_neg h2] at *
    have p1 : (65536 : Nat) ^ 1 = 65536 := rfl
    have p0 : (65536 : Nat) ^ (1 - 1) = 1 := rfl
    rw [p1] at *
    rw [p0] at *
    rw [Nat.div_one] at *
    rw [Nat.div_one] at *
    have hB1 : B < 65536 := h1
    have hV1 : V < 4294967296 := Nat.lt_of_lt_of_le hV (Nat.mul_le_mul_left 65536 (Nat.le_of_lt hB1))
    have eB : B % 65536 * 65536 + 0 = B * 65536 := by rw [Nat.mod_eq_of_lt hB1, Nat.add_zero]
    have eV := one_w hV1
    rw [eB, eV]
    rw [eB] at b1
    rw [eV] at b2
    refine ⟨Nat.mul_pos hB (by decide), b1, b2, ?_, hd⟩
    rw [Nat.mul_div_mul_right _ _ (by decide)]
    exact Nat.le_refl _
theorem can_lo {L : List Int} (hC : Canon 65536 L) (h : 1 ≤ L.length) : 65536 ^ (L.length - 1) ≤ vb 65536 L := by
  rcases Nat.lt_or_ge (vb 65536 L) (65536 ^ (L.length - 1)) with h1 | h1
  · have := db_len (b := 65536) (by omega) _ _ h1
    rw [db_can (by omega) hC] at this
    omega
  · exact h1
/-- all parts from the i-th on -/
theorem vb_dropP {L : List Int} {i : Nat} (h : i < L.length) : vb 65536 (L.drop i) = (L.getD i 0).toNat + 65536 * vb 65536 (L.drop (i + 1)) := by
  rw [List.drop_eq_getElem_cons h]
  simp only [vb]
  simp [List.getD, List.getElem?_eq_getElem h]
end Go.Nt
