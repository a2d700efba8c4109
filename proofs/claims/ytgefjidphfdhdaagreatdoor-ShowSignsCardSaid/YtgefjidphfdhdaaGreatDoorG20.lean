/-
  Con3, ShN, ShM, ShG
-/
import Derived.Test.YtgefjidphfdhdaaGreatDoorG19
import Derived.Lib.Walk
import Derived.Lib.ItoaMem
import Derived.BigCall
import Derived.BigGuard
namespace Go.Proofs.YtgefjidphfdhdaaGreatDoor
open Go.KRun Go.Wd
/-! ### Len64 -/
/-- the table of the library: how many bits a byte has -/
def lenTab : List UInt8 := (List.range 256).map fun i => UInt8.ofNat (bitLen i)
def byteLen (z : Int) : Int := ((lenTab.getD (IntKind.u8.wrap z).toNat 0).toNat : Int)
def lt8 (z : Int) : Bool × Bool := (decide (0 ≤ IntKind.u8.wrap z ∧ (IntKind.u8.wrap z).toNat < lenTab.length), true)
def sh (z : Int) (k : Nat) : Int := z.fdiv (2 ^ k)
def ge (z k : Int) (d : Bool) : Bool × Bool := (decide (z ≥ k), d)
def lenE (m z : Int) : Value := .int .i64 (IntKind.i64.wrap (m + IntKind.i64.wrap (byteLen z)))
def nz : Bool × Bool := (false, false)
theorem len_000 (u : Int) : Fits (reckon (tabOf Tryz.prog extY conN true) 3000 161 [.int .u64 u] [tst false, tst false, tst false]) (lenE 0 u) [lt8 u, ge u 256 false, ge u 65536 false, ge u 4294967296 false] := ⟨by kernel_rfl, by kernel_rfl, by kernel_rfl, by kernel_rfl⟩
theorem len_001 (u : Int) : Fits (reckon (tabOf Tryz.prog extY conN true) 3000 161 [.int .u64 u] [tst false, tst false, tst true]) (lenE 8 (sh u 8)) [lt8 (sh u 8), nz, ge u 256 true, ge u 65536 false, ge u 4294967296 false] := ⟨by kernel_rfl, by kernel_rfl, by kernel_rfl, by kernel_rfl⟩
theorem len_010 (u : Int) : Fits (reckon (tabOf Tryz.prog extY conN true) 3000 161 [.int .u64 u] [tst false, tst true, tst false]) (lenE 16 (sh u 16)) [lt8 (sh u 16), ge (sh u 16) 256 false, nz, ge u 65536 true, ge u 4294967296 false] := ⟨by kernel_rfl, by kernel_rfl, by kernel_rfl, by kernel_rfl⟩
theorem len_011 (u : Int) : Fits (reckon (tabOf Tryz.prog extY conN true) 3000 161 [.int .u64 u] [tst false, tst true, tst true]) (lenE 24 (sh (sh u 16) 8)) [lt8 (sh (sh u 16) 8), nz, ge (sh u 16) 256 true, nz, ge u 65536 true, ge u 4294967296 false] := ⟨by kernel_rfl, by kernel_rfl, by kernel_rfl, by kernel_rfl⟩
theorem len_100 (u : Int) : Fits (reckon (tabOf Tryz.prog extY conN true) 3000 161 [.int .u64 u] [tst true, tst false, tst false]) (lenE 32 (sh u 32)) [lt8 (sh u 32), ge (sh u 32) 256 false, ge (sh u 32) 65536 false, nz, ge u 4294967296 true] := ⟨by kernel_rfl, by kernel_rfl, by kernel_rfl, by kernel_rfl⟩
theorem len_101 (u : Int) : Fits (reckon (tabOf Tryz.prog extY conN true) 3000 161 [.int .u64 u] [tst true, tst false, tst true]) (lenE 40 (sh (sh u 32) 8)) [lt8 (sh (sh u 32) 8), nz, ge (sh u 32) 256 true, ge (sh u 32) 65536 false, nz, ge u 4294967296 true] := ⟨by kernel_rfl, by kernel_rfl, by kernel_rfl, by kernel_rfl⟩
theorem len_110 (u : Int) : Fits (reckon (tabOf Tryz.prog extY conN true) 3000 161 [.int .u64 u] [tst true, tst true, tst false]) (lenE 48 (sh (sh u 32) 16)) [lt8 (sh (sh u 32) 16), ge (sh (sh u 32) 16) 256 false, nz, ge (sh u 32) 65536 true, nz, ge u 4294967296 true] := ⟨by kernel_rfl, by kernel_rfl, by kernel_rfl, by kernel_rfl⟩
theorem len_111 (u : Int) : Fits (reckon (tabOf Tryz.prog extY conN true) 3000 161 [.int .u64 u] [tst true, tst true, tst true]) (lenE 56 (sh (sh (sh u 32) 16) 8)) [lt8 (sh (sh (sh u 32) 16) 8), nz, ge (sh (sh u 32) 16) 256 true, nz, ge (sh u 32) 65536 true, nz, ge u 4294967296 true] := ⟨by kernel_rfl, by kernel_rfl, by kernel_rfl, by kernel_rfl⟩
theorem lenTab_len : lenTab.length = 256 := by unfold lenTab; rw [List.length_map, List.length_range]
theorem lenTab_get (b : Nat) (h : b < 256) : (lenTab.getD b 0).toNat = bitLen b := by
  have h1 : lenTab.getD b 0 = UInt8.ofNat (bitLen b) := by
    unfold lenTab
    rw [List.getD, List.getElem?_map, List.getElem?_range h]
    rfl
  have h2 := bitLen_le8 b h
  rw [h1, UInt8.toNat_ofNat']
  omega
theorem u8_wrap {z : Int} (h0 : 0 ≤ z) (h1 : z < 256) : IntKind.u8.wrap z = z := by
  simp [IntKind.wrap, IntKind.bits, IntKind.signed]; omega
theorem lenE_eq {m : Int} {Z : Nat} (hm : 0 ≤ m) (hm' : m ≤ 56) (h1 : Z < 256) : lenE m (Z : Int) = .int .i64 (m + bitLen Z) ∧ (lt8 (Z : Int)).1 = (lt8 (Z : Int)).2 := by
  have hb := bitLen_le8 Z h1
  have e := u8_wrap (z := (Z : Int)) (by omega) (by omega)
  refine ⟨?_, ?_⟩
  · unfold lenE byteLen
    rw [e, Int.toNat_natCast, lenTab_get Z h1, wrap_i64' (n := ((bitLen Z : Nat) : Int)) (by omega) (by omega), wrap_i64' (by omega) (by omega)]
  · unfold lt8
    rw [e, Int.toNat_natCast]
    rw [lenTab_len]
    exact decide_eq_true (And.intro (by omega) h1)
theorem sh_eq (Z k : Nat) : sh (Z : Int) k = ((Z / 2 ^ k : Nat) : Int) := by
  unfold sh
  rw [Int.fdiv_eq_ediv_of_nonneg _ (Int.le_of_lt (Int.pow_pos (by omega)))]
  simp
theorem ge_t {z k : Int} (h : k ≤ z) : (ge z k true).1 = (ge z k true).2 := decide_eq_true h
theorem ge_f {z k : Int} (h : z < k) : (ge z k false).1 = (ge z k false).2 := decide_eq_false (by omega)
theorem nz_ok : nz.1 = nz.2 := rfl
theorem len_up (x b : Nat) (h : 2 ^ b ≤ x) : bitLen x = b + bitLen (x / 2 ^ b) := bitLen_shift x b (by
  have : 0 < x / 2 ^ b := Nat.div_pos h (Nat.two_pow_pos b)
  omega)
def len64V (u : Int) : Value := .int .i64 (bitLen u.toNat : Nat)
set_option maxRecDepth 100000 in
theorem len64_calls (u : Int) (h0 : 0 ≤ u) (h1 : u < 18446744073709551616) (w : World) : Calls Tryz.prog 161 #[.int .u64 u] w fun e w' => e = .returned (len64V u) ∧ Tidy w w' := by
  obtain ⟨U, rfl⟩ := Int.eq_ofNat_of_zero_le h0
  unfold len64V
  rw [Int.toNat_natCast]
  have p8 : (2 : Nat) ^ 8 = 256 := rfl
  have p16 : (2 : Nat) ^ 16 = 65536 := rfl
  have p32 : (2 : Nat) ^ 32 = 4294967296 := rfl
  have step : ∀ {v : Value} {m : Int} {Z : Nat} {s : List Dec} {cs : Log}, Fits (reckon (tabOf Tryz.prog extY conN true) 3000 161 [.int .u64 (U : Int)] s) v cs → okLog cs → v = .int .i64 (bitLen U : Nat) → Calls Tryz.prog 161 #[.int .u64 (U : Int)] w fun e w' => e = .returned (.int .i64 (bitLen U : Nat)) ∧ Tidy w w' :=
    fun {v m Z s cs} hf hc hv => by subst hv; exact fits_calls (tabY_ok conN_ok) hf hc (by rfl) (by rfl) w
  by_cases a : U < 4294967296
  · by_cases b : U < 65536
    · by_cases c : U < 256
      · obtain ⟨e1, e2⟩ := lenE_eq (m := 0) (by omega) (by omega) c
        exact step (m := 0) (Z := 0) (len_000 U) (okPC e2 (okPC (ge_f (by omega)) (okPC (ge_f (by omega)) (okP1 (ge_f (by omega)))))) (by rw [e1]; congr 1; omega)
      · have l := len_up U 8 (by omega)
        obtain ⟨e1, e2⟩ := lenE_eq (m := 8) (Z := U / 2 ^ 8) (by omega) (by omega) (by omega)
        rw [← sh_eq] at e1 e2
        exact step (m := 0) (Z := 0) (len_001 U) (okPC e2 (okPC nz_ok (okPC (ge_t (by omega)) (okPC (ge_f (by omega)) (okP1 (ge_f (by omega))))))) (by rw [e1]; congr 1; omega)
    · have l := len_up U 16 (by omega)
      by_cases c : U / 2 ^ 16 < 256
      · obtain ⟨e1, e2⟩ := lenE_eq (m := 16) (Z := U / 2 ^ 16) (by omega) (by omega) c
        rw [← sh_eq] at e1 e2
        exact step (m := 0) (Z := 0) (len_010 U) (okPC e2 (okPC (ge_f (by rw [sh_eq]; omega)) (okPC nz_ok (okPC (ge_t (by omega)) (okP1 (ge_f (by omega))))))) (by rw [e1]; congr 1; omega)
      · have l2 := len_up (U / 2 ^ 16) 8 (by omega)
        obtain ⟨e1, e2⟩ := lenE_eq (m := 24) (Z := U / 2 ^ 16 / 2 ^ 8) (by omega) (by omega) (by omega)
        rw [← sh_eq, ← sh_eq] at e1 e2
        exact step (m := 0) (Z := 0) (len_011 U) (okPC e2 (okPC nz_ok (okPC (ge_t (by rw [sh_eq]; omega)) (okPC nz_ok (okPC (ge_t (by omega)) (okP1 (ge_f (by omega)))))))) (by rw [e1]; congr 1; omega)
  · have l0 := len_up U 32 (by omega)
    have q : U / 2 ^ 32 < 4294967296 := by omega
    by_cases b : U / 2 ^ 32 < 65536
    · by_cases c : U / 2 ^ 32 < 256
      · obtain ⟨e1, e2⟩ := lenE_eq (m := 32) (Z := U / 2 ^ 32) (by omega) (by omega) c
        rw [← sh_eq] at e1 e2
        exact step (m := 0) (Z := 0) (len_100 U) (okPC e2 (okPC (ge_f (by rw [sh_eq]; omega)) (okPC (ge_f (by rw [sh_eq]; omega)) (okPC nz_ok (okP1 (ge_t (by omega))))))) (by rw [e1]; congr 1; omega)
      · have l := len_up (U / 2 ^ 32) 8 (by omega)
        obtain ⟨e1, e2⟩ := lenE_eq (m := 40) (Z := U / 2 ^ 32 / 2 ^ 8) (by omega) (by omega) (by omega)
        rw [← sh_eq, ← sh_eq] at e1 e2
        exact step (m := 0) (Z := 0) (len_101 U) (okPC e2 (okPC nz_ok (okPC (ge_t (by rw [sh_eq]; omega)) (okPC (ge_f (by rw [sh_eq]; omega)) (okPC nz_ok (okP1 (ge_t (by omega)))))))) (by rw [e1]; congr 1; omega)
    · have l := len_up (U / 2 ^ 32) 16 (by omega)
      by_cases c : U / 2 ^ 32 / 2 ^ 16 < 256
      · obtain ⟨e1, e2⟩ := lenE_eq (m := 48) (Z := U / 2 ^ 32 / 2 ^ 16) (by omega) (by omega) c
        rw [← sh_eq, ← sh_eq] at e1 e2
        exact step (m := 0) (Z := 0) (len_110 U) (okPC e2 (okPC (ge_f (by rw [sh_eq, sh_eq]; omega)) (okPC nz_ok (okPC (ge_t (by rw [sh_eq]; omega)) (okPC nz_ok (okP1 (ge_t (by omega)))))))) (by rw [e1]; congr 1; omega)
      · have l2 := len_up (U / 2 ^ 32 / 2 ^ 16) 8 (by omega)
        obtain ⟨e1, e2⟩ := lenE_eq (m := 56) (Z := U / 2 ^ 32 / 2 ^ 16 / 2 ^ 8) (by omega) (by omega) (by omega)
        rw [← sh_eq, ← sh_eq, ← sh_eq] at e1 e2
        exact step (m := 0) (Z := 0) (len_111 U) (okPC e2 (okPC nz_ok (okPC (ge_t (by rw [sh_eq, sh_eq]; omega)) (okPC nz_ok (okPC (ge_t (by rw [sh_eq]; omega)) (okPC nz_ok (okP1 (ge_t (by omega))))))))) (by rw [e1]; congr 1; omega)
/-! ### Len -/
/-- of a word -/
def gu (k : Int → Value) : Ans := fun vals s =>
  match vals with
  | [.int .u64 u] => some (k u, s, [(decide (0 ≤ u ∧ u < 18446744073709551616), true)])
  | _ => none
theorem gu_ok {f : Nat} {k : Int → Value} (hk : ∀ u, 0 ≤ u → u < 18446744073709551616 → ∀ w, Calls Tryz.prog f #[.int .u64 u] w fun e w' => e = .returned (k u) ∧ Tidy w w') : AnsOk f (gu k) := by
  intro vals s v s' lg h hl w
  unfold gu at h
  split at h
  · cases h
    have h1 := hl _ (List.mem_singleton.2 rfl)
    simp only [decide_eq_true_eq] at h1
    exact hk _ h1.1 h1.2 w
  · cases h
def conL : Con := alt 161 (gu len64V) conN
theorem conL_ok : ConOk conL := alt_ok Tryz.func161 rfl (gu_ok len64_calls) conN_ok
/-! ### Bit -/
end Go.Proofs.YtgefjidphfdhdaaGreatDoor
namespace Go.Proofs.YtgefjidphfdhdaaGreatDoor
open Go.KRun Go.Nt Go.Rd Go.Wd Go.Pt
set_option maxRecDepth 100000
set_option linter.unusedVariables false
theorem lb14 (m : Bool) (c e q : Int) : Fits (reckon (tabOf Tryz.prog extY conL true) 200 115 [vP m c e q] []) (.int .i64 ((IntKind.i64.wrap (IntKind.i64.wrap (IntKind.i64.wrap (e + ((Go.bitLen q.toNat : Nat) : Int)) - 1) * 78913)).fdiv 262144)) [(false, false), (decide (0 ≤ q ∧ q < 18446744073709551616), true)] := ⟨by kernel_rfl, by kernel_rfl, by kernel_rfl, by kernel_rfl⟩
def okF14 (E q : Int) : Bool := decide (1 ≤ q ∧ q < 9007199254740992 ∧ -1074 ≤ E ∧ E ≤ 972)
def gLgb : Ans := fun vals s =>
  match vals with
  | [v] =>
    match vP4 v with
    | some (_, _, E, q) => some (.int .i64 (lgS q.toNat E), s, [(okF14 E q, true)])
    | none => none
  | _ => none
theorem gLgb_ok : AnsOk 115 gLgb := by
  intro vals s v s' lg h hl w
  unfold gLgb at h
  split at h
  · split at h
    · rename_i o m c E q hv
      rw [vP4_spec hv]
      cases h
      obtain ⟨h1, h2, h3, h4⟩ := of_decide_eq_true (hl _ (List.mem_singleton.2 rfl))
      have hb : bitLen q.toNat ≤ 53 := Go.Rn.len_le (k := 53) (show q.toNat < 9007199254740992 by omega)
      have f := lb14 m c E q
      rw [wrapI (n := E + ((Go.bitLen q.toNat : Nat) : Int)) (by omega) (by omega), wrapI (n := E + ((Go.bitLen q.toNat : Nat) : Int) - 1) (by omega) (by omega), wrapI (by omega) (by omega), Int.fdiv_eq_ediv_of_nonneg _ (by omega)] at f
      exact fits_calls (tabY_ok conL_ok) f (okCons rfl (okL1 (decide_eq_true (by omega)))) (by rfl) (by rfl) w
    · cases h
  · cases h
def conSg : Con := alt 115 gLgb conN
theorem conSg_ok : ConOk conSg := alt_ok Tryz.func115 rfl gLgb_ok conN_ok
def hcSg : Hc := altH 117 gTim (altH 76 Na.gPowN (altH 77 Na.gShlT hcN))
theorem hcSg_ok : HcOk hcSg := altH_ok Tryz.func117 rfl gTim_ok (altH_ok Tryz.func76 rfl Na.gPowN_ok (altH_ok Tryz.func77 rfl Na.gShlT_ok hcN_ok))
theorem tabSg : TabOk (tabH Tryz.prog extY conSg hcSg) := tabH_ok conSg_ok hcSg_ok
/-! ### the memory -/
def spT (e q : Int) : Int := IntKind.i64.wrap (lgS q.toNat e - 17)
def spN (e q : Int) : Int := IntKind.i64.wrap (0 - spT e q)
def spW (e : Int) : Int := IntKind.i64.wrap (e - 2)
def spcP (e q : Int) : Nat := Na.pMi 10 (mx0 (spN e q))
def spcQ (e q : Int) : Nat := Na.pMi 10 (mx0 (IntKind.i64.wrap (0 - spN e q)))
def spcO (e q : Int) (P : Nat) : Nat := Na.sM (t14 (spcP e q) P) (mx0 (spW e))
def spcU (e q : Int) (P' : Nat) : Nat := Na.sM (t14 (spcQ e q) P') (mx0 (IntKind.i64.wrap (0 - spW e)))
def vSp (l h a : Int) (d : Bool) (t : Int) : Value := .agg #[.int .u64 l, .int .u64 h, .int .u64 a, .bool d, .int .i64 t]
def bSp (l h a : Int) (d : Bool) (t : Int) : List Value × TypeId := ([.int .u64 l, .int .u64 h, .int .u64 a, .bool d, .int .i64 t], 102)
def bPa (m : Bool) (c e q : Int) : List Value × TypeId := ([.bool m, .int .i64 c, .int .i64 e, .int .u64 q], 44)
def bSc (e q : Int) (P P' O U : Nat) : List Value × TypeId := ([sl 6 0 (t14 (spcO e q P) O) (spcO e q P), sl 7 0 (t14 (spcU e q P') U) (spcU e q P')], 168)
def spM5 (m : Bool) (c e q : Int) (P P' : Nat) : Hp := ⟨6, [r14 (spcQ e q) P', r14 (spcP e q) P, ([.slice none 0 0, .slice none 0 0], 168), bSp 0 0 0 false (spT e q), bSp 0 0 0 false 0, bPa m c e q]⟩
def spM6 (m : Bool) (c e q : Int) (P P' O : Nat) : Hp := ⟨7, [r14 (spcO e q P) O, r14 (spcQ e q) P', r14 (spcP e q) P, ([.slice none 0 0, .slice none 0 0], 168), bSp 0 0 0 false (spT e q), bSp 0 0 0 false 0, bPa m c e q]⟩
def spM8 (m : Bool) (c e q : Int) (P P' O U : Nat) (l a : Int) (d : Bool) : Hp := ⟨9, [bSc e q P P' O U, r14 (spcU e q P') U, r14 (spcO e q P) O, r14 (spcQ e q) P', r14 (spcP e q) P, bSc e q P P' O U, bSp l 0 a d (spT e q), bSp 0 0 0 false 0, bPa m c e q]⟩
def lTi (e q : Int) (P P' O U : Nat) (H : Hp) (x : Int) (V : Nat) (d : Bool) (l : Log) : Log := (isRB H (a14 6) (t14 (spcO e q P) O) (spcO e q P) O, true) :: (isRB H (a14 7) (t14 (spcU e q P') U) (spcU e q P') U, true) :: (decide (((x.toNat * O / U : Nat) : Int) = (V : Int)), true) :: (decide (x.toNat * O % U ≠ 0), d) :: (decide (1 ≤ x ∧ x < 18446744073709551616 ∧ O ≠ 0 ∧ U ≠ 0 ∧ (4294967296 : Int) ≤ (V : Int) ∧ (V : Int) < 18446744073709551616), true) :: l
def lPre (m : Bool) (c e q : Int) (P P' O U : Nat) (cl : Bool) (l : Log) : Log := (q.tmod 2 == 0, cl) :: (decide ((2 : Int) = 0), false) :: lSh14 (spM6 m c e q P P' O) (a14 5) (t14 (spcQ e q) P') (spcQ e q) (mx0 (IntKind.i64.wrap (0 - spW e))) U (lSh14 (spM5 m c e q P P') (a14 4) (t14 (spcP e q) P) (spcP e q) (mx0 (spW e)) O (lPw14 10 (mx0 (IntKind.i64.wrap (0 - spN e q))) P' (lPw14 10 (mx0 (spN e q)) P ((okF14 e q, true) :: l))))
def sp4 (q : Int) : Int := IntKind.u64.wrap (4 * q)
def spHi (q : Int) : Int := IntKind.u64.wrap (sp4 q + 2)
def spLo (pw : Bool) (q : Int) : Int := if pw = true then IntKind.u64.wrap (sp4 q - 1) else IntKind.u64.wrap (sp4 q - 2)
def lPo (e q : Int) (k : Nat) : Log := match k with | 0 => [(q == 4503599627370496, false)] | 1 => [(decide (e > -1074), true), (q == 4503599627370496, true)] | _ => [(decide (e > -1074), false), (q == 4503599627370496, true)]
/-- one way: the step below, whether the ends are in, whether something is lost of either end -/
def lSp14 (m : Bool) (c e q : Int) (P P' O U A L H : Nat) (d0 : Bool) (k : Nat) (cl d1 d2 : Bool) (L' : Int) : Log := lTi e q P P' O U (spM8 m c e q P P' O U L' A d0) (spHi q) H d2 (lTi e q P P' O U (spM8 m c e q P P' O U 0 A d0) (spLo (Nat.beq k 1) q) L d1 (lTi e q P P' O U (spM8 m c e q P P' O U 0 0 false) (sp4 q) A d0 (lPre m c e q P P' O U cl (lPo e q k))))
theorem sp14_0ttt (m : Bool) (c e q : Int) (P P' O U A L H : Nat) (d0 : Bool) : Fits (reckon (tabH Tryz.prog extY conSg hcSg) 200 60 [vP m c e q] [cmp false, cmp false, cmp false, num P, cmp false, cmp false, num P', cmp false, cmp false, cmp false, num O, cmp false, cmp false, cmp false, num U, cmp false, cmp true, num O, num U, num A, cmp d0, num O, num U, num L, cmp true, num O, num U, num H, cmp true]) (vSp (IntKind.u64.wrap (L + 1)) (H : Int) A d0 (spT e q)) (lSp14 m c e q P P' O U A L H d0 0 true true true (IntKind.u64.wrap (L + 1))) := ⟨by kernel_rfl, by kernel_rfl, by kernel_rfl, by kernel_rfl⟩
theorem sp14_0ttf (m : Bool) (c e q : Int) (P P' O U A L H : Nat) (d0 : Bool) : Fits (reckon (tabH Tryz.prog extY conSg hcSg) 200 60 [vP m c e q] [cmp false, cmp false, cmp false, num P, cmp false, cmp false, num P', cmp false, cmp false, cmp false, num O, cmp false, cmp false, cmp false, num U, cmp false, cmp true, num O, num U, num A, cmp d0, num O, num U, num L, cmp true, num O, num U, num H, cmp false]) (vSp (IntKind.u64.wrap (L + 1)) (H : Int) A d0 (spT e q)) (lSp14 m c e q P P' O U A L H d0 0 true true false (IntKind.u64.wrap (L + 1))) := ⟨by kernel_rfl, by kernel_rfl, by kernel_rfl, by kernel_rfl⟩
theorem sp14_0tft (m : Bool) (c e q : Int) (P P' O U A L H : Nat) (d0 : Bool) : Fits (reckon (tabH Tryz.prog extY conSg hcSg) 200 60 [vP m c e q] [cmp false, cmp false, cmp false, num P, cmp false, cmp false, num P', cmp false, cmp false, cmp false, num O, cmp false, cmp false, cmp false, num U, cmp false, cmp true, num O, num U, num A, cmp d0, num O, num U, num L, cmp false, num O, num U, num H, cmp true]) (vSp (L : Int) (H : Int) A d0 (spT e q)) (lSp14 m c e q P P' O U A L H d0 0 true false true (L : Int)) := ⟨by kernel_rfl, by kernel_rfl, by kernel_rfl, by kernel_rfl⟩
theorem sp14_0tff (m : Bool) (c e q : Int) (P P' O U A L H : Nat) (d0 : Bool) : Fits (reckon (tabH Tryz.prog extY conSg hcSg) 200 60 [vP m c e q] [cmp false, cmp false, cmp false, num P, cmp false, cmp false, num P', cmp false, cmp false, cmp false, num O, cmp false, cmp false, cmp false, num U, cmp false, cmp true, num O, num U, num A, cmp d0, num O, num U, num L, cmp false, num O, num U, num H, cmp false]) (vSp (L : Int) (H : Int) A d0 (spT e q)) (lSp14 m c e q P P' O U A L H d0 0 true false false (L : Int)) := ⟨by kernel_rfl, by kernel_rfl, by kernel_rfl, by kernel_rfl⟩
theorem sp14_0ftt (m : Bool) (c e q : Int) (P P' O U A L H : Nat) (d0 : Bool) : Fits (reckon (tabH Tryz.prog extY conSg hcSg) 200 60 [vP m c e q] [cmp false, cmp false, cmp false, num P, cmp false, cmp false, num P', cmp false, cmp false, cmp false, num O, cmp false, cmp false, cmp false, num U, cmp false, cmp false, num O, num U, num A, cmp d0, num O, num U, num L, cmp true, num O, num U, num H, cmp true]) (vSp (IntKind.u64.wrap (L + 1)) (H : Int) A d0 (spT e q)) (lSp14 m c e q P P' O U A L H d0 0 false true true (IntKind.u64.wrap (L + 1))) := ⟨by kernel_rfl, by kernel_rfl, by kernel_rfl, by kernel_rfl⟩
theorem sp14_0ftf (m : Bool) (c e q : Int) (P P' O U A L H : Nat) (d0 : Bool) : Fits (reckon (tabH Tryz.prog extY conSg hcSg) 200 60 [vP m c e q] [cmp false, cmp false, cmp false, num P, cmp false, cmp false, num P', cmp false, cmp false, cmp false, num O, cmp false, cmp false, cmp false, num U, cmp false, cmp false, num O, num U, num A, cmp d0, num O, num U, num L, cmp true, num O, num U, num H, cmp false]) (vSp (IntKind.u64.wrap (L + 1)) (IntKind.u64.wrap (H - 1)) A d0 (spT e q)) (lSp14 m c e q P P' O U A L H d0 0 false true false (IntKind.u64.wrap (L + 1))) := ⟨by kernel_rfl, by kernel_rfl, by kernel_rfl, by kernel_rfl⟩
theorem sp14_0fft (m : Bool) (c e q : Int) (P P' O U A L H : Nat) (d0 : Bool) : Fits (reckon (tabH Tryz.prog extY conSg hcSg) 200 60 [vP m c e q] [cmp false, cmp false, cmp false, num P, cmp false, cmp false, num P', cmp false, cmp false, cmp false, num O, cmp false, cmp false, cmp false, num U, cmp false, cmp false, num O, num U, num A, cmp d0, num O, num U, num L, cmp false, num O, num U, num H, cmp true]) (vSp (IntKind.u64.wrap (L + 1)) (H : Int) A d0 (spT e q)) (lSp14 m c e q P P' O U A L H d0 0 false false true (IntKind.u64.wrap (L + 1))) := ⟨by kernel_rfl, by kernel_rfl, by kernel_rfl, by kernel_rfl⟩
theorem sp14_0fff (m : Bool) (c e q : Int) (P P' O U A L H : Nat) (d0 : Bool) : Fits (reckon (tabH Tryz.prog extY conSg hcSg) 200 60 [vP m c e q] [cmp false, cmp false, cmp false, num P, cmp false, cmp false, num P', cmp false, cmp false, cmp false, num O, cmp false, cmp false, cmp false, num U, cmp false, cmp false, num O, num U, num A, cmp d0, num O, num U, num L, cmp false, num O, num U, num H, cmp false]) (vSp (IntKind.u64.wrap (L + 1)) (IntKind.u64.wrap (H - 1)) A d0 (spT e q)) (lSp14 m c e q P P' O U A L H d0 0 false false false (IntKind.u64.wrap (L + 1))) := ⟨by kernel_rfl, by kernel_rfl, by kernel_rfl, by kernel_rfl⟩
theorem sp14_1ttt (m : Bool) (c e q : Int) (P P' O U A L H : Nat) (d0 : Bool) : Fits (reckon (tabH Tryz.prog extY conSg hcSg) 200 60 [vP m c e q] [cmp true, cmp true, cmp false, cmp false, num P, cmp false, cmp false, num P', cmp false, cmp false, cmp false, num O, cmp false, cmp false, cmp false, num U, cmp false, cmp true, num O, num U, num A, cmp d0, num O, num U, num L, cmp true, num O, num U, num H, cmp true]) (vSp (IntKind.u64.wrap (L + 1)) (H : Int) A d0 (spT e q)) (lSp14 m c e q P P' O U A L H d0 1 true true true (IntKind.u64.wrap (L + 1))) := ⟨by kernel_rfl, by kernel_rfl, by kernel_rfl, by kernel_rfl⟩
theorem sp14_1ttf (m : Bool) (c e q : Int) (P P' O U A L H : Nat) (d0 : Bool) : Fits (reckon (tabH Tryz.prog extY conSg hcSg) 200 60 [vP m c e q] [cmp true, cmp true, cmp false, cmp false, num P, cmp false, cmp false, num P', cmp false, cmp false, cmp false, num O, cmp false, cmp false, cmp false, num U, cmp false, cmp true, num O, num U, num A, cmp d0, num O, num U, num L, cmp true, num O, num U, num H, cmp false]) (vSp (IntKind.u64.wrap (L + 1)) (H : Int) A d0 (spT e q)) (lSp14 m c e q P P' O U A L H d0 1 true true false (IntKind.u64.wrap (L + 1))) := ⟨by kernel_rfl, by kernel_rfl, by kernel_rfl, by kernel_rfl⟩
theorem sp14_1tft (m : Bool) (c e q : Int) (P P' O U A L H : Nat) (d0 : Bool) : Fits (reckon (tabH Tryz.prog extY conSg hcSg) 200 60 [vP m c e q] [cmp true, cmp true, cmp false, cmp false, num P, cmp false, cmp false, num P', cmp false, cmp false, cmp false, num O, cmp false, cmp false, cmp false, num U, cmp false, cmp true, num O, num U, num A, cmp d0, num O, num U, num L, cmp false, num O, num U, num H, cmp true]) (vSp (L : Int) (H : Int) A d0 (spT e q)) (lSp14 m c e q P P' O U A L H d0 1 true false true (L : Int)) := ⟨by kernel_rfl, by kernel_rfl, by kernel_rfl, by kernel_rfl⟩
theorem sp14_1tff (m : Bool) (c e q : Int) (P P' O U A L H : Nat) (d0 : Bool) : Fits (reckon (tabH Tryz.prog extY conSg hcSg) 200 60 [vP m c e q] [cmp true, cmp true, cmp false, cmp false, num P, cmp false, cmp false, num P', cmp false, cmp false, cmp false, num O, cmp false, cmp false, cmp false, num U, cmp false, cmp true, num O, num U, num A, cmp d0, num O, num U, num L, cmp false, num O, num U, num H, cmp false]) (vSp (L : Int) (H : Int) A d0 (spT e q)) (lSp14 m c e q P P' O U A L H d0 1 true false false (L : Int)) := ⟨by kernel_rfl, by kernel_rfl, by kernel_rfl, by kernel_rfl⟩
theorem sp14_2ttt (m : Bool) (c e q : Int) (P P' O U A L H : Nat) (d0 : Bool) : Fits (reckon (tabH Tryz.prog extY conSg hcSg) 200 60 [vP m c e q] [cmp true, cmp false, cmp false, cmp false, num P, cmp false, cmp false, num P', cmp false, cmp false, cmp false, num O, cmp false, cmp false, cmp false, num U, cmp false, cmp true, num O, num U, num A, cmp d0, num O, num U, num L, cmp true, num O, num U, num H, cmp true]) (vSp (IntKind.u64.wrap (L + 1)) (H : Int) A d0 (spT e q)) (lSp14 m c e q P P' O U A L H d0 2 true true true (IntKind.u64.wrap (L + 1))) := ⟨by kernel_rfl, by kernel_rfl, by kernel_rfl, by kernel_rfl⟩
theorem sp14_2ttf (m : Bool) (c e q : Int) (P P' O U A L H : Nat) (d0 : Bool) : Fits (reckon (tabH Tryz.prog extY conSg hcSg) 200 60 [vP m c e q] [cmp true, cmp false, cmp false, cmp false, num P, cmp false, cmp false, num P', cmp false, cmp false, cmp false, num O, cmp false, cmp false, cmp false, num U, cmp false, cmp true, num O, num U, num A, cmp d0, num O, num U, num L, cmp true, num O, num U, num H, cmp false]) (vSp (IntKind.u64.wrap (L + 1)) (H : Int) A d0 (spT e q)) (lSp14 m c e q P P' O U A L H d0 2 true true false (IntKind.u64.wrap (L + 1))) := ⟨by kernel_rfl, by kernel_rfl, by kernel_rfl, by kernel_rfl⟩
theorem sp14_2tft (m : Bool) (c e q : Int) (P P' O U A L H : Nat) (d0 : Bool) : Fits (reckon (tabH Tryz.prog extY conSg hcSg) 200 60 [vP m c e q] [cmp true, cmp false, cmp false, cmp false, num P, cmp false, cmp false, num P', cmp false, cmp false, cmp false, num O, cmp false, cmp false, cmp false, num U, cmp false, cmp true, num O, num U, num A, cmp d0, num O, num U, num L, cmp false, num O, num U, num H, cmp true]) (vSp (L : Int) (H : Int) A d0 (spT e q)) (lSp14 m c e q P P' O U A L H d0 2 true false true (L : Int)) := ⟨by kernel_rfl, by kernel_rfl, by kernel_rfl, by kernel_rfl⟩
theorem sp14_2tff (m : Bool) (c e q : Int) (P P' O U A L H : Nat) (d0 : Bool) : Fits (reckon (tabH Tryz.prog extY conSg hcSg) 200 60 [vP m c e q] [cmp true, cmp false, cmp false, cmp false, num P, cmp false, cmp false, num P', cmp false, cmp false, cmp false, num O, cmp false, cmp false, cmp false, num U, cmp false, cmp true, num O, num U, num A, cmp d0, num O, num U, num L, cmp false, num O, num U, num H, cmp false]) (vSp (L : Int) (H : Int) A d0 (spT e q)) (lSp14 m c e q P P' O U A L H d0 2 true false false (L : Int)) := ⟨by kernel_rfl, by kernel_rfl, by kernel_rfl, by kernel_rfl⟩
end Go.Proofs.YtgefjidphfdhdaaGreatDoor
namespace Go.Proofs.YtgefjidphfdhdaaGreatDoor
open Go.KRun Go.Nt Go.Rd Go.Wd Go.Pt
set_option maxRecDepth 100000
def sAt (S : Nat) (E j : Int) : Nat := sp14F E j (4 * S)
def sMo (S : Nat) (E j : Int) : Bool := sp14R E j (4 * S)
def sLo (S : Nat) (E j : Int) : Nat := sp14F E j (mdL S E) + (if sp14R E j (mdL S E) = true ∨ S % 2 = 1 then 1 else 0)
def sHi (S : Nat) (E j : Int) : Nat := sp14F E j (mdH S) - (if sp14R E j (mdH S) = false ∧ S % 2 = 1 then 1 else 0)
theorem sAt_bd {S : Nat} {E : Int} (h0 : S ≠ 0) (hE : -1074 ≤ E) (hE1 : E ≤ 972) (hS : S < 9007199254740992) : (100000000000000000 * unN14 E (lgS S E - 17) ≤ 4 * S * ovN E (lgS S E - 17) ∧ 4 * S * ovN E (lgS S E - 17) < 10000000000000000000 * unN14 E (lgS S E - 17)) ∧ -400 ≤ lgS S E - 17 ∧ lgS S E - 17 ≤ 300 := by
  obtain ⟨bd, h1, h2⟩ := lgS_bd h0 hE hE1 hS
  obtain ⟨j, hj⟩ : ∃ j, j = lgS S E - 17 := ⟨_, rfl⟩
  have hb := pbN_pos E (-j)
  have hu := unN_pos E j
  have a := part_ge (a := 1) 17 (by rw [Nat.one_mul]; exact h1)
  have b := part_lt (a := 1) 19 (by rw [Nat.one_mul]; exact h2)
  rw [show -(lgS S E) + ((17 : Nat) : Int) = -j by omega, Nat.one_mul] at a
  rw [show -(lgS S E + 2) + ((19 : Nat) : Int) = -j by omega, Nat.one_mul] at b
  have e17 : (10 : Nat) ^ 17 = 100000000000000000 := rfl
  have e19 : (10 : Nat) ^ 19 = 10000000000000000000 := rfl
  rw [e17] at a
  rw [e19] at b
  have hc := at_cross S E j
  rw [← hj]
  refine ⟨⟨?_, ?_⟩, by omega, by omega⟩
  · refine Nat.le_of_mul_le_mul_right (c := pbN E (-j)) ?_ hb
    rw [hc]
    have := Nat.mul_le_mul_right (unN14 E j) a
    have e : 100000000000000000 * unN14 E j * pbN E (-j) = 100000000000000000 * pbN E (-j) * unN14 E j := by ac_rfl
    rw [e]
    exact this
  · refine Nat.lt_of_mul_lt_mul_right (a := pbN E (-j)) ?_
    rw [hc]
    have := Nat.mul_lt_mul_of_pos_right b hu
    have e : 10000000000000000000 * unN14 E j * pbN E (-j) = 10000000000000000000 * pbN E (-j) * unN14 E j := by ac_rfl
    rw [e]
    exact this
/-- any number of the pattern's size is of eighteen digits or so -/
theorem sF_bd {S : Nat} {E : Int} (h0 : S ≠ 0) (hE : -1074 ≤ E) (hE1 : E ≤ 972) (hS : S < 9007199254740992) {x : Nat} (h1 : 2 * S ≤ x) (h2 : x ≤ 6 * S) : 50000000000000000 ≤ sp14F E (lgS S E - 17) x ∧ sp14F E (lgS S E - 17) x < 15000000000000000000 := by
  obtain ⟨⟨a, b⟩, _⟩ := sAt_bd h0 hE hE1 hS
  obtain ⟨j, hj⟩ : ∃ j, j = lgS S E - 17 := ⟨_, rfl⟩
  rw [← hj] at a b ⊢
  have hu := unN_pos E j
  unfold sp14F
  have m1 := Nat.mul_le_mul_right (ovN E j) h1
  have m2 := Nat.mul_le_mul_right (ovN E j) h2
  obtain ⟨X, hX⟩ : ∃ X, X = S * ovN E j := ⟨_, rfl⟩
  have e4 : 4 * S * ovN E j = 4 * X := by rw [hX, Nat.mul_assoc]
  have e2 : 2 * S * ovN E j = 2 * X := by rw [hX, Nat.mul_assoc]
  have e6 : 6 * S * ovN E j = 6 * X := by rw [hX, Nat.mul_assoc]
  rw [e4] at a b
  rw [e2] at m1
  rw [e6] at m2
  obtain ⟨Y, hY⟩ : ∃ Y, Y = x * ovN E j := ⟨_, rfl⟩
  obtain ⟨u, hu0⟩ : ∃ u, u = unN14 E j := ⟨_, rfl⟩
  rw [← hY] at m1 m2 ⊢
  rw [← hu0] at a b hu ⊢
  exact ⟨(Nat.le_div_iff_mul_le hu).2 (by omega), (Nat.div_lt_iff_lt_mul hu).2 (by omega)⟩
theorem lTi_ok {e q : Int} {P P' O U : Nat} {H : Hp} {x V : Nat} {d : Bool} (r1 : Na.IsR H (a14 6) (t14 (spcO e q P) O) (spcO e q P) O) (r2 : Na.IsR H (a14 7) (t14 (spcU e q P') U) (spcU e q P') U) (n1 : t14 (spcO e q P) O ≤ 300) (n2 : t14 (spcU e q P') U ≤ 300) (hO : O ≠ 0) (hU : U ≠ 0) (hx : 1 ≤ x ∧ x < 18446744073709551616) (hV : x * O / U = V) (hb : 4294967296 ≤ V ∧ V < 18446744073709551616) (hd : decide (x * O % U ≠ 0) = d) {l : Log} (hl : okLog l) : okLog (lTi e q P P' O U H (x : Nat) V d l) := by
  unfold lTi
  rw [Int.toNat_natCast]
  exact okCons (isRB_mk r1 n1) (okCons (isRB_mk r2 n2) (okCons (decide_eq_true (by rw [hV])) (okCons hd (okCons (decide_eq_true ⟨by omega, by omega, hO, hU, by omega, by omega⟩) hl))))
theorem u64w {z : Int} (h0 : 0 ≤ z) (h1 : z < 18446744073709551616) : IntKind.u64.wrap z = z := by
  simp [IntKind.wrap, IntKind.bits, IntKind.signed]
  omega
theorem sp_calls (m : Bool) (c E : Int) (S : Nat) (h0 : S ≠ 0) (hS : S < 9007199254740992) (hE : -1074 ≤ E) (hE1 : E ≤ 972) (w : World) : Calls Tryz.prog 60 #[vP m c E S] w fun r w' => r = .returned (vSp (sLo S E (lgS S E - 17)) (sHi S E (lgS S E - 17)) (sAt S E (lgS S E - 17)) (sMo S E (lgS S E - 17)) (lgS S E - 17)) ∧ Tidy w w' := by
  obtain ⟨_, j1, j2⟩ := sAt_bd h0 hE hE1 hS
  have bA := sF_bd h0 hE hE1 hS (x := 4 * S) (by omega) (by omega)
  have mL : 2 * S ≤ mdL S E ∧ mdL S E ≤ 6 * S := by unfold mdL; split <;> omega
  have mH : 2 * S ≤ mdH S ∧ mdH S ≤ 6 * S := by unfold mdH; omega
  have bL := sF_bd h0 hE hE1 hS (x := mdL S E) mL.1 mL.2
  have bH := sF_bd h0 hE hE1 hS (x := mdH S) mH.1 mH.2
  obtain ⟨j, hj⟩ : ∃ j, j = lgS S E - 17 := ⟨_, rfl⟩
  rw [← hj] at j1 j2 bA bL bH ⊢
  have eT : spT E S = j := by unfold spT; rw [Int.toNat_natCast, ← hj, wrapI (by omega) (by omega)]
  obtain ⟨a, ha⟩ : ∃ a, a = (-j).toNat := ⟨_, rfl⟩
  obtain ⟨b, hb⟩ : ∃ b, b = j.toNat := ⟨_, rfl⟩
  obtain ⟨k, hk⟩ : ∃ k, k = (E - 2).toNat := ⟨_, rfl⟩
  obtain ⟨g, hg⟩ : ∃ g, g = (2 - E).toNat := ⟨_, rfl⟩
  have eN : mx0 (spN E S) = ((a : Nat) : Int) := by unfold spN; rw [eT, wrapI (by omega) (by omega), mx0_nat]; omega
  have eN' : mx0 (IntKind.i64.wrap (0 - spN E S)) = ((b : Nat) : Int) := by unfold spN; rw [eT, wrapI (n := 0 - j) (by omega) (by omega), wrapI (by omega) (by omega), mx0_nat]; omega
  have eW : mx0 (spW E) = ((k : Nat) : Int) := by unfold spW; rw [wrapI (by omega) (by omega), mx0_nat, hk]
  have eW' : mx0 (IntKind.i64.wrap (0 - spW E)) = ((g : Nat) : Int) := by unfold spW; rw [wrapI (n := E - 2) (by omega) (by omega), wrapI (by omega) (by omega), mx0_nat]; omega
  obtain ⟨P, hP⟩ : ∃ P, P = 10 ^ a := ⟨_, rfl⟩
  obtain ⟨P', hP'⟩ : ∃ P', P' = 10 ^ b := ⟨_, rfl⟩
  obtain ⟨O, hO⟩ : ∃ O, O = P * 2 ^ k := ⟨_, rfl⟩
  obtain ⟨U, hU⟩ : ∃ U, U = P' * 2 ^ g := ⟨_, rfl⟩
  have eO : ovN E j = O := by unfold ovN; rw [hO, hP, ← ha, ← hk, Nat.mul_comm]
  have eU : unN14 E j = U := by unfold unN14; rw [hU, hP', ← hb, ← hg, Nat.mul_comm]
  have P0 : P ≠ 0 := by rw [hP]; exact ten_ne a
  have P0' : P' ≠ 0 := by rw [hP']; exact ten_ne b
  have O0 : O ≠ 0 := by rw [hO]; exact mul_ne P0 (fun c => by have := Nat.pow_pos (n := k) (show 0 < 2 by omega); omega)
  have U0 : U ≠ 0 := by rw [hU]; exact mul_ne P0' (fun c => by have := Nat.pow_pos (n := g) (show 0 < 2 by omega); omega)
  -- the rows
  have cP : spcP E S = Na.pMi 10 ((a : Nat) : Int) := by unfold spcP; rw [eN]
  have cQ : spcQ E S = Na.pMi 10 ((b : Nat) : Int) := by unfold spcQ; rw [eN']
  obtain ⟨rP, lP⟩ := pow14 (H := spM5 m c E S P P') (i := 4) (b := 10) (k := a) (.inl rfl) (by omega) (by rw [← hP]; unfold spM5; rw [cP]; rfl)
  obtain ⟨rQ, lQ⟩ := pow14 (H := spM6 m c E S P P' O) (i := 5) (b := 10) (k := b) (.inl rfl) (by omega) (by rw [← hP']; unfold spM6; rw [cQ]; rfl)
  rw [← hP] at rP lP
  rw [← hP'] at rQ lQ
  have tP : t14 (Na.pMi 10 ((a : Nat) : Int)) P = (Na.d32 P).length := rP.2.2.2.1
  have tQ : t14 (Na.pMi 10 ((b : Nat) : Int)) P' = (Na.d32 P').length := rQ.2.2.2.1
  have cO : spcO E S P = k / 32 + ((Na.d32 P).length + 1) := by unfold spcO; rw [cP, eW, tP, sM14]
  have cU : spcU E S P' = g / 32 + ((Na.d32 P').length + 1) := by unfold spcU; rw [cQ, eW', tQ, sM14]
  have hOl : O < 4294967296 ^ spcO E S P := by
    have := shl14 (k := k) (Na.lt_w32 P)
    rw [sM14, ← hO] at this
    rw [cO]
    exact this
  have hUl : U < 4294967296 ^ spcU E S P' := by
    have := shl14 (k := g) (Na.lt_w32 P')
    rw [sM14, ← hU] at this
    rw [cU]
    exact this
  have tO : t14 (spcO E S P) O ≤ 300 := by
    have := trimN_le (dg (spcO E S P) (O : Int))
    rw [dg_len] at this
    unfold t14
    omega
  have tU' : t14 (spcU E S P') U ≤ 300 := by
    have := trimN_le (dg (spcU E S P') (U : Int))
    rw [dg_len] at this
    unfold t14
    omega
  have rO : ∀ l a d, Na.IsR (spM8 m c E S P P' O U l a d) (a14 6) (t14 (spcO E S P) O) (spcO E S P) O := fun l a d => Na.isRd rfl hOl (by omega)
  have rU : ∀ l a d, Na.IsR (spM8 m c E S P P' O U l a d) (a14 7) (t14 (spcU E S P') U) (spcU E S P') U := fun l a d => Na.isRd rfl hUl (by omega)
  -- the log, for every way
  have e4 : sp4 S = ((4 * S : Nat) : Int) := by unfold sp4; rw [u64w (by omega) (by omega)]; omega
  have eHi : spHi S = ((mdH S : Nat) : Int) := by unfold spHi mdH; rw [e4, u64w (by omega) (by omega)]; omega
  have okF14' : okF14 E S = true := decide_eq_true (by omega)
  have key : ∀ (i : Nat) (L' : Int), okLog (lPo E S i) → spLo (Nat.beq i 1) S = ((mdL S E : Nat) : Int) → okLog (lSp14 m c E S P P' O U (sp14F E j (4 * S)) (sp14F E j (mdL S E)) (sp14F E j (mdH S)) (sMo S E j) i (decide (S % 2 = 0)) (sp14R E j (mdL S E)) (sp14R E j (mdH S)) L') := by
    intro i L' hi hlo
    unfold lSp14
    rw [e4, eHi, hlo]
    have pre : okLog (lPre m c E S P P' O U (decide (S % 2 = 0)) (lPo E S i)) := by
      unfold lPre
      refine okCons ?_ (okCons rfl ?_)
      · rw [Int.tmod_eq_emod_of_nonneg (by omega)]
        have : ((((S : Nat) : Int) % 2 == 0) : Bool) = decide (((S : Nat) : Int) % 2 = 0) := rfl
        rw [this]
        exact decide_eq_decide.2 (by omega)
      · rw [eW', eW, eN', eN, cP, cQ]
        have l1 := lPw14_ok (b := 10) (k := a) (.inl rfl) (by omega) (okCons okF14' hi)
        have l2 := lPw14_ok (b := 10) (k := b) (.inl rfl) (by omega) l1
        rw [← hP, ← hP'] at l2
        have l3 := lSh14_ok rP P0 (k := k) (by omega) l2
        rw [← hO] at l3
        have l4 := lSh14_ok rQ P0' (k := g) (by omega) l3
        rw [← hU] at l4
        exact l4
    have mk : ∀ (x : Nat) (H : Hp) (l : Log), Na.IsR H (a14 6) (t14 (spcO E S P) O) (spcO E S P) O → Na.IsR H (a14 7) (t14 (spcU E S P') U) (spcU E S P') U → 2 * S ≤ x → x ≤ 6 * S → 50000000000000000 ≤ sp14F E j x ∧ sp14F E j x < 15000000000000000000 → okLog l → okLog (lTi E S P P' O U H (x : Nat) (sp14F E j x) (sp14R E j x) l) := by
      intro x H l r1 r2 x1 x2 hb hl
      refine lTi_ok r1 r2 tO tU' O0 U0 (by omega) ?_ (by omega) ?_ hl
      · unfold sp14F; rw [eO, eU]
      · unfold sp14R; rw [eO, eU]
    exact mk _ _ _ (rO _ _ _) (rU _ _ _) mH.1 mH.2 bH (mk _ _ _ (rO _ _ _) (rU _ _ _) mL.1 mL.2 bL (mk _ _ _ (rO _ _ _) (rU _ _ _) (by omega) (by omega) bA pre))
  have wL : IntKind.u64.wrap (((sp14F E j (mdL S E) : Nat) : Int) + 1) = ((sp14F E j (mdL S E) + 1 : Nat) : Int) := by rw [u64w (by omega) (by omega)]; omega
  have wH : IntKind.u64.wrap (((sp14F E j (mdH S) : Nat) : Int) - 1) = ((sp14F E j (mdH S) - 1 : Nat) : Int) := by rw [u64w (by omega) (by omega)]; omega
  have lo0 : ¬ (S = 4503599627370496 ∧ -1074 < E) → ∀ i, Nat.beq i 1 = false → spLo (Nat.beq i 1) S = ((mdL S E : Nat) : Int) := by
    intro hn i hi
    rw [hi]
    unfold spLo mdL
    rw [if_neg (by decide), if_neg hn, e4, u64w (by omega) (by omega)]
    omega
  unfold sLo sHi sAt
  by_cases h52 : S = 4503599627370496
  · have hev : S % 2 = 0 := by omega
    have hp : decide (S % 2 = 0) = true := decide_eq_true hev
    by_cases hEl : -1074 < E
    · have hi : okLog (lPo E S 1) := okCons (decide_eq_true (by omega)) (okL1 (beqR_t (by omega)))
      have hlo : spLo (Nat.beq 1 1) S = ((mdL S E : Nat) : Int) := by
        show spLo true S = _
        unfold spLo mdL
        rw [if_pos rfl, if_pos ⟨h52, hEl⟩, e4, u64w (by omega) (by omega)]
        omega
      cases hd1 : sp14R E j (mdL S E) with
      | true =>
        cases hd2 : sp14R E j (mdH S) with
        | true =>
          have f := sp14_1ttt m c E S P P' O U (sp14F E j (4 * S)) (sp14F E j (mdL S E)) (sp14F E j (mdH S)) (sMo S E j)
          have lg := key 1 (IntKind.u64.wrap (((sp14F E j (mdL S E) : Nat) : Int) + 1)) hi hlo
          rw [hd1, hd2, hp] at lg
          rw [wL, eT] at f
          rw [wL] at lg
          rw [if_pos (.inl rfl), if_neg (fun h => by cases h.1)]
          exact fits_calls tabSg f lg (by rfl) (by rfl) w
        | false =>
          have f := sp14_1ttf m c E S P P' O U (sp14F E j (4 * S)) (sp14F E j (mdL S E)) (sp14F E j (mdH S)) (sMo S E j)
          have lg := key 1 (IntKind.u64.wrap (((sp14F E j (mdL S E) : Nat) : Int) + 1)) hi hlo
          rw [hd1, hd2, hp] at lg
          rw [wL, eT] at f
          rw [wL] at lg
          rw [if_pos (.inl rfl), if_neg (fun h => by omega)]
          exact fits_calls tabSg f lg (by rfl) (by rfl) w
      | false =>
        cases hd2 : sp14R E j (mdH S) with
        | true =>
          have f := sp14_1tft m c E S P P' O U (sp14F E j (4 * S)) (sp14F E j (mdL S E)) (sp14F E j (mdH S)) (sMo S E j)
          have lg := key 1 (((sp14F E j (mdL S E) : Nat) : Int)) hi hlo
          rw [hd1, hd2, hp] at lg
          rw [eT] at f
          rw [if_neg (fun h => h.elim (fun h => by cases h) (fun h => by omega)), if_neg (fun h => by cases h.1)]
          exact fits_calls tabSg f lg (by rfl) (by rfl) w
        | false =>
          have f := sp14_1tff m c E S P P' O U (sp14F E j (4 * S)) (sp14F E j (mdL S E)) (sp14F E j (mdH S)) (sMo S E j)
          have lg := key 1 (((sp14F E j (mdL S E) : Nat) : Int)) hi hlo
          rw [hd1, hd2, hp] at lg
          rw [eT] at f
          rw [if_neg (fun h => h.elim (fun h => by cases h) (fun h => by omega)), if_neg (fun h => by omega)]
          exact fits_calls tabSg f lg (by rfl) (by rfl) w
    · have hi : okLog (lPo E S 2) := okCons (decide_eq_false (by omega)) (okL1 (beqR_t (by omega)))
      have hlo := lo0 (fun h => hEl h.2) 2 rfl
      cases hd1 : sp14R E j (mdL S E) with
      | true =>
        cases hd2 : sp14R E j (mdH S) with
        | true =>
          have f := sp14_2ttt m c E S P P' O U (sp14F E j (4 * S)) (sp14F E j (mdL S E)) (sp14F E j (mdH S)) (sMo S E j)
          have lg := key 2 (IntKind.u64.wrap (((sp14F E j (mdL S E) : Nat) : Int) + 1)) hi hlo
          rw [hd1, hd2, hp] at lg
          rw [wL, eT] at f
          rw [wL] at lg
          rw [if_pos (.inl rfl), if_neg (fun h => by cases h.1)]
          exact fits_calls tabSg f lg (by rfl) (by rfl) w
        | false =>
          have f := sp14_2ttf m c E S P P' O U (sp14F E j (4 * S)) (sp14F E j (mdL S E)) (sp14F E j (mdH S)) (sMo S E j)
          have lg := key 2 (IntKind.u64.wrap (((sp14F E j (mdL S E) : Nat) : Int) + 1)) hi hlo
          rw [hd1, hd2, hp] at lg
          rw [wL, eT] at f
          rw [wL] at lg
          rw [if_pos (.inl rfl), if_neg (fun h => by omega)]
          exact fits_calls tabSg f lg (by rfl) (by rfl) w
      | false =>
        cases hd2 : sp14R E j (mdH S) with
        | true =>
          have f := sp14_2tft m c E S P P' O U (sp14F E j (4 * S)) (sp14F E j (mdL S E)) (sp14F E j (mdH S)) (sMo S E j)
          have lg := key 2 (((sp14F E j (mdL S E) : Nat) : Int)) hi hlo
          rw [hd1, hd2, hp] at lg
          rw [eT] at f
          rw [if_neg (fun h => h.elim (fun h => by cases h) (fun h => by omega)), if_neg (fun h => by cases h.1)]
          exact fits_calls tabSg f lg (by rfl) (by rfl) w
        | false =>
          have f := sp14_2tff m c E S P P' O U (sp14F E j (4 * S)) (sp14F E j (mdL S E)) (sp14F E j (mdH S)) (sMo S E j)
          have lg := key 2 (((sp14F E j (mdL S E) : Nat) : Int)) hi hlo
          rw [hd1, hd2, hp] at lg
          rw [eT] at f
          rw [if_neg (fun h => h.elim (fun h => by cases h) (fun h => by omega)), if_neg (fun h => by omega)]
          exact fits_calls tabSg f lg (by rfl) (by rfl) w
  · have hi : okLog (lPo E S 0) := okL1 (beqR_f (by omega))
    have hlo := lo0 (fun h => h52 h.1) 0 rfl
    by_cases hev : S % 2 = 0
    · have hp : decide (S % 2 = 0) = true := decide_eq_true hev
      cases hd1 : sp14R E j (mdL S E) with
      | true =>
        cases hd2 : sp14R E j (mdH S) with
        | true =>
          have f := sp14_0ttt m c E S P P' O U (sp14F E j (4 * S)) (sp14F E j (mdL S E)) (sp14F E j (mdH S)) (sMo S E j)
          have lg := key 0 (IntKind.u64.wrap (((sp14F E j (mdL S E) : Nat) : Int) + 1)) hi hlo
          rw [hd1, hd2, hp] at lg
          rw [wL, eT] at f
          rw [wL] at lg
          rw [if_pos (.inl rfl), if_neg (fun h => by cases h.1)]
          exact fits_calls tabSg f lg (by rfl) (by rfl) w
        | false =>
          have f := sp14_0ttf m c E S P P' O U (sp14F E j (4 * S)) (sp14F E j (mdL S E)) (sp14F E j (mdH S)) (sMo S E j)
          have lg := key 0 (IntKind.u64.wrap (((sp14F E j (mdL S E) : Nat) : Int) + 1)) hi hlo
          rw [hd1, hd2, hp] at lg
          rw [wL, eT] at f
          rw [wL] at lg
          rw [if_pos (.inl rfl), if_neg (fun h => by omega)]
          exact fits_calls tabSg f lg (by rfl) (by rfl) w
      | false =>
        cases hd2 : sp14R E j (mdH S) with
        | true =>
          have f := sp14_0tft m c E S P P' O U (sp14F E j (4 * S)) (sp14F E j (mdL S E)) (sp14F E j (mdH S)) (sMo S E j)
          have lg := key 0 (((sp14F E j (mdL S E) : Nat) : Int)) hi hlo
          rw [hd1, hd2, hp] at lg
          rw [eT] at f
          rw [if_neg (fun h => h.elim (fun h => by cases h) (fun h => by omega)), if_neg (fun h => by cases h.1)]
          exact fits_calls tabSg f lg (by rfl) (by rfl) w
        | false =>
          have f := sp14_0tff m c E S P P' O U (sp14F E j (4 * S)) (sp14F E j (mdL S E)) (sp14F E j (mdH S)) (sMo S E j)
          have lg := key 0 (((sp14F E j (mdL S E) : Nat) : Int)) hi hlo
          rw [hd1, hd2, hp] at lg
          rw [eT] at f
          rw [if_neg (fun h => h.elim (fun h => by cases h) (fun h => by omega)), if_neg (fun h => by omega)]
          exact fits_calls tabSg f lg (by rfl) (by rfl) w
    · have hp : decide (S % 2 = 0) = false := decide_eq_false hev
      have hodd : S % 2 = 1 := by omega
      cases hd1 : sp14R E j (mdL S E) with
      | true =>
        cases hd2 : sp14R E j (mdH S) with
        | true =>
          have f := sp14_0ftt m c E S P P' O U (sp14F E j (4 * S)) (sp14F E j (mdL S E)) (sp14F E j (mdH S)) (sMo S E j)
          have lg := key 0 (IntKind.u64.wrap (((sp14F E j (mdL S E) : Nat) : Int) + 1)) hi hlo
          rw [hd1, hd2, hp] at lg
          rw [wL, eT] at f
          rw [wL] at lg
          rw [if_pos (.inl rfl), if_neg (fun h => by cases h.1)]
          exact fits_calls tabSg f lg (by rfl) (by rfl) w
        | false =>
          have f := sp14_0ftf m c E S P P' O U (sp14F E j (4 * S)) (sp14F E j (mdL S E)) (sp14F E j (mdH S)) (sMo S E j)
          have lg := key 0 (IntKind.u64.wrap (((sp14F E j (mdL S E) : Nat) : Int) + 1)) hi hlo
          rw [hd1, hd2, hp] at lg
          rw [wL, wH, eT] at f
          rw [wL] at lg
          rw [if_pos (.inl rfl), if_pos ⟨rfl, hodd⟩]
          exact fits_calls tabSg f lg (by rfl) (by rfl) w
      | false =>
        cases hd2 : sp14R E j (mdH S) with
        | true =>
          have f := sp14_0fft m c E S P P' O U (sp14F E j (4 * S)) (sp14F E j (mdL S E)) (sp14F E j (mdH S)) (sMo S E j)
          have lg := key 0 (IntKind.u64.wrap (((sp14F E j (mdL S E) : Nat) : Int) + 1)) hi hlo
          rw [hd1, hd2, hp] at lg
          rw [wL, eT] at f
          rw [wL] at lg
          rw [if_pos (.inr hodd), if_neg (fun h => by cases h.1)]
          exact fits_calls tabSg f lg (by rfl) (by rfl) w
        | false =>
          have f := sp14_0fff m c E S P P' O U (sp14F E j (4 * S)) (sp14F E j (mdL S E)) (sp14F E j (mdH S)) (sMo S E j)
          have lg := key 0 (IntKind.u64.wrap (((sp14F E j (mdL S E) : Nat) : Int) + 1)) hi hlo
          rw [hd1, hd2, hp] at lg
          rw [wL, wH, eT] at f
          rw [wL] at lg
          rw [if_pos (.inr hodd), if_pos ⟨rfl, hodd⟩]
          exact fits_calls tabSg f lg (by rfl) (by rfl) w
def gSpn : Ans := fun vals s =>
  match vals with
  | [v] =>
    match vP4 v with
    | some (_, _, E, q) => some (vSp (sLo q.toNat E (lgS q.toNat E - 17)) (sHi q.toNat E (lgS q.toNat E - 17)) (sAt q.toNat E (lgS q.toNat E - 17)) (sMo q.toNat E (lgS q.toNat E - 17)) (lgS q.toNat E - 17), s, [(okF14 E q, true)])
    | none => none
  | _ => none
theorem gSpn_ok : AnsOk 60 gSpn := by
  intro vals s v s' lg h hl w
  unfold gSpn at h
  split at h
  · split at h
    · rename_i o m c E q hv
      rw [vP4_spec hv]
      cases h
      obtain ⟨h1, h2, h3, h4⟩ := of_decide_eq_true (hl _ (List.mem_singleton.2 rfl))
      obtain ⟨k, rfl⟩ : ∃ k : Nat, q = k := ⟨q.toNat, by omega⟩
      exact sp_calls m c E k (by omega) (by omega) h3 h4 w
    · cases h
  · cases h
end Go.Proofs.YtgefjidphfdhdaaGreatDoor
namespace Go.Proofs.YtgefjidphfdhdaaGreatDoor
open Go.KRun Go.Rd Go.RowKit Go.Sort Go.Lib Go.Shelf
set_option maxRecDepth 100000
theorem holds_zero0 (w : World) (T : TypeId) (nd : Nat) (hs : nd ≤ 24) : Holds (fun (b : UInt8) => Value.int .u8 (b.toNat : Int)) (w.alloc (.cells zeros24 T)) w.heap.size 0 (Array.replicate nd (0 : UInt8)) := fun j hj => by
  have hj' : j < nd := by simpa using hj
  refine ⟨?_, World.frozen?_alloc_new _ _ _ _⟩
  rw [World.cell?_alloc_new, zeros24_at _ (by omega), getElem!_pos _ j hj]
  simp
theorem fin_pos0 (w : World) (o : Obj) (dk : Array UInt8) (k : Nat) : ∃ os, (putRow (fun (b : UInt8) => Value.int .u8 (b.toNat : Int)) (w.alloc o) w.heap.size 0 dk).drewN k = grow (w.drewN k) os := by
  rw [alloc_eq_grow]
  obtain ⟨os', _, e⟩ := putRow_grow_new (fun (b : UInt8) => Value.int .u8 (b.toNat : Int)) w #[o] w.heap.size 0 dk (Nat.le_refl _)
  exact ⟨os', by rw [e]; rfl⟩
set_option maxHeartbeats 6400000 in
theorem ifu_calls (u : Nat) (h100 : 100 ≤ u) (hu64 : u < 18446744073709551616) (w : World) (hk : knT w) : Calls Tryz.prog 162 #[.int .u64 u, .int .i64 10] w fun e w' => e = .returned (.string ⟨(Lib.decDigits u).toArray⟩) ∧ ∃ k os, w' = grow (w.drewN k) os := by
  have hu1 : 1 ≤ u := by omega
  have hnd20 : Lib.nDigits u ≤ 20 := by have := Lib.numDigits_eq u hu1 hu64; split at this <;> omega
  have hal : Tryz.prog.arrayLen 239 = 24 := by kernel_rfl
  have hsl1 : ∀ W, (Instr.sliceAt 239 (.pointer (some ⟨w.heap.size, 0, none⟩)) none (some (.int .i64 (Lib.nDigits u : Int))) none).run Tryz.prog W = .ok (.slice (some ⟨w.heap.size, 0, none⟩) (Lib.nDigits u) 24) W := fun W => by
    rw [run_sliceAt_array_h W 239 ⟨w.heap.size, 0, none⟩ (by kernel_rfl) .i64 (Lib.nDigits u : Int) (by omega) (by rw [hal]; omega)]
    rw [hal]
    rfl
  have hH0 := holds_zero0 w 239 (Lib.nDigits u) (by omega)
  have hfmt : Calls Tryz.prog 180 #[.slice (some ⟨w.heap.size, 0, none⟩) (Array.replicate (Lib.nDigits u) (0 : UInt8)).size 24, .int .u64 u] (w.alloc (.cells Lib.zeros24 239)) fun e w' => e = .returned (.tuple #[]) ∧ ∃ (n v' : Nat) (dk : Array UInt8), w' = (putRow (fun (b : UInt8) => Value.int .u8 (b.toNat : Int)) (w.alloc (.cells Lib.zeros24 239)) w.heap.size 0 dk).drewN n ∧ FmtInv (Array.replicate (Lib.nDigits u) (0 : UInt8)).size u 0 v' dk := Any.internal_strconv_formatBase10 { laysM171 with } w.heap.size 0 24 u (Array.replicate (Lib.nDigits u) 0) _ hH0 (by rw [Array.size_replicate]; exact Lib.lt_pow_nDigits u) hu64 (by rw [Array.size_replicate]; omega)
  rw [Array.size_replicate] at hfmt
  have htab : knT (w.alloc (.cells Lib.zeros24 239)) := by
    obtain ⟨t, z, h⟩ := hk
    refine ⟨t, z, ?_⟩
    rw [heap_alloc_ne _ _ _ (Nat.ne_of_lt (Array.getElem?_eq_some_iff.1 h).1), h]
  have hnum : Calls Tryz.prog 179 #[.int .u64 u] (w.alloc (.cells Lib.zeros24 239)) fun e w' => e = .returned (.int .i64 (Lib.nDigits u : Nat)) ∧ w' = w.alloc (.cells Lib.zeros24 239) := Any.internal_strconv_numDigits { laysM171 with } u hu1 hu64 _ (tabIs_of htab (by kernel_rfl))
  have HH0 := Lib.hid hH0
  have hlt : ¬ (u : Int) < 100 := by omega
  clear hH0 hal
  go_enter Tryz.func162, Tryz.ntmps162
  go_wp2_with (go_at_call 179; refine hnum.mono ?_; rintro e w' ⟨rfl, rfl⟩)
  go_at_call 180
  refine hfmt.mono ?_
  rintro e w' ⟨rfl, k, v', dk, rfl, hF⟩
  have hcv : (convert 142 9 (.slice (some ⟨w.heap.size, 0, none⟩) (Lib.nDigits u) 24)).run Tryz.prog ((putRow (fun (b : UInt8) => Value.int .u8 (b.toNat : Int)) (w.alloc (.cells Lib.zeros24 239)) w.heap.size 0 dk).drewN k) = .ok (.string ⟨(Lib.decDigits u).toArray⟩) ((putRow (fun (b : UInt8) => Value.int .u8 (b.toNat : Int)) (w.alloc (.cells Lib.zeros24 239)) w.heap.size 0 dk).drewN k) := by
    have h := run_convert_bytes_back (P := Tryz.prog) ((putRow (fun (b : UInt8) => Value.int .u8 (b.toNat : Int)) (w.alloc (.cells Lib.zeros24 239)) w.heap.size 0 dk).drewN k) 142 9 5 ⟨w.heap.size, 0, none⟩ 24 (Lib.decDigits u) Tryz.underlying142 Tryz.underlying5 Tryz.underlying9 (fun j hj => by
      rw [Lib.row_is_numeral hF j hj, Lib.add_plain, World.cell?_drewN]
      exact cell?_putRow (fun (b : UInt8) => Value.int .u8 (b.toNat : Int)) _ w.heap.size 0 _ dk HH0.out (by rw [hF.size, Array.size_replicate]) j (by rw [hF.size]; rw [Lib.decDigits_length] at hj; exact hj))
    rw [Lib.decDigits_length] at h
    exact h
  go_wp2
  go_ret
  obtain ⟨os, eo⟩ := fin_pos0 w (.cells Lib.zeros24 239) dk k
  exact ⟨rfl, k, os, eo⟩
set_option maxHeartbeats 6400000 in
theorem fu_calls (u : Nat) (h100 : 100 ≤ u) (hu64 : u < 18446744073709551616) (w : World) (hk : knT w) : Calls Tryz.prog 118 #[.int .u64 u, .int .i64 10] w fun e w' => e = .returned (bR (dcL u)) ∧ Tidy w w' := by
  have h := ifu_calls u h100 hu64 w hk
  rw [dec_dcL hu64] at h
  go_enter Tryz.func118, Tryz.ntmps118
  go_wp2_with (go_at_call 162; refine h.mono ?_; rintro e w' ⟨rfl, k, os, rfl⟩)
  go_ret
  exact ⟨rfl, tidy_below (below_grow14 w k os)⟩
def gFuT : Ans := fun vals s =>
  match vals with
  | [.int .u64 n, .int .i64 b] => some (bR (dcL n.toNat), s, [(decide (100 ≤ n ∧ n < 18446744073709551616 ∧ b = 10), true)])
  | _ => none
theorem gFuT_ok : AnsTOk 118 gFuT := by
  intro vals s v s' lg h hl w hk
  unfold gFuT at h
  split at h
  · cases h
    obtain ⟨h1, h2, h3⟩ := of_decide_eq_true (hl _ (List.mem_singleton.2 rfl))
    rename_i n b
    obtain ⟨u, rfl⟩ : ∃ u : Nat, n = u := ⟨n.toNat, by omega⟩
    subst h3
    exact fu_calls u (by omega) (by omega) w hk
  · cases h
end Go.Proofs.YtgefjidphfdhdaaGreatDoor
