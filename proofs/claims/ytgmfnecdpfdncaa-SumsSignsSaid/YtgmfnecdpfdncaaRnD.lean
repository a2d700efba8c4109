/-
  rnd.isTiny, rnd.beyond, rnd.nearer, as calls in every world.
-/
import Derived.Test.YtgmfnecdpfdncaaRnC
namespace Go.Proofs.Ytgmfnecdpfdncaa
open Go.KRun Go.Wd Go.Pt Go.Rn
set_option maxRecDepth 100000

/-! ### nearer -/
def clp (e : Int) : Int := if 2000 < (if -2000 > e then -2000 else e) then 2000 else (if -2000 > e then -2000 else e)
theorem clp_bd (e : Int) : -2000 ≤ clp e ∧ clp e ≤ 2000 := by unfold clp; split <;> split <;> omega
theorem nr_fits (n b : Bool) (x : W4) (e : Int) : Fits (reckon (tabOf Try.prog extY conN true) 300 41 [vN n e x b] []) (vN n (clp e) x b) [] := ⟨by kernel_rfl, by kernel_rfl, by kernel_rfl, by kernel_rfl⟩
def gNear : Ans := fun vals s =>
  match vals with
  | [v] =>
    match n7 v with
    | some (n, e, x, b) => some (vN n (clp e) x b, s, [])
    | none => none
  | _ => none
theorem gNear_ok : AnsOk 41 gNear := by
  intro vals s v s' lg h hl w
  unfold gNear at h
  split at h
  · split at h
    · rename_i n e x b hn
      cases h
      rw [n7_spec hn]
      exact fits_calls (tabY_ok conN_ok) (nr_fits n b x e) okNl (by rfl) (by rfl) w
    · cases h
  · cases h
/-! ### beyond -/
theorem by_t (n : Bool) (m : Int) : Fits (reckon (tabOf Try.prog extY conT true) 300 45 [.bool n, .int .i64 m] [tst true]) (.int .u64 9218868437227405312) [(upR m n true 3, true)] := ⟨by kernel_rfl, by kernel_rfl, by kernel_rfl, by kernel_rfl⟩
theorem by_f (n : Bool) (m : Int) : Fits (reckon (tabOf Try.prog extY conT true) 300 45 [.bool n, .int .i64 m] [tst false]) (.int .u64 9218868437227405311) [(upR m n true 3, false)] := ⟨by kernel_rfl, by kernel_rfl, by kernel_rfl, by kernel_rfl⟩
def gBey : Ans := fun vals s =>
  match vals with
  | [.bool n, .int .i64 m] => some (.int .u64 (bey m n), s, [])
  | _ => none
theorem gBey_ok : AnsOk 45 gBey := by
  intro vals s v s' lg h hl w
  unfold gBey at h
  split at h
  · rename_i n m
    cases h
    unfold bey
    by_cases hu : upR m n true 3 = true
    · rw [if_pos hu]
      exact fits_calls (tabY_ok conT_ok) (by_t n m) (okL1 hu) (by rfl) (by rfl) w
    · rw [if_neg hu]
      exact fits_calls (tabY_ok conT_ok) (by_f n m) (okL1 (by simpa using hu)) (by rfl) (by rfl) w
  · cases h
/-! ### isTiny -/
def m52 (k : Int) : Int := IntKind.i64.wrap (k - 52)
def tnQ (m : Int) (n : Bool) (x : W4) (b : Bool) (ex k : Int) : W4 := ofN (toQ m n (tw x b) (ex - 1) (m52 k))
def lgW (e : Int) (x : W4) : Int := IntKind.i64.wrap (IntKind.i64.wrap (e + lenI x) - 1)
theorem ti0 (n b : Bool) (x : W4) (ex k m : Int) : Fits (reckon (tabOf Try.prog extY conT true) 300 46 [vN n ex x b, .int .i64 k, .int .i64 m] [cmp true]) (.bool (decide (k < -1022))) [(k != -1023, true)] := ⟨by kernel_rfl, by kernel_rfl, by kernel_rfl, by kernel_rfl⟩
theorem ti1 (n b : Bool) (x : W4) (ex k m : Int) : Fits (reckon (tabOf Try.prog extY conT true) 300 46 [vN n ex x b, .int .i64 k, .int .i64 m] [cmp false, cmp true]) (.bool (decide (lgW (m52 k) (tnQ m n x b ex k) < -1022))) [(decide (tnQ m n x b ex k).ok, true), (decide (toQ m n (tw x b) (ex - 1) (m52 k) < 2 ^ 256), true), (okTm x ex (m52 k), true), (k != -1023, false)] := ⟨by kernel_rfl, by kernel_rfl, by kernel_rfl, by kernel_rfl⟩
def tnK (m : Int) (n : Bool) (T : Nat) (E k : Int) : Bool := if k = -1023 then decide (toQ m n T E (-1075) < 9007199254740992) else decide (k < -1022)
theorem lenI_nat (x : W4) : lenI x = (bitLen x.nat : Nat) := rfl
theorem len_lt53 {q : Nat} : bitLen q < 54 ↔ q < 9007199254740992 := by
  constructor
  · intro h
    have h1 := (bitLen_spec q).1
    have h2 := Nat.pow_le_pow_right (show 0 < 2 by omega) (show bitLen q ≤ 53 by omega)
    have e : (2 : Nat) ^ 53 = 9007199254740992 := rfl
    omega
  · intro h
    have := len_le (T := q) (k := 53) h
    omega
theorem tiny_calls (n b : Bool) (x : W4) (ex k m : Int) (h1 : x.ok ∧ -4000 ≤ ex ∧ ex ≤ 4000 ∧ -4000 ≤ (0 : Int) ∧ (0 : Int) ≤ 4000) (h2 : k = -1023 → toQ m n (tw x b) (ex - 1) (-1075) < 2 ^ 256) (w : World) : Calls Try.prog 46 #[vN n ex x b, .int .i64 k, .int .i64 m] w fun r w' => r = .returned (.bool (tnK m n (tw x b) (ex - 1) k)) ∧ Tidy w w' := by
  unfold tnK
  by_cases hk : k = -1023
  · rw [if_pos hk]
    have e0 : m52 k = -1075 := by rw [hk]; rfl
    have hq := h2 hk
    have hlen : bitLen (toQ m n (tw x b) (ex - 1) (-1075)) ≤ 256 := len_le hq
    have e1 : lgW (m52 k) (tnQ m n x b ex k) = -1076 + (bitLen (toQ m n (tw x b) (ex - 1) (-1075)) : Nat) := by
      unfold lgW tnQ
      rw [e0, lenI_nat, ofN_nat hq, wrapI' (n := -1075 + ((bitLen (toQ m n (tw x b) (ex - 1) (-1075)) : Nat) : Int)) ⟨by omega, by omega⟩, wrapI' ⟨by omega, by omega⟩]
      omega
    have h := fits_calls (tabY_ok conT_ok) (ti1 n b x ex k m) (okCons (decide_eq_true (ofN_ok _)) (okCons (by rw [e0]; exact decide_eq_true hq) (okCons (by rw [e0]; exact decide_eq_true ⟨h1.1, h1.2.1, h1.2.2.1, by omega, by omega⟩) (okL1 (by rw [hk]; rfl))))) (by rfl) (by rfl) w
    rw [e1] at h
    have e2 : decide (-1076 + ((bitLen (toQ m n (tw x b) (ex - 1) (-1075)) : Nat) : Int) < -1022) = decide (toQ m n (tw x b) (ex - 1) (-1075) < 9007199254740992) := by
      congr 1
      rw [← len_lt53]
      simp only [eq_iff_iff]
      omega
    rw [e2] at h
    exact h
  · rw [if_neg hk]
    exact fits_calls (tabY_ok conT_ok) (ti0 n b x ex k m) (okL1 (by simpa using hk)) (by rfl) (by rfl) w

def gTiny : Ans := fun vals s =>
  match vals with
  | [v, .int .i64 k, .int .i64 m] =>
    match n7 v, s with
    | some (n, ex, x, b), .inr (.inr (.inr (.inl d))) :: s' => some (.bool d, s', [(tnK m n (tw x b) (ex - 1) k, d), (decide (k = -1023 → toQ m n (tw x b) (ex - 1) (-1075) < 2 ^ 256), true), (okTm x ex 0, true)])
    | _, _ => none
  | _ => none
theorem gTiny_ok : AnsOk 46 gTiny := by
  intro vals s v s' lg h hl w
  unfold gTiny at h
  split at h
  · split at h
    · rename_i n ex x b d s2 hn
      cases h
      rw [okCs, okCs, okCs] at hl
      rw [n7_spec hn, ← hl.1]
      exact tiny_calls n b x ex _ _ (of_decide_eq_true hl.2.2.1) (of_decide_eq_true hl.2.1) w
    · cases h
  · cases h
def conTi : Con := alt 41 gNear (alt 45 gBey (alt 46 gTiny conT))
theorem conTi_ok : ConOk conTi := alt_ok Try.func41 rfl gNear_ok (alt_ok Try.func45 rfl gBey_ok (alt_ok Try.func46 rfl gTiny_ok conT_ok))
end Go.Proofs.Ytgmfnecdpfdncaa
