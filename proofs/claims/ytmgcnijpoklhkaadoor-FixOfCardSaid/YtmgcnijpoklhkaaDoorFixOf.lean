/-
  PROVED HERE: the tied card of tillerlaw15.FixOf: for every input the law returns true, and each argument reads afterwards as it read before: any whole number parted by any other one, or the error, and half a turn, are the document's. Its condition: the variable errors.errorType holds what the program's own text lays there (tied, by the given text).
-/
import Derived.Test.YtmgcnijpoklhkaaDoorG17
import Derived.Test.YtmgcnijpoklhkaaDoorRows
import Derived.Test.YtmgcnijpoklhkaaDoorCards
import Derived.Test.YtmgcnijpoklhkaaDoorTie
import Derived.ChangeSame
import Derived.ChangeVars
import Derived.JoinedOf
import Derived.RowKit
import Derived.LaidLaws
import Derived.LaidHandle
import Derived.Stop.Joined
import Derived.SevenTiedAt
namespace Go.Proofs.YtmgcnijpoklhkaaDoor.fixOf
open Go.KRun Go.Pt Go.ChangeShapes Go.WideShapes Go.ChangeAt Go.RowKit Go.Wd Go.Nt
set_option linter.unusedVariables false
set_option maxRecDepth 100000
def piW : W4 := ⟨0xd0082efa98ec4e6c, 0x44a4093822299f31, 0xd313198a2e037073, 0x03243f6a8885a308⟩
theorem fpi_fits : Fits (reckon (tabOf Tryd.prog extY conN true) 100 13 [] []) (vW piW) [] := ⟨by kernel_rfl, by kernel_rfl, by kernel_rfl, by kernel_rfl⟩
theorem fpi_calls (w : World) : Calls Tryd.prog 13 #[] w fun e w' => e = .returned (vW piW) ∧ Tidy w w' := fits_calls (tabY_ok conN_ok) fpi_fits okNil (by rfl) (by rfl) w
theorem numz_fits : Fits (reckon (tabOf Tryd.prog extY conN true) 100 10 [.nilIface] []) (.int .i64 0) [] := ⟨by kernel_rfl, by kernel_rfl, by kernel_rfl, by kernel_rfl⟩
def gNumZ : Ans := fun vals s => match vals with | [.nilIface] => some (.int .i64 0, s, []) | _ => none
theorem gNumZ_ok : AnsOk 10 gNumZ := by
  intro vals s v s' lg h hl w
  unfold gNumZ at h
  split at h
  · cases h
    exact fits_calls (tabY_ok conN_ok) numz_fits okNil (by rfl) (by rfl) w
  · cases h
def conF8 : Con := alt 10 gNumZ (alt 13 (g0 (vW piW)) conF5)
theorem conF8_ok : ConOk conF8 := alt_ok Tryd.func10 rfl gNumZ_ok (alt_ok Tryd.func13 rfl (g0_ok fpi_calls) conF5_ok)
def bOf (x : W4) : List (List Value × TypeId) := [kFx x, (kV, kT)]
theorem of_Z (n d : Int) (A Q R P2 : Nat) : Fits (reckonAt (tabH Tryd.prog extY conF8 hcOf) hK 600 3 [.int .u64 n, .int .u64 d] [cmp true, cmp true, cmp true, cmp true, num P2, cmp true, num 0, cmp true, num 0, cmp true]) (.bool true) [((0 : Int) == 0, true), (decide (cmpZ (vO (hN5 (bOf zW) [piW.nat, zW.nat, P2, piN]) (aP16 5) ((d16 piW.nat).length)) (vO (hN5 (bOf zW) [piW.nat, zW.nat, P2, piN]) (aP16 3) ((d16 P2).length)) = 0), true), (two16 (hN5 (bOf zW) [piW.nat, zW.nat, P2, piN]) (aP16 5) (aP16 3) ((d16 piW.nat).length) ((d16 piW.nat).length) ((d16 P2).length) ((d16 P2).length), true), oW piW, ((0 : Int) == 0, true), (decide (cmpZ (vO (hN5 (bOf zW) [zW.nat, P2, piN]) (aP16 4) ((d16 zW.nat).length)) (vO (hN5 (bOf zW) [zW.nat, P2, piN]) none (0)) = 0), true), (two16 (hN5 (bOf zW) [zW.nat, P2, piN]) (aP16 4) none ((d16 zW.nat).length) ((d16 zW.nat).length) (0) (0), true), oW zW, ((5 : Int) == 5, true), (Nat.beq 57 57 && Nat.beq kT kT && kOk kV, true), (decide (vO (hN5 (bOf zW) [piN]) (aP16 2) ((d16 piN).length) / 2 ^ (72 : Int).toNat = P2), true), (decide (vO (hN5 (bOf zW) [piN]) (aP16 2) ((d16 piN).length) % 2 ^ (72 : Int).toNat ≠ 0), true), (decide ((72 : Int).toNat / 16 < (d16 piN).length), true), (okShr (hN5 (bOf zW) [piN]) (aP16 2) ((d16 piN).length) ((d16 piN).length) 72, true), (d == 0, true), (decide (d = 0), true), (decide (uu n d), true)] := ⟨by kernel_rfl, by kernel_rfl, by kernel_rfl, by kernel_rfl⟩
theorem of_G (n d : Int) (A Q R P2 : Nat) : Fits (reckonAt (tabH Tryd.prog extY conF8 hcOf) hK 600 3 [.int .u64 n, .int .u64 d] [cmp false, cmp true, cmp false, cmp true, num A, num Q, num R, cmp true, cmp true, cmp true, num P2, cmp true, num 0, cmp true, num 0, cmp true]) (.bool true) [((0 : Int) == 0, true), (decide (cmpZ (vO (hN5 (bOf zW) [piW.nat, zW.nat, P2, piN]) (aP16 5) ((d16 piW.nat).length)) (vO (hN5 (bOf zW) [piW.nat, zW.nat, P2, piN]) (aP16 3) ((d16 P2).length)) = 0), true), (two16 (hN5 (bOf zW) [piW.nat, zW.nat, P2, piN]) (aP16 5) (aP16 3) ((d16 piW.nat).length) ((d16 piW.nat).length) ((d16 P2).length) ((d16 P2).length), true), oW piW, ((0 : Int) == 0, true), (decide (cmpZ (vO (hN5 (bOf zW) [zW.nat, P2, piN]) (aP16 4) ((d16 zW.nat).length)) (vO (hN5 (bOf zW) [zW.nat, P2, piN]) none (0)) = 0), true), (two16 (hN5 (bOf zW) [zW.nat, P2, piN]) (aP16 4) none ((d16 zW.nat).length) ((d16 zW.nat).length) (0) (0), true), oW zW, ((2 : Int) == 2, true), (Nat.beq 57 57 && Nat.beq kT kT && kOk kV, true), (decide (vO (hN5 (bOf zW) [piN]) (aP16 2) ((d16 piN).length) / 2 ^ (72 : Int).toNat = P2), true), (decide (vO (hN5 (bOf zW) [piN]) (aP16 2) ((d16 piN).length) % 2 ^ (72 : Int).toNat ≠ 0), true), (decide ((72 : Int).toNat / 16 < (d16 piN).length), true), (okShr (hN5 (bOf zW) [piN]) (aP16 2) ((d16 piN).length) ((d16 piN).length) 72, true), (decide (((bl (vO (hN5 (bOf zW) [R, Q, d.toNat, A, n.toNat]) (aP16 5) ((d16 Q).length)) : Nat) : Int) > 256), true), (rowP (hN5 (bOf zW) [R, Q, d.toNat, A, n.toNat]) (aP16 5) ((d16 Q).length) ((d16 Q).length) && canB (rowOf (hN5 (bOf zW) [R, Q, d.toNat, A, n.toNat]) (aP16 5) ((d16 Q).length)) && Nat.blt ((d16 Q).length) 1073741824, true), (decide (vO (hN5 (bOf zW) [d.toNat, A, n.toNat]) (aP16 3) ((d16 A).length) / vO (hN5 (bOf zW) [d.toNat, A, n.toNat]) (aP16 4) ((d16 d.toNat).length) = Q ∧ vO (hN5 (bOf zW) [d.toNat, A, n.toNat]) (aP16 3) ((d16 A).length) % vO (hN5 (bOf zW) [d.toNat, A, n.toNat]) (aP16 4) ((d16 d.toNat).length) = R), true), (okPa (hN5 (bOf zW) [d.toNat, A, n.toNat]) (aP16 3) (aP16 4) ((d16 A).length) ((d16 A).length) ((d16 d.toNat).length) ((d16 d.toNat).length), true), (decide (0 ≤ d ∧ d < 18446744073709551616), true), (decide (vO (hN5 (bOf zW) [n.toNat]) (aP16 2) ((d16 n.toNat).length) * 2 ^ (248 : Int).toNat = A), true), (okSh (hN5 (bOf zW) [n.toNat]) (aP16 2) ((d16 n.toNat).length) ((d16 n.toNat).length) 248, true), (decide (0 < (d16 n.toNat).length), true), (decide (0 ≤ n ∧ n < 18446744073709551616), true), (d == 0, false), (decide (115792089237316195423570985008687907853269984665640564039457584007913129639936 ≤ foI n d), true), (decide (d = 0), false), (decide (uu n d), true)] := ⟨by kernel_rfl, by kernel_rfl, by kernel_rfl, by kernel_rfl⟩
theorem of_I (n d : Int) (A Q R P2 : Nat) : Fits (reckonAt (tabH Tryd.prog extY conF8 hcOf) hK 600 3 [.int .u64 n, .int .u64 d] [cmp false, cmp false, cmp false, cmp true, num A, num Q, num R, cmp false, cmp true, cmp true, num P2, cmp true, num 0, cmp true, num 0, cmp true]) (.bool true) [((0 : Int) == 0, true), (decide (cmpZ (vO (hN5 (bOf (W4.of (foI n d))) [piW.nat, (W4.of (foI n d)).nat, P2, piN, R, Q, d.toNat, A, n.toNat]) (aP16 10) ((d16 piW.nat).length)) (vO (hN5 (bOf (W4.of (foI n d))) [piW.nat, (W4.of (foI n d)).nat, P2, piN, R, Q, d.toNat, A, n.toNat]) (aP16 8) ((d16 P2).length)) = 0), true), (two16 (hN5 (bOf (W4.of (foI n d))) [piW.nat, (W4.of (foI n d)).nat, P2, piN, R, Q, d.toNat, A, n.toNat]) (aP16 10) (aP16 8) ((d16 piW.nat).length) ((d16 piW.nat).length) ((d16 P2).length) ((d16 P2).length), true), oW piW, ((0 : Int) == 0, true), (decide (cmpZ (vO (hN5 (bOf (W4.of (foI n d))) [(W4.of (foI n d)).nat, P2, piN, R, Q, d.toNat, A, n.toNat]) (aP16 9) ((d16 (W4.of (foI n d)).nat).length)) (vO (hN5 (bOf (W4.of (foI n d))) [(W4.of (foI n d)).nat, P2, piN, R, Q, d.toNat, A, n.toNat]) (aP16 5) ((d16 Q).length)) = 0), true), (two16 (hN5 (bOf (W4.of (foI n d))) [(W4.of (foI n d)).nat, P2, piN, R, Q, d.toNat, A, n.toNat]) (aP16 9) (aP16 5) ((d16 (W4.of (foI n d)).nat).length) ((d16 (W4.of (foI n d)).nat).length) ((d16 Q).length) ((d16 Q).length), true), oW (W4.of (foI n d)), ((0 : Int) == 0, true), (decide (vO (hN5 (bOf (W4.of (foI n d))) [piN, R, Q, d.toNat, A, n.toNat]) (aP16 7) ((d16 piN).length) / 2 ^ (72 : Int).toNat = P2), true), (decide (vO (hN5 (bOf (W4.of (foI n d))) [piN, R, Q, d.toNat, A, n.toNat]) (aP16 7) ((d16 piN).length) % 2 ^ (72 : Int).toNat ≠ 0), true), (decide ((72 : Int).toNat / 16 < (d16 piN).length), true), (okShr (hN5 (bOf (W4.of (foI n d))) [piN, R, Q, d.toNat, A, n.toNat]) (aP16 7) ((d16 piN).length) ((d16 piN).length) 72, true), (decide (((bl (vO (hN5 (bOf (W4.of (foI n d))) [R, Q, d.toNat, A, n.toNat]) (aP16 5) ((d16 Q).length)) : Nat) : Int) > 256), false), (rowP (hN5 (bOf (W4.of (foI n d))) [R, Q, d.toNat, A, n.toNat]) (aP16 5) ((d16 Q).length) ((d16 Q).length) && canB (rowOf (hN5 (bOf (W4.of (foI n d))) [R, Q, d.toNat, A, n.toNat]) (aP16 5) ((d16 Q).length)) && Nat.blt ((d16 Q).length) 1073741824, true), (decide (vO (hN5 (bOf (W4.of (foI n d))) [d.toNat, A, n.toNat]) (aP16 3) ((d16 A).length) / vO (hN5 (bOf (W4.of (foI n d))) [d.toNat, A, n.toNat]) (aP16 4) ((d16 d.toNat).length) = Q ∧ vO (hN5 (bOf (W4.of (foI n d))) [d.toNat, A, n.toNat]) (aP16 3) ((d16 A).length) % vO (hN5 (bOf (W4.of (foI n d))) [d.toNat, A, n.toNat]) (aP16 4) ((d16 d.toNat).length) = R), true), (okPa (hN5 (bOf (W4.of (foI n d))) [d.toNat, A, n.toNat]) (aP16 3) (aP16 4) ((d16 A).length) ((d16 A).length) ((d16 d.toNat).length) ((d16 d.toNat).length), true), (decide (0 ≤ d ∧ d < 18446744073709551616), true), (decide (vO (hN5 (bOf (W4.of (foI n d))) [n.toNat]) (aP16 2) ((d16 n.toNat).length) * 2 ^ (248 : Int).toNat = A), true), (okSh (hN5 (bOf (W4.of (foI n d))) [n.toNat]) (aP16 2) ((d16 n.toNat).length) ((d16 n.toNat).length) 248, true), (decide (0 < (d16 n.toNat).length), true), (decide (0 ≤ n ∧ n < 18446744073709551616), true), (d == 0, false), (decide (115792089237316195423570985008687907853269984665640564039457584007913129639936 ≤ foI n d), false), (decide (d = 0), false), (decide (uu n d), true)] := ⟨by kernel_rfl, by kernel_rfl, by kernel_rfl, by kernel_rfl⟩
theorem of_N (n d : Int) (A Q R P2 : Nat) : Fits (reckonAt (tabH Tryd.prog extY conF8 hcOf) hK 600 3 [.int .u64 n, .int .u64 d] [cmp false, cmp false, cmp false, cmp false, cmp false, cmp true, cmp true, num P2, cmp true, num 0, cmp true, num 0, cmp true]) (.bool true) [((0 : Int) == 0, true), (decide (cmpZ (vO (hN5 (bOf (W4.of (foI n d))) [piW.nat, (W4.of (foI n d)).nat, P2, piN, 0, d.toNat, n.toNat]) (aP16 8) ((d16 piW.nat).length)) (vO (hN5 (bOf (W4.of (foI n d))) [piW.nat, (W4.of (foI n d)).nat, P2, piN, 0, d.toNat, n.toNat]) (aP16 6) ((d16 P2).length)) = 0), true), (two16 (hN5 (bOf (W4.of (foI n d))) [piW.nat, (W4.of (foI n d)).nat, P2, piN, 0, d.toNat, n.toNat]) (aP16 8) (aP16 6) ((d16 piW.nat).length) ((d16 piW.nat).length) ((d16 P2).length) ((d16 P2).length), true), oW piW, ((0 : Int) == 0, true), (decide (cmpZ (vO (hN5 (bOf (W4.of (foI n d))) [(W4.of (foI n d)).nat, P2, piN, 0, d.toNat, n.toNat]) (aP16 7) ((d16 (W4.of (foI n d)).nat).length)) (vO (hN5 (bOf (W4.of (foI n d))) [(W4.of (foI n d)).nat, P2, piN, 0, d.toNat, n.toNat]) (aP16 4) ((d16 0).length)) = 0), true), (two16 (hN5 (bOf (W4.of (foI n d))) [(W4.of (foI n d)).nat, P2, piN, 0, d.toNat, n.toNat]) (aP16 7) (aP16 4) ((d16 (W4.of (foI n d)).nat).length) ((d16 (W4.of (foI n d)).nat).length) ((d16 0).length) ((d16 0).length), true), oW (W4.of (foI n d)), ((0 : Int) == 0, true), (decide (vO (hN5 (bOf (W4.of (foI n d))) [piN, 0, d.toNat, n.toNat]) (aP16 5) ((d16 piN).length) / 2 ^ (72 : Int).toNat = P2), true), (decide (vO (hN5 (bOf (W4.of (foI n d))) [piN, 0, d.toNat, n.toNat]) (aP16 5) ((d16 piN).length) % 2 ^ (72 : Int).toNat ≠ 0), true), (decide ((72 : Int).toNat / 16 < (d16 piN).length), true), (okShr (hN5 (bOf (W4.of (foI n d))) [piN, 0, d.toNat, n.toNat]) (aP16 5) ((d16 piN).length) ((d16 piN).length) 72, true), (decide (((bl (vO (hN5 (bOf (W4.of (foI n d))) [0, d.toNat, n.toNat]) (aP16 4) ((d16 0).length)) : Nat) : Int) > 256), false), (rowP (hN5 (bOf (W4.of (foI n d))) [0, d.toNat, n.toNat]) (aP16 4) ((d16 0).length) ((d16 0).length) && canB (rowOf (hN5 (bOf (W4.of (foI n d))) [0, d.toNat, n.toNat]) (aP16 4) ((d16 0).length)) && Nat.blt ((d16 0).length) 1073741824, true), (rowP (hN5 (bOf (W4.of (foI n d))) [d.toNat, n.toNat]) (aP16 3) ((d16 d.toNat).length) ((d16 d.toNat).length), true), (decide (0 ≤ d ∧ d < 18446744073709551616), true), (rowP (hN5 (bOf (W4.of (foI n d))) [n.toNat]) (aP16 2) ((d16 n.toNat).length) ((d16 n.toNat).length), true), (decide (0 < (d16 n.toNat).length), false), (decide (0 ≤ n ∧ n < 18446744073709551616), true), (d == 0, false), (decide (115792089237316195423570985008687907853269984665640564039457584007913129639936 ≤ foI n d), false), (decide (d = 0), false), (decide (uu n d), true)] := ⟨by kernel_rfl, by kernel_rfl, by kernel_rfl, by kernel_rfl⟩
theorem oW_all (k : Int) : (oW (W4.of k)).1 = (oW (W4.of k)).2 := by
  have h := W4.ok_of k
  unfold oW
  generalize W4.of k = y at *
  exact decide_eq_true h
theorem walk (n d : Int) (hn : 0 ≤ n ∧ n < 18446744073709551616) (hd0 : 0 ≤ d ∧ d < 18446744073709551616) (w : World) (hk : known w) : Calls Tryd.prog 3 #[.int .u64 n, .int .u64 d] w fun e w' => e = .returned (.bool true) ∧ Tidy w w' := by
  have hv : ([.int .u64 n, .int .u64 d].all (lt 0)) = true := rfl
  have T := tabH_ok conF8_ok hcOf_ok
  have hun : decide (uu n d) = true := decide_eq_true ⟨hn, hd0⟩
  have hn64 : decide (0 ≤ n ∧ n < 18446744073709551616) = true := decide_eq_true hn
  have hd64 : decide (0 ≤ d ∧ d < 18446744073709551616) = true := decide_eq_true hd0
  obtain ⟨A, hA⟩ : ∃ P, n.toNat * 2 ^ (248 : Int).toNat = P := ⟨_, rfl⟩
  obtain ⟨Q, hQ⟩ : ∃ P, A / d.toNat = P := ⟨_, rfl⟩
  obtain ⟨R, hR⟩ : ∃ P, A % d.toNat = P := ⟨_, rfl⟩
  obtain ⟨P2, hP2⟩ : ∃ P, piN / 2 ^ (72 : Int).toNat = P := ⟨_, rfl⟩
  have e248 : (2 : Nat) ^ (248 : Int).toNat = 452312848583266388373324160190187140051835877600158453279131187530910662656 := by rfl
  have ePi : piN / 2 ^ (72 : Int).toNat = piW.nat := by decide +kernel
  have hpl : decide (piN % 2 ^ (72 : Int).toNat ≠ 0) = true := by decide +kernel
  have bPi : piN < 115792089237316195423570985008687907853269984665640564039457584007913129639936 * 115792089237316195423570985008687907853269984665640564039457584007913129639936 := by decide +kernel
  have bPi2 : 2037035976334486086268445688409378161051468393665936250636140449354381299763336706183397376 ≤ piN := by decide +kernel
  have eA : A = n.toNat * 452312848583266388373324160190187140051835877600158453279131187530910662656 := by rw [← hA, e248]
  have bA : A < 115792089237316195423570985008687907853269984665640564039457584007913129639936 * 115792089237316195423570985008687907853269984665640564039457584007913129639936 := by rw [eA]; omega
  have bQ : Q ≤ A := by rw [← hQ]; exact Nat.div_le_self _ _
  have bR : R ≤ A := by rw [← hR]; exact Nat.mod_le _ _
  have npw : piW.nat < 115792089237316195423570985008687907853269984665640564039457584007913129639936 := by decide +kernel
  have lPi := sh33 (V := piN) (by omega)
  have lA := sh33 (V := A) (by omega)
  have lQ := sh33 (V := Q) (by omega)
  have lR := sh33 (V := R) (by omega)
  have ln := sh33 (V := n.toNat) (by omega)
  have ld := sh33 (V := d.toNat) (by omega)
  have lpw := sh33 (V := piW.nat) (by omega)
  have lP2 := sh33 (V := P2) (by rw [← hP2, ePi]; omega)
  have l0 := sh33 (V := 0) (by omega)
  have nz : zW.nat = 0 := by rfl
  have lz := sh33 (V := zW.nat) (by rw [nz]; omega)
  have dpi : decide ((72 : Int).toNat / 16 < (d16 piN).length) = true := decide_eq_true ((len_iff16 piN 4).2 (by
    rw [show (2 : Nat) ^ (16 * 4) = 18446744073709551616 by rfl]
    omega))
  have hcp : cmpZ piW.nat P2 = 0 := by rw [← hP2, ePi]; unfold cmpZ; rw [if_neg (by omega), if_pos rfl]
  by_cases h0 : d = 0
  · have hd : decide (d = 0) = true := decide_eq_true h0
    have hdb : (d == 0) = true := by simpa using h0
    have hc : cmpZ zW.nat 0 = 0 := by rw [nz]; rfl
    exact fitsAt_still T (of_Z n d A Q R P2) (okPC rfl (okPC ((bN5 (V := piW.nat) rfl lpw).cmp (bN5 (V := P2) rfl lP2) hcp) (okPC ((bN5 (V := piW.nat) rfl lpw).two (bN5 (V := P2) rfl lP2)) (okPC (by decide) (okPC rfl (okPC ((bN5 (V := zW.nat) rfl lz).cmp (nN5 (hN5 (bOf zW) [zW.nat, P2, piN])) hc) (okPC ((bN5 (V := zW.nat) rfl lz).two (nN5 (hN5 (bOf zW) [zW.nat, P2, piN]))) (okPC (by decide) (okPC rfl (okPC (by kernel_rfl) (okPC ((bN5 (V := piN) rfl lPi).shrV (k := (72 : Int).toNat) hP2) (okPC ((bN5 (V := piN) rfl lPi).lost (k := (72 : Int).toNat) hpl) (okPC dpi (okPC ((bN5 (V := piN) rfl lPi).shr (k := 72) ⟨by decide, by decide⟩) (okPC hdb (okPC hd (okP1 hun))))))))))))))))) hv (by rfl) (startK hk)
  have hd : decide (d = 0) = false := decide_eq_false h0
  have hdb : (d == 0) = false := by simpa using h0
  have eI : foI n d = (Q : Int) := by
    unfold foI
    rw [← hQ, eA]
    have en : n = (n.toNat : Int) := by omega
    have ed : d = (d.toNat : Int) := by omega
    generalize n.toNat = N at *
    generalize d.toNat = D at *
    subst en ed
    rw [Int.natCast_ediv, Int.natCast_mul]
    rfl
  have bl1 : ((bl Q : Nat) : Int) > 256 ↔ 115792089237316195423570985008687907853269984665640564039457584007913129639936 ≤ Q := by
    have p : (2 : Nat) ^ 256 = 115792089237316195423570985008687907853269984665640564039457584007913129639936 := by rfl
    constructor
    · intro h
      have hq : Q ≠ 0 := by
        intro h0
        rw [h0, bl_zero] at h
        omega
      have h1 := bl_le hq
      have h2 := Nat.pow_le_pow_right (show 0 < 2 by omega) (show 256 ≤ bl Q - 1 by omega)
      omega
    · intro h
      have h1 := bl_lt Q
      rcases Nat.lt_or_ge 256 (bl Q) with e | e
      · omega
      · have h2 := Nat.pow_le_pow_right (show 0 < 2 by omega) e
        omega
  have pD : 0 < (d16 d.toNat).length := len_pos16 (by omega)
  by_cases c : 115792089237316195423570985008687907853269984665640564039457584007913129639936 ≤ Q
  · have hM : decide (115792089237316195423570985008687907853269984665640564039457584007913129639936 ≤ foI n d) = true := decide_eq_true (by rw [eI]; omega)
    have hbl : decide (((bl Q : Nat) : Int) > 256) = true := decide_eq_true (bl1.2 c)
    have pA : 0 < (d16 A).length := len_pos16 (by omega)
    have dn : decide (0 < (d16 n.toNat).length) = true := decide_eq_true (len_pos16 (by omega))
    have hc : cmpZ zW.nat 0 = 0 := by rw [nz]; rfl
    exact fitsAt_still T (of_G n d A Q R P2) (okPC rfl (okPC ((bN5 (V := piW.nat) rfl lpw).cmp (bN5 (V := P2) rfl lP2) hcp) (okPC ((bN5 (V := piW.nat) rfl lpw).two (bN5 (V := P2) rfl lP2)) (okPC (by decide) (okPC rfl (okPC ((bN5 (V := zW.nat) rfl lz).cmp (nN5 (hN5 (bOf zW) [zW.nat, P2, piN])) hc) (okPC ((bN5 (V := zW.nat) rfl lz).two (nN5 (hN5 (bOf zW) [zW.nat, P2, piN]))) (okPC (by decide) (okPC rfl (okPC (by kernel_rfl) (okPC ((bN5 (V := piN) rfl lPi).shrV (k := (72 : Int).toNat) hP2) (okPC ((bN5 (V := piN) rfl lPi).lost (k := (72 : Int).toNat) hpl) (okPC dpi (okPC ((bN5 (V := piN) rfl lPi).shr (k := 72) ⟨by decide, by decide⟩) (okPC ((bN5 (V := Q) rfl lQ).blV hbl) (okPC (bN5 (V := Q) rfl lQ).lenO (okPC ((bN5 (V := A) rfl lA).paV (bN5 (V := d.toNat) rfl ld) hQ hR) (okPC ((bN5 (V := A) rfl lA).pa (bN5 (V := d.toNat) rfl ld) pA pD) (okPC hd64 (okPC ((bN5 (V := n.toNat) rfl ln).shlV (k := (248 : Int).toNat) hA) (okPC ((bN5 (V := n.toNat) rfl ln).shl (k := 248) ⟨by decide, by decide⟩) (okPC dn (okPC hn64 (okPC hdb (okPC hM (okPC hd (okP1 hun))))))))))))))))))))))))))) hv (by rfl) (startK hk)
  have hM : decide (115792089237316195423570985008687907853269984665640564039457584007913129639936 ≤ foI n d) = false := decide_eq_false (by rw [eI]; omega)
  have hbl : decide (((bl Q : Nat) : Int) > 256) = false := decide_eq_false fun h => c (bl1.1 h)
  have na : (W4.of (foI n d)).nat = Q := by
    unfold W4.nat
    rw [W4.val_of, eI]
    omega
  have la := sh33 (V := (W4.of (foI n d)).nat) (by rw [na]; omega)
  by_cases hz : n.toNat = 0
  · have hQ0 : Q = 0 := by rw [← hQ, eA, hz, Nat.zero_mul, Nat.zero_div]
    have hc : cmpZ (W4.of (foI n d)).nat 0 = 0 := by rw [na, hQ0]; rfl
    have hbl : decide (((bl 0 : Nat) : Int) > 256) = false := by rw [hQ0] at hbl; exact hbl
    have dn : decide (0 < (d16 n.toNat).length) = false := decide_eq_false (by rw [hz, d16_0]; decide)
    exact fitsAt_still T (of_N n d A Q R P2) (okPC rfl (okPC ((bN5 (V := piW.nat) rfl lpw).cmp (bN5 (V := P2) rfl lP2) hcp) (okPC ((bN5 (V := piW.nat) rfl lpw).two (bN5 (V := P2) rfl lP2)) (okPC (by decide) (okPC rfl (okPC ((bN5 (V := (W4.of (foI n d)).nat) rfl la).cmp (bN5 (V := 0) rfl l0) hc) (okPC ((bN5 (V := (W4.of (foI n d)).nat) rfl la).two (bN5 (V := 0) rfl l0)) (okPC (oW_all _) (okPC rfl (okPC ((bN5 (V := piN) rfl lPi).shrV (k := (72 : Int).toNat) hP2) (okPC ((bN5 (V := piN) rfl lPi).lost (k := (72 : Int).toNat) hpl) (okPC dpi (okPC ((bN5 (V := piN) rfl lPi).shr (k := 72) ⟨by decide, by decide⟩) (okPC ((bN5 (V := 0) rfl l0).blV hbl) (okPC (bN5 (V := 0) rfl l0).lenO (okPC (show rowP (hN5 (bOf (W4.of (foI n d))) [d.toNat, n.toNat]) (aP16 3) ((d16 d.toNat).length) ((d16 d.toNat).length) = true from ((bN5 (V := d.toNat) rfl ld) : N5 (hN5 (bOf (W4.of (foI n d))) [d.toNat, n.toNat]) (aP16 3) ((d16 d.toNat).length) d.toNat).row) (okPC hd64 (okPC (show rowP (hN5 (bOf (W4.of (foI n d))) [n.toNat]) (aP16 2) ((d16 n.toNat).length) ((d16 n.toNat).length) = true from ((bN5 (V := n.toNat) rfl ln) : N5 (hN5 (bOf (W4.of (foI n d))) [n.toNat]) (aP16 2) ((d16 n.toNat).length) n.toNat).row) (okPC dn (okPC hn64 (okPC hdb (okPC hM (okPC hd (okP1 hun)))))))))))))))))))))))) hv (by rfl) (startK hk)
  · have pA : 0 < (d16 A).length := len_pos16 (by omega)
    have dn : decide (0 < (d16 n.toNat).length) = true := decide_eq_true (len_pos16 (by omega))
    have hc : cmpZ (W4.of (foI n d)).nat Q = 0 := by rw [na]; unfold cmpZ; rw [if_neg (by omega), if_pos rfl]
    exact fitsAt_still T (of_I n d A Q R P2) (okPC rfl (okPC ((bN5 (V := piW.nat) rfl lpw).cmp (bN5 (V := P2) rfl lP2) hcp) (okPC ((bN5 (V := piW.nat) rfl lpw).two (bN5 (V := P2) rfl lP2)) (okPC (by decide) (okPC rfl (okPC ((bN5 (V := (W4.of (foI n d)).nat) rfl la).cmp (bN5 (V := Q) rfl lQ) hc) (okPC ((bN5 (V := (W4.of (foI n d)).nat) rfl la).two (bN5 (V := Q) rfl lQ)) (okPC (oW_all _) (okPC rfl (okPC ((bN5 (V := piN) rfl lPi).shrV (k := (72 : Int).toNat) hP2) (okPC ((bN5 (V := piN) rfl lPi).lost (k := (72 : Int).toNat) hpl) (okPC dpi (okPC ((bN5 (V := piN) rfl lPi).shr (k := 72) ⟨by decide, by decide⟩) (okPC ((bN5 (V := Q) rfl lQ).blV hbl) (okPC (bN5 (V := Q) rfl lQ).lenO (okPC ((bN5 (V := A) rfl lA).paV (bN5 (V := d.toNat) rfl ld) hQ hR) (okPC ((bN5 (V := A) rfl lA).pa (bN5 (V := d.toNat) rfl ld) pA pD) (okPC hd64 (okPC ((bN5 (V := n.toNat) rfl ln).shlV (k := (248 : Int).toNat) hA) (okPC ((bN5 (V := n.toNat) rfl ln).shl (k := 248) ⟨by decide, by decide⟩) (okPC dn (okPC hn64 (okPC hdb (okPC hM (okPC hd (okP1 hun)))))))))))))))))))))))))) hv (by rfl) (startK hk)
theorem own : ownKnob Tryd.prog.godebug = none := by kernel_rfl
theorem et : Tryd.prog.globalNamed "errors.errorType" = some 0 := by kernel_rfl
theorem rt : (Tryd.prog.cutTypes.find? (·.1 == "internal/reflectlite.rtype")).map (·.2) = some 101 := by kernel_rfl
theorem oneRow : ((List.range 147).filter fun t => Tryd.prog.rowNamed t [101, 114, 114, 111, 114]) = [26] := by kernel_rfl
theorem size : Tryd.prog.types.size = 147 := by kernel_rfl
/-- what the condition gives: the variable's one cell -/
theorem known_of {W : World} (h : laidMetH Tryd.prog Rows.fixOfRow.laid W) : known W := by
  have h' : laidMet Tryd.prog [] W ∧ handlesMet Tryd.prog Rows.fixOfRow.laid W := h
  obtain ⟨name, u, ty, e1, e2, e3, e4, e5⟩ := h'.2 _ (List.mem_singleton.2 rfl)
  have en : name = [101, 114, 114, 111, 114] := (Option.some.inj e1).symm
  subst en
  obtain rfl := Option.some.inj (rt.symm.trans e2)
  have hm : ty ∈ (List.range 147).filter fun t => Tryd.prog.rowNamed t [101, 114, 114, 111, 114] := List.mem_filter.2 ⟨List.mem_range.2 (by rw [← size]; exact e3), e4⟩
  rw [oneRow] at hm
  obtain rfl := List.mem_singleton.1 hm
  have hh : typeHandle Tryd.prog 26 = .pointer (some ⟨3, 26, none⟩) := by kernel_rfl
  rw [hh] at e5
  unfold known errT
  simpa using World.var?_cell et e5 0
/-- a world with the variable's cell laid -/
def laidIn (w : World) : World := { w with heap := w.heap.modify 0 fun
  | .cells _ t frozen => .cells #[errT] t frozen
  | o => o }
theorem laidIn_met (os : Os) (args : Array Value) : laidMetH Tryd.prog Rows.fixOfRow.laid ((laidIn (World.holding Tryd.prog os ⟨#[], #[], []⟩)).forCall (fun _ _ => 0) ⟨#[], args, []⟩).memory :=
  laidMetH_of_parts (laidMet_nil _ _) (by kernel_rfl)
set_option maxRecDepth 100000 in
theorem lifted (os : Os) (started : os.Started) (H : Type) (enc : TypeId × Value → H) :
    ReturnsInHanded {} Tryd.checked os 3 .any (fun w args => (Rows.fixOfSpec.pre enc Tryd.prog Tryd.f3 [] false w args ∧ laidMetH Tryd.prog Rows.fixOfRow.laid w) ∧ sizedMet enc Tryd.prog Tryd.f3 (OpenSpec.ofChange Rows.fixOfSpec) false w args)
      (Rows.fixOfSpec.post enc Tryd.prog Tryd.f3 false true false false) := by
  refine returnsInHanded_of_change_and (C := Tryd.checked) (X := fun w _ => laidMetH Tryd.prog Rows.fixOfRow.laid w) (fun _ _ _ hh h => h.of_heap hh) own started (by kernel_rfl) Tryd.func3
    (ChangeSpec.witness_at (enc := enc) (C := Tryd.checked) (os := os) (X := fun w _ => laidMetH Tryd.prog Rows.fixOfRow.laid w) false (laidIn (World.holding Tryd.prog os ⟨#[], #[], []⟩)) #[.int .u64 0, .int .u64 0] 8 rfl (by kernel_rfl) (by kernel_rfl) (by kernel_rfl) (by kernel_rfl) (by kernel_rfl) (laidIn_met os _)) ?_
  intro W base args ds gs before hval0 hW _ _ hL _
  have hval : ∀ (j : Nat) t v, Tryd.f3.params[j]? = some t → args[j]? = some v → Value.okWide Tryd.prog W .any base t v := hval0
  have hW' := hW
  obtain ⟨p, q, hA0, hV, rfl, hfz, hnd⟩ := hW
  have hA : DataW.TrodAll enc Tryd.prog W 0 (fun _ => true) true Tryd.f3.params.toList args.toList ds p := hA0
  rw [Tryd.params3] at hA hval
  obtain ⟨v0, v1, d0, d1, p0, p1, rfl, rfl, rfl, h0, h1⟩ := trodAll_two hA
  obtain ⟨rfl, rfl⟩ := trodVars_none hV
  obtain ⟨x0, rfl, rfl, rfl, w0⟩ := open_int Tryd.underlying22 (hval 0 22 v0 rfl rfl) h0
  obtain ⟨x1, rfl, rfl, rfl, w1⟩ := open_int Tryd.underlying22 (hval 1 22 v1 rfl rfl) h1
  clear hA0 hval0
  simp only [List.append_nil] at hW'
  refine (walk x0 x1 (u64_bounds w0) (u64_bounds w1) W (known_of hL)).mono fun e W' ⟨he, hg⟩ => ?_
  subst he
  exact ⟨_, rfl, post_of_same (pa := []) (pv := []) hW' (fun _ _ _ => trodAll_mk1 (shut_bool Tryd.underlying4 _))
    (fun sp _ => trodAll_mk2 (shut_int Tryd.underlying22 w0) (shut_int Tryd.underlying22 w1)) (fun _ _ => rfl) rfl
    (hg.1.frame _) (tidy_frozen hg) (ok_one (by kernel_rfl) rfl (okWide_bool_mk Tryd.underlying4 _))⟩
theorem row_holds : Rows.FixOfSaid :=
  OpenClaim.holds_of_wide 3 Tryd.f3 rfl rfl rfl rfl rfl rfl rfl ⟨rfl, rfl, rfl, rfl, rfl⟩ rfl rfl rfl rfl rfl (by kernel_rfl) Tryd.func3 (by kernel_rfl)
    (of_decide_eq_true (by kernel_rfl)) (by unfold Func.isWrapper; first | (rw [if_pos (by decide +kernel)]; kernel_rfl) | (rw [if_neg (by decide +kernel)]; exact ⟨rfl, rfl⟩))
    (fun os started H enc _ => lifted os started H enc)
theorem proved : Rows.FixOfCardSaid :=
  Claim7.holds_tied_plain_at .later [] [.handle] true (true, "9ed1360626a453007ad50c2fd01cb4d8cf3d1bbfb4d74e24a53151538a52c3f7") true
    row_holds (fun _ h => by cases h) (by kernel_rfl) (fun _ h => by cases h) fixOf_row_tie rfl ⟨rfl, rfl⟩ (by kernel_rfl) rfl
    (fun f fn hf hfn => by
      obtain rfl : f = 3 := Option.some.inj ((show Tryd.prog.funcNamed "tiller/tillerlaw15.FixOf" = some 3 by kernel_rfl).symm.trans hf) |>.symm
      obtain rfl : fn = Tryd.f3 := (Option.some.inj (Tryd.func3.symm.trans hfn)).symm
      exact ⟨by kernel_rfl, fun j t ht => by
        rw [Tryd.params3] at ht
        have hm : t ∈ [22, 22] := by simpa using Array.mem_of_getElem? ht
        have hall : ([22, 22].all fun u => !Tryd.prog.wantsStandIn u) = true := by kernel_rfl
        exact (show Tryd.prog.wantsStandIn t = false by simpa using List.all_eq_true.1 hall t hm)⟩)
    (by kernel_rfl)
end Go.Proofs.YtmgcnijpoklhkaaDoor.fixOf
