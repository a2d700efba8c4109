/-
  nat.product, piece by piece.
-/
import Derived.Test.YtbjgkhbhabdjgaaDoorG25
import Derived.Test.YtbjgkhbhabdjgaaDoorG13
import Derived.Test.YtbjgkhbhabdjgaaDoorG12
namespace Go.Proofs.YtbjgkhbhabdjgaaDoor
open Go.KRun Go.Nt
set_option maxRecDepth 100000
set_option linter.unusedVariables false

def hcM : Hc := altH 65 gTms (altH 41 gTrim hcN)
theorem hcM_ok : HcOk hcM := altH_ok Tryd.func65 rfl gTms_ok (altH_ok Tryd.func41 rfl gTrim_ok hcN_ok)
def pdP (F : Func) : List Code := [cFst (sn 0 F), cFst (sn 1 F), cFst (sn 2 F), cFst (sn 3 F)]
def pdL (F : Func) : Code := cIn (cIn (cSnd (cFst (sn 4 F))))
def pdF (o n c o' n' c' z : Nat) (v7 v8 : Value) : List Value := [sl 0 o n c, sl 1 o' n' c', undef, undef, nilS, .nilIface, sl 2 0 z z, v7, v8]
theorem pd_body : Tryd.f45.body = some (seqs (pdP Tryd.f45) (.seq (.seq (cFst (cFst (sn 4 Tryd.f45))) (.block 0 (.loop (pdL Tryd.f45)))) (cSnd (sn 4 Tryd.f45)))) := by kernel_rfl
def pZ (n n' : Nat) : Int := IntKind.i64.wrap ((n : Int) + (n' : Int))
theorem pd_pre (o n c o' n' c' : Nat) (la lb : List Value) : GoesT (evL (tabH Tryd.prog extY conN hcM) 100 (pdP Tryd.f45) ([sl 0 o n c, sl 1 o' n' c'] ++ List.replicate 57 undef, h2 la lb, [cmp false, cmp false, cmp false, at_]) ⟨[], [], []⟩) 9 50 none (pdF o n c o' n' c' (pZ n n').toNat undef undef) (h3 la lb (List.replicate (pZ n n').toNat (uu 0))) [(okMakeB 4 (pZ n n') (pZ n n'), true), (decide (IntKind.i64.wrap (pZ n n' - 1) > 8192), false), ((n' : Int) == 0, false), ((n : Int) == 0, false)] := ⟨by kernel_rfl, by kernel_rfl, by kernel_rfl⟩
theorem pd_r (o n c o' n' c' z : Nat) (v7 v8 : Value) (la lb S : List Value) (g : Nat → Value) : GoesM (evC (tabH Tryd.prog extY conN hcM) 100 false (cFst (cFst (sn 4 Tryd.f45))) (pdF o n c o' n' c' z v7 v8 ++ tl 50 g, h3 la lb S, []) ⟨[], [], []⟩) 9 22 3 25 none (pdF o n c o' n' c' z v7 v8) [sl 0 o n c, i6' n, i6' 0] (h3 la lb S) [] := ⟨by kernel_rfl, by kernel_rfl, by kernel_rfl⟩
theorem pd_out (o n c o' n' c' z : Nat) (j : Int) (v7 v8 : Value) (la lb S : List Value) (g g' : Nat → Value) : GoesM (evC (tabH Tryd.prog extY conN hcM) 100 false (pdL Tryd.f45) (ml (pdF o n c o' n' c' z v7 v8) 22 g [sl 0 o n c, i6' n, i6' j] 25 g', h3 la lb S, [cmp false]) ⟨[], [], []⟩) 9 22 3 25 (some (some 0)) (pdF o n c o' n' c' z v7 v8) [sl 0 o n c, i6' n, i6' j] (h3 la lb S) [(decide (j < n), false)] := ⟨by kernel_rfl, by kernel_rfl, by kernel_rfl⟩
def pJ (j : Int) : Nat := 0 + j.toNat * 1
def pK (j : Int) (n' : Nat) : Int := IntKind.i64.wrap (j + n')
def pLn (j : Int) (n' : Nat) : Nat := (pK j n').toNat - j.toNat
def pS (S lb : List Value) (o' n' : Nat) (j x : Int) : List Value := tmS S (pJ j) (pLn j n') (tmR (cutI S (pJ j) (pLn j n')) (cutI lb o' n') x)
def pC (S lb : List Value) (o' n' : Nat) (j x : Int) : Int := tmC (cutI S (pJ j) (pLn j n')) (cutI lb o' n') x
theorem pd_go (o n c o' n' c' z : Nat) (j x : Int) (v7 v8 : Value) (la lb S : List Value) (g g' : Nat → Value) : GoesM (evC (tabH Tryd.prog extY conN hcM) 100 false (pdL Tryd.f45) (ml (pdF o n c o' n' c' z v7 v8) 22 g [sl 0 o n c, i6' n, i6' j] 25 g', h3 la lb S, [cmp true, at_, val (uu x), num 0, at_, at_]) ⟨[], [], []⟩) 9 22 3 25 none (pdF o n c o' n' c' z (i6' j) (uu x)) [sl 0 o n c, i6' n, i6' (IntKind.i64.wrap (j + 1))]
    (h3 la lb ((pS S lb o' n' j x).set (0 + (pK j n').toNat * 1) (uu (pC S lb o' n' j x))))
    [(decide (0 + (pK j n').toNat * 1 < (pS S lb o' n' j x).length), true), inR (pK j n') z, (okTm S lb la tU tR tR (pJ j) (pLn j n') (z - j.toNat) o' n' c' x, true), (smallC z, true), (okPart j (pK j n') z z, true), (decide ((z : Int) = j ∧ j ≠ 0), false), celR la o j x, inR j n, (decide (j < n), true)] := ⟨by kernel_rfl, by kernel_rfl, by kernel_rfl⟩
theorem pd_end (o n c o' n' c' z : Nat) (v7 v8 u1 u2 u3 : Value) (la lb S : List Value) (g g' : Nat → Value) : GoesT (evC (tabH Tryd.prog extY conN hcM) 100 false (cSnd (sn 4 Tryd.f45)) (ml (pdF o n c o' n' c' z v7 v8) 22 g [u1, u2, u3] 25 g', h3 la lb S, [cmp false]) ⟨[], [], []⟩) 6 53 (some none) [sl 0 o n c, sl 1 o' n' c', undef, undef, sl 2 0 (trimN (cutI S 0 z)) z, .nilIface] (h3 la lb S) [(decide ((trimN (cutI S 0 z) : Int) > 8192), false), (rowOk tU S 0 z z, true)] := ⟨by kernel_rfl, by kernel_rfl, by kernel_rfl⟩
theorem pd_n1 (p q : Option Addr) (n c n' c' : Nat) (h : Hp) : GoesT (evC (tabH Tryd.prog extY conN hcM) 100 false (cBody Tryd.f45) ([.slice p n c, .slice q n' c'] ++ List.replicate 57 undef, h, [cmp true]) ⟨[], [], []⟩) 6 53 (some none) [.slice p n c, .slice q n' c', undef, undef, nilS, .nilIface] h [((n : Int) == 0, true)] := ⟨by kernel_rfl, by kernel_rfl, by kernel_rfl⟩
theorem pd_n2 (p q : Option Addr) (n c n' c' : Nat) (h : Hp) : GoesT (evC (tabH Tryd.prog extY conN hcM) 100 false (cBody Tryd.f45) ([.slice p n c, .slice q n' c'] ++ List.replicate 57 undef, h, [cmp false, cmp true]) ⟨[], [], []⟩) 6 53 (some none) [.slice p n c, .slice q n' c', undef, undef, nilS, .nilIface] h [((n' : Int) == 0, true), ((n : Int) == 0, false)] := ⟨by kernel_rfl, by kernel_rfl, by kernel_rfl⟩
theorem pd_cbody : Tryd.f45.body = some (cBody Tryd.f45) := by kernel_rfl
end Go.Proofs.YtbjgkhbhabdjgaaDoor

/-
  nat.Shl: its pieces.
-/
namespace Go.Proofs.YtbjgkhbhabdjgaaDoor
open Go.KRun Go.Nt
set_option maxRecDepth 100000

def hcS : Hc := altH 13 gChk (altH 28 gLen (altH 47 gMup (altH 41 gTrim hcN)))
theorem hcS_ok : HcOk hcS := altH_ok Tryd.func13 rfl gChk_ok (altH_ok Tryd.func28 rfl gLen_ok (altH_ok Tryd.func47 rfl gMup_ok (altH_ok Tryd.func41 rfl gTrim_ok hcN_ok)))
def skI (k : Int) : Int := IntKind.i64.wrap (k.tdiv 32)
def rmI (k : Int) : Int := k.tmod 32
def zI (n : Nat) (k : Int) : Int := IntKind.i64.wrap (IntKind.i64.wrap (skI k + n) + 1)
def zN (n : Nat) (k : Int) : Nat := (zI n k).toNat
def oN (k : Int) : Nat := 0 + (skI k).toNat * 1
def pN (n : Nat) (k : Int) : Nat := zN n k - (skI k).toNat
def cpN (n : Nat) (k : Int) : Nat := Nat.min n (pN n k)
def cpL (la : List Value) (o n : Nat) (k : Int) : List Value := (List.replicate (zN n k) (uu 0)).take (oN k) ++ (la.drop o).take (cpN n k) ++ (List.replicate (zN n k) (uu 0)).drop (oN k + cpN n k)
def clOk (la : List Value) (o n : Nat) (k : Int) : Bool := !(tomb tR) && !(ro tU) && Nat.ble (o + cpN n k) la.length && Nat.ble (oN k + cpN n k) (List.replicate (zN n k) (uu 0)).length && ((la.drop o).take (cpN n k)).all one
def upM (la : List Value) (o n : Nat) (k : Int) : List Value := upS (cpL la o n k) (oN k) (pN n k) (rmI k)
def lnI (la : List Value) (o n : Nat) : Int := IntKind.i64.wrap (262144 - lenN (cutI la o n))
def fS (o n c : Nat) (k : Int) (r e : Value) : List Value := [sl 0 o n c, i6' k, undef, undef, r, e]
theorem shl_body : Tryd.f27.body = some (cBody Tryd.f27) := by kernel_rfl
theorem shl_bad (o n c : Nat) (k : Int) (la : List Value) : GoesT (evC (tabH Tryd.prog extY conN hcS) 200 false (cBody Tryd.f27) ([sl 0 o n c, i6' k] ++ List.replicate 45 undef, ⟨1, [(la, tR)]⟩, [cmp true]) ⟨[], [], []⟩) 6 41 (some none) (fS o n c k nilS (errV 1)) ⟨1, [(la, tR)]⟩ [chkL la o n c, (badL (cutI la o n), true)] := ⟨by kernel_rfl, by kernel_rfl, by kernel_rfl⟩
theorem shl_neg (o n c : Nat) (k : Int) (la : List Value) : GoesT (evC (tabH Tryd.prog extY conN hcS) 200 false (cBody Tryd.f27) ([sl 0 o n c, i6' k] ++ List.replicate 45 undef, ⟨1, [(la, tR)]⟩, [cmp false, cmp true]) ⟨[], [], []⟩) 6 41 (some none) (fS o n c k nilS (errV 1)) ⟨1, [(la, tR)]⟩ [(decide (k < 0), true), chkL la o n c, (badL (cutI la o n), false)] := ⟨by kernel_rfl, by kernel_rfl, by kernel_rfl⟩
theorem shl_nil (o n c : Nat) (k : Int) (la : List Value) : GoesT (evC (tabH Tryd.prog extY conN hcS) 200 false (cBody Tryd.f27) ([sl 0 o n c, i6' k] ++ List.replicate 45 undef, ⟨1, [(la, tR)]⟩, [cmp false, cmp false, cmp true]) ⟨[], [], []⟩) 6 41 (some none) (fS o n c k nilS .nilIface) ⟨1, [(la, tR)]⟩ [((n : Int) == 0, true), (decide (k < 0), false), chkL la o n c, (badL (cutI la o n), false)] := ⟨by kernel_rfl, by kernel_rfl, by kernel_rfl⟩
theorem shl_long (o n c : Nat) (k : Int) (la : List Value) : GoesT (evC (tabH Tryd.prog extY conN hcS) 200 false (cBody Tryd.f27) ([sl 0 o n c, i6' k] ++ List.replicate 45 undef, ⟨1, [(la, tR)]⟩, [cmp false, cmp false, cmp false, cmp true]) ⟨[], [], []⟩) 6 41 (some none) (fS o n c k nilS (errV 2)) ⟨1, [(la, tR)]⟩ [(decide (k > lnI la o n), true), chkL la o n c, ((n : Int) == 0, false), (decide (k < 0), false), chkL la o n c, (badL (cutI la o n), false)] := ⟨by kernel_rfl, by kernel_rfl, by kernel_rfl⟩
theorem shl_good (o n c : Nat) (k : Int) (la : List Value) : GoesT (evC (tabH Tryd.prog extY conN hcS) 200 false (cBody Tryd.f27) ([sl 0 o n c, i6' k] ++ List.replicate 45 undef, ⟨1, [(la, tR)]⟩, [cmp false, cmp false, cmp false, cmp false, at_, num 0, at_, num 0]) ⟨[], [], []⟩) 6 41 (some none) (fS o n c k (sl 1 0 (trimN (cutI (upM la o n k) 0 (zN n k))) (zN n k)) .nilIface) (hU (upM la o n k) la)
    [(rowOk tU (upM la o n k) 0 (zN n k) (zN n k), true), (Nat.beq tU tU, true), (Nat.beq tR tR, true), (rowOk tU (cpL la o n k) (oN k) (pN n k) (pN n k), true), (Nat.beq (oN k + pN n k) (cpL la o n k).length, true), (la.all still, true), (decide (0 ≤ rmI k ∧ rmI k < 32), true),
      (smallC (zN n k), true), (okPart (skI k) (zN n k) (zN n k) (zN n k), true), (decide (((zN n k : Nat) : Int) = skI k ∧ skI k ≠ 0), false), (clOk la o n k, true), (smallC (zN n k), true), (okPart (skI k) (zN n k) (zN n k) (zN n k), true), (decide (((zN n k : Nat) : Int) = skI k ∧ skI k ≠ 0), false), (okMakeB 4 (zI n k) (zI n k), true),
      (decide (k > lnI la o n), false), chkL la o n c, ((n : Int) == 0, false), (decide (k < 0), false), chkL la o n c, (badL (cutI la o n), false)] := ⟨by kernel_rfl, by kernel_rfl, by kernel_rfl⟩
end Go.Proofs.YtbjgkhbhabdjgaaDoor

/-
  PLAIN ARITHMETIC: words moved up by whole words.
-/
namespace Go.Nt

theorem dg_skip : ∀ (s m : Nat) (V : Int), dg (s + m) (4294967296 ^ s * V) = List.replicate s 0 ++ dg m V
  | 0, m, V => by simp
  | s + 1, m, V => by
    rw [show s + 1 + m = (s + m) + 1 from by omega]
    simp only [dg]
    rw [pw, Int.mul_assoc]
    generalize hZ : (4294967296 : Int) ^ s * V = Z
    have e1 : (4294967296 * Z) % 4294967296 = 0 := by omega
    have e2 : (4294967296 * Z) / 4294967296 = Z := by omega
    rw [e1, e2, ← hZ, dg_skip s m V, List.replicate_succ, List.cons_append]
theorem two_split (K : Nat) : (2 : Int) ^ K = 4294967296 ^ (K / 32) * 2 ^ (K % 32) := by
  have e : (4294967296 : Int) = 2 ^ 32 := rfl
  rw [e, ← Int.pow_mul, ← Int.pow_add, show 32 * (K / 32) + K % 32 = K from by omega]
/-- words moved up by K bits -/
def shlR (L : List Int) (K : Nat) : List Int := dg (K / 32 + (L.length + 1)) (vN L * 2 ^ K)
theorem shlR_eq (L : List Int) (K : Nat) : shlR L K = List.replicate (K / 32) 0 ++ dg (L.length + 1) (vN L * 2 ^ (K % 32)) := by
  unfold shlR
  rw [two_split K, ← Int.mul_assoc, Int.mul_comm (vN L), Int.mul_assoc, dg_skip]
theorem shlR_len (L : List Int) (K : Nat) : (shlR L K).length = K / 32 + (L.length + 1) := dg_len _ _
end Go.Nt
