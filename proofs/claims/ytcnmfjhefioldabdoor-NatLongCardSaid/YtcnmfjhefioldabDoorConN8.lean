/-
  bits.Sub32, as a call.
-/
import Derived.Test.YtcnmfjhefioldabDoorConN7
namespace Go.Proofs.YtcnmfjhefioldabDoor
open Go.KRun Go.Nt
set_option maxRecDepth 100000

def bnt (z : Int) : Int := IntKind.u32.wrap ((BitVec.ofInt 32 4294967295 ^^^ BitVec.ofInt 32 z).toNat : Nat)
def bnd (x y : Int) : Int := IntKind.u32.wrap ((BitVec.ofInt 32 x &&& BitVec.ofInt 32 y).toNat : Nat)
def bxr (x y : Int) : Int := IntKind.u32.wrap ((BitVec.ofInt 32 x ^^^ BitVec.ofInt 32 y).toNat : Nat)
def brr (x y : Int) : Int := IntKind.u32.wrap ((BitVec.ofInt 32 x ||| BitVec.ofInt 32 y).toNat : Nat)
def difR (x y c : Int) : Int := IntKind.u32.wrap (IntKind.u32.wrap (x - y) - c)
def borR (x y c : Int) : Int := (brr (bnd (bnt x) y) (bnd (bnt (bxr x y)) (difR x y c))).fdiv (2 ^ min ((31 : Int).toNat) 32)
theorem sub32_fits (x y c : Int) : Fits (reckon (tabOf Tryd.prog extY conN true) 100 26 [uu x, uu y, uu c] []) (.tuple #[uu (difR x y c), uu (borR x y c)]) [(decide ((31 : Int) < 0), false)] := ⟨by kernel_rfl, by kernel_rfl, by kernel_rfl, by kernel_rfl⟩
theorem ofInt_wrap (v : BitVec 32) : BitVec.ofInt 32 (IntKind.u32.wrap (v.toNat : Nat)) = v := by
  rw [u32w]
  have h := v.isLt
  apply BitVec.eq_of_toNat_eq
  simp
  omega
theorem wrap_nat (v : BitVec 32) : IntKind.u32.wrap (v.toNat : Nat) = v.toNat := by
  rw [u32w]
  have h := v.isLt
  omega
theorem top_div (v : BitVec 32) : v.toNat / 2147483648 = if v.getLsbD 31 = true then 1 else 0 := by
  have h := v.isLt
  unfold BitVec.getLsbD
  rw [Nat.testBit_eq_decide_div_mod_eq]
  have e : (2 : Nat) ^ 31 = 2147483648 := rfl
  rw [e]
  by_cases h1 : v.toNat / 2147483648 % 2 = 1
  · rw [decide_eq_true h1]
    simp
    omega
  · rw [decide_eq_false h1]
    simp
    omega
theorem top_of {x : Int} (h0 : 0 ≤ x) (h1 : x < 4294967296) : (BitVec.ofInt 32 x).getLsbD 31 = decide (2147483648 ≤ x) := by
  have e : (BitVec.ofInt 32 x).toNat = x.toNat := by simp; omega
  unfold BitVec.getLsbD
  rw [e, Nat.testBit_eq_decide_div_mod_eq]
  have e2 : (2 : Nat) ^ 31 = 2147483648 := rfl
  rw [e2]
  by_cases h : 2147483648 ≤ x
  · rw [decide_eq_true h]
    exact decide_eq_true (by omega)
  · rw [decide_eq_false h]
    exact decide_eq_false (by omega)
def subD (x y c : Int) : Int := (x - y - c) % 4294967296
def subB (x y c : Int) : Int := if x < y + c then 1 else 0
theorem sub32_eq {x y c : Int} (hx : 0 ≤ x ∧ x < 4294967296) (hy : 0 ≤ y ∧ y < 4294967296) (hc : 0 ≤ c ∧ c ≤ 1) : difR x y c = subD x y c ∧ borR x y c = subB x y c := by
  have e1 : difR x y c = subD x y c := by
    unfold difR subD
    rw [u32w, u32w]
    omega
  refine ⟨e1, ?_⟩
  have d0 : 0 ≤ subD x y c ∧ subD x y c < 4294967296 := by unfold subD; omega
  unfold borR
  rw [e1]
  unfold brr bnd bnt bxr
  simp only [ofInt_wrap]
  rw [wrap_nat, show (2 : Int) ^ min ((31 : Int).toNat) 32 = 2147483648 from rfl, Int.fdiv_eq_ediv_of_nonneg _ (by omega)]
  have key := top_div ((BitVec.ofInt 32 4294967295 ^^^ BitVec.ofInt 32 x) &&& BitVec.ofInt 32 y ||| (BitVec.ofInt 32 4294967295 ^^^ (BitVec.ofInt 32 x ^^^ BitVec.ofInt 32 y)) &&& BitVec.ofInt 32 (subD x y c))
  simp only [BitVec.getLsbD_or, BitVec.getLsbD_and, BitVec.getLsbD_xor, top_of hx.1 hx.2, top_of hy.1 hy.2, top_of d0.1 d0.2, top_of (x := 4294967295) (by omega) (by omega)] at key
  rw [show decide ((2147483648 : Int) ≤ 4294967295) = true from rfl] at key
  generalize hV : ((BitVec.ofInt 32 4294967295 ^^^ BitVec.ofInt 32 x) &&& BitVec.ofInt 32 y ||| (BitVec.ofInt 32 4294967295 ^^^ (BitVec.ofInt 32 x ^^^ BitVec.ofInt 32 y)) &&& BitVec.ofInt 32 (subD x y c)).toNat = V at *
  have cast : ((V : Nat) : Int) / 2147483648 = ((V / 2147483648 : Nat) : Int) := by omega
  rw [cast, key]
  unfold subB
  unfold subD at *
  by_cases a1 : 2147483648 ≤ x <;> by_cases a2 : 2147483648 ≤ y <;> by_cases a3 : 2147483648 ≤ (x - y - c) % 4294967296 <;> simp only [a1, a2, a3, decide_true, decide_false] <;> split <;> split <;> simp_all <;> omega
def sub32V (x y c : Int) : Value := .tuple #[uu (subD x y c), uu (subB x y c)]
def gSub32 : Ans := fun vals s =>
  match vals with
  | [.int .u32 x, .int .u32 y, .int .u32 c] => some (sub32V x y c, s, [(wd4 x y c, true)])
  | _ => none
theorem gSub32_ok : AnsOk 26 gSub32 := by
  intro vals s v s' lg h hl w
  unfold gSub32 at h
  split at h
  · rename_i x y c
    cases h
    have hr := hl _ (List.mem_singleton.2 rfl)
    simp only [wd4, decide_eq_true_eq] at hr
    obtain ⟨e1, e2⟩ := sub32_eq hr.1 hr.2.1 hr.2.2
    have := fits_calls (tabY_ok conN_ok) (sub32_fits x y c) (okOne (by rfl)) (by rfl) (by rfl) w
    rw [e1, e2] at this
    exact this
  · cases h
/-! ### nat.Sub: its pieces -/
def conB : Con := alt 26 gSub32 conN
theorem conB_ok : ConOk conB := alt_ok Tryd.func26 rfl gSub32_ok conN_ok
def hcB : Hc := altH 18 gBoth (altH 25 gCmp (altH 17 gTrim hcN))
theorem hcB_ok : HcOk hcB := altH_ok Tryd.func18 rfl gBoth_ok (altH_ok Tryd.func25 rfl gCmp_ok (altH_ok Tryd.func17 rfl gTrim_ok hcN_ok))
theorem sub_body : Tryd.f11.body = some (addC' Tryd.f11) := by kernel_rfl
def cpS (la : List Value) (o n : Nat) : List Value := (List.replicate ((n : Int)).toNat (uu 0)).take 0 ++ (la.drop o).take (Nat.min n ((n : Int)).toNat) ++ (List.replicate ((n : Int)).toNat (uu 0)).drop (0 + Nat.min n ((n : Int)).toNat)
def csOk (la : List Value) (o n : Nat) : Bool := !(tomb tR) && !(ro tU) && Nat.ble (o + Nat.min n ((n : Int)).toNat) la.length && Nat.ble (0 + Nat.min n ((n : Int)).toNat) (List.replicate ((n : Int)).toNat (uu 0)).length && ((la.drop o).take (Nat.min n ((n : Int)).toNat)).all one
def cN (la lb : List Value) (o n o' n' : Nat) : Int := cmpL (cutI la o n) (cutI lb o' n')
theorem sub_pre (o n c o' n' c' : Nat) (la lb : List Value) : GoesT (evL (tabH Tryd.prog extY conB hcB) 200 (aPre Tryd.f11) ([sl 0 o n c, sl 1 o' n' c'] ++ List.replicate 68 undef, h2 la lb, [cmp false, cmp false, at_, at_]) ⟨[], [], []⟩) 12 58 none
    (aF (sl 0 o n c) (sl 1 o' n' c') (sl 2 0 ((n : Int)).toNat ((n : Int)).toNat) (uu 0) undef undef undef) (h3 la lb (cpS la o n)) [(csOk la o n, true), (okMakeB 4 n n, true), (decide (cN la lb o n o' n' < 0), false), chkL la o n c, chkL lb o' n' c', chkL la o n c, chkL lb o' n' c', (badL (cutI la o n) || badL (cutI lb o' n'), false)] := ⟨by kernel_rfl, by kernel_rfl, by kernel_rfl⟩
theorem sub_r9 (a s c i x k : Value) (q o n e : Nat) (h : Hp) (g : Nat → Value) : GoesM (evC (tabH Tryd.prog extY conB hcB) 200 false (aR9 Tryd.f11) (aF a (sl q o n e) s c i x k ++ tl 58 g, h, []) ⟨[], [], []⟩) 12 17 3 38 none
    (aF a (sl q o n e) s c i x k) [sl q o n e, i6' n, i6' 0] h [] := ⟨by kernel_rfl, by kernel_rfl, by kernel_rfl⟩
theorem sub_out0 (a b s c i x k : Value) (t : Value) (n : Nat) (j : Int) (h : Hp) (g g' : Nat → Value) : GoesM (evC (tabH Tryd.prog extY conB hcB) 200 false (aL0 Tryd.f11) (ml (aF a b s c i x k) 17 g [t, i6' n, i6' j] 38 g', h, [cmp false]) ⟨[], [], []⟩) 12 17 3 38 (some (some 0))
    (aF a b s c i x k) [t, i6' n, i6' j] h [(decide (j < n), false)] := ⟨by kernel_rfl, by kernel_rfl, by kernel_rfl⟩
theorem sub_go (a b i0 x0 k0 : Value) (o n e N M : Nat) (c j x y : Int) (la lb S : List Value) (g g' : Nat → Value) : GoesM (evC (tabH Tryd.prog extY conB hcB) 200 false (aL0 Tryd.f11) (ml (aF a b (sl 2 0 N M) (uu c) i0 x0 k0) 17 g [sl 1 o n e, i6' n, i6' j] 38 g', h3 la lb S, [cmp true, at_, val (uu y), at_, val (uu x), at_, at_]) ⟨[], [], []⟩) 12 17 3 38 none
    (aF a b (sl 2 0 N M) (uu (subB x y c)) (i6' j) (uu y) k0) [sl 1 o n e, i6' n, i6' (IntKind.i64.wrap (j + 1))] (h3 la lb (S.set (0 + j.toNat * 1) (uu (subD x y c)))) [stoR S j, inR j N, (wd4 x y c, true), celR S 0 j x, inR j N, celR lb o j y, inR j n, (decide (j < n), true)] := ⟨by kernel_rfl, by kernel_rfl, by kernel_rfl⟩
theorem sub_r14 (a s c i x k : Value) (q o n e : Nat) (t u v : Value) (h : Hp) (g g' : Nat → Value) : GoesT (evC (tabH Tryd.prog extY conB hcB) 200 false (aR14 Tryd.f11) (ml (aF a (sl q o n e) s c i x k) 17 g [t, u, v] 38 g', h, []) ⟨[], [], []⟩) 12 58 none
    (aF a (sl q o n e) s c i x (i6' n)) h [] := ⟨by kernel_rfl, by kernel_rfl, by kernel_rfl⟩
theorem sub_out2 (a b s i x k : Value) (c : Int) (h : Hp) (g : Nat → Value) : GoesT (evC (tabH Tryd.prog extY conB hcB) 200 false (aL2 Tryd.f11) (aF a b s (uu c) i x k ++ tl 58 g, h, [cmp false]) ⟨[], [], []⟩) 12 58 (some (some 2))
    (aF a b s (uu c) i x k) h [(c != 0, false)] := ⟨by kernel_rfl, by kernel_rfl, by kernel_rfl⟩
theorem sub_go2 (a b i0 x0 : Value) (N M : Nat) (c j x : Int) (la lb S : List Value) (g : Nat → Value) : GoesT (evC (tabH Tryd.prog extY conB hcB) 200 false (aL2 Tryd.f11) (aF a b (sl 2 0 N M) (uu c) i0 x0 (i6' j) ++ tl 58 g, h3 la lb S, [cmp true, at_, val (uu x), at_, at_]) ⟨[], [], []⟩) 12 58 none
    (aF a b (sl 2 0 N M) (uu (subB x 0 c)) i0 x0 (i6' (IntKind.i64.wrap (j + 1)))) (h3 la lb (S.set (0 + j.toNat * 1) (uu (subD x 0 c)))) [stoR S j, inR j N, (wd4 x 0 c, true), celR S 0 j x, inR j N, (c != 0, true)] := ⟨by kernel_rfl, by kernel_rfl, by kernel_rfl⟩
theorem sub_fin (a b c i x k : Value) (N M : Nat) (la lb S : List Value) (g : Nat → Value) : GoesT (evC (tabH Tryd.prog extY conB hcB) 200 false (aFin Tryd.f11) (aF a b (sl 2 0 N M) c i x k ++ tl 58 g, h3 la lb S, []) ⟨[], [], []⟩) 6 64 (some none)
    [a, b, undef, undef, sl 2 0 (trimN (cutI S 0 N)) M, .nilIface] (h3 la lb S) [(rowOk tU S 0 N M, true)] := ⟨by kernel_rfl, by kernel_rfl, by kernel_rfl⟩
theorem sub_err0 (v w : Value) (h : Hp) : GoesT (evL (tabH Tryd.prog extY conB hcB) 200 [cFst (sn 0 Tryd.f11)] ([v, w] ++ List.replicate 68 undef, h, []) ⟨[], [], []⟩) 6 64 none [v, w, undef, undef, nilS, .nilIface] h [] := ⟨by kernel_rfl, by kernel_rfl, by kernel_rfl⟩
theorem sub_err1 (o n c o' n' c' : Nat) (la lb : List Value) (g : Nat → Value) : GoesT (evC (tabH Tryd.prog extY conB hcB) 200 false (cFst (sn 1 Tryd.f11)) ([sl 0 o n c, sl 1 o' n' c', undef, undef, nilS, .nilIface] ++ tl 64 g, h2 la lb, [cmp true]) ⟨[], [], []⟩) 6 64 (some none) [sl 0 o n c, sl 1 o' n' c', undef, undef, nilS, errV 1] (h2 la lb) [chkL la o n c, chkL lb o' n' c', (badL (cutI la o n) || badL (cutI lb o' n'), true)] := ⟨by kernel_rfl, by kernel_rfl, by kernel_rfl⟩
theorem sub_low0 (o n c o' n' c' : Nat) (la lb : List Value) : GoesT (evL (tabH Tryd.prog extY conB hcB) 200 [cFst (sn 0 Tryd.f11), cFst (sn 1 Tryd.f11)] ([sl 0 o n c, sl 1 o' n' c'] ++ List.replicate 68 undef, h2 la lb, [cmp false]) ⟨[], [], []⟩) 6 64 none [sl 0 o n c, sl 1 o' n' c', undef, undef, nilS, .nilIface] (h2 la lb) [chkL la o n c, chkL lb o' n' c', (badL (cutI la o n) || badL (cutI lb o' n'), false)] := ⟨by kernel_rfl, by kernel_rfl, by kernel_rfl⟩
theorem sub_low1 (o n c o' n' c' : Nat) (la lb : List Value) (g : Nat → Value) : GoesT (evC (tabH Tryd.prog extY conB hcB) 200 false (cFst (sn 2 Tryd.f11)) ([sl 0 o n c, sl 1 o' n' c', undef, undef, nilS, .nilIface] ++ tl 64 g, h2 la lb, [cmp true]) ⟨[], [], []⟩) 6 64 (some none) [sl 0 o n c, sl 1 o' n' c', undef, undef, nilS, errV 4] (h2 la lb) [(decide (cN la lb o n o' n' < 0), true), chkL la o n c, chkL lb o' n' c'] := ⟨by kernel_rfl, by kernel_rfl, by kernel_rfl⟩
end Go.Proofs.YtcnmfjhefioldabDoor
