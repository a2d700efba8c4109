/-
  The ways of the document's To of patterns of 32 bits (tillerref12.To).
-/
import Derived.Test.YteglhjkpcljpmaaG33
namespace Go.Proofs.Yteglhjkpcljpmaa
open Go.KRun Go.Nt Go.Wd Go.Pt Go.Rn
set_option maxRecDepth 100000

/-! ### memories -/
def J1 (p : Int) : Hp := ⟨1, [w16 (sg p).toNat]⟩
def J2 (p : Int) (V : Nat) : Hp := ⟨2, [w16 V, w16 (sg p).toNat]⟩
def J3 (p : Int) (V F : Nat) : Hp := ⟨3, [w16 F, w16 V, w16 (sg p).toNat]⟩
def LA (p : Int) : Nat := (d16 (sg p).toNat).length
def aV (p : Int) : Nat := vO (J1 p) (aP16 0) (LA p)
def tpD (p : Int) : Int := IntKind.i64.wrap (xp p + ((bl (aV p) : Nat) : Int))
def t24 (p : Int) : Int := IntKind.i64.wrap (tpD p - 24)
def nD (p : Int) : Int := if -149 > t24 p then -149 else t24 p
/-! ### logs -/
def lLn (h : Hp) (P : Option Addr) (n : Nat) : Bool × Bool := (rowP h P n n && canB (rowOf h P n) && Nat.blt n 1073741824, true)
def lZ (p : Int) (s : Bool) : Log := [(p.tmod 9223372036854775808 == 0, false), (decide ((9223372036854775808 : Int) = 0), false), (p.tmod 9223372036854775808 == 9218868437227405312, false), (decide ((9223372036854775808 : Int) = 0), false), (decide (p ≥ 9223372036854775808), s), (decide (cl p > 3), false), lU p]
def lM1 (p m : Int) (s : Bool) : Log := (decide (m < 0), true) :: lZ p s
def lM2 (p m : Int) (s : Bool) : Log := (decide (m > 4), true) :: (decide (m < 0), false) :: lZ p s
def lM3 (p m : Int) (s : Bool) : Log := (decide (m > 4), false) :: (decide (m < 0), false) :: lZ p s
/-- the first To, with a row and with none -/
def lTt (p M : Int) (V : Nat) (e : Bool) (l : Log) : Log := (decide (toQ M (sgn p) (aV p) (xp p) (nD p) = V), true) :: (toL (aV p) (xp p) (nD p), e) :: (rowTo M (sgn p) (aV p) (LA p) (xp p) (nD p), true) :: (okTo (J1 p) (aP16 0) (LA p) (LA p) (xp p) (nD p), true) :: lLn (J1 p) (aP16 0) (LA p) :: lU p :: l
def lTf (p M : Int) (e : Bool) (l : Log) : Log := (toL (aV p) (xp p) (nD p), e) :: (rowTo M (sgn p) (aV p) (LA p) (xp p) (nD p), false) :: (okTo (J1 p) (aP16 0) (LA p) (LA p) (xp p) (nD p), true) :: lLn (J1 p) (aP16 0) (LA p) :: lU p :: l
/-- the second To, out of a memory h into a memory k, its row at b; and whether that is less than the least plain one -/
def lSn (h k : Hp) (b : Nat) (p M : Int) (F : Nat) (g c : Bool) (l : Log) : Log := (decide (IntKind.i64.wrap (IntKind.i64.wrap (((bl (vO k (aP16 b) (d16 F).length) : Nat) : Int) + tpD p) - 24) ≤ -126), c) :: lLn k (aP16 b) (d16 F).length :: (decide (toQ M (sgn p) (vO h (aP16 0) (LA p)) (xp p) (t24 p) = F), true) :: (toL (vO h (aP16 0) (LA p)) (xp p) (t24 p), g) :: (rowTo M (sgn p) (vO h (aP16 0) (LA p)) (LA p) (xp p) (t24 p), true) :: (okTo h (aP16 0) (LA p) (LA p) (xp p) (t24 p), true) :: l
/-- whether it is too great -/
def lO (h : Hp) (P : Option Addr) (n : Nat) (p : Int) (b : Bool) (l : Log) : Log := (decide (IntKind.i64.wrap (((bl (vO h P n) : Nat) : Int) + nD p) > 128), b) :: lLn h P n :: l
def sLow (h : Hp) (P : Option Addr) (n : Nat) : Int := IntKind.u32.wrap ((vO h P n % 18446744073709551616 : Nat) : Int)
/-- its low bits -/
def lE (h : Hp) (P : Option Addr) (n : Nat) (x : Bool) (l : Log) : Log := (sLow h P n == 16777216, x) :: (rowS h P n n, true) :: l
def jn (n s : Int) : Int := IntKind.u32.wrap (IntKind.u32.wrap (IntKind.u32.wrap (IntKind.u32.wrap (IntKind.i64.wrap (n + 150)) * 8388608) + s) - 8388608)
def sM (s : Bool) (q : Int) : Int := match s with | true => IntKind.u32.wrap (q + 2147483648) | false => q
def T2 (q x : Int) : Value := .tuple #[.int .u32 q, .int .i64 x]
theorem dt1tttfffo (p m : Int) (V : Nat) (F : Nat) (g : Bool) : Fits (reckon (tabH Try.prog extY conNG hcNG) 300 8 [.int .u64 p, .int .i64 m] [cmp false, cmp true, cmp false, cmp false, cmp false, cmp false, cmp true, cmp true, cmp true, num V, cmp true, cmp g, num F, cmp true, cmp true, cmp false, cmp false, cmp false]) (T2 (sM true 2139095040) 20) (((0 : Int) == 4, false) :: ((0 : Int) == 3, false) :: ((0 : Int) == 2, false) :: lO (J3 p V F) (aP16 1) (d16 V).length p true (lSn (J2 p V) (J3 p V F) 2 p 0 F g true (lTt p 0 V true (lM1 p m true)))) := ⟨by kernel_rfl, by kernel_rfl, by kernel_rfl, by kernel_rfl⟩
theorem dt1ttttt (p m : Int) (V : Nat) (F : Nat) (g : Bool) : Fits (reckon (tabH Try.prog extY conNG hcNG) 300 8 [.int .u64 p, .int .i64 m] [cmp false, cmp true, cmp false, cmp false, cmp false, cmp false, cmp true, cmp true, cmp true, num V, cmp true, cmp g, num F, cmp true, cmp false, cmp true, cmp true]) (T2 (sM true (jn (IntKind.i64.wrap (nD p + 1)) 8388608)) 24) ((decide ((8388608 : Int) ≥ 8388608), true) :: lE (J3 p V F) (aP16 1) (d16 V).length true (lO (J3 p V F) (aP16 1) (d16 V).length p false (lSn (J2 p V) (J3 p V F) 2 p 0 F g true (lTt p 0 V true (lM1 p m true))))) := ⟨by kernel_rfl, by kernel_rfl, by kernel_rfl, by kernel_rfl⟩
theorem dt1tttft (p m : Int) (V : Nat) (F : Nat) (g : Bool) : Fits (reckon (tabH Try.prog extY conNG hcNG) 300 8 [.int .u64 p, .int .i64 m] [cmp false, cmp true, cmp false, cmp false, cmp false, cmp false, cmp true, cmp true, cmp true, num V, cmp true, cmp g, num F, cmp true, cmp false, cmp false, cmp true]) (T2 (sM true (jn (nD p) (sLow (J3 p V F) (aP16 1) (d16 V).length))) 24) ((decide ((sLow (J3 p V F) (aP16 1) (d16 V).length) ≥ 8388608), true) :: lE (J3 p V F) (aP16 1) (d16 V).length false (lO (J3 p V F) (aP16 1) (d16 V).length p false (lSn (J2 p V) (J3 p V F) 2 p 0 F g true (lTt p 0 V true (lM1 p m true))))) := ⟨by kernel_rfl, by kernel_rfl, by kernel_rfl, by kernel_rfl⟩
theorem dt1tttff (p m : Int) (V : Nat) (F : Nat) (g : Bool) : Fits (reckon (tabH Try.prog extY conNG hcNG) 300 8 [.int .u64 p, .int .i64 m] [cmp false, cmp true, cmp false, cmp false, cmp false, cmp false, cmp true, cmp true, cmp true, num V, cmp true, cmp g, num F, cmp true, cmp false, cmp false, cmp false]) (T2 (sM true (sLow (J3 p V F) (aP16 1) (d16 V).length)) 24) ((decide ((sLow (J3 p V F) (aP16 1) (d16 V).length) ≥ 8388608), false) :: lE (J3 p V F) (aP16 1) (d16 V).length false (lO (J3 p V F) (aP16 1) (d16 V).length p false (lSn (J2 p V) (J3 p V F) 2 p 0 F g true (lTt p 0 V true (lM1 p m true))))) := ⟨by kernel_rfl, by kernel_rfl, by kernel_rfl, by kernel_rfl⟩
theorem dt1ttffffo (p m : Int) (V : Nat) (F : Nat) (g : Bool) : Fits (reckon (tabH Try.prog extY conNG hcNG) 300 8 [.int .u64 p, .int .i64 m] [cmp false, cmp true, cmp false, cmp false, cmp false, cmp false, cmp true, cmp true, cmp true, num V, cmp true, cmp g, num F, cmp false, cmp true, cmp false, cmp false, cmp false]) (T2 (sM true 2139095040) 20) (((0 : Int) == 4, false) :: ((0 : Int) == 3, false) :: ((0 : Int) == 2, false) :: lO (J3 p V F) (aP16 1) (d16 V).length p true (lSn (J2 p V) (J3 p V F) 2 p 0 F g false (lTt p 0 V true (lM1 p m true)))) := ⟨by kernel_rfl, by kernel_rfl, by kernel_rfl, by kernel_rfl⟩
theorem dt1ttftt (p m : Int) (V : Nat) (F : Nat) (g : Bool) : Fits (reckon (tabH Try.prog extY conNG hcNG) 300 8 [.int .u64 p, .int .i64 m] [cmp false, cmp true, cmp false, cmp false, cmp false, cmp false, cmp true, cmp true, cmp true, num V, cmp true, cmp g, num F, cmp false, cmp false, cmp true, cmp true]) (T2 (sM true (jn (IntKind.i64.wrap (nD p + 1)) 8388608)) 16) ((decide ((8388608 : Int) ≥ 8388608), true) :: lE (J3 p V F) (aP16 1) (d16 V).length true (lO (J3 p V F) (aP16 1) (d16 V).length p false (lSn (J2 p V) (J3 p V F) 2 p 0 F g false (lTt p 0 V true (lM1 p m true))))) := ⟨by kernel_rfl, by kernel_rfl, by kernel_rfl, by kernel_rfl⟩
theorem dt1ttfft (p m : Int) (V : Nat) (F : Nat) (g : Bool) : Fits (reckon (tabH Try.prog extY conNG hcNG) 300 8 [.int .u64 p, .int .i64 m] [cmp false, cmp true, cmp false, cmp false, cmp false, cmp false, cmp true, cmp true, cmp true, num V, cmp true, cmp g, num F, cmp false, cmp false, cmp false, cmp true]) (T2 (sM true (jn (nD p) (sLow (J3 p V F) (aP16 1) (d16 V).length))) 16) ((decide ((sLow (J3 p V F) (aP16 1) (d16 V).length) ≥ 8388608), true) :: lE (J3 p V F) (aP16 1) (d16 V).length false (lO (J3 p V F) (aP16 1) (d16 V).length p false (lSn (J2 p V) (J3 p V F) 2 p 0 F g false (lTt p 0 V true (lM1 p m true))))) := ⟨by kernel_rfl, by kernel_rfl, by kernel_rfl, by kernel_rfl⟩
theorem dt1ttfff (p m : Int) (V : Nat) (F : Nat) (g : Bool) : Fits (reckon (tabH Try.prog extY conNG hcNG) 300 8 [.int .u64 p, .int .i64 m] [cmp false, cmp true, cmp false, cmp false, cmp false, cmp false, cmp true, cmp true, cmp true, num V, cmp true, cmp g, num F, cmp false, cmp false, cmp false, cmp false]) (T2 (sM true (sLow (J3 p V F) (aP16 1) (d16 V).length)) 16) ((decide ((sLow (J3 p V F) (aP16 1) (d16 V).length) ≥ 8388608), false) :: lE (J3 p V F) (aP16 1) (d16 V).length false (lO (J3 p V F) (aP16 1) (d16 V).length p false (lSn (J2 p V) (J3 p V F) 2 p 0 F g false (lTt p 0 V true (lM1 p m true))))) := ⟨by kernel_rfl, by kernel_rfl, by kernel_rfl, by kernel_rfl⟩
theorem dt1tfxfffo (p m : Int) (V : Nat) : Fits (reckon (tabH Try.prog extY conNG hcNG) 300 8 [.int .u64 p, .int .i64 m] [cmp false, cmp true, cmp false, cmp false, cmp false, cmp false, cmp true, cmp true, cmp false, num V, cmp true, cmp false, cmp false, cmp false]) (T2 (sM true 2139095040) 20) (((0 : Int) == 4, false) :: ((0 : Int) == 3, false) :: ((0 : Int) == 2, false) :: lO (J2 p V) (aP16 1) (d16 V).length p true (lTt p 0 V false (lM1 p m true))) := ⟨by kernel_rfl, by kernel_rfl, by kernel_rfl, by kernel_rfl⟩
theorem dt1tfxtt (p m : Int) (V : Nat) : Fits (reckon (tabH Try.prog extY conNG hcNG) 300 8 [.int .u64 p, .int .i64 m] [cmp false, cmp true, cmp false, cmp false, cmp false, cmp false, cmp true, cmp true, cmp false, num V, cmp false, cmp true, cmp true]) (T2 (sM true (jn (IntKind.i64.wrap (nD p + 1)) 8388608)) 0) ((decide ((8388608 : Int) ≥ 8388608), true) :: lE (J2 p V) (aP16 1) (d16 V).length true (lO (J2 p V) (aP16 1) (d16 V).length p false (lTt p 0 V false (lM1 p m true)))) := ⟨by kernel_rfl, by kernel_rfl, by kernel_rfl, by kernel_rfl⟩
theorem dt1tfxft (p m : Int) (V : Nat) : Fits (reckon (tabH Try.prog extY conNG hcNG) 300 8 [.int .u64 p, .int .i64 m] [cmp false, cmp true, cmp false, cmp false, cmp false, cmp false, cmp true, cmp true, cmp false, num V, cmp false, cmp false, cmp true]) (T2 (sM true (jn (nD p) (sLow (J2 p V) (aP16 1) (d16 V).length))) 0) ((decide ((sLow (J2 p V) (aP16 1) (d16 V).length) ≥ 8388608), true) :: lE (J2 p V) (aP16 1) (d16 V).length false (lO (J2 p V) (aP16 1) (d16 V).length p false (lTt p 0 V false (lM1 p m true)))) := ⟨by kernel_rfl, by kernel_rfl, by kernel_rfl, by kernel_rfl⟩
theorem dt1tfxff (p m : Int) (V : Nat) : Fits (reckon (tabH Try.prog extY conNG hcNG) 300 8 [.int .u64 p, .int .i64 m] [cmp false, cmp true, cmp false, cmp false, cmp false, cmp false, cmp true, cmp true, cmp false, num V, cmp false, cmp false, cmp false]) (T2 (sM true (sLow (J2 p V) (aP16 1) (d16 V).length)) 0) ((decide ((sLow (J2 p V) (aP16 1) (d16 V).length) ≥ 8388608), false) :: lE (J2 p V) (aP16 1) (d16 V).length false (lO (J2 p V) (aP16 1) (d16 V).length p false (lTt p 0 V false (lM1 p m true)))) := ⟨by kernel_rfl, by kernel_rfl, by kernel_rfl, by kernel_rfl⟩
theorem dt1fttff (p m : Int) (V : Nat) (F : Nat) (g : Bool) : Fits (reckon (tabH Try.prog extY conNG hcNG) 300 8 [.int .u64 p, .int .i64 m] [cmp false, cmp true, cmp false, cmp false, cmp false, cmp false, cmp true, cmp false, cmp true, num V, cmp true, cmp g, num F, cmp true, cmp false, cmp false, cmp false]) (T2 (sM true (sLow (J2 p F) none 0)) 24) ((decide ((sLow (J2 p F) none 0) ≥ 8388608), false) :: lE (J2 p F) none 0 false (lO (J2 p F) none 0 p false (lSn (J1 p) (J2 p F) 1 p 0 F g true (lTf p 0 true (lM1 p m true))))) := ⟨by kernel_rfl, by kernel_rfl, by kernel_rfl, by kernel_rfl⟩
theorem dt1ftfff (p m : Int) (V : Nat) (F : Nat) (g : Bool) : Fits (reckon (tabH Try.prog extY conNG hcNG) 300 8 [.int .u64 p, .int .i64 m] [cmp false, cmp true, cmp false, cmp false, cmp false, cmp false, cmp true, cmp false, cmp true, num V, cmp true, cmp g, num F, cmp false, cmp false, cmp false, cmp false]) (T2 (sM true (sLow (J2 p F) none 0)) 16) ((decide ((sLow (J2 p F) none 0) ≥ 8388608), false) :: lE (J2 p F) none 0 false (lO (J2 p F) none 0 p false (lSn (J1 p) (J2 p F) 1 p 0 F g false (lTf p 0 true (lM1 p m true))))) := ⟨by kernel_rfl, by kernel_rfl, by kernel_rfl, by kernel_rfl⟩
theorem dt1ffxff (p m : Int) (V : Nat) : Fits (reckon (tabH Try.prog extY conNG hcNG) 300 8 [.int .u64 p, .int .i64 m] [cmp false, cmp true, cmp false, cmp false, cmp false, cmp false, cmp true, cmp false, cmp false, num V, cmp false, cmp false, cmp false]) (T2 (sM true (sLow (J1 p) none 0)) 0) ((decide ((sLow (J1 p) none 0) ≥ 8388608), false) :: lE (J1 p) none 0 false (lO (J1 p) none 0 p false (lTf p 0 false (lM1 p m true)))) := ⟨by kernel_rfl, by kernel_rfl, by kernel_rfl, by kernel_rfl⟩
theorem dt2tttfffo (p m : Int) (V : Nat) (F : Nat) (g : Bool) : Fits (reckon (tabH Try.prog extY conNG hcNG) 300 8 [.int .u64 p, .int .i64 m] [cmp false, cmp true, cmp false, cmp false, cmp false, cmp false, cmp false, cmp true, cmp true, cmp true, num V, cmp true, cmp g, num F, cmp true, cmp true, cmp false, cmp false, cmp false]) (T2 (sM true 2139095040) 20) (((0 : Int) == 4, false) :: ((0 : Int) == 3, false) :: ((0 : Int) == 2, false) :: lO (J3 p V F) (aP16 1) (d16 V).length p true (lSn (J2 p V) (J3 p V F) 2 p 0 F g true (lTt p 0 V true (lM2 p m true)))) := ⟨by kernel_rfl, by kernel_rfl, by kernel_rfl, by kernel_rfl⟩
theorem dt2ttttt (p m : Int) (V : Nat) (F : Nat) (g : Bool) : Fits (reckon (tabH Try.prog extY conNG hcNG) 300 8 [.int .u64 p, .int .i64 m] [cmp false, cmp true, cmp false, cmp false, cmp false, cmp false, cmp false, cmp true, cmp true, cmp true, num V, cmp true, cmp g, num F, cmp true, cmp false, cmp true, cmp true]) (T2 (sM true (jn (IntKind.i64.wrap (nD p + 1)) 8388608)) 24) ((decide ((8388608 : Int) ≥ 8388608), true) :: lE (J3 p V F) (aP16 1) (d16 V).length true (lO (J3 p V F) (aP16 1) (d16 V).length p false (lSn (J2 p V) (J3 p V F) 2 p 0 F g true (lTt p 0 V true (lM2 p m true))))) := ⟨by kernel_rfl, by kernel_rfl, by kernel_rfl, by kernel_rfl⟩
theorem dt2tttft (p m : Int) (V : Nat) (F : Nat) (g : Bool) : Fits (reckon (tabH Try.prog extY conNG hcNG) 300 8 [.int .u64 p, .int .i64 m] [cmp false, cmp true, cmp false, cmp false, cmp false, cmp false, cmp false, cmp true, cmp true, cmp true, num V, cmp true, cmp g, num F, cmp true, cmp false, cmp false, cmp true]) (T2 (sM true (jn (nD p) (sLow (J3 p V F) (aP16 1) (d16 V).length))) 24) ((decide ((sLow (J3 p V F) (aP16 1) (d16 V).length) ≥ 8388608), true) :: lE (J3 p V F) (aP16 1) (d16 V).length false (lO (J3 p V F) (aP16 1) (d16 V).length p false (lSn (J2 p V) (J3 p V F) 2 p 0 F g true (lTt p 0 V true (lM2 p m true))))) := ⟨by kernel_rfl, by kernel_rfl, by kernel_rfl, by kernel_rfl⟩
theorem dt2tttff (p m : Int) (V : Nat) (F : Nat) (g : Bool) : Fits (reckon (tabH Try.prog extY conNG hcNG) 300 8 [.int .u64 p, .int .i64 m] [cmp false, cmp true, cmp false, cmp false, cmp false, cmp false, cmp false, cmp true, cmp true, cmp true, num V, cmp true, cmp g, num F, cmp true, cmp false, cmp false, cmp false]) (T2 (sM true (sLow (J3 p V F) (aP16 1) (d16 V).length)) 24) ((decide ((sLow (J3 p V F) (aP16 1) (d16 V).length) ≥ 8388608), false) :: lE (J3 p V F) (aP16 1) (d16 V).length false (lO (J3 p V F) (aP16 1) (d16 V).length p false (lSn (J2 p V) (J3 p V F) 2 p 0 F g true (lTt p 0 V true (lM2 p m true))))) := ⟨by kernel_rfl, by kernel_rfl, by kernel_rfl, by kernel_rfl⟩
theorem dt2ttffffo (p m : Int) (V : Nat) (F : Nat) (g : Bool) : Fits (reckon (tabH Try.prog extY conNG hcNG) 300 8 [.int .u64 p, .int .i64 m] [cmp false, cmp true, cmp false, cmp false, cmp false, cmp false, cmp false, cmp true, cmp true, cmp true, num V, cmp true, cmp g, num F, cmp false, cmp true, cmp false, cmp false, cmp false]) (T2 (sM true 2139095040) 20) (((0 : Int) == 4, false) :: ((0 : Int) == 3, false) :: ((0 : Int) == 2, false) :: lO (J3 p V F) (aP16 1) (d16 V).length p true (lSn (J2 p V) (J3 p V F) 2 p 0 F g false (lTt p 0 V true (lM2 p m true)))) := ⟨by kernel_rfl, by kernel_rfl, by kernel_rfl, by kernel_rfl⟩
theorem dt2ttftt (p m : Int) (V : Nat) (F : Nat) (g : Bool) : Fits (reckon (tabH Try.prog extY conNG hcNG) 300 8 [.int .u64 p, .int .i64 m] [cmp false, cmp true, cmp false, cmp false, cmp false, cmp false, cmp false, cmp true, cmp true, cmp true, num V, cmp true, cmp g, num F, cmp false, cmp false, cmp true, cmp true]) (T2 (sM true (jn (IntKind.i64.wrap (nD p + 1)) 8388608)) 16) ((decide ((8388608 : Int) ≥ 8388608), true) :: lE (J3 p V F) (aP16 1) (d16 V).length true (lO (J3 p V F) (aP16 1) (d16 V).length p false (lSn (J2 p V) (J3 p V F) 2 p 0 F g false (lTt p 0 V true (lM2 p m true))))) := ⟨by kernel_rfl, by kernel_rfl, by kernel_rfl, by kernel_rfl⟩
theorem dt2ttfft (p m : Int) (V : Nat) (F : Nat) (g : Bool) : Fits (reckon (tabH Try.prog extY conNG hcNG) 300 8 [.int .u64 p, .int .i64 m] [cmp false, cmp true, cmp false, cmp false, cmp false, cmp false, cmp false, cmp true, cmp true, cmp true, num V, cmp true, cmp g, num F, cmp false, cmp false, cmp false, cmp true]) (T2 (sM true (jn (nD p) (sLow (J3 p V F) (aP16 1) (d16 V).length))) 16) ((decide ((sLow (J3 p V F) (aP16 1) (d16 V).length) ≥ 8388608), true) :: lE (J3 p V F) (aP16 1) (d16 V).length false (lO (J3 p V F) (aP16 1) (d16 V).length p false (lSn (J2 p V) (J3 p V F) 2 p 0 F g false (lTt p 0 V true (lM2 p m true))))) := ⟨by kernel_rfl, by kernel_rfl, by kernel_rfl, by kernel_rfl⟩
theorem dt2ttfff (p m : Int) (V : Nat) (F : Nat) (g : Bool) : Fits (reckon (tabH Try.prog extY conNG hcNG) 300 8 [.int .u64 p, .int .i64 m] [cmp false, cmp true, cmp false, cmp false, cmp false, cmp false, cmp false, cmp true, cmp true, cmp true, num V, cmp true, cmp g, num F, cmp false, cmp false, cmp false, cmp false]) (T2 (sM true (sLow (J3 p V F) (aP16 1) (d16 V).length)) 16) ((decide ((sLow (J3 p V F) (aP16 1) (d16 V).length) ≥ 8388608), false) :: lE (J3 p V F) (aP16 1) (d16 V).length false (lO (J3 p V F) (aP16 1) (d16 V).length p false (lSn (J2 p V) (J3 p V F) 2 p 0 F g false (lTt p 0 V true (lM2 p m true))))) := ⟨by kernel_rfl, by kernel_rfl, by kernel_rfl, by kernel_rfl⟩
theorem dt2tfxfffo (p m : Int) (V : Nat) : Fits (reckon (tabH Try.prog extY conNG hcNG) 300 8 [.int .u64 p, .int .i64 m] [cmp false, cmp true, cmp false, cmp false, cmp false, cmp false, cmp false, cmp true, cmp true, cmp false, num V, cmp true, cmp false, cmp false, cmp false]) (T2 (sM true 2139095040) 20) (((0 : Int) == 4, false) :: ((0 : Int) == 3, false) :: ((0 : Int) == 2, false) :: lO (J2 p V) (aP16 1) (d16 V).length p true (lTt p 0 V false (lM2 p m true))) := ⟨by kernel_rfl, by kernel_rfl, by kernel_rfl, by kernel_rfl⟩
theorem dt2tfxtt (p m : Int) (V : Nat) : Fits (reckon (tabH Try.prog extY conNG hcNG) 300 8 [.int .u64 p, .int .i64 m] [cmp false, cmp true, cmp false, cmp false, cmp false, cmp false, cmp false, cmp true, cmp true, cmp false, num V, cmp false, cmp true, cmp true]) (T2 (sM true (jn (IntKind.i64.wrap (nD p + 1)) 8388608)) 0) ((decide ((8388608 : Int) ≥ 8388608), true) :: lE (J2 p V) (aP16 1) (d16 V).length true (lO (J2 p V) (aP16 1) (d16 V).length p false (lTt p 0 V false (lM2 p m true)))) := ⟨by kernel_rfl, by kernel_rfl, by kernel_rfl, by kernel_rfl⟩
theorem dt2tfxft (p m : Int) (V : Nat) : Fits (reckon (tabH Try.prog extY conNG hcNG) 300 8 [.int .u64 p, .int .i64 m] [cmp false, cmp true, cmp false, cmp false, cmp false, cmp false, cmp false, cmp true, cmp true, cmp false, num V, cmp false, cmp false, cmp true]) (T2 (sM true (jn (nD p) (sLow (J2 p V) (aP16 1) (d16 V).length))) 0) ((decide ((sLow (J2 p V) (aP16 1) (d16 V).length) ≥ 8388608), true) :: lE (J2 p V) (aP16 1) (d16 V).length false (lO (J2 p V) (aP16 1) (d16 V).length p false (lTt p 0 V false (lM2 p m true)))) := ⟨by kernel_rfl, by kernel_rfl, by kernel_rfl, by kernel_rfl⟩
theorem dt2tfxff (p m : Int) (V : Nat) : Fits (reckon (tabH Try.prog extY conNG hcNG) 300 8 [.int .u64 p, .int .i64 m] [cmp false, cmp true, cmp false, cmp false, cmp false, cmp false, cmp false, cmp true, cmp true, cmp false, num V, cmp false, cmp false, cmp false]) (T2 (sM true (sLow (J2 p V) (aP16 1) (d16 V).length)) 0) ((decide ((sLow (J2 p V) (aP16 1) (d16 V).length) ≥ 8388608), false) :: lE (J2 p V) (aP16 1) (d16 V).length false (lO (J2 p V) (aP16 1) (d16 V).length p false (lTt p 0 V false (lM2 p m true)))) := ⟨by kernel_rfl, by kernel_rfl, by kernel_rfl, by kernel_rfl⟩
theorem dt2fttff (p m : Int) (V : Nat) (F : Nat) (g : Bool) : Fits (reckon (tabH Try.prog extY conNG hcNG) 300 8 [.int .u64 p, .int .i64 m] [cmp false, cmp true, cmp false, cmp false, cmp false, cmp false, cmp false, cmp true, cmp false, cmp true, num V, cmp true, cmp g, num F, cmp true, cmp false, cmp false, cmp false]) (T2 (sM true (sLow (J2 p F) none 0)) 24) ((decide ((sLow (J2 p F) none 0) ≥ 8388608), false) :: lE (J2 p F) none 0 false (lO (J2 p F) none 0 p false (lSn (J1 p) (J2 p F) 1 p 0 F g true (lTf p 0 true (lM2 p m true))))) := ⟨by kernel_rfl, by kernel_rfl, by kernel_rfl, by kernel_rfl⟩
theorem dt2ftfff (p m : Int) (V : Nat) (F : Nat) (g : Bool) : Fits (reckon (tabH Try.prog extY conNG hcNG) 300 8 [.int .u64 p, .int .i64 m] [cmp false, cmp true, cmp false, cmp false, cmp false, cmp false, cmp false, cmp true, cmp false, cmp true, num V, cmp true, cmp g, num F, cmp false, cmp false, cmp false, cmp false]) (T2 (sM true (sLow (J2 p F) none 0)) 16) ((decide ((sLow (J2 p F) none 0) ≥ 8388608), false) :: lE (J2 p F) none 0 false (lO (J2 p F) none 0 p false (lSn (J1 p) (J2 p F) 1 p 0 F g false (lTf p 0 true (lM2 p m true))))) := ⟨by kernel_rfl, by kernel_rfl, by kernel_rfl, by kernel_rfl⟩
theorem dt2ffxff (p m : Int) (V : Nat) : Fits (reckon (tabH Try.prog extY conNG hcNG) 300 8 [.int .u64 p, .int .i64 m] [cmp false, cmp true, cmp false, cmp false, cmp false, cmp false, cmp false, cmp true, cmp false, cmp false, num V, cmp false, cmp false, cmp false]) (T2 (sM true (sLow (J1 p) none 0)) 0) ((decide ((sLow (J1 p) none 0) ≥ 8388608), false) :: lE (J1 p) none 0 false (lO (J1 p) none 0 p false (lTf p 0 false (lM2 p m true)))) := ⟨by kernel_rfl, by kernel_rfl, by kernel_rfl, by kernel_rfl⟩
theorem dt3tttto (p m : Int) (V : Nat) (F : Nat) (g : Bool) : Fits (reckon (tabH Try.prog extY conNG hcNG) 300 8 [.int .u64 p, .int .i64 m] [cmp false, cmp true, cmp false, cmp false, cmp false, cmp false, cmp false, cmp false, cmp true, cmp true, num V, cmp true, cmp g, num F, cmp true, cmp true, cmp true]) (T2 (sM true 2139095039) 20) ((m == 2, true) :: lO (J3 p V F) (aP16 1) (d16 V).length p true (lSn (J2 p V) (J3 p V F) 2 p m F g true (lTt p m V true (lM3 p m true)))) := ⟨by kernel_rfl, by kernel_rfl, by kernel_rfl, by kernel_rfl⟩
theorem dt3tttfto (p m : Int) (V : Nat) (F : Nat) (g : Bool) : Fits (reckon (tabH Try.prog extY conNG hcNG) 300 8 [.int .u64 p, .int .i64 m] [cmp false, cmp true, cmp false, cmp false, cmp false, cmp false, cmp false, cmp false, cmp true, cmp true, num V, cmp true, cmp g, num F, cmp true, cmp true, cmp false, cmp true]) (T2 (sM true 2139095039) 20) ((m == 3, true) :: (m == 2, false) :: lO (J3 p V F) (aP16 1) (d16 V).length p true (lSn (J2 p V) (J3 p V F) 2 p m F g true (lTt p m V true (lM3 p m true)))) := ⟨by kernel_rfl, by kernel_rfl, by kernel_rfl, by kernel_rfl⟩
theorem dt3tttffto (p m : Int) (V : Nat) (F : Nat) (g : Bool) : Fits (reckon (tabH Try.prog extY conNG hcNG) 300 8 [.int .u64 p, .int .i64 m] [cmp false, cmp true, cmp false, cmp false, cmp false, cmp false, cmp false, cmp false, cmp true, cmp true, num V, cmp true, cmp g, num F, cmp true, cmp true, cmp false, cmp false, cmp true]) (T2 (sM true 2139095040) 20) ((m == 4, true) :: (m == 3, false) :: (m == 2, false) :: lO (J3 p V F) (aP16 1) (d16 V).length p true (lSn (J2 p V) (J3 p V F) 2 p m F g true (lTt p m V true (lM3 p m true)))) := ⟨by kernel_rfl, by kernel_rfl, by kernel_rfl, by kernel_rfl⟩
theorem dt3tttfffo (p m : Int) (V : Nat) (F : Nat) (g : Bool) : Fits (reckon (tabH Try.prog extY conNG hcNG) 300 8 [.int .u64 p, .int .i64 m] [cmp false, cmp true, cmp false, cmp false, cmp false, cmp false, cmp false, cmp false, cmp true, cmp true, num V, cmp true, cmp g, num F, cmp true, cmp true, cmp false, cmp false, cmp false]) (T2 (sM true 2139095040) 20) ((m == 4, false) :: (m == 3, false) :: (m == 2, false) :: lO (J3 p V F) (aP16 1) (d16 V).length p true (lSn (J2 p V) (J3 p V F) 2 p m F g true (lTt p m V true (lM3 p m true)))) := ⟨by kernel_rfl, by kernel_rfl, by kernel_rfl, by kernel_rfl⟩
theorem dt3ttttt (p m : Int) (V : Nat) (F : Nat) (g : Bool) : Fits (reckon (tabH Try.prog extY conNG hcNG) 300 8 [.int .u64 p, .int .i64 m] [cmp false, cmp true, cmp false, cmp false, cmp false, cmp false, cmp false, cmp false, cmp true, cmp true, num V, cmp true, cmp g, num F, cmp true, cmp false, cmp true, cmp true]) (T2 (sM true (jn (IntKind.i64.wrap (nD p + 1)) 8388608)) 24) ((decide ((8388608 : Int) ≥ 8388608), true) :: lE (J3 p V F) (aP16 1) (d16 V).length true (lO (J3 p V F) (aP16 1) (d16 V).length p false (lSn (J2 p V) (J3 p V F) 2 p m F g true (lTt p m V true (lM3 p m true))))) := ⟨by kernel_rfl, by kernel_rfl, by kernel_rfl, by kernel_rfl⟩
theorem dt3tttft (p m : Int) (V : Nat) (F : Nat) (g : Bool) : Fits (reckon (tabH Try.prog extY conNG hcNG) 300 8 [.int .u64 p, .int .i64 m] [cmp false, cmp true, cmp false, cmp false, cmp false, cmp false, cmp false, cmp false, cmp true, cmp true, num V, cmp true, cmp g, num F, cmp true, cmp false, cmp false, cmp true]) (T2 (sM true (jn (nD p) (sLow (J3 p V F) (aP16 1) (d16 V).length))) 24) ((decide ((sLow (J3 p V F) (aP16 1) (d16 V).length) ≥ 8388608), true) :: lE (J3 p V F) (aP16 1) (d16 V).length false (lO (J3 p V F) (aP16 1) (d16 V).length p false (lSn (J2 p V) (J3 p V F) 2 p m F g true (lTt p m V true (lM3 p m true))))) := ⟨by kernel_rfl, by kernel_rfl, by kernel_rfl, by kernel_rfl⟩
theorem dt3tttff (p m : Int) (V : Nat) (F : Nat) (g : Bool) : Fits (reckon (tabH Try.prog extY conNG hcNG) 300 8 [.int .u64 p, .int .i64 m] [cmp false, cmp true, cmp false, cmp false, cmp false, cmp false, cmp false, cmp false, cmp true, cmp true, num V, cmp true, cmp g, num F, cmp true, cmp false, cmp false, cmp false]) (T2 (sM true (sLow (J3 p V F) (aP16 1) (d16 V).length)) 24) ((decide ((sLow (J3 p V F) (aP16 1) (d16 V).length) ≥ 8388608), false) :: lE (J3 p V F) (aP16 1) (d16 V).length false (lO (J3 p V F) (aP16 1) (d16 V).length p false (lSn (J2 p V) (J3 p V F) 2 p m F g true (lTt p m V true (lM3 p m true))))) := ⟨by kernel_rfl, by kernel_rfl, by kernel_rfl, by kernel_rfl⟩
theorem dt3ttfto (p m : Int) (V : Nat) (F : Nat) (g : Bool) : Fits (reckon (tabH Try.prog extY conNG hcNG) 300 8 [.int .u64 p, .int .i64 m] [cmp false, cmp true, cmp false, cmp false, cmp false, cmp false, cmp false, cmp false, cmp true, cmp true, num V, cmp true, cmp g, num F, cmp false, cmp true, cmp true]) (T2 (sM true 2139095039) 20) ((m == 2, true) :: lO (J3 p V F) (aP16 1) (d16 V).length p true (lSn (J2 p V) (J3 p V F) 2 p m F g false (lTt p m V true (lM3 p m true)))) := ⟨by kernel_rfl, by kernel_rfl, by kernel_rfl, by kernel_rfl⟩
theorem dt3ttffto (p m : Int) (V : Nat) (F : Nat) (g : Bool) : Fits (reckon (tabH Try.prog extY conNG hcNG) 300 8 [.int .u64 p, .int .i64 m] [cmp false, cmp true, cmp false, cmp false, cmp false, cmp false, cmp false, cmp false, cmp true, cmp true, num V, cmp true, cmp g, num F, cmp false, cmp true, cmp false, cmp true]) (T2 (sM true 2139095039) 20) ((m == 3, true) :: (m == 2, false) :: lO (J3 p V F) (aP16 1) (d16 V).length p true (lSn (J2 p V) (J3 p V F) 2 p m F g false (lTt p m V true (lM3 p m true)))) := ⟨by kernel_rfl, by kernel_rfl, by kernel_rfl, by kernel_rfl⟩
theorem dt3ttfffto (p m : Int) (V : Nat) (F : Nat) (g : Bool) : Fits (reckon (tabH Try.prog extY conNG hcNG) 300 8 [.int .u64 p, .int .i64 m] [cmp false, cmp true, cmp false, cmp false, cmp false, cmp false, cmp false, cmp false, cmp true, cmp true, num V, cmp true, cmp g, num F, cmp false, cmp true, cmp false, cmp false, cmp true]) (T2 (sM true 2139095040) 20) ((m == 4, true) :: (m == 3, false) :: (m == 2, false) :: lO (J3 p V F) (aP16 1) (d16 V).length p true (lSn (J2 p V) (J3 p V F) 2 p m F g false (lTt p m V true (lM3 p m true)))) := ⟨by kernel_rfl, by kernel_rfl, by kernel_rfl, by kernel_rfl⟩
theorem dt3ttffffo (p m : Int) (V : Nat) (F : Nat) (g : Bool) : Fits (reckon (tabH Try.prog extY conNG hcNG) 300 8 [.int .u64 p, .int .i64 m] [cmp false, cmp true, cmp false, cmp false, cmp false, cmp false, cmp false, cmp false, cmp true, cmp true, num V, cmp true, cmp g, num F, cmp false, cmp true, cmp false, cmp false, cmp false]) (T2 (sM true 2139095040) 20) ((m == 4, false) :: (m == 3, false) :: (m == 2, false) :: lO (J3 p V F) (aP16 1) (d16 V).length p true (lSn (J2 p V) (J3 p V F) 2 p m F g false (lTt p m V true (lM3 p m true)))) := ⟨by kernel_rfl, by kernel_rfl, by kernel_rfl, by kernel_rfl⟩
theorem dt3ttftt (p m : Int) (V : Nat) (F : Nat) (g : Bool) : Fits (reckon (tabH Try.prog extY conNG hcNG) 300 8 [.int .u64 p, .int .i64 m] [cmp false, cmp true, cmp false, cmp false, cmp false, cmp false, cmp false, cmp false, cmp true, cmp true, num V, cmp true, cmp g, num F, cmp false, cmp false, cmp true, cmp true]) (T2 (sM true (jn (IntKind.i64.wrap (nD p + 1)) 8388608)) 16) ((decide ((8388608 : Int) ≥ 8388608), true) :: lE (J3 p V F) (aP16 1) (d16 V).length true (lO (J3 p V F) (aP16 1) (d16 V).length p false (lSn (J2 p V) (J3 p V F) 2 p m F g false (lTt p m V true (lM3 p m true))))) := ⟨by kernel_rfl, by kernel_rfl, by kernel_rfl, by kernel_rfl⟩
theorem dt3ttfft (p m : Int) (V : Nat) (F : Nat) (g : Bool) : Fits (reckon (tabH Try.prog extY conNG hcNG) 300 8 [.int .u64 p, .int .i64 m] [cmp false, cmp true, cmp false, cmp false, cmp false, cmp false, cmp false, cmp false, cmp true, cmp true, num V, cmp true, cmp g, num F, cmp false, cmp false, cmp false, cmp true]) (T2 (sM true (jn (nD p) (sLow (J3 p V F) (aP16 1) (d16 V).length))) 16) ((decide ((sLow (J3 p V F) (aP16 1) (d16 V).length) ≥ 8388608), true) :: lE (J3 p V F) (aP16 1) (d16 V).length false (lO (J3 p V F) (aP16 1) (d16 V).length p false (lSn (J2 p V) (J3 p V F) 2 p m F g false (lTt p m V true (lM3 p m true))))) := ⟨by kernel_rfl, by kernel_rfl, by kernel_rfl, by kernel_rfl⟩
theorem dt3ttfff (p m : Int) (V : Nat) (F : Nat) (g : Bool) : Fits (reckon (tabH Try.prog extY conNG hcNG) 300 8 [.int .u64 p, .int .i64 m] [cmp false, cmp true, cmp false, cmp false, cmp false, cmp false, cmp false, cmp false, cmp true, cmp true, num V, cmp true, cmp g, num F, cmp false, cmp false, cmp false, cmp false]) (T2 (sM true (sLow (J3 p V F) (aP16 1) (d16 V).length)) 16) ((decide ((sLow (J3 p V F) (aP16 1) (d16 V).length) ≥ 8388608), false) :: lE (J3 p V F) (aP16 1) (d16 V).length false (lO (J3 p V F) (aP16 1) (d16 V).length p false (lSn (J2 p V) (J3 p V F) 2 p m F g false (lTt p m V true (lM3 p m true))))) := ⟨by kernel_rfl, by kernel_rfl, by kernel_rfl, by kernel_rfl⟩
theorem dt3tfxto (p m : Int) (V : Nat) : Fits (reckon (tabH Try.prog extY conNG hcNG) 300 8 [.int .u64 p, .int .i64 m] [cmp false, cmp true, cmp false, cmp false, cmp false, cmp false, cmp false, cmp false, cmp true, cmp false, num V, cmp true, cmp true]) (T2 (sM true 2139095039) 20) ((m == 2, true) :: lO (J2 p V) (aP16 1) (d16 V).length p true (lTt p m V false (lM3 p m true))) := ⟨by kernel_rfl, by kernel_rfl, by kernel_rfl, by kernel_rfl⟩
theorem dt3tfxfto (p m : Int) (V : Nat) : Fits (reckon (tabH Try.prog extY conNG hcNG) 300 8 [.int .u64 p, .int .i64 m] [cmp false, cmp true, cmp false, cmp false, cmp false, cmp false, cmp false, cmp false, cmp true, cmp false, num V, cmp true, cmp false, cmp true]) (T2 (sM true 2139095039) 20) ((m == 3, true) :: (m == 2, false) :: lO (J2 p V) (aP16 1) (d16 V).length p true (lTt p m V false (lM3 p m true))) := ⟨by kernel_rfl, by kernel_rfl, by kernel_rfl, by kernel_rfl⟩
theorem dt3tfxffto (p m : Int) (V : Nat) : Fits (reckon (tabH Try.prog extY conNG hcNG) 300 8 [.int .u64 p, .int .i64 m] [cmp false, cmp true, cmp false, cmp false, cmp false, cmp false, cmp false, cmp false, cmp true, cmp false, num V, cmp true, cmp false, cmp false, cmp true]) (T2 (sM true 2139095040) 20) ((m == 4, true) :: (m == 3, false) :: (m == 2, false) :: lO (J2 p V) (aP16 1) (d16 V).length p true (lTt p m V false (lM3 p m true))) := ⟨by kernel_rfl, by kernel_rfl, by kernel_rfl, by kernel_rfl⟩
theorem dt3tfxfffo (p m : Int) (V : Nat) : Fits (reckon (tabH Try.prog extY conNG hcNG) 300 8 [.int .u64 p, .int .i64 m] [cmp false, cmp true, cmp false, cmp false, cmp false, cmp false, cmp false, cmp false, cmp true, cmp false, num V, cmp true, cmp false, cmp false, cmp false]) (T2 (sM true 2139095040) 20) ((m == 4, false) :: (m == 3, false) :: (m == 2, false) :: lO (J2 p V) (aP16 1) (d16 V).length p true (lTt p m V false (lM3 p m true))) := ⟨by kernel_rfl, by kernel_rfl, by kernel_rfl, by kernel_rfl⟩
theorem dt3tfxtt (p m : Int) (V : Nat) : Fits (reckon (tabH Try.prog extY conNG hcNG) 300 8 [.int .u64 p, .int .i64 m] [cmp false, cmp true, cmp false, cmp false, cmp false, cmp false, cmp false, cmp false, cmp true, cmp false, num V, cmp false, cmp true, cmp true]) (T2 (sM true (jn (IntKind.i64.wrap (nD p + 1)) 8388608)) 0) ((decide ((8388608 : Int) ≥ 8388608), true) :: lE (J2 p V) (aP16 1) (d16 V).length true (lO (J2 p V) (aP16 1) (d16 V).length p false (lTt p m V false (lM3 p m true)))) := ⟨by kernel_rfl, by kernel_rfl, by kernel_rfl, by kernel_rfl⟩
theorem dt3tfxft (p m : Int) (V : Nat) : Fits (reckon (tabH Try.prog extY conNG hcNG) 300 8 [.int .u64 p, .int .i64 m] [cmp false, cmp true, cmp false, cmp false, cmp false, cmp false, cmp false, cmp false, cmp true, cmp false, num V, cmp false, cmp false, cmp true]) (T2 (sM true (jn (nD p) (sLow (J2 p V) (aP16 1) (d16 V).length))) 0) ((decide ((sLow (J2 p V) (aP16 1) (d16 V).length) ≥ 8388608), true) :: lE (J2 p V) (aP16 1) (d16 V).length false (lO (J2 p V) (aP16 1) (d16 V).length p false (lTt p m V false (lM3 p m true)))) := ⟨by kernel_rfl, by kernel_rfl, by kernel_rfl, by kernel_rfl⟩
theorem dt3tfxff (p m : Int) (V : Nat) : Fits (reckon (tabH Try.prog extY conNG hcNG) 300 8 [.int .u64 p, .int .i64 m] [cmp false, cmp true, cmp false, cmp false, cmp false, cmp false, cmp false, cmp false, cmp true, cmp false, num V, cmp false, cmp false, cmp false]) (T2 (sM true (sLow (J2 p V) (aP16 1) (d16 V).length)) 0) ((decide ((sLow (J2 p V) (aP16 1) (d16 V).length) ≥ 8388608), false) :: lE (J2 p V) (aP16 1) (d16 V).length false (lO (J2 p V) (aP16 1) (d16 V).length p false (lTt p m V false (lM3 p m true)))) := ⟨by kernel_rfl, by kernel_rfl, by kernel_rfl, by kernel_rfl⟩
theorem dt3fttff (p m : Int) (V : Nat) (F : Nat) (g : Bool) : Fits (reckon (tabH Try.prog extY conNG hcNG) 300 8 [.int .u64 p, .int .i64 m] [cmp false, cmp true, cmp false, cmp false, cmp false, cmp false, cmp false, cmp false, cmp false, cmp true, num V, cmp true, cmp g, num F, cmp true, cmp false, cmp false, cmp false]) (T2 (sM true (sLow (J2 p F) none 0)) 24) ((decide ((sLow (J2 p F) none 0) ≥ 8388608), false) :: lE (J2 p F) none 0 false (lO (J2 p F) none 0 p false (lSn (J1 p) (J2 p F) 1 p m F g true (lTf p m true (lM3 p m true))))) := ⟨by kernel_rfl, by kernel_rfl, by kernel_rfl, by kernel_rfl⟩
theorem dt3ftfff (p m : Int) (V : Nat) (F : Nat) (g : Bool) : Fits (reckon (tabH Try.prog extY conNG hcNG) 300 8 [.int .u64 p, .int .i64 m] [cmp false, cmp true, cmp false, cmp false, cmp false, cmp false, cmp false, cmp false, cmp false, cmp true, num V, cmp true, cmp g, num F, cmp false, cmp false, cmp false, cmp false]) (T2 (sM true (sLow (J2 p F) none 0)) 16) ((decide ((sLow (J2 p F) none 0) ≥ 8388608), false) :: lE (J2 p F) none 0 false (lO (J2 p F) none 0 p false (lSn (J1 p) (J2 p F) 1 p m F g false (lTf p m true (lM3 p m true))))) := ⟨by kernel_rfl, by kernel_rfl, by kernel_rfl, by kernel_rfl⟩
theorem dt3ffxff (p m : Int) (V : Nat) : Fits (reckon (tabH Try.prog extY conNG hcNG) 300 8 [.int .u64 p, .int .i64 m] [cmp false, cmp true, cmp false, cmp false, cmp false, cmp false, cmp false, cmp false, cmp false, cmp false, num V, cmp false, cmp false, cmp false]) (T2 (sM true (sLow (J1 p) none 0)) 0) ((decide ((sLow (J1 p) none 0) ≥ 8388608), false) :: lE (J1 p) none 0 false (lO (J1 p) none 0 p false (lTf p m false (lM3 p m true)))) := ⟨by kernel_rfl, by kernel_rfl, by kernel_rfl, by kernel_rfl⟩
theorem df1tttfffo (p m : Int) (V : Nat) (F : Nat) (g : Bool) : Fits (reckon (tabH Try.prog extY conNG hcNG) 300 8 [.int .u64 p, .int .i64 m] [cmp false, cmp false, cmp false, cmp false, cmp false, cmp false, cmp true, cmp true, cmp true, num V, cmp true, cmp g, num F, cmp true, cmp true, cmp false, cmp false, cmp false]) (T2 (sM false 2139095040) 20) (((0 : Int) == 4, false) :: ((0 : Int) == 3, false) :: ((0 : Int) == 2, false) :: lO (J3 p V F) (aP16 1) (d16 V).length p true (lSn (J2 p V) (J3 p V F) 2 p 0 F g true (lTt p 0 V true (lM1 p m false)))) := ⟨by kernel_rfl, by kernel_rfl, by kernel_rfl, by kernel_rfl⟩
theorem df1ttttt (p m : Int) (V : Nat) (F : Nat) (g : Bool) : Fits (reckon (tabH Try.prog extY conNG hcNG) 300 8 [.int .u64 p, .int .i64 m] [cmp false, cmp false, cmp false, cmp false, cmp false, cmp false, cmp true, cmp true, cmp true, num V, cmp true, cmp g, num F, cmp true, cmp false, cmp true, cmp true]) (T2 (sM false (jn (IntKind.i64.wrap (nD p + 1)) 8388608)) 24) ((decide ((8388608 : Int) ≥ 8388608), true) :: lE (J3 p V F) (aP16 1) (d16 V).length true (lO (J3 p V F) (aP16 1) (d16 V).length p false (lSn (J2 p V) (J3 p V F) 2 p 0 F g true (lTt p 0 V true (lM1 p m false))))) := ⟨by kernel_rfl, by kernel_rfl, by kernel_rfl, by kernel_rfl⟩
theorem df1tttft (p m : Int) (V : Nat) (F : Nat) (g : Bool) : Fits (reckon (tabH Try.prog extY conNG hcNG) 300 8 [.int .u64 p, .int .i64 m] [cmp false, cmp false, cmp false, cmp false, cmp false, cmp false, cmp true, cmp true, cmp true, num V, cmp true, cmp g, num F, cmp true, cmp false, cmp false, cmp true]) (T2 (sM false (jn (nD p) (sLow (J3 p V F) (aP16 1) (d16 V).length))) 24) ((decide ((sLow (J3 p V F) (aP16 1) (d16 V).length) ≥ 8388608), true) :: lE (J3 p V F) (aP16 1) (d16 V).length false (lO (J3 p V F) (aP16 1) (d16 V).length p false (lSn (J2 p V) (J3 p V F) 2 p 0 F g true (lTt p 0 V true (lM1 p m false))))) := ⟨by kernel_rfl, by kernel_rfl, by kernel_rfl, by kernel_rfl⟩
theorem df1tttff (p m : Int) (V : Nat) (F : Nat) (g : Bool) : Fits (reckon (tabH Try.prog extY conNG hcNG) 300 8 [.int .u64 p, .int .i64 m] [cmp false, cmp false, cmp false, cmp false, cmp false, cmp false, cmp true, cmp true, cmp true, num V, cmp true, cmp g, num F, cmp true, cmp false, cmp false, cmp false]) (T2 (sM false (sLow (J3 p V F) (aP16 1) (d16 V).length)) 24) ((decide ((sLow (J3 p V F) (aP16 1) (d16 V).length) ≥ 8388608), false) :: lE (J3 p V F) (aP16 1) (d16 V).length false (lO (J3 p V F) (aP16 1) (d16 V).length p false (lSn (J2 p V) (J3 p V F) 2 p 0 F g true (lTt p 0 V true (lM1 p m false))))) := ⟨by kernel_rfl, by kernel_rfl, by kernel_rfl, by kernel_rfl⟩
theorem df1ttffffo (p m : Int) (V : Nat) (F : Nat) (g : Bool) : Fits (reckon (tabH Try.prog extY conNG hcNG) 300 8 [.int .u64 p, .int .i64 m] [cmp false, cmp false, cmp false, cmp false, cmp false, cmp false, cmp true, cmp true, cmp true, num V, cmp true, cmp g, num F, cmp false, cmp true, cmp false, cmp false, cmp false]) (T2 (sM false 2139095040) 20) (((0 : Int) == 4, false) :: ((0 : Int) == 3, false) :: ((0 : Int) == 2, false) :: lO (J3 p V F) (aP16 1) (d16 V).length p true (lSn (J2 p V) (J3 p V F) 2 p 0 F g false (lTt p 0 V true (lM1 p m false)))) := ⟨by kernel_rfl, by kernel_rfl, by kernel_rfl, by kernel_rfl⟩
theorem df1ttftt (p m : Int) (V : Nat) (F : Nat) (g : Bool) : Fits (reckon (tabH Try.prog extY conNG hcNG) 300 8 [.int .u64 p, .int .i64 m] [cmp false, cmp false, cmp false, cmp false, cmp false, cmp false, cmp true, cmp true, cmp true, num V, cmp true, cmp g, num F, cmp false, cmp false, cmp true, cmp true]) (T2 (sM false (jn (IntKind.i64.wrap (nD p + 1)) 8388608)) 16) ((decide ((8388608 : Int) ≥ 8388608), true) :: lE (J3 p V F) (aP16 1) (d16 V).length true (lO (J3 p V F) (aP16 1) (d16 V).length p false (lSn (J2 p V) (J3 p V F) 2 p 0 F g false (lTt p 0 V true (lM1 p m false))))) := ⟨by kernel_rfl, by kernel_rfl, by kernel_rfl, by kernel_rfl⟩
theorem df1ttfft (p m : Int) (V : Nat) (F : Nat) (g : Bool) : Fits (reckon (tabH Try.prog extY conNG hcNG) 300 8 [.int .u64 p, .int .i64 m] [cmp false, cmp false, cmp false, cmp false, cmp false, cmp false, cmp true, cmp true, cmp true, num V, cmp true, cmp g, num F, cmp false, cmp false, cmp false, cmp true]) (T2 (sM false (jn (nD p) (sLow (J3 p V F) (aP16 1) (d16 V).length))) 16) ((decide ((sLow (J3 p V F) (aP16 1) (d16 V).length) ≥ 8388608), true) :: lE (J3 p V F) (aP16 1) (d16 V).length false (lO (J3 p V F) (aP16 1) (d16 V).length p false (lSn (J2 p V) (J3 p V F) 2 p 0 F g false (lTt p 0 V true (lM1 p m false))))) := ⟨by kernel_rfl, by kernel_rfl, by kernel_rfl, by kernel_rfl⟩
theorem df1ttfff (p m : Int) (V : Nat) (F : Nat) (g : Bool) : Fits (reckon (tabH Try.prog extY conNG hcNG) 300 8 [.int .u64 p, .int .i64 m] [cmp false, cmp false, cmp false, cmp false, cmp false, cmp false, cmp true, cmp true, cmp true, num V, cmp true, cmp g, num F, cmp false, cmp false, cmp false, cmp false]) (T2 (sM false (sLow (J3 p V F) (aP16 1) (d16 V).length)) 16) ((decide ((sLow (J3 p V F) (aP16 1) (d16 V).length) ≥ 8388608), false) :: lE (J3 p V F) (aP16 1) (d16 V).length false (lO (J3 p V F) (aP16 1) (d16 V).length p false (lSn (J2 p V) (J3 p V F) 2 p 0 F g false (lTt p 0 V true (lM1 p m false))))) := ⟨by kernel_rfl, by kernel_rfl, by kernel_rfl, by kernel_rfl⟩
theorem df1tfxfffo (p m : Int) (V : Nat) : Fits (reckon (tabH Try.prog extY conNG hcNG) 300 8 [.int .u64 p, .int .i64 m] [cmp false, cmp false, cmp false, cmp false, cmp false, cmp false, cmp true, cmp true, cmp false, num V, cmp true, cmp false, cmp false, cmp false]) (T2 (sM false 2139095040) 20) (((0 : Int) == 4, false) :: ((0 : Int) == 3, false) :: ((0 : Int) == 2, false) :: lO (J2 p V) (aP16 1) (d16 V).length p true (lTt p 0 V false (lM1 p m false))) := ⟨by kernel_rfl, by kernel_rfl, by kernel_rfl, by kernel_rfl⟩
theorem df1tfxtt (p m : Int) (V : Nat) : Fits (reckon (tabH Try.prog extY conNG hcNG) 300 8 [.int .u64 p, .int .i64 m] [cmp false, cmp false, cmp false, cmp false, cmp false, cmp false, cmp true, cmp true, cmp false, num V, cmp false, cmp true, cmp true]) (T2 (sM false (jn (IntKind.i64.wrap (nD p + 1)) 8388608)) 0) ((decide ((8388608 : Int) ≥ 8388608), true) :: lE (J2 p V) (aP16 1) (d16 V).length true (lO (J2 p V) (aP16 1) (d16 V).length p false (lTt p 0 V false (lM1 p m false)))) := ⟨by kernel_rfl, by kernel_rfl, by kernel_rfl, by kernel_rfl⟩
theorem df1tfxft (p m : Int) (V : Nat) : Fits (reckon (tabH Try.prog extY conNG hcNG) 300 8 [.int .u64 p, .int .i64 m] [cmp false, cmp false, cmp false, cmp false, cmp false, cmp false, cmp true, cmp true, cmp false, num V, cmp false, cmp false, cmp true]) (T2 (sM false (jn (nD p) (sLow (J2 p V) (aP16 1) (d16 V).length))) 0) ((decide ((sLow (J2 p V) (aP16 1) (d16 V).length) ≥ 8388608), true) :: lE (J2 p V) (aP16 1) (d16 V).length false (lO (J2 p V) (aP16 1) (d16 V).length p false (lTt p 0 V false (lM1 p m false)))) := ⟨by kernel_rfl, by kernel_rfl, by kernel_rfl, by kernel_rfl⟩
theorem df1tfxff (p m : Int) (V : Nat) : Fits (reckon (tabH Try.prog extY conNG hcNG) 300 8 [.int .u64 p, .int .i64 m] [cmp false, cmp false, cmp false, cmp false, cmp false, cmp false, cmp true, cmp true, cmp false, num V, cmp false, cmp false, cmp false]) (T2 (sM false (sLow (J2 p V) (aP16 1) (d16 V).length)) 0) ((decide ((sLow (J2 p V) (aP16 1) (d16 V).length) ≥ 8388608), false) :: lE (J2 p V) (aP16 1) (d16 V).length false (lO (J2 p V) (aP16 1) (d16 V).length p false (lTt p 0 V false (lM1 p m false)))) := ⟨by kernel_rfl, by kernel_rfl, by kernel_rfl, by kernel_rfl⟩
theorem df1fttff (p m : Int) (V : Nat) (F : Nat) (g : Bool) : Fits (reckon (tabH Try.prog extY conNG hcNG) 300 8 [.int .u64 p, .int .i64 m] [cmp false, cmp false, cmp false, cmp false, cmp false, cmp false, cmp true, cmp false, cmp true, num V, cmp true, cmp g, num F, cmp true, cmp false, cmp false, cmp false]) (T2 (sM false (sLow (J2 p F) none 0)) 24) ((decide ((sLow (J2 p F) none 0) ≥ 8388608), false) :: lE (J2 p F) none 0 false (lO (J2 p F) none 0 p false (lSn (J1 p) (J2 p F) 1 p 0 F g true (lTf p 0 true (lM1 p m false))))) := ⟨by kernel_rfl, by kernel_rfl, by kernel_rfl, by kernel_rfl⟩
theorem df1ftfff (p m : Int) (V : Nat) (F : Nat) (g : Bool) : Fits (reckon (tabH Try.prog extY conNG hcNG) 300 8 [.int .u64 p, .int .i64 m] [cmp false, cmp false, cmp false, cmp false, cmp false, cmp false, cmp true, cmp false, cmp true, num V, cmp true, cmp g, num F, cmp false, cmp false, cmp false, cmp false]) (T2 (sM false (sLow (J2 p F) none 0)) 16) ((decide ((sLow (J2 p F) none 0) ≥ 8388608), false) :: lE (J2 p F) none 0 false (lO (J2 p F) none 0 p false (lSn (J1 p) (J2 p F) 1 p 0 F g false (lTf p 0 true (lM1 p m false))))) := ⟨by kernel_rfl, by kernel_rfl, by kernel_rfl, by kernel_rfl⟩
theorem df1ffxff (p m : Int) (V : Nat) : Fits (reckon (tabH Try.prog extY conNG hcNG) 300 8 [.int .u64 p, .int .i64 m] [cmp false, cmp false, cmp false, cmp false, cmp false, cmp false, cmp true, cmp false, cmp false, num V, cmp false, cmp false, cmp false]) (T2 (sM false (sLow (J1 p) none 0)) 0) ((decide ((sLow (J1 p) none 0) ≥ 8388608), false) :: lE (J1 p) none 0 false (lO (J1 p) none 0 p false (lTf p 0 false (lM1 p m false)))) := ⟨by kernel_rfl, by kernel_rfl, by kernel_rfl, by kernel_rfl⟩
theorem df2tttfffo (p m : Int) (V : Nat) (F : Nat) (g : Bool) : Fits (reckon (tabH Try.prog extY conNG hcNG) 300 8 [.int .u64 p, .int .i64 m] [cmp false, cmp false, cmp false, cmp false, cmp false, cmp false, cmp false, cmp true, cmp true, cmp true, num V, cmp true, cmp g, num F, cmp true, cmp true, cmp false, cmp false, cmp false]) (T2 (sM false 2139095040) 20) (((0 : Int) == 4, false) :: ((0 : Int) == 3, false) :: ((0 : Int) == 2, false) :: lO (J3 p V F) (aP16 1) (d16 V).length p true (lSn (J2 p V) (J3 p V F) 2 p 0 F g true (lTt p 0 V true (lM2 p m false)))) := ⟨by kernel_rfl, by kernel_rfl, by kernel_rfl, by kernel_rfl⟩
theorem df2ttttt (p m : Int) (V : Nat) (F : Nat) (g : Bool) : Fits (reckon (tabH Try.prog extY conNG hcNG) 300 8 [.int .u64 p, .int .i64 m] [cmp false, cmp false, cmp false, cmp false, cmp false, cmp false, cmp false, cmp true, cmp true, cmp true, num V, cmp true, cmp g, num F, cmp true, cmp false, cmp true, cmp true]) (T2 (sM false (jn (IntKind.i64.wrap (nD p + 1)) 8388608)) 24) ((decide ((8388608 : Int) ≥ 8388608), true) :: lE (J3 p V F) (aP16 1) (d16 V).length true (lO (J3 p V F) (aP16 1) (d16 V).length p false (lSn (J2 p V) (J3 p V F) 2 p 0 F g true (lTt p 0 V true (lM2 p m false))))) := ⟨by kernel_rfl, by kernel_rfl, by kernel_rfl, by kernel_rfl⟩
theorem df2tttft (p m : Int) (V : Nat) (F : Nat) (g : Bool) : Fits (reckon (tabH Try.prog extY conNG hcNG) 300 8 [.int .u64 p, .int .i64 m] [cmp false, cmp false, cmp false, cmp false, cmp false, cmp false, cmp false, cmp true, cmp true, cmp true, num V, cmp true, cmp g, num F, cmp true, cmp false, cmp false, cmp true]) (T2 (sM false (jn (nD p) (sLow (J3 p V F) (aP16 1) (d16 V).length))) 24) ((decide ((sLow (J3 p V F) (aP16 1) (d16 V).length) ≥ 8388608), true) :: lE (J3 p V F) (aP16 1) (d16 V).length false (lO (J3 p V F) (aP16 1) (d16 V).length p false (lSn (J2 p V) (J3 p V F) 2 p 0 F g true (lTt p 0 V true (lM2 p m false))))) := ⟨by kernel_rfl, by kernel_rfl, by kernel_rfl, by kernel_rfl⟩
theorem df2tttff (p m : Int) (V : Nat) (F : Nat) (g : Bool) : Fits (reckon (tabH Try.prog extY conNG hcNG) 300 8 [.int .u64 p, .int .i64 m] [cmp false, cmp false, cmp false, cmp false, cmp false, cmp false, cmp false, cmp true, cmp true, cmp true, num V, cmp true, cmp g, num F, cmp true, cmp false, cmp false, cmp false]) (T2 (sM false (sLow (J3 p V F) (aP16 1) (d16 V).length)) 24) ((decide ((sLow (J3 p V F) (aP16 1) (d16 V).length) ≥ 8388608), false) :: lE (J3 p V F) (aP16 1) (d16 V).length false (lO (J3 p V F) (aP16 1) (d16 V).length p false (lSn (J2 p V) (J3 p V F) 2 p 0 F g true (lTt p 0 V true (lM2 p m false))))) := ⟨by kernel_rfl, by kernel_rfl, by kernel_rfl, by kernel_rfl⟩
theorem df2ttffffo (p m : Int) (V : Nat) (F : Nat) (g : Bool) : Fits (reckon (tabH Try.prog extY conNG hcNG) 300 8 [.int .u64 p, .int .i64 m] [cmp false, cmp false, cmp false, cmp false, cmp false, cmp false, cmp false, cmp true, cmp true, cmp true, num V, cmp true, cmp g, num F, cmp false, cmp true, cmp false, cmp false, cmp false]) (T2 (sM false 2139095040) 20) (((0 : Int) == 4, false) :: ((0 : Int) == 3, false) :: ((0 : Int) == 2, false) :: lO (J3 p V F) (aP16 1) (d16 V).length p true (lSn (J2 p V) (J3 p V F) 2 p 0 F g false (lTt p 0 V true (lM2 p m false)))) := ⟨by kernel_rfl, by kernel_rfl, by kernel_rfl, by kernel_rfl⟩
theorem df2ttftt (p m : Int) (V : Nat) (F : Nat) (g : Bool) : Fits (reckon (tabH Try.prog extY conNG hcNG) 300 8 [.int .u64 p, .int .i64 m] [cmp false, cmp false, cmp false, cmp false, cmp false, cmp false, cmp false, cmp true, cmp true, cmp true, num V, cmp true, cmp g, num F, cmp false, cmp false, cmp true, cmp true]) (T2 (sM false (jn (IntKind.i64.wrap (nD p + 1)) 8388608)) 16) ((decide ((8388608 : Int) ≥ 8388608), true) :: lE (J3 p V F) (aP16 1) (d16 V).length true (lO (J3 p V F) (aP16 1) (d16 V).length p false (lSn (J2 p V) (J3 p V F) 2 p 0 F g false (lTt p 0 V true (lM2 p m false))))) := ⟨by kernel_rfl, by kernel_rfl, by kernel_rfl, by kernel_rfl⟩
theorem df2ttfft (p m : Int) (V : Nat) (F : Nat) (g : Bool) : Fits (reckon (tabH Try.prog extY conNG hcNG) 300 8 [.int .u64 p, .int .i64 m] [cmp false, cmp false, cmp false, cmp false, cmp false, cmp false, cmp false, cmp true, cmp true, cmp true, num V, cmp true, cmp g, num F, cmp false, cmp false, cmp false, cmp true]) (T2 (sM false (jn (nD p) (sLow (J3 p V F) (aP16 1) (d16 V).length))) 16) ((decide ((sLow (J3 p V F) (aP16 1) (d16 V).length) ≥ 8388608), true) :: lE (J3 p V F) (aP16 1) (d16 V).length false (lO (J3 p V F) (aP16 1) (d16 V).length p false (lSn (J2 p V) (J3 p V F) 2 p 0 F g false (lTt p 0 V true (lM2 p m false))))) := ⟨by kernel_rfl, by kernel_rfl, by kernel_rfl, by kernel_rfl⟩
theorem df2ttfff (p m : Int) (V : Nat) (F : Nat) (g : Bool) : Fits (reckon (tabH Try.prog extY conNG hcNG) 300 8 [.int .u64 p, .int .i64 m] [cmp false, cmp false, cmp false, cmp false, cmp false, cmp false, cmp false, cmp true, cmp true, cmp true, num V, cmp true, cmp g, num F, cmp false, cmp false, cmp false, cmp false]) (T2 (sM false (sLow (J3 p V F) (aP16 1) (d16 V).length)) 16) ((decide ((sLow (J3 p V F) (aP16 1) (d16 V).length) ≥ 8388608), false) :: lE (J3 p V F) (aP16 1) (d16 V).length false (lO (J3 p V F) (aP16 1) (d16 V).length p false (lSn (J2 p V) (J3 p V F) 2 p 0 F g false (lTt p 0 V true (lM2 p m false))))) := ⟨by kernel_rfl, by kernel_rfl, by kernel_rfl, by kernel_rfl⟩
theorem df2tfxfffo (p m : Int) (V : Nat) : Fits (reckon (tabH Try.prog extY conNG hcNG) 300 8 [.int .u64 p, .int .i64 m] [cmp false, cmp false, cmp false, cmp false, cmp false, cmp false, cmp false, cmp true, cmp true, cmp false, num V, cmp true, cmp false, cmp false, cmp false]) (T2 (sM false 2139095040) 20) (((0 : Int) == 4, false) :: ((0 : Int) == 3, false) :: ((0 : Int) == 2, false) :: lO (J2 p V) (aP16 1) (d16 V).length p true (lTt p 0 V false (lM2 p m false))) := ⟨by kernel_rfl, by kernel_rfl, by kernel_rfl, by kernel_rfl⟩
theorem df2tfxtt (p m : Int) (V : Nat) : Fits (reckon (tabH Try.prog extY conNG hcNG) 300 8 [.int .u64 p, .int .i64 m] [cmp false, cmp false, cmp false, cmp false, cmp false, cmp false, cmp false, cmp true, cmp true, cmp false, num V, cmp false, cmp true, cmp true]) (T2 (sM false (jn (IntKind.i64.wrap (nD p + 1)) 8388608)) 0) ((decide ((8388608 : Int) ≥ 8388608), true) :: lE (J2 p V) (aP16 1) (d16 V).length true (lO (J2 p V) (aP16 1) (d16 V).length p false (lTt p 0 V false (lM2 p m false)))) := ⟨by kernel_rfl, by kernel_rfl, by kernel_rfl, by kernel_rfl⟩
theorem df2tfxft (p m : Int) (V : Nat) : Fits (reckon (tabH Try.prog extY conNG hcNG) 300 8 [.int .u64 p, .int .i64 m] [cmp false, cmp false, cmp false, cmp false, cmp false, cmp false, cmp false, cmp true, cmp true, cmp false, num V, cmp false, cmp false, cmp true]) (T2 (sM false (jn (nD p) (sLow (J2 p V) (aP16 1) (d16 V).length))) 0) ((decide ((sLow (J2 p V) (aP16 1) (d16 V).length) ≥ 8388608), true) :: lE (J2 p V) (aP16 1) (d16 V).length false (lO (J2 p V) (aP16 1) (d16 V).length p false (lTt p 0 V false (lM2 p m false)))) := ⟨by kernel_rfl, by kernel_rfl, by kernel_rfl, by kernel_rfl⟩
theorem df2tfxff (p m : Int) (V : Nat) : Fits (reckon (tabH Try.prog extY conNG hcNG) 300 8 [.int .u64 p, .int .i64 m] [cmp false, cmp false, cmp false, cmp false, cmp false, cmp false, cmp false, cmp true, cmp true, cmp false, num V, cmp false, cmp false, cmp false]) (T2 (sM false (sLow (J2 p V) (aP16 1) (d16 V).length)) 0) ((decide ((sLow (J2 p V) (aP16 1) (d16 V).length) ≥ 8388608), false) :: lE (J2 p V) (aP16 1) (d16 V).length false (lO (J2 p V) (aP16 1) (d16 V).length p false (lTt p 0 V false (lM2 p m false)))) := ⟨by kernel_rfl, by kernel_rfl, by kernel_rfl, by kernel_rfl⟩
theorem df2fttff (p m : Int) (V : Nat) (F : Nat) (g : Bool) : Fits (reckon (tabH Try.prog extY conNG hcNG) 300 8 [.int .u64 p, .int .i64 m] [cmp false, cmp false, cmp false, cmp false, cmp false, cmp false, cmp false, cmp true, cmp false, cmp true, num V, cmp true, cmp g, num F, cmp true, cmp false, cmp false, cmp false]) (T2 (sM false (sLow (J2 p F) none 0)) 24) ((decide ((sLow (J2 p F) none 0) ≥ 8388608), false) :: lE (J2 p F) none 0 false (lO (J2 p F) none 0 p false (lSn (J1 p) (J2 p F) 1 p 0 F g true (lTf p 0 true (lM2 p m false))))) := ⟨by kernel_rfl, by kernel_rfl, by kernel_rfl, by kernel_rfl⟩
theorem df2ftfff (p m : Int) (V : Nat) (F : Nat) (g : Bool) : Fits (reckon (tabH Try.prog extY conNG hcNG) 300 8 [.int .u64 p, .int .i64 m] [cmp false, cmp false, cmp false, cmp false, cmp false, cmp false, cmp false, cmp true, cmp false, cmp true, num V, cmp true, cmp g, num F, cmp false, cmp false, cmp false, cmp false]) (T2 (sM false (sLow (J2 p F) none 0)) 16) ((decide ((sLow (J2 p F) none 0) ≥ 8388608), false) :: lE (J2 p F) none 0 false (lO (J2 p F) none 0 p false (lSn (J1 p) (J2 p F) 1 p 0 F g false (lTf p 0 true (lM2 p m false))))) := ⟨by kernel_rfl, by kernel_rfl, by kernel_rfl, by kernel_rfl⟩
theorem df2ffxff (p m : Int) (V : Nat) : Fits (reckon (tabH Try.prog extY conNG hcNG) 300 8 [.int .u64 p, .int .i64 m] [cmp false, cmp false, cmp false, cmp false, cmp false, cmp false, cmp false, cmp true, cmp false, cmp false, num V, cmp false, cmp false, cmp false]) (T2 (sM false (sLow (J1 p) none 0)) 0) ((decide ((sLow (J1 p) none 0) ≥ 8388608), false) :: lE (J1 p) none 0 false (lO (J1 p) none 0 p false (lTf p 0 false (lM2 p m false)))) := ⟨by kernel_rfl, by kernel_rfl, by kernel_rfl, by kernel_rfl⟩
theorem df3tttto (p m : Int) (V : Nat) (F : Nat) (g : Bool) : Fits (reckon (tabH Try.prog extY conNG hcNG) 300 8 [.int .u64 p, .int .i64 m] [cmp false, cmp false, cmp false, cmp false, cmp false, cmp false, cmp false, cmp false, cmp true, cmp true, num V, cmp true, cmp g, num F, cmp true, cmp true, cmp true]) (T2 (sM false 2139095039) 20) ((m == 2, true) :: lO (J3 p V F) (aP16 1) (d16 V).length p true (lSn (J2 p V) (J3 p V F) 2 p m F g true (lTt p m V true (lM3 p m false)))) := ⟨by kernel_rfl, by kernel_rfl, by kernel_rfl, by kernel_rfl⟩
theorem df3tttftfo (p m : Int) (V : Nat) (F : Nat) (g : Bool) : Fits (reckon (tabH Try.prog extY conNG hcNG) 300 8 [.int .u64 p, .int .i64 m] [cmp false, cmp false, cmp false, cmp false, cmp false, cmp false, cmp false, cmp false, cmp true, cmp true, num V, cmp true, cmp g, num F, cmp true, cmp true, cmp false, cmp true, cmp false]) (T2 (sM false 2139095040) 20) ((m == 4, false) :: (m == 3, true) :: (m == 2, false) :: lO (J3 p V F) (aP16 1) (d16 V).length p true (lSn (J2 p V) (J3 p V F) 2 p m F g true (lTt p m V true (lM3 p m false)))) := ⟨by kernel_rfl, by kernel_rfl, by kernel_rfl, by kernel_rfl⟩
theorem df3tttffto (p m : Int) (V : Nat) (F : Nat) (g : Bool) : Fits (reckon (tabH Try.prog extY conNG hcNG) 300 8 [.int .u64 p, .int .i64 m] [cmp false, cmp false, cmp false, cmp false, cmp false, cmp false, cmp false, cmp false, cmp true, cmp true, num V, cmp true, cmp g, num F, cmp true, cmp true, cmp false, cmp false, cmp true]) (T2 (sM false 2139095039) 20) ((m == 4, true) :: (m == 3, false) :: (m == 2, false) :: lO (J3 p V F) (aP16 1) (d16 V).length p true (lSn (J2 p V) (J3 p V F) 2 p m F g true (lTt p m V true (lM3 p m false)))) := ⟨by kernel_rfl, by kernel_rfl, by kernel_rfl, by kernel_rfl⟩
theorem df3tttfffo (p m : Int) (V : Nat) (F : Nat) (g : Bool) : Fits (reckon (tabH Try.prog extY conNG hcNG) 300 8 [.int .u64 p, .int .i64 m] [cmp false, cmp false, cmp false, cmp false, cmp false, cmp false, cmp false, cmp false, cmp true, cmp true, num V, cmp true, cmp g, num F, cmp true, cmp true, cmp false, cmp false, cmp false]) (T2 (sM false 2139095040) 20) ((m == 4, false) :: (m == 3, false) :: (m == 2, false) :: lO (J3 p V F) (aP16 1) (d16 V).length p true (lSn (J2 p V) (J3 p V F) 2 p m F g true (lTt p m V true (lM3 p m false)))) := ⟨by kernel_rfl, by kernel_rfl, by kernel_rfl, by kernel_rfl⟩
theorem df3ttttt (p m : Int) (V : Nat) (F : Nat) (g : Bool) : Fits (reckon (tabH Try.prog extY conNG hcNG) 300 8 [.int .u64 p, .int .i64 m] [cmp false, cmp false, cmp false, cmp false, cmp false, cmp false, cmp false, cmp false, cmp true, cmp true, num V, cmp true, cmp g, num F, cmp true, cmp false, cmp true, cmp true]) (T2 (sM false (jn (IntKind.i64.wrap (nD p + 1)) 8388608)) 24) ((decide ((8388608 : Int) ≥ 8388608), true) :: lE (J3 p V F) (aP16 1) (d16 V).length true (lO (J3 p V F) (aP16 1) (d16 V).length p false (lSn (J2 p V) (J3 p V F) 2 p m F g true (lTt p m V true (lM3 p m false))))) := ⟨by kernel_rfl, by kernel_rfl, by kernel_rfl, by kernel_rfl⟩
theorem df3tttft (p m : Int) (V : Nat) (F : Nat) (g : Bool) : Fits (reckon (tabH Try.prog extY conNG hcNG) 300 8 [.int .u64 p, .int .i64 m] [cmp false, cmp false, cmp false, cmp false, cmp false, cmp false, cmp false, cmp false, cmp true, cmp true, num V, cmp true, cmp g, num F, cmp true, cmp false, cmp false, cmp true]) (T2 (sM false (jn (nD p) (sLow (J3 p V F) (aP16 1) (d16 V).length))) 24) ((decide ((sLow (J3 p V F) (aP16 1) (d16 V).length) ≥ 8388608), true) :: lE (J3 p V F) (aP16 1) (d16 V).length false (lO (J3 p V F) (aP16 1) (d16 V).length p false (lSn (J2 p V) (J3 p V F) 2 p m F g true (lTt p m V true (lM3 p m false))))) := ⟨by kernel_rfl, by kernel_rfl, by kernel_rfl, by kernel_rfl⟩
theorem df3tttff (p m : Int) (V : Nat) (F : Nat) (g : Bool) : Fits (reckon (tabH Try.prog extY conNG hcNG) 300 8 [.int .u64 p, .int .i64 m] [cmp false, cmp false, cmp false, cmp false, cmp false, cmp false, cmp false, cmp false, cmp true, cmp true, num V, cmp true, cmp g, num F, cmp true, cmp false, cmp false, cmp false]) (T2 (sM false (sLow (J3 p V F) (aP16 1) (d16 V).length)) 24) ((decide ((sLow (J3 p V F) (aP16 1) (d16 V).length) ≥ 8388608), false) :: lE (J3 p V F) (aP16 1) (d16 V).length false (lO (J3 p V F) (aP16 1) (d16 V).length p false (lSn (J2 p V) (J3 p V F) 2 p m F g true (lTt p m V true (lM3 p m false))))) := ⟨by kernel_rfl, by kernel_rfl, by kernel_rfl, by kernel_rfl⟩
theorem df3ttfto (p m : Int) (V : Nat) (F : Nat) (g : Bool) : Fits (reckon (tabH Try.prog extY conNG hcNG) 300 8 [.int .u64 p, .int .i64 m] [cmp false, cmp false, cmp false, cmp false, cmp false, cmp false, cmp false, cmp false, cmp true, cmp true, num V, cmp true, cmp g, num F, cmp false, cmp true, cmp true]) (T2 (sM false 2139095039) 20) ((m == 2, true) :: lO (J3 p V F) (aP16 1) (d16 V).length p true (lSn (J2 p V) (J3 p V F) 2 p m F g false (lTt p m V true (lM3 p m false)))) := ⟨by kernel_rfl, by kernel_rfl, by kernel_rfl, by kernel_rfl⟩
theorem df3ttfftfo (p m : Int) (V : Nat) (F : Nat) (g : Bool) : Fits (reckon (tabH Try.prog extY conNG hcNG) 300 8 [.int .u64 p, .int .i64 m] [cmp false, cmp false, cmp false, cmp false, cmp false, cmp false, cmp false, cmp false, cmp true, cmp true, num V, cmp true, cmp g, num F, cmp false, cmp true, cmp false, cmp true, cmp false]) (T2 (sM false 2139095040) 20) ((m == 4, false) :: (m == 3, true) :: (m == 2, false) :: lO (J3 p V F) (aP16 1) (d16 V).length p true (lSn (J2 p V) (J3 p V F) 2 p m F g false (lTt p m V true (lM3 p m false)))) := ⟨by kernel_rfl, by kernel_rfl, by kernel_rfl, by kernel_rfl⟩
theorem df3ttfffto (p m : Int) (V : Nat) (F : Nat) (g : Bool) : Fits (reckon (tabH Try.prog extY conNG hcNG) 300 8 [.int .u64 p, .int .i64 m] [cmp false, cmp false, cmp false, cmp false, cmp false, cmp false, cmp false, cmp false, cmp true, cmp true, num V, cmp true, cmp g, num F, cmp false, cmp true, cmp false, cmp false, cmp true]) (T2 (sM false 2139095039) 20) ((m == 4, true) :: (m == 3, false) :: (m == 2, false) :: lO (J3 p V F) (aP16 1) (d16 V).length p true (lSn (J2 p V) (J3 p V F) 2 p m F g false (lTt p m V true (lM3 p m false)))) := ⟨by kernel_rfl, by kernel_rfl, by kernel_rfl, by kernel_rfl⟩
theorem df3ttffffo (p m : Int) (V : Nat) (F : Nat) (g : Bool) : Fits (reckon (tabH Try.prog extY conNG hcNG) 300 8 [.int .u64 p, .int .i64 m] [cmp false, cmp false, cmp false, cmp false, cmp false, cmp false, cmp false, cmp false, cmp true, cmp true, num V, cmp true, cmp g, num F, cmp false, cmp true, cmp false, cmp false, cmp false]) (T2 (sM false 2139095040) 20) ((m == 4, false) :: (m == 3, false) :: (m == 2, false) :: lO (J3 p V F) (aP16 1) (d16 V).length p true (lSn (J2 p V) (J3 p V F) 2 p m F g false (lTt p m V true (lM3 p m false)))) := ⟨by kernel_rfl, by kernel_rfl, by kernel_rfl, by kernel_rfl⟩
theorem df3ttftt (p m : Int) (V : Nat) (F : Nat) (g : Bool) : Fits (reckon (tabH Try.prog extY conNG hcNG) 300 8 [.int .u64 p, .int .i64 m] [cmp false, cmp false, cmp false, cmp false, cmp false, cmp false, cmp false, cmp false, cmp true, cmp true, num V, cmp true, cmp g, num F, cmp false, cmp false, cmp true, cmp true]) (T2 (sM false (jn (IntKind.i64.wrap (nD p + 1)) 8388608)) 16) ((decide ((8388608 : Int) ≥ 8388608), true) :: lE (J3 p V F) (aP16 1) (d16 V).length true (lO (J3 p V F) (aP16 1) (d16 V).length p false (lSn (J2 p V) (J3 p V F) 2 p m F g false (lTt p m V true (lM3 p m false))))) := ⟨by kernel_rfl, by kernel_rfl, by kernel_rfl, by kernel_rfl⟩
theorem df3ttfft (p m : Int) (V : Nat) (F : Nat) (g : Bool) : Fits (reckon (tabH Try.prog extY conNG hcNG) 300 8 [.int .u64 p, .int .i64 m] [cmp false, cmp false, cmp false, cmp false, cmp false, cmp false, cmp false, cmp false, cmp true, cmp true, num V, cmp true, cmp g, num F, cmp false, cmp false, cmp false, cmp true]) (T2 (sM false (jn (nD p) (sLow (J3 p V F) (aP16 1) (d16 V).length))) 16) ((decide ((sLow (J3 p V F) (aP16 1) (d16 V).length) ≥ 8388608), true) :: lE (J3 p V F) (aP16 1) (d16 V).length false (lO (J3 p V F) (aP16 1) (d16 V).length p false (lSn (J2 p V) (J3 p V F) 2 p m F g false (lTt p m V true (lM3 p m false))))) := ⟨by kernel_rfl, by kernel_rfl, by kernel_rfl, by kernel_rfl⟩
theorem df3ttfff (p m : Int) (V : Nat) (F : Nat) (g : Bool) : Fits (reckon (tabH Try.prog extY conNG hcNG) 300 8 [.int .u64 p, .int .i64 m] [cmp false, cmp false, cmp false, cmp false, cmp false, cmp false, cmp false, cmp false, cmp true, cmp true, num V, cmp true, cmp g, num F, cmp false, cmp false, cmp false, cmp false]) (T2 (sM false (sLow (J3 p V F) (aP16 1) (d16 V).length)) 16) ((decide ((sLow (J3 p V F) (aP16 1) (d16 V).length) ≥ 8388608), false) :: lE (J3 p V F) (aP16 1) (d16 V).length false (lO (J3 p V F) (aP16 1) (d16 V).length p false (lSn (J2 p V) (J3 p V F) 2 p m F g false (lTt p m V true (lM3 p m false))))) := ⟨by kernel_rfl, by kernel_rfl, by kernel_rfl, by kernel_rfl⟩
theorem df3tfxto (p m : Int) (V : Nat) : Fits (reckon (tabH Try.prog extY conNG hcNG) 300 8 [.int .u64 p, .int .i64 m] [cmp false, cmp false, cmp false, cmp false, cmp false, cmp false, cmp false, cmp false, cmp true, cmp false, num V, cmp true, cmp true]) (T2 (sM false 2139095039) 20) ((m == 2, true) :: lO (J2 p V) (aP16 1) (d16 V).length p true (lTt p m V false (lM3 p m false))) := ⟨by kernel_rfl, by kernel_rfl, by kernel_rfl, by kernel_rfl⟩
theorem df3tfxftfo (p m : Int) (V : Nat) : Fits (reckon (tabH Try.prog extY conNG hcNG) 300 8 [.int .u64 p, .int .i64 m] [cmp false, cmp false, cmp false, cmp false, cmp false, cmp false, cmp false, cmp false, cmp true, cmp false, num V, cmp true, cmp false, cmp true, cmp false]) (T2 (sM false 2139095040) 20) ((m == 4, false) :: (m == 3, true) :: (m == 2, false) :: lO (J2 p V) (aP16 1) (d16 V).length p true (lTt p m V false (lM3 p m false))) := ⟨by kernel_rfl, by kernel_rfl, by kernel_rfl, by kernel_rfl⟩
theorem df3tfxffto (p m : Int) (V : Nat) : Fits (reckon (tabH Try.prog extY conNG hcNG) 300 8 [.int .u64 p, .int .i64 m] [cmp false, cmp false, cmp false, cmp false, cmp false, cmp false, cmp false, cmp false, cmp true, cmp false, num V, cmp true, cmp false, cmp false, cmp true]) (T2 (sM false 2139095039) 20) ((m == 4, true) :: (m == 3, false) :: (m == 2, false) :: lO (J2 p V) (aP16 1) (d16 V).length p true (lTt p m V false (lM3 p m false))) := ⟨by kernel_rfl, by kernel_rfl, by kernel_rfl, by kernel_rfl⟩
theorem df3tfxfffo (p m : Int) (V : Nat) : Fits (reckon (tabH Try.prog extY conNG hcNG) 300 8 [.int .u64 p, .int .i64 m] [cmp false, cmp false, cmp false, cmp false, cmp false, cmp false, cmp false, cmp false, cmp true, cmp false, num V, cmp true, cmp false, cmp false, cmp false]) (T2 (sM false 2139095040) 20) ((m == 4, false) :: (m == 3, false) :: (m == 2, false) :: lO (J2 p V) (aP16 1) (d16 V).length p true (lTt p m V false (lM3 p m false))) := ⟨by kernel_rfl, by kernel_rfl, by kernel_rfl, by kernel_rfl⟩
theorem df3tfxtt (p m : Int) (V : Nat) : Fits (reckon (tabH Try.prog extY conNG hcNG) 300 8 [.int .u64 p, .int .i64 m] [cmp false, cmp false, cmp false, cmp false, cmp false, cmp false, cmp false, cmp false, cmp true, cmp false, num V, cmp false, cmp true, cmp true]) (T2 (sM false (jn (IntKind.i64.wrap (nD p + 1)) 8388608)) 0) ((decide ((8388608 : Int) ≥ 8388608), true) :: lE (J2 p V) (aP16 1) (d16 V).length true (lO (J2 p V) (aP16 1) (d16 V).length p false (lTt p m V false (lM3 p m false)))) := ⟨by kernel_rfl, by kernel_rfl, by kernel_rfl, by kernel_rfl⟩
theorem df3tfxft (p m : Int) (V : Nat) : Fits (reckon (tabH Try.prog extY conNG hcNG) 300 8 [.int .u64 p, .int .i64 m] [cmp false, cmp false, cmp false, cmp false, cmp false, cmp false, cmp false, cmp false, cmp true, cmp false, num V, cmp false, cmp false, cmp true]) (T2 (sM false (jn (nD p) (sLow (J2 p V) (aP16 1) (d16 V).length))) 0) ((decide ((sLow (J2 p V) (aP16 1) (d16 V).length) ≥ 8388608), true) :: lE (J2 p V) (aP16 1) (d16 V).length false (lO (J2 p V) (aP16 1) (d16 V).length p false (lTt p m V false (lM3 p m false)))) := ⟨by kernel_rfl, by kernel_rfl, by kernel_rfl, by kernel_rfl⟩
theorem df3tfxff (p m : Int) (V : Nat) : Fits (reckon (tabH Try.prog extY conNG hcNG) 300 8 [.int .u64 p, .int .i64 m] [cmp false, cmp false, cmp false, cmp false, cmp false, cmp false, cmp false, cmp false, cmp true, cmp false, num V, cmp false, cmp false, cmp false]) (T2 (sM false (sLow (J2 p V) (aP16 1) (d16 V).length)) 0) ((decide ((sLow (J2 p V) (aP16 1) (d16 V).length) ≥ 8388608), false) :: lE (J2 p V) (aP16 1) (d16 V).length false (lO (J2 p V) (aP16 1) (d16 V).length p false (lTt p m V false (lM3 p m false)))) := ⟨by kernel_rfl, by kernel_rfl, by kernel_rfl, by kernel_rfl⟩
theorem df3fttff (p m : Int) (V : Nat) (F : Nat) (g : Bool) : Fits (reckon (tabH Try.prog extY conNG hcNG) 300 8 [.int .u64 p, .int .i64 m] [cmp false, cmp false, cmp false, cmp false, cmp false, cmp false, cmp false, cmp false, cmp false, cmp true, num V, cmp true, cmp g, num F, cmp true, cmp false, cmp false, cmp false]) (T2 (sM false (sLow (J2 p F) none 0)) 24) ((decide ((sLow (J2 p F) none 0) ≥ 8388608), false) :: lE (J2 p F) none 0 false (lO (J2 p F) none 0 p false (lSn (J1 p) (J2 p F) 1 p m F g true (lTf p m true (lM3 p m false))))) := ⟨by kernel_rfl, by kernel_rfl, by kernel_rfl, by kernel_rfl⟩
theorem df3ftfff (p m : Int) (V : Nat) (F : Nat) (g : Bool) : Fits (reckon (tabH Try.prog extY conNG hcNG) 300 8 [.int .u64 p, .int .i64 m] [cmp false, cmp false, cmp false, cmp false, cmp false, cmp false, cmp false, cmp false, cmp false, cmp true, num V, cmp true, cmp g, num F, cmp false, cmp false, cmp false, cmp false]) (T2 (sM false (sLow (J2 p F) none 0)) 16) ((decide ((sLow (J2 p F) none 0) ≥ 8388608), false) :: lE (J2 p F) none 0 false (lO (J2 p F) none 0 p false (lSn (J1 p) (J2 p F) 1 p m F g false (lTf p m true (lM3 p m false))))) := ⟨by kernel_rfl, by kernel_rfl, by kernel_rfl, by kernel_rfl⟩
theorem df3ffxff (p m : Int) (V : Nat) : Fits (reckon (tabH Try.prog extY conNG hcNG) 300 8 [.int .u64 p, .int .i64 m] [cmp false, cmp false, cmp false, cmp false, cmp false, cmp false, cmp false, cmp false, cmp false, cmp false, num V, cmp false, cmp false, cmp false]) (T2 (sM false (sLow (J1 p) none 0)) 0) ((decide ((sLow (J1 p) none 0) ≥ 8388608), false) :: lE (J1 p) none 0 false (lO (J1 p) none 0 p false (lTf p m false (lM3 p m false)))) := ⟨by kernel_rfl, by kernel_rfl, by kernel_rfl, by kernel_rfl⟩
end Go.Proofs.Yteglhjkpcljpmaa

/-
  The document's To of patterns of 32 bits (tillerref12.To): its numbers, and what the logs of its ways ask.
-/
namespace Go.Proofs.Yteglhjkpcljpmaa
open Go.KRun Go.Nt Go.Wd Go.Pt Go.Rn
set_option maxRecDepth 100000

theorem ln_d {h : Hp} {b V : Nat} (hb : h.blk? b = some (wU (d16 V), tU)) (hl : (d16 V).length < 100000) : (lLn h (aP16 b) (d16 V).length).1 = true := by
  unfold lLn aP16
  dsimp only
  rw [rowP_d16 hb (by omega), rowOf_d16 hb, show canB (d16 V) = true from canB_mk (can_db (by omega) _), blt_iff.2 (by omega)]
  rfl
theorem rowS_dN {h : Hp} {b V : Nat} (hb : h.blk? b = some (wU (d16 V), tU)) (hl : (d16 V).length < 100000) : rowS h (aP16 b) (d16 V).length (d16 V).length = true := by
  unfold rowS aP16
  rw [rowP_d16 hb (by omega), dgB_d16 hb, blt_iff.2 (by omega)]
  rfl
theorem nil_zeroN {m : Int} {n : Bool} {V : Nat} {E N : Int} (h : rowTo m n V (d16 V).length E N = false) : toQ m n V E N = 0 := by
  unfold rowTo at h
  by_cases hE : N ≤ E
  · rw [if_pos hE] at h
    have h0 := of_decide_eq_false h
    rw [d16_iff] at h0
    unfold toQ
    rw [if_pos hE, show V = 0 by omega, Nat.zero_mul]
  rw [if_neg hE] at h
  simp only [Bool.or_eq_false_iff, decide_eq_false_iff_not] at h
  unfold toQ
  rw [if_neg hE]
  have hlt : V < 2 ^ (N - E).toNat := by
    have h1 := vb_lt (b := 65536) (by omega) (d16 V) (d16_dg V)
    have h2 : vb 65536 (d16 V) = V := vb_db (by omega) V
    rw [h2, pow16] at h1
    exact Nat.lt_of_lt_of_le h1 (Nat.pow_le_pow_right (by omega) (by omega))
  have hd : V / 2 ^ (N - E).toNat = 0 := Nat.div_eq_of_lt hlt
  unfold rq
  by_cases hz : V % 2 ^ (N - E).toNat = 0
  · rw [hd, hz, restC_zero, upR_zero]; rfl
  · have h3 := h.2
    rw [decide_eq_true hz, Bool.true_and] at h3
    rw [h3, hd]; rfl
/-- a row is there, if not all bits are let go -/
theorem row_thereN {m : Int} {n : Bool} {V : Nat} {E N : Int} (hV : V ≠ 0) (h : N - E < (bitLen V : Int)) : rowTo m n V (d16 V).length E N = true := by
  unfold rowTo
  by_cases hE : N ≤ E
  · rw [if_pos hE]
    exact decide_eq_true (d16_iff.2 (by omega))
  · rw [if_neg hE]
    have h1 := vb_lt (b := 65536) (by omega) (d16 V) (d16_dg V)
    have h2 : vb 65536 (d16 V) = V := vb_db (by omega) V
    rw [h2, pow16] at h1
    have h3 := len_le h1
    rw [decide_eq_true (show (N - E).toNat / 16 < (d16 V).length by omega)]
    rfl
theorem sg_len (p : Int) : bitLen (sg p).toNat ≤ 53 ∧ LA p ≤ 4 := by
  have h := sg_lt p
  have h1 : (sg p).toNat < 9007199254740992 := by omega
  refine ⟨len_le (k := 53) (show (sg p).toNat < 2 ^ 53 from h1), d16_len (A := (sg p).toNat) (k := 4) ?_⟩
  exact Nat.lt_of_lt_of_le h1 (by decide)
/-- the document's numbers -/
theorem doc_nums (p : Int) : aV p = (sg p).toNat ∧ tpD p = lgN (sg p).toNat (xp p) + 1 ∧ t24 p = lgN (sg p).toNat (xp p) - 23 ∧ nD p = lowEN (sg p).toNat (xp p) ∧ -1075 ≤ lgN (sg p).toNat (xp p) ∧ lgN (sg p).toNat (xp p) ≤ 1030 := by
  have hl := (sg_len p).1
  have xb := xp_bd p
  have e1 : aV p = (sg p).toNat := vO_aP (V := (sg p).toNat) rfl
  have e2 : tpD p = lgN (sg p).toNat (xp p) + 1 := by
    unfold tpD lgN
    rw [e1, bl_bitLen, wrapI' ⟨by omega, by omega⟩]
    omega
  have lb : lgN (sg p).toNat (xp p) = xp p + ((bitLen (sg p).toNat : Nat) : Int) - 1 := rfl
  have e3 : t24 p = lgN (sg p).toNat (xp p) - 23 := by
    unfold t24
    rw [e2, wrapI' ⟨by omega, by omega⟩]
    omega
  refine ⟨e1, e2, e3, ?_, by omega, by omega⟩
  unfold nD lowEN
  rw [e3]
  split <;> split <;> omega
theorem okTo_N {h : Hp} {p N : Int} (hb : h.blk? 0 = some (w16 (sg p).toNat)) (h0 : -400000 ≤ N) (h1 : N ≤ 400000) : okTo h (aP16 0) (LA p) (LA p) (xp p) N = true := by
  have xb := xp_bd p
  have hl := (sg_len p).2
  unfold LA at *
  unfold okTo aP16
  rw [rowP_d16 (A := (sg p).toNat) hb (by omega), rowOf_d16 (A := (sg p).toNat) hb, show canB (d16 (sg p).toNat) = true from canB_mk (can_db (by omega) _), blt_iff.2 (by omega), decide_eq_true ⟨⟨by omega, by omega⟩, ⟨h0, h1⟩⟩]
  rfl
theorem ok_lZ {p : Int} {s : Bool} (hp : U p) (c2 : cl p ≤ 2) (hz : mag p ≠ 0) (hs : sgn p = s) : okLog (lZ p s) := by
  have e : p.tmod 9223372036854775808 = mag p := by rw [Int.tmod_eq_emod_of_nonneg hp.1]; rfl
  have h3 := (mag_cl p).2.1
  refine okCons (beq_f (by rw [e]; exact hz)) (okCons (by decide) (okCons (beq_f (by rw [e]; exact fun hh => by have := h3.2 hh; omega)) (okCons (by decide) (okCons hs (okCons (decide_eq_false (by omega)) (okL1 (decide_eq_true hp)))))))
theorem ok_lTt {p M : Int} {V : Nat} {e : Bool} {l : Log} (hp : U p) (hV : toQ M (sgn p) (sg p).toNat (xp p) (lowEN (sg p).toNat (xp p)) = V) (he : toL (sg p).toNat (xp p) (lowEN (sg p).toNat (xp p)) = e) (hr : rowTo M (sgn p) (sg p).toNat (LA p) (xp p) (lowEN (sg p).toNat (xp p)) = true) (hl : okLog l) : okLog (lTt p M V e l) := by
  obtain ⟨n1, n2, n3, n4, b0, b1⟩ := doc_nums p
  have lg := lowE_geN (sg p).toNat (xp p)
  have lh : lowEN (sg p).toNat (xp p) ≤ 1007 := by unfold lowEN; split <;> omega
  unfold lTt
  rw [n1, n4]
  exact okCons (decide_eq_true hV) (okCons he (okCons hr (okCons (okTo_N rfl (by omega) (by omega)) (okCons (ln_d (V := (sg p).toNat) rfl (by have := (sg_len p).2; unfold LA at this; omega)) (okCons (decide_eq_true hp) hl)))))
theorem ok_lTf {p M : Int} {e : Bool} {l : Log} (hp : U p) (he : toL (sg p).toNat (xp p) (lowEN (sg p).toNat (xp p)) = e) (hr : rowTo M (sgn p) (sg p).toNat (LA p) (xp p) (lowEN (sg p).toNat (xp p)) = false) (hl : okLog l) : okLog (lTf p M e l) := by
  obtain ⟨n1, n2, n3, n4, b0, b1⟩ := doc_nums p
  have lg := lowE_geN (sg p).toNat (xp p)
  have lh : lowEN (sg p).toNat (xp p) ≤ 1007 := by unfold lowEN; split <;> omega
  unfold lTf
  rw [n1, n4]
  exact okCons he (okCons hr (okCons (okTo_N rfl (by omega) (by omega)) (okCons (ln_d (V := (sg p).toNat) rfl (by have := (sg_len p).2; unfold LA at this; omega)) (okCons (decide_eq_true hp) hl))))
theorem ok_lSn {h k : Hp} {b : Nat} {p M : Int} {F : Nat} {g c : Bool} {l : Log} (hz : (sg p).toNat ≠ 0) (hh : h.blk? 0 = some (w16 (sg p).toNat)) (hk : k.blk? b = some (w16 F)) (hF : toQ M (sgn p) (sg p).toNat (xp p) (lgN (sg p).toNat (xp p) - 23) = F) (hg : toL (sg p).toNat (xp p) (lgN (sg p).toNat (xp p) - 23) = g) (hc : tinyN M (sgn p) (sg p).toNat (xp p) = c) (hl : okLog l) : okLog (lSn h k b p M F g c l) := by
  obtain ⟨n1, n2, n3, n4, b0, b1⟩ := doc_nums p
  have hF1 : F ≤ 16777216 := by rw [← hF]; exact toQ_le (n := 24) (by unfold lgN; omega)
  have l2 := d16_len (A := F) (k := 2) (Nat.lt_of_le_of_lt hF1 (by decide))
  have fb : bitLen F ≤ 25 := len_le (k := 25) (Nat.lt_of_le_of_lt hF1 (by decide))
  have hv : vO h (aP16 0) (LA p) = (sg p).toNat := vO_aP (V := (sg p).toNat) hh
  have hf : vO k (aP16 b) (d16 F).length = F := vO_aP (V := F) hk
  have ht := tiny_docN (m := M) (neg := sgn p) (T := (sg p).toNat) (E := xp p) hz
  rw [hF] at ht
  unfold lSn
  rw [hv, hf, n2, n3, bl_bitLen, wrapI' (n := ((bitLen F : Nat) : Int) + (lgN (sg p).toNat (xp p) + 1)) ⟨by omega, by omega⟩, wrapI' ⟨by omega, by omega⟩]
  exact okCons (ht.trans hc) (okCons (ln_d hk (by omega)) (okCons (decide_eq_true hF) (okCons hg (okCons (row_thereN hz (by unfold lgN; omega)) (okCons (okTo_N hh (by omega) (by omega)) hl)))))
theorem ok_lO {h : Hp} {P : Option Addr} {n : Nat} {p M : Int} {b : Bool} {l : Log} {V : Nat} (hz : (sg p).toNat ≠ 0) (hv : vO h P n = V) (hn : (lLn h P n).1 = true) (hV : toQ M (sgn p) (sg p).toNat (xp p) (lowEN (sg p).toNat (xp p)) = V) (hb : decide (2139095040 ≤ p0N M (sgn p) (sg p).toNat (xp p)) = b) (hl : okLog l) : okLog (lO h P n p b l) := by
  obtain ⟨n1, n2, n3, n4, b0, b1⟩ := doc_nums p
  have hV1 : V ≤ 16777216 := by rw [← hV]; exact low_hiN M (sgn p) (sg p).toNat (xp p)
  have fb : bitLen V ≤ 25 := len_le (k := 25) (Nat.lt_of_le_of_lt hV1 (by decide))
  have lg := lowE_geN (sg p).toNat (xp p)
  have lh : lowEN (sg p).toNat (xp p) ≤ 1007 := by unfold lowEN; split <;> omega
  have ho := over_docN (m := M) (neg := sgn p) (T := (sg p).toNat) (E := xp p) hz
  rw [hV] at ho
  unfold lO
  rw [hv, n4, bl_bitLen, wrapI' ⟨by omega, by omega⟩]
  exact okCons (ho.trans hb) (okCons hn hl)
theorem sLow_eq {h : Hp} {P : Option Addr} {n V : Nat} (hv : vO h P n = V) (hV : V ≤ 16777216) : sLow h P n = (V : Int) := by
  unfold sLow
  rw [hv, wrap3]
  omega
theorem ok_lE {h : Hp} {P : Option Addr} {n V : Nat} {x : Bool} {l : Log} (hv : vO h P n = V) (hV : V ≤ 16777216) (hr : rowS h P n n = true) (hx : ((V : Int) == 16777216) = x) (hl : okLog l) : okLog (lE h P n x l) := by
  unfold lE
  rw [sLow_eq hv hV]
  exact okCons hx (okCons hr hl)
theorem sM_s3 {s : Bool} {q : Int} (h0 : 0 ≤ q) (h1 : q < 2147483648) : sM s q = s3 s q := by
  cases s with
  | true =>
    show IntKind.u32.wrap (q + 2147483648) = s3 true q
    unfold s3
    rw [if_pos rfl, wrap3]
    omega
  | false => rfl
/-- joined -/
theorem jn_eq {n s : Int} (h0 : -149 ≤ n) (h1 : n ≤ 110) (h2 : 0 ≤ s) (h3 : s ≤ 16777216) : jn n s = (n + 149) * 8388608 + s := by
  unfold jn
  rw [wrapI' ⟨by omega, by omega⟩, wrap3, wrap3, wrap3, wrap3]
  omega
/-- the answers of all ways -/
theorem val_o {p m M : Int} {s : Bool} (c2 : cl p ≤ 2) (hz : (sg p).toNat ≠ 0) (hs : sgn p = s) (hM : mN M = mN m) (hb : 2139095040 ≤ p0N M s (sg p).toNat (xp p)) {q : Int} (hq : beyN M s = q) : T2 (sM s q) 20 = T2 (naP m p) (naF m p) := by
  have e1 : rnPN m s (sg p).toNat (xp p) = q := by
    rw [← rnP_mNN, ← hM, rnP_mNN]
    unfold rnPN
    rw [if_neg hz, if_pos hb, hq]
  have e2 : rnFN m s (sg p).toNat (xp p) = 20 := by
    rw [← rnF_mNN, ← hM, rnF_mNN]
    unfold rnFN
    rw [if_neg hz, if_pos hb]
  have hb2 := bey_orN M s
  rw [sM_s3 (by omega) (by omega)]
  unfold naP naF
  rw [if_neg (by omega), if_neg (by omega), if_neg (by omega), if_neg (by omega), hs, e1, e2]
theorem val_n {p m M : Int} {s : Bool} {V : Nat} {e c : Bool} (c2 : cl p ≤ 2) (hz : (sg p).toNat ≠ 0) (hs : sgn p = s) (hM : mN M = mN m) (hV : toQ M s (sg p).toNat (xp p) (lowEN (sg p).toNat (xp p)) = V) (he : toL (sg p).toNat (xp p) (lowEN (sg p).toNat (xp p)) = e) (hc : tinyN M s (sg p).toNat (xp p) = c) (hb : ¬ 2139095040 ≤ p0N M s (sg p).toNat (xp p)) {q x : Int} (hq : (lowEN (sg p).toNat (xp p) + 149) * 8388608 + (V : Int) = q) (hx : (match e with | true => (match c with | true => 24 | false => 16) | false => 0) = x) : T2 (sM s q) x = T2 (naP m p) (naF m p) := by
  have ep : p0N M s (sg p).toNat (xp p) = q := by unfold p0N; rw [hV, hq]
  have e1 : rnPN m s (sg p).toNat (xp p) = q := by
    rw [← rnP_mNN, ← hM, rnP_mNN]
    unfold rnPN
    rw [if_neg hz, if_neg hb, ep]
  have e2 : rnFN m s (sg p).toNat (xp p) = x := by
    rw [← rnF_mNN, ← hM, rnF_mNN]
    unfold rnFN
    rw [if_neg hz, if_neg hb, he, hc, ← hx]
    cases e <;> cases c <;> rfl
  have h0 := p0_nonnegN M s (sg p).toNat (xp p)
  rw [sM_s3 (by omega) (by omega)]
  unfold naP naF
  rw [if_neg (by omega), if_neg (by omega), if_neg (by omega), if_neg (by omega), hs, e1, e2]
/-- the parts of what is not too great -/
theorem low_parts {M : Int} {s : Bool} {T : Nat} {E : Int} {V : Nat} (hz : T ≠ 0) (hV : toQ M s T E (lowEN T E) = V) (hb : ¬ 2139095040 ≤ p0N M s T E) : V ≤ 16777216 ∧ -149 ≤ lowEN T E ∧ lowEN T E ≤ 105 ∧ (V < 8388608 → lowEN T E = -149) := by
  have h1 := low_hiN M s T E
  have h2 := lowE_geN T E
  rw [hV] at h1
  have ep : p0N M s T E = (lowEN T E + 149) * 8388608 + (V : Int) := by unfold p0N; rw [hV]
  refine ⟨h1, h2, by omega, fun h => ?_⟩
  by_cases hl : -149 ≤ lgN T E - 23
  · have := low_loN (m := M) (neg := s) (T := T) (E := E) hz hl
    omega
  · unfold lowEN
    rw [if_pos (by omega)]
theorem sg_pos {p : Int} (c2 : cl p ≤ 2) (hm : mag p ≠ 0) : (sg p).toNat ≠ 0 := fun h0 => by
  have h1 := sg_lt p
  have h2 := fr_lt p
  have h3 := mag_eq p
  have h4 := ex_lt p
  have h5 : sg p = 0 := by omega
  unfold sg at h5
  rcases cl_cases p with ⟨g1, _⟩ | ⟨g1, g2⟩ | ⟨g1, g2, _⟩
  · simp [g1] at h5
    omega
  · omega
  · simp [g1, g2] at h5
    omega
/-- nothing is not too great -/
theorem nil_smallN {M : Int} {s : Bool} {T : Nat} {E : Int} (hz : T ≠ 0) (h : toQ M s T E (lowEN T E) = 0) : ¬ 2139095040 ≤ p0N M s T E := by
  unfold p0N
  rw [h]
  have hl : ¬ -149 ≤ lgN T E - 23 := fun hl => by
    have := low_loN (m := M) (neg := s) (T := T) (E := E) hz hl
    omega
  have : lowEN T E = -149 := by unfold lowEN; rw [if_pos (by omega)]
  omega
end Go.Proofs.Yteglhjkpcljpmaa

/-
  The document's To of patterns of 32 bits (tillerref12.To), as a call in every world.
-/
namespace Go.Proofs.Yteglhjkpcljpmaa
open Go.KRun Go.Nt Go.Wd Go.Pt Go.Rn
set_option maxRecDepth 100000

theorem dn_l (p m : Int) : Fits (reckon (tabH Try.prog extY conNG hcNG) 300 8 [.int .u64 p, .int .i64 m] [cmp true, cmp true]) (T2 2143289344 1) [(cl p == 5, true), lU p, (decide (cl p > 3), true), lU p] := ⟨by kernel_rfl, by kernel_rfl, by kernel_rfl, by kernel_rfl⟩
theorem dn_q (p m : Int) : Fits (reckon (tabH Try.prog extY conNG hcNG) 300 8 [.int .u64 p, .int .i64 m] [cmp true, cmp false, cmp false]) (T2 2143289344 0) [(cl p == 5, false), lU p, (cl p == 5, false), lU p, (decide (cl p > 3), true), lU p] := ⟨by kernel_rfl, by kernel_rfl, by kernel_rfl, by kernel_rfl⟩
theorem dn_it (p m : Int) : Fits (reckon (tabH Try.prog extY conNG hcNG) 300 8 [.int .u64 p, .int .i64 m] [cmp false, cmp true, cmp false, cmp true]) (T2 (sM true 2139095040) 0) [(p.tmod 9223372036854775808 == 9218868437227405312, true), (decide ((9223372036854775808 : Int) = 0), false), (decide (p ≥ 9223372036854775808), true), (decide (cl p > 3), false), lU p] := ⟨by kernel_rfl, by kernel_rfl, by kernel_rfl, by kernel_rfl⟩
theorem dn_zt (p m : Int) : Fits (reckon (tabH Try.prog extY conNG hcNG) 300 8 [.int .u64 p, .int .i64 m] [cmp false, cmp true, cmp false, cmp false, cmp false, cmp true]) (T2 (sM true 0) 0) [(p.tmod 9223372036854775808 == 0, true), (decide ((9223372036854775808 : Int) = 0), false), (p.tmod 9223372036854775808 == 9218868437227405312, false), (decide ((9223372036854775808 : Int) = 0), false), (decide (p ≥ 9223372036854775808), true), (decide (cl p > 3), false), lU p] := ⟨by kernel_rfl, by kernel_rfl, by kernel_rfl, by kernel_rfl⟩
theorem dn_if (p m : Int) : Fits (reckon (tabH Try.prog extY conNG hcNG) 300 8 [.int .u64 p, .int .i64 m] [cmp false, cmp false, cmp false, cmp true]) (T2 (sM false 2139095040) 0) [(p.tmod 9223372036854775808 == 9218868437227405312, true), (decide ((9223372036854775808 : Int) = 0), false), (decide (p ≥ 9223372036854775808), false), (decide (cl p > 3), false), lU p] := ⟨by kernel_rfl, by kernel_rfl, by kernel_rfl, by kernel_rfl⟩
theorem dn_zf (p m : Int) : Fits (reckon (tabH Try.prog extY conNG hcNG) 300 8 [.int .u64 p, .int .i64 m] [cmp false, cmp false, cmp false, cmp false, cmp false, cmp true]) (T2 (sM false 0) 0) [(p.tmod 9223372036854775808 == 0, true), (decide ((9223372036854775808 : Int) = 0), false), (p.tmod 9223372036854775808 == 9218868437227405312, false), (decide ((9223372036854775808 : Int) = 0), false), (decide (p ≥ 9223372036854775808), false), (decide (cl p > 3), false), lU p] := ⟨by kernel_rfl, by kernel_rfl, by kernel_rfl, by kernel_rfl⟩
theorem dto_t1 (p m : Int) (hp : U p) (c2 : cl p ≤ 2) (hm : mag p ≠ 0) (hs : sgn p = true) (hm1 : m < 0) (w : World) : Calls Try.prog 8 #[.int .u64 p, .int .i64 m] w fun r w' => r = .returned (T2 (naP m p) (naF m p)) ∧ Tidy w w' := by
  have T0 := tabH_ok conNG_ok hcNG_ok
  have lz := ok_lZ hp c2 hm hs
  have lm : okLog (lM1 p m true) := okCons (decide_eq_true hm1) lz
  have hM : mN 0 = mN m := by unfold mN; rw [if_pos hm1]; rfl
  have hz : (sg p).toNat ≠ 0 := sg_pos c2 hm
  obtain ⟨V, hV⟩ : ∃ V, toQ 0 (sgn p) (sg p).toNat (xp p) (lowEN (sg p).toNat (xp p)) = V := ⟨_, rfl⟩
  obtain ⟨F, hF⟩ : ∃ F, toQ 0 (sgn p) (sg p).toNat (xp p) (lgN (sg p).toNat (xp p) - 23) = F := ⟨_, rfl⟩
  obtain ⟨g, hg⟩ : ∃ g, toL (sg p).toNat (xp p) (lgN (sg p).toNat (xp p) - 23) = g := ⟨_, rfl⟩
  have hV1 : V ≤ 16777216 := by rw [← hV]; exact low_hiN 0 (sgn p) (sg p).toNat (xp p)
  have hVs : toQ 0 true (sg p).toNat (xp p) (lowEN (sg p).toNat (xp p)) = V := by rw [← hs]; exact hV
  have lV := d16_len (A := V) (k := 2) (Nat.lt_of_le_of_lt hV1 (by decide))
  have bs : p0N 0 (sgn p) (sg p).toNat (xp p) = p0N 0 true (sg p).toNat (xp p) := by rw [hs]
  have ts : tinyN 0 true (sg p).toNat (xp p) = tinyN 0 (sgn p) (sg p).toNat (xp p) := by rw [hs]
  cases hr : rowTo 0 (sgn p) (sg p).toNat (LA p) (xp p) (lowEN (sg p).toNat (xp p)) with
  | true =>
    cases he : toL (sg p).toNat (xp p) (lowEN (sg p).toNat (xp p)) with
    | true =>
      cases hc : tinyN 0 (sgn p) (sg p).toNat (xp p) with
      | true =>
        by_cases hb : 2139095040 ≤ p0N 0 true (sg p).toNat (xp p)
        · have kb : decide (2139095040 ≤ p0N 0 (sgn p) (sg p).toNat (xp p)) = true := decide_eq_true (by rw [bs]; exact hb)
          rw [← val_o c2 hz hs hM hb (q := 2139095040) (by unfold beyN upR; decide)]
          exact fits_calls T0 (dt1tttfffo p m V F g) (okCons (by decide) (okCons (by decide) (okCons (by decide) (ok_lO (M := 0) hz (vO_aP (h := J3 p V F) (b := 1) (V := V) rfl) (ln_d (h := J3 p V F) (b := 1) (V := V) rfl (by omega)) hV kb (ok_lSn (k := J3 p V F) (b := 2) hz rfl rfl hF hg hc (ok_lTt hp hV he hr lm)))))) (by rfl) (by rfl) w
        have kb : decide (2139095040 ≤ p0N 0 (sgn p) (sg p).toNat (xp p)) = false := decide_eq_false (by rw [bs]; exact hb)
        obtain ⟨q1, q2, q3, q4⟩ := low_parts hz hVs hb
        by_cases v1 : V = 16777216
        · skip
          rw [← val_n c2 hz hs hM hVs he (ts.trans hc) hb (q := jn (IntKind.i64.wrap (nD p + 1)) 8388608) (x := 24) (by rw [(doc_nums p).2.2.2.1, wrapI' ⟨by omega, by omega⟩, jn_eq (by omega) (by omega) (by omega) (by omega)]; omega) rfl]
          exact fits_calls T0 (dt1ttttt p m V F g) (okCons (by decide) (ok_lE (vO_aP (h := J3 p V F) (b := 1) (V := V) rfl) hV1 (rowS_dN (h := J3 p V F) (b := 1) (V := V) rfl (by omega)) (beq_t (by omega)) (ok_lO (M := 0) hz (vO_aP (h := J3 p V F) (b := 1) (V := V) rfl) (ln_d (h := J3 p V F) (b := 1) (V := V) rfl (by omega)) hV kb (ok_lSn (k := J3 p V F) (b := 2) hz rfl rfl hF hg hc (ok_lTt hp hV he hr lm))))) (by rfl) (by rfl) w
        by_cases v2 : 8388608 ≤ V
        · skip
          rw [← val_n c2 hz hs hM hVs he (ts.trans hc) hb (q := jn (nD p) (sLow (J3 p V F) (aP16 1) (d16 V).length)) (x := 24) (by rw [(doc_nums p).2.2.2.1, sLow_eq (vO_aP (h := J3 p V F) (b := 1) (V := V) rfl) hV1, jn_eq (by omega) (by omega) (by omega) (by omega)]) rfl]
          exact fits_calls T0 (dt1tttft p m V F g) (okCons (decide_eq_true (by rw [sLow_eq (vO_aP (h := J3 p V F) (b := 1) (V := V) rfl) hV1]; omega)) (ok_lE (vO_aP (h := J3 p V F) (b := 1) (V := V) rfl) hV1 (rowS_dN (h := J3 p V F) (b := 1) (V := V) rfl (by omega)) (beq_f (by omega)) (ok_lO (M := 0) hz (vO_aP (h := J3 p V F) (b := 1) (V := V) rfl) (ln_d (h := J3 p V F) (b := 1) (V := V) rfl (by omega)) hV kb (ok_lSn (k := J3 p V F) (b := 2) hz rfl rfl hF hg hc (ok_lTt hp hV he hr lm))))) (by rfl) (by rfl) w
        rw [← val_n c2 hz hs hM hVs he (ts.trans hc) hb (q := sLow (J3 p V F) (aP16 1) (d16 V).length) (x := 24) (by rw [sLow_eq (vO_aP (h := J3 p V F) (b := 1) (V := V) rfl) hV1, q4 (by omega)]; omega) rfl]
        exact fits_calls T0 (dt1tttff p m V F g) (okCons (decide_eq_false (by rw [sLow_eq (vO_aP (h := J3 p V F) (b := 1) (V := V) rfl) hV1]; omega)) (ok_lE (vO_aP (h := J3 p V F) (b := 1) (V := V) rfl) hV1 (rowS_dN (h := J3 p V F) (b := 1) (V := V) rfl (by omega)) (beq_f (by omega)) (ok_lO (M := 0) hz (vO_aP (h := J3 p V F) (b := 1) (V := V) rfl) (ln_d (h := J3 p V F) (b := 1) (V := V) rfl (by omega)) hV kb (ok_lSn (k := J3 p V F) (b := 2) hz rfl rfl hF hg hc (ok_lTt hp hV he hr lm))))) (by rfl) (by rfl) w
      | false =>
        by_cases hb : 2139095040 ≤ p0N 0 true (sg p).toNat (xp p)
        · have kb : decide (2139095040 ≤ p0N 0 (sgn p) (sg p).toNat (xp p)) = true := decide_eq_true (by rw [bs]; exact hb)
          rw [← val_o c2 hz hs hM hb (q := 2139095040) (by unfold beyN upR; decide)]
          exact fits_calls T0 (dt1ttffffo p m V F g) (okCons (by decide) (okCons (by decide) (okCons (by decide) (ok_lO (M := 0) hz (vO_aP (h := J3 p V F) (b := 1) (V := V) rfl) (ln_d (h := J3 p V F) (b := 1) (V := V) rfl (by omega)) hV kb (ok_lSn (k := J3 p V F) (b := 2) hz rfl rfl hF hg hc (ok_lTt hp hV he hr lm)))))) (by rfl) (by rfl) w
        have kb : decide (2139095040 ≤ p0N 0 (sgn p) (sg p).toNat (xp p)) = false := decide_eq_false (by rw [bs]; exact hb)
        obtain ⟨q1, q2, q3, q4⟩ := low_parts hz hVs hb
        by_cases v1 : V = 16777216
        · skip
          rw [← val_n c2 hz hs hM hVs he (ts.trans hc) hb (q := jn (IntKind.i64.wrap (nD p + 1)) 8388608) (x := 16) (by rw [(doc_nums p).2.2.2.1, wrapI' ⟨by omega, by omega⟩, jn_eq (by omega) (by omega) (by omega) (by omega)]; omega) rfl]
          exact fits_calls T0 (dt1ttftt p m V F g) (okCons (by decide) (ok_lE (vO_aP (h := J3 p V F) (b := 1) (V := V) rfl) hV1 (rowS_dN (h := J3 p V F) (b := 1) (V := V) rfl (by omega)) (beq_t (by omega)) (ok_lO (M := 0) hz (vO_aP (h := J3 p V F) (b := 1) (V := V) rfl) (ln_d (h := J3 p V F) (b := 1) (V := V) rfl (by omega)) hV kb (ok_lSn (k := J3 p V F) (b := 2) hz rfl rfl hF hg hc (ok_lTt hp hV he hr lm))))) (by rfl) (by rfl) w
        by_cases v2 : 8388608 ≤ V
        · skip
          rw [← val_n c2 hz hs hM hVs he (ts.trans hc) hb (q := jn (nD p) (sLow (J3 p V F) (aP16 1) (d16 V).length)) (x := 16) (by rw [(doc_nums p).2.2.2.1, sLow_eq (vO_aP (h := J3 p V F) (b := 1) (V := V) rfl) hV1, jn_eq (by omega) (by omega) (by omega) (by omega)]) rfl]
          exact fits_calls T0 (dt1ttfft p m V F g) (okCons (decide_eq_true (by rw [sLow_eq (vO_aP (h := J3 p V F) (b := 1) (V := V) rfl) hV1]; omega)) (ok_lE (vO_aP (h := J3 p V F) (b := 1) (V := V) rfl) hV1 (rowS_dN (h := J3 p V F) (b := 1) (V := V) rfl (by omega)) (beq_f (by omega)) (ok_lO (M := 0) hz (vO_aP (h := J3 p V F) (b := 1) (V := V) rfl) (ln_d (h := J3 p V F) (b := 1) (V := V) rfl (by omega)) hV kb (ok_lSn (k := J3 p V F) (b := 2) hz rfl rfl hF hg hc (ok_lTt hp hV he hr lm))))) (by rfl) (by rfl) w
        rw [← val_n c2 hz hs hM hVs he (ts.trans hc) hb (q := sLow (J3 p V F) (aP16 1) (d16 V).length) (x := 16) (by rw [sLow_eq (vO_aP (h := J3 p V F) (b := 1) (V := V) rfl) hV1, q4 (by omega)]; omega) rfl]
        exact fits_calls T0 (dt1ttfff p m V F g) (okCons (decide_eq_false (by rw [sLow_eq (vO_aP (h := J3 p V F) (b := 1) (V := V) rfl) hV1]; omega)) (ok_lE (vO_aP (h := J3 p V F) (b := 1) (V := V) rfl) hV1 (rowS_dN (h := J3 p V F) (b := 1) (V := V) rfl (by omega)) (beq_f (by omega)) (ok_lO (M := 0) hz (vO_aP (h := J3 p V F) (b := 1) (V := V) rfl) (ln_d (h := J3 p V F) (b := 1) (V := V) rfl (by omega)) hV kb (ok_lSn (k := J3 p V F) (b := 2) hz rfl rfl hF hg hc (ok_lTt hp hV he hr lm))))) (by rfl) (by rfl) w
    | false =>
      by_cases hb : 2139095040 ≤ p0N 0 true (sg p).toNat (xp p)
      · have kb : decide (2139095040 ≤ p0N 0 (sgn p) (sg p).toNat (xp p)) = true := decide_eq_true (by rw [bs]; exact hb)
        rw [← val_o c2 hz hs hM hb (q := 2139095040) (by unfold beyN upR; decide)]
        exact fits_calls T0 (dt1tfxfffo p m V) (okCons (by decide) (okCons (by decide) (okCons (by decide) (ok_lO (M := 0) hz (vO_aP (h := J2 p V) (b := 1) (V := V) rfl) (ln_d (h := J2 p V) (b := 1) (V := V) rfl (by omega)) hV kb (ok_lTt hp hV he hr lm))))) (by rfl) (by rfl) w
      have kb : decide (2139095040 ≤ p0N 0 (sgn p) (sg p).toNat (xp p)) = false := decide_eq_false (by rw [bs]; exact hb)
      obtain ⟨q1, q2, q3, q4⟩ := low_parts hz hVs hb
      by_cases v1 : V = 16777216
      · skip
        rw [← val_n c2 hz hs hM hVs he (ts.trans rfl) hb (q := jn (IntKind.i64.wrap (nD p + 1)) 8388608) (x := 0) (by rw [(doc_nums p).2.2.2.1, wrapI' ⟨by omega, by omega⟩, jn_eq (by omega) (by omega) (by omega) (by omega)]; omega) rfl]
        exact fits_calls T0 (dt1tfxtt p m V) (okCons (by decide) (ok_lE (vO_aP (h := J2 p V) (b := 1) (V := V) rfl) hV1 (rowS_dN (h := J2 p V) (b := 1) (V := V) rfl (by omega)) (beq_t (by omega)) (ok_lO (M := 0) hz (vO_aP (h := J2 p V) (b := 1) (V := V) rfl) (ln_d (h := J2 p V) (b := 1) (V := V) rfl (by omega)) hV kb (ok_lTt hp hV he hr lm)))) (by rfl) (by rfl) w
      by_cases v2 : 8388608 ≤ V
      · skip
        rw [← val_n c2 hz hs hM hVs he (ts.trans rfl) hb (q := jn (nD p) (sLow (J2 p V) (aP16 1) (d16 V).length)) (x := 0) (by rw [(doc_nums p).2.2.2.1, sLow_eq (vO_aP (h := J2 p V) (b := 1) (V := V) rfl) hV1, jn_eq (by omega) (by omega) (by omega) (by omega)]) rfl]
        exact fits_calls T0 (dt1tfxft p m V) (okCons (decide_eq_true (by rw [sLow_eq (vO_aP (h := J2 p V) (b := 1) (V := V) rfl) hV1]; omega)) (ok_lE (vO_aP (h := J2 p V) (b := 1) (V := V) rfl) hV1 (rowS_dN (h := J2 p V) (b := 1) (V := V) rfl (by omega)) (beq_f (by omega)) (ok_lO (M := 0) hz (vO_aP (h := J2 p V) (b := 1) (V := V) rfl) (ln_d (h := J2 p V) (b := 1) (V := V) rfl (by omega)) hV kb (ok_lTt hp hV he hr lm)))) (by rfl) (by rfl) w
      rw [← val_n c2 hz hs hM hVs he (ts.trans rfl) hb (q := sLow (J2 p V) (aP16 1) (d16 V).length) (x := 0) (by rw [sLow_eq (vO_aP (h := J2 p V) (b := 1) (V := V) rfl) hV1, q4 (by omega)]; omega) rfl]
      exact fits_calls T0 (dt1tfxff p m V) (okCons (decide_eq_false (by rw [sLow_eq (vO_aP (h := J2 p V) (b := 1) (V := V) rfl) hV1]; omega)) (ok_lE (vO_aP (h := J2 p V) (b := 1) (V := V) rfl) hV1 (rowS_dN (h := J2 p V) (b := 1) (V := V) rfl (by omega)) (beq_f (by omega)) (ok_lO (M := 0) hz (vO_aP (h := J2 p V) (b := 1) (V := V) rfl) (ln_d (h := J2 p V) (b := 1) (V := V) rfl (by omega)) hV kb (ok_lTt hp hV he hr lm)))) (by rfl) (by rfl) w
  | false =>
    have V0 : V = 0 := hV.symm.trans (nil_zeroN hr)
    have hvn : ∀ h : Hp, vO h none 0 = V := fun h => by rw [V0]; rfl
    have hb : ¬ 2139095040 ≤ p0N 0 true (sg p).toNat (xp p) := nil_smallN hz (hVs.trans V0)
    cases he : toL (sg p).toNat (xp p) (lowEN (sg p).toNat (xp p)) with
    | true =>
      cases hc : tinyN 0 (sgn p) (sg p).toNat (xp p) with
      | true =>
        have kb : decide (2139095040 ≤ p0N 0 (sgn p) (sg p).toNat (xp p)) = false := decide_eq_false (by rw [bs]; exact hb)
        obtain ⟨q1, q2, q3, q4⟩ := low_parts hz hVs hb
        rw [← val_n c2 hz hs hM hVs he (ts.trans hc) hb (q := sLow (J2 p F) none 0) (x := 24) (by rw [sLow_eq (hvn (J2 p F)) hV1, q4 (by omega)]; omega) rfl]
        exact fits_calls T0 (dt1fttff p m V F g) (okCons (decide_eq_false (by rw [sLow_eq (hvn (J2 p F)) hV1]; omega)) (ok_lE (hvn (J2 p F)) hV1 rfl (beq_f (by omega)) (ok_lO (M := 0) hz (hvn (J2 p F)) rfl hV kb (ok_lSn (k := J2 p F) (b := 1) hz rfl rfl hF hg hc (ok_lTf hp he hr lm))))) (by rfl) (by rfl) w
      | false =>
        have kb : decide (2139095040 ≤ p0N 0 (sgn p) (sg p).toNat (xp p)) = false := decide_eq_false (by rw [bs]; exact hb)
        obtain ⟨q1, q2, q3, q4⟩ := low_parts hz hVs hb
        rw [← val_n c2 hz hs hM hVs he (ts.trans hc) hb (q := sLow (J2 p F) none 0) (x := 16) (by rw [sLow_eq (hvn (J2 p F)) hV1, q4 (by omega)]; omega) rfl]
        exact fits_calls T0 (dt1ftfff p m V F g) (okCons (decide_eq_false (by rw [sLow_eq (hvn (J2 p F)) hV1]; omega)) (ok_lE (hvn (J2 p F)) hV1 rfl (beq_f (by omega)) (ok_lO (M := 0) hz (hvn (J2 p F)) rfl hV kb (ok_lSn (k := J2 p F) (b := 1) hz rfl rfl hF hg hc (ok_lTf hp he hr lm))))) (by rfl) (by rfl) w
    | false =>
      have kb : decide (2139095040 ≤ p0N 0 (sgn p) (sg p).toNat (xp p)) = false := decide_eq_false (by rw [bs]; exact hb)
      obtain ⟨q1, q2, q3, q4⟩ := low_parts hz hVs hb
      rw [← val_n c2 hz hs hM hVs he (ts.trans rfl) hb (q := sLow (J1 p) none 0) (x := 0) (by rw [sLow_eq (hvn (J1 p)) hV1, q4 (by omega)]; omega) rfl]
      exact fits_calls T0 (dt1ffxff p m V) (okCons (decide_eq_false (by rw [sLow_eq (hvn (J1 p)) hV1]; omega)) (ok_lE (hvn (J1 p)) hV1 rfl (beq_f (by omega)) (ok_lO (M := 0) hz (hvn (J1 p)) rfl hV kb (ok_lTf hp he hr lm)))) (by rfl) (by rfl) w
theorem dto_t2 (p m : Int) (hp : U p) (c2 : cl p ≤ 2) (hm : mag p ≠ 0) (hs : sgn p = true) (hm1 : ¬ m < 0) (hm2 : m > 4) (w : World) : Calls Try.prog 8 #[.int .u64 p, .int .i64 m] w fun r w' => r = .returned (T2 (naP m p) (naF m p)) ∧ Tidy w w' := by
  have T0 := tabH_ok conNG_ok hcNG_ok
  have lz := ok_lZ hp c2 hm hs
  have lm : okLog (lM2 p m true) := okCons (decide_eq_true hm2) (okCons (decide_eq_false hm1) lz)
  have hM : mN 0 = mN m := by unfold mN; rw [if_neg hm1, if_pos hm2]; rfl
  have hz : (sg p).toNat ≠ 0 := sg_pos c2 hm
  obtain ⟨V, hV⟩ : ∃ V, toQ 0 (sgn p) (sg p).toNat (xp p) (lowEN (sg p).toNat (xp p)) = V := ⟨_, rfl⟩
  obtain ⟨F, hF⟩ : ∃ F, toQ 0 (sgn p) (sg p).toNat (xp p) (lgN (sg p).toNat (xp p) - 23) = F := ⟨_, rfl⟩
  obtain ⟨g, hg⟩ : ∃ g, toL (sg p).toNat (xp p) (lgN (sg p).toNat (xp p) - 23) = g := ⟨_, rfl⟩
  have hV1 : V ≤ 16777216 := by rw [← hV]; exact low_hiN 0 (sgn p) (sg p).toNat (xp p)
  have hVs : toQ 0 true (sg p).toNat (xp p) (lowEN (sg p).toNat (xp p)) = V := by rw [← hs]; exact hV
  have lV := d16_len (A := V) (k := 2) (Nat.lt_of_le_of_lt hV1 (by decide))
  have bs : p0N 0 (sgn p) (sg p).toNat (xp p) = p0N 0 true (sg p).toNat (xp p) := by rw [hs]
  have ts : tinyN 0 true (sg p).toNat (xp p) = tinyN 0 (sgn p) (sg p).toNat (xp p) := by rw [hs]
  cases hr : rowTo 0 (sgn p) (sg p).toNat (LA p) (xp p) (lowEN (sg p).toNat (xp p)) with
  | true =>
    cases he : toL (sg p).toNat (xp p) (lowEN (sg p).toNat (xp p)) with
    | true =>
      cases hc : tinyN 0 (sgn p) (sg p).toNat (xp p) with
      | true =>
        by_cases hb : 2139095040 ≤ p0N 0 true (sg p).toNat (xp p)
        · have kb : decide (2139095040 ≤ p0N 0 (sgn p) (sg p).toNat (xp p)) = true := decide_eq_true (by rw [bs]; exact hb)
          rw [← val_o c2 hz hs hM hb (q := 2139095040) (by unfold beyN upR; decide)]
          exact fits_calls T0 (dt2tttfffo p m V F g) (okCons (by decide) (okCons (by decide) (okCons (by decide) (ok_lO (M := 0) hz (vO_aP (h := J3 p V F) (b := 1) (V := V) rfl) (ln_d (h := J3 p V F) (b := 1) (V := V) rfl (by omega)) hV kb (ok_lSn (k := J3 p V F) (b := 2) hz rfl rfl hF hg hc (ok_lTt hp hV he hr lm)))))) (by rfl) (by rfl) w
        have kb : decide (2139095040 ≤ p0N 0 (sgn p) (sg p).toNat (xp p)) = false := decide_eq_false (by rw [bs]; exact hb)
        obtain ⟨q1, q2, q3, q4⟩ := low_parts hz hVs hb
        by_cases v1 : V = 16777216
        · skip
          rw [← val_n c2 hz hs hM hVs he (ts.trans hc) hb (q := jn (IntKind.i64.wrap (nD p + 1)) 8388608) (x := 24) (by rw [(doc_nums p).2.2.2.1, wrapI' ⟨by omega, by omega⟩, jn_eq (by omega) (by omega) (by omega) (by omega)]; omega) rfl]
          exact fits_calls T0 (dt2ttttt p m V F g) (okCons (by decide) (ok_lE (vO_aP (h := J3 p V F) (b := 1) (V := V) rfl) hV1 (rowS_dN (h := J3 p V F) (b := 1) (V := V) rfl (by omega)) (beq_t (by omega)) (ok_lO (M := 0) hz (vO_aP (h := J3 p V F) (b := 1) (V := V) rfl) (ln_d (h := J3 p V F) (b := 1) (V := V) rfl (by omega)) hV kb (ok_lSn (k := J3 p V F) (b := 2) hz rfl rfl hF hg hc (ok_lTt hp hV he hr lm))))) (by rfl) (by rfl) w
        by_cases v2 : 8388608 ≤ V
        · skip
          rw [← val_n c2 hz hs hM hVs he (ts.trans hc) hb (q := jn (nD p) (sLow (J3 p V F) (aP16 1) (d16 V).length)) (x := 24) (by rw [(doc_nums p).2.2.2.1, sLow_eq (vO_aP (h := J3 p V F) (b := 1) (V := V) rfl) hV1, jn_eq (by omega) (by omega) (by omega) (by omega)]) rfl]
          exact fits_calls T0 (dt2tttft p m V F g) (okCons (decide_eq_true (by rw [sLow_eq (vO_aP (h := J3 p V F) (b := 1) (V := V) rfl) hV1]; omega)) (ok_lE (vO_aP (h := J3 p V F) (b := 1) (V := V) rfl) hV1 (rowS_dN (h := J3 p V F) (b := 1) (V := V) rfl (by omega)) (beq_f (by omega)) (ok_lO (M := 0) hz (vO_aP (h := J3 p V F) (b := 1) (V := V) rfl) (ln_d (h := J3 p V F) (b := 1) (V := V) rfl (by omega)) hV kb (ok_lSn (k := J3 p V F) (b := 2) hz rfl rfl hF hg hc (ok_lTt hp hV he hr lm))))) (by rfl) (by rfl) w
        rw [← val_n c2 hz hs hM hVs he (ts.trans hc) hb (q := sLow (J3 p V F) (aP16 1) (d16 V).length) (x := 24) (by rw [sLow_eq (vO_aP (h := J3 p V F) (b := 1) (V := V) rfl) hV1, q4 (by omega)]; omega) rfl]
        exact fits_calls T0 (dt2tttff p m V F g) (okCons (decide_eq_false (by rw [sLow_eq (vO_aP (h := J3 p V F) (b := 1) (V := V) rfl) hV1]; omega)) (ok_lE (vO_aP (h := J3 p V F) (b := 1) (V := V) rfl) hV1 (rowS_dN (h := J3 p V F) (b := 1) (V := V) rfl (by omega)) (beq_f (by omega)) (ok_lO (M := 0) hz (vO_aP (h := J3 p V F) (b := 1) (V := V) rfl) (ln_d (h := J3 p V F) (b := 1) (V := V) rfl (by omega)) hV kb (ok_lSn (k := J3 p V F) (b := 2) hz rfl rfl hF hg hc (ok_lTt hp hV he hr lm))))) (by rfl) (by rfl) w
      | false =>
        by_cases hb : 2139095040 ≤ p0N 0 true (sg p).toNat (xp p)
        · have kb : decide (2139095040 ≤ p0N 0 (sgn p) (sg p).toNat (xp p)) = true := decide_eq_true (by rw [bs]; exact hb)
          rw [← val_o c2 hz hs hM hb (q := 2139095040) (by unfold beyN upR; decide)]
          exact fits_calls T0 (dt2ttffffo p m V F g) (okCons (by decide) (okCons (by decide) (okCons (by decide) (ok_lO (M := 0) hz (vO_aP (h := J3 p V F) (b := 1) (V := V) rfl) (ln_d (h := J3 p V F) (b := 1) (V := V) rfl (by omega)) hV kb (ok_lSn (k := J3 p V F) (b := 2) hz rfl rfl hF hg hc (ok_lTt hp hV he hr lm)))))) (by rfl) (by rfl) w
        have kb : decide (2139095040 ≤ p0N 0 (sgn p) (sg p).toNat (xp p)) = false := decide_eq_false (by rw [bs]; exact hb)
        obtain ⟨q1, q2, q3, q4⟩ := low_parts hz hVs hb
        by_cases v1 : V = 16777216
        · skip
          rw [← val_n c2 hz hs hM hVs he (ts.trans hc) hb (q := jn (IntKind.i64.wrap (nD p + 1)) 8388608) (x := 16) (by rw [(doc_nums p).2.2.2.1, wrapI' ⟨by omega, by omega⟩, jn_eq (by omega) (by omega) (by omega) (by omega)]; omega) rfl]
          exact fits_calls T0 (dt2ttftt p m V F g) (okCons (by decide) (ok_lE (vO_aP (h := J3 p V F) (b := 1) (V := V) rfl) hV1 (rowS_dN (h := J3 p V F) (b := 1) (V := V) rfl (by omega)) (beq_t (by omega)) (ok_lO (M := 0) hz (vO_aP (h := J3 p V F) (b := 1) (V := V) rfl) (ln_d (h := J3 p V F) (b := 1) (V := V) rfl (by omega)) hV kb (ok_lSn (k := J3 p V F) (b := 2) hz rfl rfl hF hg hc (ok_lTt hp hV he hr lm))))) (by rfl) (by rfl) w
        by_cases v2 : 8388608 ≤ V
        · skip
          rw [← val_n c2 hz hs hM hVs he (ts.trans hc) hb (q := jn (nD p) (sLow (J3 p V F) (aP16 1) (d16 V).length)) (x := 16) (by rw [(doc_nums p).2.2.2.1, sLow_eq (vO_aP (h := J3 p V F) (b := 1) (V := V) rfl) hV1, jn_eq (by omega) (by omega) (by omega) (by omega)]) rfl]
          exact fits_calls T0 (dt2ttfft p m V F g) (okCons (decide_eq_true (by rw [sLow_eq (vO_aP (h := J3 p V F) (b := 1) (V := V) rfl) hV1]; omega)) (ok_lE (vO_aP (h := J3 p V F) (b := 1) (V := V) rfl) hV1 (rowS_dN (h := J3 p V F) (b := 1) (V := V) rfl (by omega)) (beq_f (by omega)) (ok_lO (M := 0) hz (vO_aP (h := J3 p V F) (b := 1) (V := V) rfl) (ln_d (h := J3 p V F) (b := 1) (V := V) rfl (by omega)) hV kb (ok_lSn (k := J3 p V F) (b := 2) hz rfl rfl hF hg hc (ok_lTt hp hV he hr lm))))) (by rfl) (by rfl) w
        rw [← val_n c2 hz hs hM hVs he (ts.trans hc) hb (q := sLow (J3 p V F) (aP16 1) (d16 V).length) (x := 16) (by rw [sLow_eq (vO_aP (h := J3 p V F) (b := 1) (V := V) rfl) hV1, q4 (by omega)]; omega) rfl]
        exact fits_calls T0 (dt2ttfff p m V F g) (okCons (decide_eq_false (by rw [sLow_eq (vO_aP (h := J3 p V F) (b := 1) (V := V) rfl) hV1]; omega)) (ok_lE (vO_aP (h := J3 p V F) (b := 1) (V := V) rfl) hV1 (rowS_dN (h := J3 p V F) (b := 1) (V := V) rfl (by omega)) (beq_f (by omega)) (ok_lO (M := 0) hz (vO_aP (h := J3 p V F) (b := 1) (V := V) rfl) (ln_d (h := J3 p V F) (b := 1) (V := V) rfl (by omega)) hV kb (ok_lSn (k := J3 p V F) (b := 2) hz rfl rfl hF hg hc (ok_lTt hp hV he hr lm))))) (by rfl) (by rfl) w
    | false =>
      by_cases hb : 2139095040 ≤ p0N 0 true (sg p).toNat (xp p)
      · have kb : decide (2139095040 ≤ p0N 0 (sgn p) (sg p).toNat (xp p)) = true := decide_eq_true (by rw [bs]; exact hb)
        rw [← val_o c2 hz hs hM hb (q := 2139095040) (by unfold beyN upR; decide)]
        exact fits_calls T0 (dt2tfxfffo p m V) (okCons (by decide) (okCons (by decide) (okCons (by decide) (ok_lO (M := 0) hz (vO_aP (h := J2 p V) (b := 1) (V := V) rfl) (ln_d (h := J2 p V) (b := 1) (V := V) rfl (by omega)) hV kb (ok_lTt hp hV he hr lm))))) (by rfl) (by rfl) w
      have kb : decide (2139095040 ≤ p0N 0 (sgn p) (sg p).toNat (xp p)) = false := decide_eq_false (by rw [bs]; exact hb)
      obtain ⟨q1, q2, q3, q4⟩ := low_parts hz hVs hb
      by_cases v1 : V = 16777216
      · skip
        rw [← val_n c2 hz hs hM hVs he (ts.trans rfl) hb (q := jn (IntKind.i64.wrap (nD p + 1)) 8388608) (x := 0) (by rw [(doc_nums p).2.2.2.1, wrapI' ⟨by omega, by omega⟩, jn_eq (by omega) (by omega) (by omega) (by omega)]; omega) rfl]
        exact fits_calls T0 (dt2tfxtt p m V) (okCons (by decide) (ok_lE (vO_aP (h := J2 p V) (b := 1) (V := V) rfl) hV1 (rowS_dN (h := J2 p V) (b := 1) (V := V) rfl (by omega)) (beq_t (by omega)) (ok_lO (M := 0) hz (vO_aP (h := J2 p V) (b := 1) (V := V) rfl) (ln_d (h := J2 p V) (b := 1) (V := V) rfl (by omega)) hV kb (ok_lTt hp hV he hr lm)))) (by rfl) (by rfl) w
      by_cases v2 : 8388608 ≤ V
      · skip
        rw [← val_n c2 hz hs hM hVs he (ts.trans rfl) hb (q := jn (nD p) (sLow (J2 p V) (aP16 1) (d16 V).length)) (x := 0) (by rw [(doc_nums p).2.2.2.1, sLow_eq (vO_aP (h := J2 p V) (b := 1) (V := V) rfl) hV1, jn_eq (by omega) (by omega) (by omega) (by omega)]) rfl]
        exact fits_calls T0 (dt2tfxft p m V) (okCons (decide_eq_true (by rw [sLow_eq (vO_aP (h := J2 p V) (b := 1) (V := V) rfl) hV1]; omega)) (ok_lE (vO_aP (h := J2 p V) (b := 1) (V := V) rfl) hV1 (rowS_dN (h := J2 p V) (b := 1) (V := V) rfl (by omega)) (beq_f (by omega)) (ok_lO (M := 0) hz (vO_aP (h := J2 p V) (b := 1) (V := V) rfl) (ln_d (h := J2 p V) (b := 1) (V := V) rfl (by omega)) hV kb (ok_lTt hp hV he hr lm)))) (by rfl) (by rfl) w
      rw [← val_n c2 hz hs hM hVs he (ts.trans rfl) hb (q := sLow (J2 p V) (aP16 1) (d16 V).length) (x := 0) (by rw [sLow_eq (vO_aP (h := J2 p V) (b := 1) (V := V) rfl) hV1, q4 (by omega)]; omega) rfl]
      exact fits_calls T0 (dt2tfxff p m V) (okCons (decide_eq_false (by rw [sLow_eq (vO_aP (h := J2 p V) (b := 1) (V := V) rfl) hV1]; omega)) (ok_lE (vO_aP (h := J2 p V) (b := 1) (V := V) rfl) hV1 (rowS_dN (h := J2 p V) (b := 1) (V := V) rfl (by omega)) (beq_f (by omega)) (ok_lO (M := 0) hz (vO_aP (h := J2 p V) (b := 1) (V := V) rfl) (ln_d (h := J2 p V) (b := 1) (V := V) rfl (by omega)) hV kb (ok_lTt hp hV he hr lm)))) (by rfl) (by rfl) w
  | false =>
    have V0 : V = 0 := hV.symm.trans (nil_zeroN hr)
    have hvn : ∀ h : Hp, vO h none 0 = V := fun h => by rw [V0]; rfl
    have hb : ¬ 2139095040 ≤ p0N 0 true (sg p).toNat (xp p) := nil_smallN hz (hVs.trans V0)
    cases he : toL (sg p).toNat (xp p) (lowEN (sg p).toNat (xp p)) with
    | true =>
      cases hc : tinyN 0 (sgn p) (sg p).toNat (xp p) with
      | true =>
        have kb : decide (2139095040 ≤ p0N 0 (sgn p) (sg p).toNat (xp p)) = false := decide_eq_false (by rw [bs]; exact hb)
        obtain ⟨q1, q2, q3, q4⟩ := low_parts hz hVs hb
        rw [← val_n c2 hz hs hM hVs he (ts.trans hc) hb (q := sLow (J2 p F) none 0) (x := 24) (by rw [sLow_eq (hvn (J2 p F)) hV1, q4 (by omega)]; omega) rfl]
        exact fits_calls T0 (dt2fttff p m V F g) (okCons (decide_eq_false (by rw [sLow_eq (hvn (J2 p F)) hV1]; omega)) (ok_lE (hvn (J2 p F)) hV1 rfl (beq_f (by omega)) (ok_lO (M := 0) hz (hvn (J2 p F)) rfl hV kb (ok_lSn (k := J2 p F) (b := 1) hz rfl rfl hF hg hc (ok_lTf hp he hr lm))))) (by rfl) (by rfl) w
      | false =>
        have kb : decide (2139095040 ≤ p0N 0 (sgn p) (sg p).toNat (xp p)) = false := decide_eq_false (by rw [bs]; exact hb)
        obtain ⟨q1, q2, q3, q4⟩ := low_parts hz hVs hb
        rw [← val_n c2 hz hs hM hVs he (ts.trans hc) hb (q := sLow (J2 p F) none 0) (x := 16) (by rw [sLow_eq (hvn (J2 p F)) hV1, q4 (by omega)]; omega) rfl]
        exact fits_calls T0 (dt2ftfff p m V F g) (okCons (decide_eq_false (by rw [sLow_eq (hvn (J2 p F)) hV1]; omega)) (ok_lE (hvn (J2 p F)) hV1 rfl (beq_f (by omega)) (ok_lO (M := 0) hz (hvn (J2 p F)) rfl hV kb (ok_lSn (k := J2 p F) (b := 1) hz rfl rfl hF hg hc (ok_lTf hp he hr lm))))) (by rfl) (by rfl) w
    | false =>
      have kb : decide (2139095040 ≤ p0N 0 (sgn p) (sg p).toNat (xp p)) = false := decide_eq_false (by rw [bs]; exact hb)
      obtain ⟨q1, q2, q3, q4⟩ := low_parts hz hVs hb
      rw [← val_n c2 hz hs hM hVs he (ts.trans rfl) hb (q := sLow (J1 p) none 0) (x := 0) (by rw [sLow_eq (hvn (J1 p)) hV1, q4 (by omega)]; omega) rfl]
      exact fits_calls T0 (dt2ffxff p m V) (okCons (decide_eq_false (by rw [sLow_eq (hvn (J1 p)) hV1]; omega)) (ok_lE (hvn (J1 p)) hV1 rfl (beq_f (by omega)) (ok_lO (M := 0) hz (hvn (J1 p)) rfl hV kb (ok_lTf hp he hr lm)))) (by rfl) (by rfl) w
theorem dto_t3 (p m : Int) (hp : U p) (c2 : cl p ≤ 2) (hm : mag p ≠ 0) (hs : sgn p = true) (hm1 : ¬ m < 0) (hm2 : ¬ m > 4) (w : World) : Calls Try.prog 8 #[.int .u64 p, .int .i64 m] w fun r w' => r = .returned (T2 (naP m p) (naF m p)) ∧ Tidy w w' := by
  have T0 := tabH_ok conNG_ok hcNG_ok
  have lz := ok_lZ hp c2 hm hs
  have lm : okLog (lM3 p m true) := okCons (decide_eq_false hm2) (okCons (decide_eq_false hm1) lz)
  have hM : mN m = mN m := rfl
  have hz : (sg p).toNat ≠ 0 := sg_pos c2 hm
  obtain ⟨V, hV⟩ : ∃ V, toQ m (sgn p) (sg p).toNat (xp p) (lowEN (sg p).toNat (xp p)) = V := ⟨_, rfl⟩
  obtain ⟨F, hF⟩ : ∃ F, toQ m (sgn p) (sg p).toNat (xp p) (lgN (sg p).toNat (xp p) - 23) = F := ⟨_, rfl⟩
  obtain ⟨g, hg⟩ : ∃ g, toL (sg p).toNat (xp p) (lgN (sg p).toNat (xp p) - 23) = g := ⟨_, rfl⟩
  have hV1 : V ≤ 16777216 := by rw [← hV]; exact low_hiN m (sgn p) (sg p).toNat (xp p)
  have hVs : toQ m true (sg p).toNat (xp p) (lowEN (sg p).toNat (xp p)) = V := by rw [← hs]; exact hV
  have lV := d16_len (A := V) (k := 2) (Nat.lt_of_le_of_lt hV1 (by decide))
  have bs : p0N m (sgn p) (sg p).toNat (xp p) = p0N m true (sg p).toNat (xp p) := by rw [hs]
  have ts : tinyN m true (sg p).toNat (xp p) = tinyN m (sgn p) (sg p).toNat (xp p) := by rw [hs]
  cases hr : rowTo m (sgn p) (sg p).toNat (LA p) (xp p) (lowEN (sg p).toNat (xp p)) with
  | true =>
    cases he : toL (sg p).toNat (xp p) (lowEN (sg p).toNat (xp p)) with
    | true =>
      cases hc : tinyN m (sgn p) (sg p).toNat (xp p) with
      | true =>
        by_cases hb : 2139095040 ≤ p0N m true (sg p).toNat (xp p)
        · have kb : decide (2139095040 ≤ p0N m (sgn p) (sg p).toNat (xp p)) = true := decide_eq_true (by rw [bs]; exact hb)
          by_cases h2 : m = 2
          · skip
            rw [← val_o c2 hz hs hM hb (q := 2139095039) (by unfold beyN upR; simp [h2])]
            exact fits_calls T0 (dt3tttto p m V F g) (okCons (beq_t h2) (ok_lO (M := m) hz (vO_aP (h := J3 p V F) (b := 1) (V := V) rfl) (ln_d (h := J3 p V F) (b := 1) (V := V) rfl (by omega)) hV kb (ok_lSn (k := J3 p V F) (b := 2) hz rfl rfl hF hg hc (ok_lTt hp hV he hr lm)))) (by rfl) (by rfl) w
          by_cases h3 : m = 3
          · skip
            rw [← val_o c2 hz hs hM hb (q := 2139095039) (by unfold beyN upR; simp [h3])]
            exact fits_calls T0 (dt3tttfto p m V F g) (okCons (beq_t h3) (okCons (beq_f h2) (ok_lO (M := m) hz (vO_aP (h := J3 p V F) (b := 1) (V := V) rfl) (ln_d (h := J3 p V F) (b := 1) (V := V) rfl (by omega)) hV kb (ok_lSn (k := J3 p V F) (b := 2) hz rfl rfl hF hg hc (ok_lTt hp hV he hr lm))))) (by rfl) (by rfl) w
          by_cases h4 : m = 4
          · skip
            rw [← val_o c2 hz hs hM hb (q := 2139095040) (by unfold beyN upR; simp [h4])]
            exact fits_calls T0 (dt3tttffto p m V F g) (okCons (beq_t h4) (okCons (beq_f h3) (okCons (beq_f h2) (ok_lO (M := m) hz (vO_aP (h := J3 p V F) (b := 1) (V := V) rfl) (ln_d (h := J3 p V F) (b := 1) (V := V) rfl (by omega)) hV kb (ok_lSn (k := J3 p V F) (b := 2) hz rfl rfl hF hg hc (ok_lTt hp hV he hr lm)))))) (by rfl) (by rfl) w
          rw [← val_o c2 hz hs hM hb (q := 2139095040) (by unfold beyN upR; simp [h2, h3, h4])]
          exact fits_calls T0 (dt3tttfffo p m V F g) (okCons (beq_f h4) (okCons (beq_f h3) (okCons (beq_f h2) (ok_lO (M := m) hz (vO_aP (h := J3 p V F) (b := 1) (V := V) rfl) (ln_d (h := J3 p V F) (b := 1) (V := V) rfl (by omega)) hV kb (ok_lSn (k := J3 p V F) (b := 2) hz rfl rfl hF hg hc (ok_lTt hp hV he hr lm)))))) (by rfl) (by rfl) w
        have kb : decide (2139095040 ≤ p0N m (sgn p) (sg p).toNat (xp p)) = false := decide_eq_false (by rw [bs]; exact hb)
        obtain ⟨q1, q2, q3, q4⟩ := low_parts hz hVs hb
        by_cases v1 : V = 16777216
        · skip
          rw [← val_n c2 hz hs hM hVs he (ts.trans hc) hb (q := jn (IntKind.i64.wrap (nD p + 1)) 8388608) (x := 24) (by rw [(doc_nums p).2.2.2.1, wrapI' ⟨by omega, by omega⟩, jn_eq (by omega) (by omega) (by omega) (by omega)]; omega) rfl]
          exact fits_calls T0 (dt3ttttt p m V F g) (okCons (by decide) (ok_lE (vO_aP (h := J3 p V F) (b := 1) (V := V) rfl) hV1 (rowS_dN (h := J3 p V F) (b := 1) (V := V) rfl (by omega)) (beq_t (by omega)) (ok_lO (M := m) hz (vO_aP (h := J3 p V F) (b := 1) (V := V) rfl) (ln_d (h := J3 p V F) (b := 1) (V := V) rfl (by omega)) hV kb (ok_lSn (k := J3 p V F) (b := 2) hz rfl rfl hF hg hc (ok_lTt hp hV he hr lm))))) (by rfl) (by rfl) w
        by_cases v2 : 8388608 ≤ V
        · skip
          rw [← val_n c2 hz hs hM hVs he (ts.trans hc) hb (q := jn (nD p) (sLow (J3 p V F) (aP16 1) (d16 V).length)) (x := 24) (by rw [(doc_nums p).2.2.2.1, sLow_eq (vO_aP (h := J3 p V F) (b := 1) (V := V) rfl) hV1, jn_eq (by omega) (by omega) (by omega) (by omega)]) rfl]
          exact fits_calls T0 (dt3tttft p m V F g) (okCons (decide_eq_true (by rw [sLow_eq (vO_aP (h := J3 p V F) (b := 1) (V := V) rfl) hV1]; omega)) (ok_lE (vO_aP (h := J3 p V F) (b := 1) (V := V) rfl) hV1 (rowS_dN (h := J3 p V F) (b := 1) (V := V) rfl (by omega)) (beq_f (by omega)) (ok_lO (M := m) hz (vO_aP (h := J3 p V F) (b := 1) (V := V) rfl) (ln_d (h := J3 p V F) (b := 1) (V := V) rfl (by omega)) hV kb (ok_lSn (k := J3 p V F) (b := 2) hz rfl rfl hF hg hc (ok_lTt hp hV he hr lm))))) (by rfl) (by rfl) w
        rw [← val_n c2 hz hs hM hVs he (ts.trans hc) hb (q := sLow (J3 p V F) (aP16 1) (d16 V).length) (x := 24) (by rw [sLow_eq (vO_aP (h := J3 p V F) (b := 1) (V := V) rfl) hV1, q4 (by omega)]; omega) rfl]
        exact fits_calls T0 (dt3tttff p m V F g) (okCons (decide_eq_false (by rw [sLow_eq (vO_aP (h := J3 p V F) (b := 1) (V := V) rfl) hV1]; omega)) (ok_lE (vO_aP (h := J3 p V F) (b := 1) (V := V) rfl) hV1 (rowS_dN (h := J3 p V F) (b := 1) (V := V) rfl (by omega)) (beq_f (by omega)) (ok_lO (M := m) hz (vO_aP (h := J3 p V F) (b := 1) (V := V) rfl) (ln_d (h := J3 p V F) (b := 1) (V := V) rfl (by omega)) hV kb (ok_lSn (k := J3 p V F) (b := 2) hz rfl rfl hF hg hc (ok_lTt hp hV he hr lm))))) (by rfl) (by rfl) w
      | false =>
        by_cases hb : 2139095040 ≤ p0N m true (sg p).toNat (xp p)
        · have kb : decide (2139095040 ≤ p0N m (sgn p) (sg p).toNat (xp p)) = true := decide_eq_true (by rw [bs]; exact hb)
          by_cases h2 : m = 2
          · skip
            rw [← val_o c2 hz hs hM hb (q := 2139095039) (by unfold beyN upR; simp [h2])]
            exact fits_calls T0 (dt3ttfto p m V F g) (okCons (beq_t h2) (ok_lO (M := m) hz (vO_aP (h := J3 p V F) (b := 1) (V := V) rfl) (ln_d (h := J3 p V F) (b := 1) (V := V) rfl (by omega)) hV kb (ok_lSn (k := J3 p V F) (b := 2) hz rfl rfl hF hg hc (ok_lTt hp hV he hr lm)))) (by rfl) (by rfl) w
          by_cases h3 : m = 3
          · skip
            rw [← val_o c2 hz hs hM hb (q := 2139095039) (by unfold beyN upR; simp [h3])]
            exact fits_calls T0 (dt3ttffto p m V F g) (okCons (beq_t h3) (okCons (beq_f h2) (ok_lO (M := m) hz (vO_aP (h := J3 p V F) (b := 1) (V := V) rfl) (ln_d (h := J3 p V F) (b := 1) (V := V) rfl (by omega)) hV kb (ok_lSn (k := J3 p V F) (b := 2) hz rfl rfl hF hg hc (ok_lTt hp hV he hr lm))))) (by rfl) (by rfl) w
          by_cases h4 : m = 4
          · skip
            rw [← val_o c2 hz hs hM hb (q := 2139095040) (by unfold beyN upR; simp [h4])]
            exact fits_calls T0 (dt3ttfffto p m V F g) (okCons (beq_t h4) (okCons (beq_f h3) (okCons (beq_f h2) (ok_lO (M := m) hz (vO_aP (h := J3 p V F) (b := 1) (V := V) rfl) (ln_d (h := J3 p V F) (b := 1) (V := V) rfl (by omega)) hV kb (ok_lSn (k := J3 p V F) (b := 2) hz rfl rfl hF hg hc (ok_lTt hp hV he hr lm)))))) (by rfl) (by rfl) w
          rw [← val_o c2 hz hs hM hb (q := 2139095040) (by unfold beyN upR; simp [h2, h3, h4])]
          exact fits_calls T0 (dt3ttffffo p m V F g) (okCons (beq_f h4) (okCons (beq_f h3) (okCons (beq_f h2) (ok_lO (M := m) hz (vO_aP (h := J3 p V F) (b := 1) (V := V) rfl) (ln_d (h := J3 p V F) (b := 1) (V := V) rfl (by omega)) hV kb (ok_lSn (k := J3 p V F) (b := 2) hz rfl rfl hF hg hc (ok_lTt hp hV he hr lm)))))) (by rfl) (by rfl) w
        have kb : decide (2139095040 ≤ p0N m (sgn p) (sg p).toNat (xp p)) = false := decide_eq_false (by rw [bs]; exact hb)
        obtain ⟨q1, q2, q3, q4⟩ := low_parts hz hVs hb
        by_cases v1 : V = 16777216
        · skip
          rw [← val_n c2 hz hs hM hVs he (ts.trans hc) hb (q := jn (IntKind.i64.wrap (nD p + 1)) 8388608) (x := 16) (by rw [(doc_nums p).2.2.2.1, wrapI' ⟨by omega, by omega⟩, jn_eq (by omega) (by omega) (by omega) (by omega)]; omega) rfl]
          exact fits_calls T0 (dt3ttftt p m V F g) (okCons (by decide) (ok_lE (vO_aP (h := J3 p V F) (b := 1) (V := V) rfl) hV1 (rowS_dN (h := J3 p V F) (b := 1) (V := V) rfl (by omega)) (beq_t (by omega)) (ok_lO (M := m) hz (vO_aP (h := J3 p V F) (b := 1) (V := V) rfl) (ln_d (h := J3 p V F) (b := 1) (V := V) rfl (by omega)) hV kb (ok_lSn (k := J3 p V F) (b := 2) hz rfl rfl hF hg hc (ok_lTt hp hV he hr lm))))) (by rfl) (by rfl) w
        by_cases v2 : 8388608 ≤ V
        · skip
          rw [← val_n c2 hz hs hM hVs he (ts.trans hc) hb (q := jn (nD p) (sLow (J3 p V F) (aP16 1) (d16 V).length)) (x := 16) (by rw [(doc_nums p).2.2.2.1, sLow_eq (vO_aP (h := J3 p V F) (b := 1) (V := V) rfl) hV1, jn_eq (by omega) (by omega) (by omega) (by omega)]) rfl]
          exact fits_calls T0 (dt3ttfft p m V F g) (okCons (decide_eq_true (by rw [sLow_eq (vO_aP (h := J3 p V F) (b := 1) (V := V) rfl) hV1]; omega)) (ok_lE (vO_aP (h := J3 p V F) (b := 1) (V := V) rfl) hV1 (rowS_dN (h := J3 p V F) (b := 1) (V := V) rfl (by omega)) (beq_f (by omega)) (ok_lO (M := m) hz (vO_aP (h := J3 p V F) (b := 1) (V := V) rfl) (ln_d (h := J3 p V F) (b := 1) (V := V) rfl (by omega)) hV kb (ok_lSn (k := J3 p V F) (b := 2) hz rfl rfl hF hg hc (ok_lTt hp hV he hr lm))))) (by rfl) (by rfl) w
        rw [← val_n c2 hz hs hM hVs he (ts.trans hc) hb (q := sLow (J3 p V F) (aP16 1) (d16 V).length) (x := 16) (by rw [sLow_eq (vO_aP (h := J3 p V F) (b := 1) (V := V) rfl) hV1, q4 (by omega)]; omega) rfl]
        exact fits_calls T0 (dt3ttfff p m V F g) (okCons (decide_eq_false (by rw [sLow_eq (vO_aP (h := J3 p V F) (b := 1) (V := V) rfl) hV1]; omega)) (ok_lE (vO_aP (h := J3 p V F) (b := 1) (V := V) rfl) hV1 (rowS_dN (h := J3 p V F) (b := 1) (V := V) rfl (by omega)) (beq_f (by omega)) (ok_lO (M := m) hz (vO_aP (h := J3 p V F) (b := 1) (V := V) rfl) (ln_d (h := J3 p V F) (b := 1) (V := V) rfl (by omega)) hV kb (ok_lSn (k := J3 p V F) (b := 2) hz rfl rfl hF hg hc (ok_lTt hp hV he hr lm))))) (by rfl) (by rfl) w
    | false =>
      by_cases hb : 2139095040 ≤ p0N m true (sg p).toNat (xp p)
      · have kb : decide (2139095040 ≤ p0N m (sgn p) (sg p).toNat (xp p)) = true := decide_eq_true (by rw [bs]; exact hb)
        by_cases h2 : m = 2
        · skip
          rw [← val_o c2 hz hs hM hb (q := 2139095039) (by unfold beyN upR; simp [h2])]
          exact fits_calls T0 (dt3tfxto p m V) (okCons (beq_t h2) (ok_lO (M := m) hz (vO_aP (h := J2 p V) (b := 1) (V := V) rfl) (ln_d (h := J2 p V) (b := 1) (V := V) rfl (by omega)) hV kb (ok_lTt hp hV he hr lm))) (by rfl) (by rfl) w
        by_cases h3 : m = 3
        · skip
          rw [← val_o c2 hz hs hM hb (q := 2139095039) (by unfold beyN upR; simp [h3])]
          exact fits_calls T0 (dt3tfxfto p m V) (okCons (beq_t h3) (okCons (beq_f h2) (ok_lO (M := m) hz (vO_aP (h := J2 p V) (b := 1) (V := V) rfl) (ln_d (h := J2 p V) (b := 1) (V := V) rfl (by omega)) hV kb (ok_lTt hp hV he hr lm)))) (by rfl) (by rfl) w
        by_cases h4 : m = 4
        · skip
          rw [← val_o c2 hz hs hM hb (q := 2139095040) (by unfold beyN upR; simp [h4])]
          exact fits_calls T0 (dt3tfxffto p m V) (okCons (beq_t h4) (okCons (beq_f h3) (okCons (beq_f h2) (ok_lO (M := m) hz (vO_aP (h := J2 p V) (b := 1) (V := V) rfl) (ln_d (h := J2 p V) (b := 1) (V := V) rfl (by omega)) hV kb (ok_lTt hp hV he hr lm))))) (by rfl) (by rfl) w
        rw [← val_o c2 hz hs hM hb (q := 2139095040) (by unfold beyN upR; simp [h2, h3, h4])]
        exact fits_calls T0 (dt3tfxfffo p m V) (okCons (beq_f h4) (okCons (beq_f h3) (okCons (beq_f h2) (ok_lO (M := m) hz (vO_aP (h := J2 p V) (b := 1) (V := V) rfl) (ln_d (h := J2 p V) (b := 1) (V := V) rfl (by omega)) hV kb (ok_lTt hp hV he hr lm))))) (by rfl) (by rfl) w
      have kb : decide (2139095040 ≤ p0N m (sgn p) (sg p).toNat (xp p)) = false := decide_eq_false (by rw [bs]; exact hb)
      obtain ⟨q1, q2, q3, q4⟩ := low_parts hz hVs hb
      by_cases v1 : V = 16777216
      · skip
        rw [← val_n c2 hz hs hM hVs he (ts.trans rfl) hb (q := jn (IntKind.i64.wrap (nD p + 1)) 8388608) (x := 0) (by rw [(doc_nums p).2.2.2.1, wrapI' ⟨by omega, by omega⟩, jn_eq (by omega) (by omega) (by omega) (by omega)]; omega) rfl]
        exact fits_calls T0 (dt3tfxtt p m V) (okCons (by decide) (ok_lE (vO_aP (h := J2 p V) (b := 1) (V := V) rfl) hV1 (rowS_dN (h := J2 p V) (b := 1) (V := V) rfl (by omega)) (beq_t (by omega)) (ok_lO (M := m) hz (vO_aP (h := J2 p V) (b := 1) (V := V) rfl) (ln_d (h := J2 p V) (b := 1) (V := V) rfl (by omega)) hV kb (ok_lTt hp hV he hr lm)))) (by rfl) (by rfl) w
      by_cases v2 : 8388608 ≤ V
      · skip
        rw [← val_n c2 hz hs hM hVs he (ts.trans rfl) hb (q := jn (nD p) (sLow (J2 p V) (aP16 1) (d16 V).length)) (x := 0) (by rw [(doc_nums p).2.2.2.1, sLow_eq (vO_aP (h := J2 p V) (b := 1) (V := V) rfl) hV1, jn_eq (by omega) (by omega) (by omega) (by omega)]) rfl]
        exact fits_calls T0 (dt3tfxft p m V) (okCons (decide_eq_true (by rw [sLow_eq (vO_aP (h := J2 p V) (b := 1) (V := V) rfl) hV1]; omega)) (ok_lE (vO_aP (h := J2 p V) (b := 1) (V := V) rfl) hV1 (rowS_dN (h := J2 p V) (b := 1) (V := V) rfl (by omega)) (beq_f (by omega)) (ok_lO (M := m) hz (vO_aP (h := J2 p V) (b := 1) (V := V) rfl) (ln_d (h := J2 p V) (b := 1) (V := V) rfl (by omega)) hV kb (ok_lTt hp hV he hr lm)))) (by rfl) (by rfl) w
      rw [← val_n c2 hz hs hM hVs he (ts.trans rfl) hb (q := sLow (J2 p V) (aP16 1) (d16 V).length) (x := 0) (by rw [sLow_eq (vO_aP (h := J2 p V) (b := 1) (V := V) rfl) hV1, q4 (by omega)]; omega) rfl]
      exact fits_calls T0 (dt3tfxff p m V) (okCons (decide_eq_false (by rw [sLow_eq (vO_aP (h := J2 p V) (b := 1) (V := V) rfl) hV1]; omega)) (ok_lE (vO_aP (h := J2 p V) (b := 1) (V := V) rfl) hV1 (rowS_dN (h := J2 p V) (b := 1) (V := V) rfl (by omega)) (beq_f (by omega)) (ok_lO (M := m) hz (vO_aP (h := J2 p V) (b := 1) (V := V) rfl) (ln_d (h := J2 p V) (b := 1) (V := V) rfl (by omega)) hV kb (ok_lTt hp hV he hr lm)))) (by rfl) (by rfl) w
  | false =>
    have V0 : V = 0 := hV.symm.trans (nil_zeroN hr)
    have hvn : ∀ h : Hp, vO h none 0 = V := fun h => by rw [V0]; rfl
    have hb : ¬ 2139095040 ≤ p0N m true (sg p).toNat (xp p) := nil_smallN hz (hVs.trans V0)
    cases he : toL (sg p).toNat (xp p) (lowEN (sg p).toNat (xp p)) with
    | true =>
      cases hc : tinyN m (sgn p) (sg p).toNat (xp p) with
      | true =>
        have kb : decide (2139095040 ≤ p0N m (sgn p) (sg p).toNat (xp p)) = false := decide_eq_false (by rw [bs]; exact hb)
        obtain ⟨q1, q2, q3, q4⟩ := low_parts hz hVs hb
        rw [← val_n c2 hz hs hM hVs he (ts.trans hc) hb (q := sLow (J2 p F) none 0) (x := 24) (by rw [sLow_eq (hvn (J2 p F)) hV1, q4 (by omega)]; omega) rfl]
        exact fits_calls T0 (dt3fttff p m V F g) (okCons (decide_eq_false (by rw [sLow_eq (hvn (J2 p F)) hV1]; omega)) (ok_lE (hvn (J2 p F)) hV1 rfl (beq_f (by omega)) (ok_lO (M := m) hz (hvn (J2 p F)) rfl hV kb (ok_lSn (k := J2 p F) (b := 1) hz rfl rfl hF hg hc (ok_lTf hp he hr lm))))) (by rfl) (by rfl) w
      | false =>
        have kb : decide (2139095040 ≤ p0N m (sgn p) (sg p).toNat (xp p)) = false := decide_eq_false (by rw [bs]; exact hb)
        obtain ⟨q1, q2, q3, q4⟩ := low_parts hz hVs hb
        rw [← val_n c2 hz hs hM hVs he (ts.trans hc) hb (q := sLow (J2 p F) none 0) (x := 16) (by rw [sLow_eq (hvn (J2 p F)) hV1, q4 (by omega)]; omega) rfl]
        exact fits_calls T0 (dt3ftfff p m V F g) (okCons (decide_eq_false (by rw [sLow_eq (hvn (J2 p F)) hV1]; omega)) (ok_lE (hvn (J2 p F)) hV1 rfl (beq_f (by omega)) (ok_lO (M := m) hz (hvn (J2 p F)) rfl hV kb (ok_lSn (k := J2 p F) (b := 1) hz rfl rfl hF hg hc (ok_lTf hp he hr lm))))) (by rfl) (by rfl) w
    | false =>
      have kb : decide (2139095040 ≤ p0N m (sgn p) (sg p).toNat (xp p)) = false := decide_eq_false (by rw [bs]; exact hb)
      obtain ⟨q1, q2, q3, q4⟩ := low_parts hz hVs hb
      rw [← val_n c2 hz hs hM hVs he (ts.trans rfl) hb (q := sLow (J1 p) none 0) (x := 0) (by rw [sLow_eq (hvn (J1 p)) hV1, q4 (by omega)]; omega) rfl]
      exact fits_calls T0 (dt3ffxff p m V) (okCons (decide_eq_false (by rw [sLow_eq (hvn (J1 p)) hV1]; omega)) (ok_lE (hvn (J1 p)) hV1 rfl (beq_f (by omega)) (ok_lO (M := m) hz (hvn (J1 p)) rfl hV kb (ok_lTf hp he hr lm)))) (by rfl) (by rfl) w
theorem dto_f1 (p m : Int) (hp : U p) (c2 : cl p ≤ 2) (hm : mag p ≠ 0) (hs : sgn p = false) (hm1 : m < 0) (w : World) : Calls Try.prog 8 #[.int .u64 p, .int .i64 m] w fun r w' => r = .returned (T2 (naP m p) (naF m p)) ∧ Tidy w w' := by
  have T0 := tabH_ok conNG_ok hcNG_ok
  have lz := ok_lZ hp c2 hm hs
  have lm : okLog (lM1 p m false) := okCons (decide_eq_true hm1) lz
  have hM : mN 0 = mN m := by unfold mN; rw [if_pos hm1]; rfl
  have hz : (sg p).toNat ≠ 0 := sg_pos c2 hm
  obtain ⟨V, hV⟩ : ∃ V, toQ 0 (sgn p) (sg p).toNat (xp p) (lowEN (sg p).toNat (xp p)) = V := ⟨_, rfl⟩
  obtain ⟨F, hF⟩ : ∃ F, toQ 0 (sgn p) (sg p).toNat (xp p) (lgN (sg p).toNat (xp p) - 23) = F := ⟨_, rfl⟩
  obtain ⟨g, hg⟩ : ∃ g, toL (sg p).toNat (xp p) (lgN (sg p).toNat (xp p) - 23) = g := ⟨_, rfl⟩
  have hV1 : V ≤ 16777216 := by rw [← hV]; exact low_hiN 0 (sgn p) (sg p).toNat (xp p)
  have hVs : toQ 0 false (sg p).toNat (xp p) (lowEN (sg p).toNat (xp p)) = V := by rw [← hs]; exact hV
  have lV := d16_len (A := V) (k := 2) (Nat.lt_of_le_of_lt hV1 (by decide))
  have bs : p0N 0 (sgn p) (sg p).toNat (xp p) = p0N 0 false (sg p).toNat (xp p) := by rw [hs]
  have ts : tinyN 0 false (sg p).toNat (xp p) = tinyN 0 (sgn p) (sg p).toNat (xp p) := by rw [hs]
  cases hr : rowTo 0 (sgn p) (sg p).toNat (LA p) (xp p) (lowEN (sg p).toNat (xp p)) with
  | true =>
    cases he : toL (sg p).toNat (xp p) (lowEN (sg p).toNat (xp p)) with
    | true =>
      cases hc : tinyN 0 (sgn p) (sg p).toNat (xp p) with
      | true =>
        by_cases hb : 2139095040 ≤ p0N 0 false (sg p).toNat (xp p)
        · have kb : decide (2139095040 ≤ p0N 0 (sgn p) (sg p).toNat (xp p)) = true := decide_eq_true (by rw [bs]; exact hb)
          rw [← val_o c2 hz hs hM hb (q := 2139095040) (by unfold beyN upR; decide)]
          exact fits_calls T0 (df1tttfffo p m V F g) (okCons (by decide) (okCons (by decide) (okCons (by decide) (ok_lO (M := 0) hz (vO_aP (h := J3 p V F) (b := 1) (V := V) rfl) (ln_d (h := J3 p V F) (b := 1) (V := V) rfl (by omega)) hV kb (ok_lSn (k := J3 p V F) (b := 2) hz rfl rfl hF hg hc (ok_lTt hp hV he hr lm)))))) (by rfl) (by rfl) w
        have kb : decide (2139095040 ≤ p0N 0 (sgn p) (sg p).toNat (xp p)) = false := decide_eq_false (by rw [bs]; exact hb)
        obtain ⟨q1, q2, q3, q4⟩ := low_parts hz hVs hb
        by_cases v1 : V = 16777216
        · skip
          rw [← val_n c2 hz hs hM hVs he (ts.trans hc) hb (q := jn (IntKind.i64.wrap (nD p + 1)) 8388608) (x := 24) (by rw [(doc_nums p).2.2.2.1, wrapI' ⟨by omega, by omega⟩, jn_eq (by omega) (by omega) (by omega) (by omega)]; omega) rfl]
          exact fits_calls T0 (df1ttttt p m V F g) (okCons (by decide) (ok_lE (vO_aP (h := J3 p V F) (b := 1) (V := V) rfl) hV1 (rowS_dN (h := J3 p V F) (b := 1) (V := V) rfl (by omega)) (beq_t (by omega)) (ok_lO (M := 0) hz (vO_aP (h := J3 p V F) (b := 1) (V := V) rfl) (ln_d (h := J3 p V F) (b := 1) (V := V) rfl (by omega)) hV kb (ok_lSn (k := J3 p V F) (b := 2) hz rfl rfl hF hg hc (ok_lTt hp hV he hr lm))))) (by rfl) (by rfl) w
        by_cases v2 : 8388608 ≤ V
        · skip
          rw [← val_n c2 hz hs hM hVs he (ts.trans hc) hb (q := jn (nD p) (sLow (J3 p V F) (aP16 1) (d16 V).length)) (x := 24) (by rw [(doc_nums p).2.2.2.1, sLow_eq (vO_aP (h := J3 p V F) (b := 1) (V := V) rfl) hV1, jn_eq (by omega) (by omega) (by omega) (by omega)]) rfl]
          exact fits_calls T0 (df1tttft p m V F g) (okCons (decide_eq_true (by rw [sLow_eq (vO_aP (h := J3 p V F) (b := 1) (V := V) rfl) hV1]; omega)) (ok_lE (vO_aP (h := J3 p V F) (b := 1) (V := V) rfl) hV1 (rowS_dN (h := J3 p V F) (b := 1) (V := V) rfl (by omega)) (beq_f (by omega)) (ok_lO (M := 0) hz (vO_aP (h := J3 p V F) (b := 1) (V := V) rfl) (ln_d (h := J3 p V F) (b := 1) (V := V) rfl (by omega)) hV kb (ok_lSn (k := J3 p V F) (b := 2) hz rfl rfl hF hg hc (ok_lTt hp hV he hr lm))))) (by rfl) (by rfl) w
        rw [← val_n c2 hz hs hM hVs he (ts.trans hc) hb (q := sLow (J3 p V F) (aP16 1) (d16 V).length) (x := 24) (by rw [sLow_eq (vO_aP (h := J3 p V F) (b := 1) (V := V) rfl) hV1, q4 (by omega)]; omega) rfl]
        exact fits_calls T0 (df1tttff p m V F g) (okCons (decide_eq_false (by rw [sLow_eq (vO_aP (h := J3 p V F) (b := 1) (V := V) rfl) hV1]; omega)) (ok_lE (vO_aP (h := J3 p V F) (b := 1) (V := V) rfl) hV1 (rowS_dN (h := J3 p V F) (b := 1) (V := V) rfl (by omega)) (beq_f (by omega)) (ok_lO (M := 0) hz (vO_aP (h := J3 p V F) (b := 1) (V := V) rfl) (ln_d (h := J3 p V F) (b := 1) (V := V) rfl (by omega)) hV kb (ok_lSn (k := J3 p V F) (b := 2) hz rfl rfl hF hg hc (ok_lTt hp hV he hr lm))))) (by rfl) (by rfl) w
      | false =>
        by_cases hb : 2139095040 ≤ p0N 0 false (sg p).toNat (xp p)
        · have kb : decide (2139095040 ≤ p0N 0 (sgn p) (sg p).toNat (xp p)) = true := decide_eq_true (by rw [bs]; exact hb)
          rw [← val_o c2 hz hs hM hb (q := 2139095040) (by unfold beyN upR; decide)]
          exact fits_calls T0 (df1ttffffo p m V F g) (okCons (by decide) (okCons (by decide) (okCons (by decide) (ok_lO (M := 0) hz (vO_aP (h := J3 p V F) (b := 1) (V := V) rfl) (ln_d (h := J3 p V F) (b := 1) (V := V) rfl (by omega)) hV kb (ok_lSn (k := J3 p V F) (b := 2) hz rfl rfl hF hg hc (ok_lTt hp hV he hr lm)))))) (by rfl) (by rfl) w
        have kb : decide (2139095040 ≤ p0N 0 (sgn p) (sg p).toNat (xp p)) = false := decide_eq_false (by rw [bs]; exact hb)
        obtain ⟨q1, q2, q3, q4⟩ := low_parts hz hVs hb
        by_cases v1 : V = 16777216
        · skip
          rw [← val_n c2 hz hs hM hVs he (ts.trans hc) hb (q := jn (IntKind.i64.wrap (nD p + 1)) 8388608) (x := 16) (by rw [(doc_nums p).2.2.2.1, wrapI' ⟨by omega, by omega⟩, jn_eq (by omega) (by omega) (by omega) (by omega)]; omega) rfl]
          exact fits_calls T0 (df1ttftt p m V F g) (okCons (by decide) (ok_lE (vO_aP (h := J3 p V F) (b := 1) (V := V) rfl) hV1 (rowS_dN (h := J3 p V F) (b := 1) (V := V) rfl (by omega)) (beq_t (by omega)) (ok_lO (M := 0) hz (vO_aP (h := J3 p V F) (b := 1) (V := V) rfl) (ln_d (h := J3 p V F) (b := 1) (V := V) rfl (by omega)) hV kb (ok_lSn (k := J3 p V F) (b := 2) hz rfl rfl hF hg hc (ok_lTt hp hV he hr lm))))) (by rfl) (by rfl) w
        by_cases v2 : 8388608 ≤ V
        · skip
          rw [← val_n c2 hz hs hM hVs he (ts.trans hc) hb (q := jn (nD p) (sLow (J3 p V F) (aP16 1) (d16 V).length)) (x := 16) (by rw [(doc_nums p).2.2.2.1, sLow_eq (vO_aP (h := J3 p V F) (b := 1) (V := V) rfl) hV1, jn_eq (by omega) (by omega) (by omega) (by omega)]) rfl]
          exact fits_calls T0 (df1ttfft p m V F g) (okCons (decide_eq_true (by rw [sLow_eq (vO_aP (h := J3 p V F) (b := 1) (V := V) rfl) hV1]; omega)) (ok_lE (vO_aP (h := J3 p V F) (b := 1) (V := V) rfl) hV1 (rowS_dN (h := J3 p V F) (b := 1) (V := V) rfl (by omega)) (beq_f (by omega)) (ok_lO (M := 0) hz (vO_aP (h := J3 p V F) (b := 1) (V := V) rfl) (ln_d (h := J3 p V F) (b := 1) (V := V) rfl (by omega)) hV kb (ok_lSn (k := J3 p V F) (b := 2) hz rfl rfl hF hg hc (ok_lTt hp hV he hr lm))))) (by rfl) (by rfl) w
        rw [← val_n c2 hz hs hM hVs he (ts.trans hc) hb (q := sLow (J3 p V F) (aP16 1) (d16 V).length) (x := 16) (by rw [sLow_eq (vO_aP (h := J3 p V F) (b := 1) (V := V) rfl) hV1, q4 (by omega)]; omega) rfl]
        exact fits_calls T0 (df1ttfff p m V F g) (okCons (decide_eq_false (by rw [sLow_eq (vO_aP (h := J3 p V F) (b := 1) (V := V) rfl) hV1]; omega)) (ok_lE (vO_aP (h := J3 p V F) (b := 1) (V := V) rfl) hV1 (rowS_dN (h := J3 p V F) (b := 1) (V := V) rfl (by omega)) (beq_f (by omega)) (ok_lO (M := 0) hz (vO_aP (h := J3 p V F) (b := 1) (V := V) rfl) (ln_d (h := J3 p V F) (b := 1) (V := V) rfl (by omega)) hV kb (ok_lSn (k := J3 p V F) (b := 2) hz rfl rfl hF hg hc (ok_lTt hp hV he hr lm))))) (by rfl) (by rfl) w
    | false =>
      by_cases hb : 2139095040 ≤ p0N 0 false (sg p).toNat (xp p)
      · have kb : decide (2139095040 ≤ p0N 0 (sgn p) (sg p).toNat (xp p)) = true := decide_eq_true (by rw [bs]; exact hb)
        rw [← val_o c2 hz hs hM hb (q := 2139095040) (by unfold beyN upR; decide)]
        exact fits_calls T0 (df1tfxfffo p m V) (okCons (by decide) (okCons (by decide) (okCons (by decide) (ok_lO (M := 0) hz (vO_aP (h := J2 p V) (b := 1) (V := V) rfl) (ln_d (h := J2 p V) (b := 1) (V := V) rfl (by omega)) hV kb (ok_lTt hp hV he hr lm))))) (by rfl) (by rfl) w
      have kb : decide (2139095040 ≤ p0N 0 (sgn p) (sg p).toNat (xp p)) = false := decide_eq_false (by rw [bs]; exact hb)
      obtain ⟨q1, q2, q3, q4⟩ := low_parts hz hVs hb
      by_cases v1 : V = 16777216
      · skip
        rw [← val_n c2 hz hs hM hVs he (ts.trans rfl) hb (q := jn (IntKind.i64.wrap (nD p + 1)) 8388608) (x := 0) (by rw [(doc_nums p).2.2.2.1, wrapI' ⟨by omega, by omega⟩, jn_eq (by omega) (by omega) (by omega) (by omega)]; omega) rfl]
        exact fits_calls T0 (df1tfxtt p m V) (okCons (by decide) (ok_lE (vO_aP (h := J2 p V) (b := 1) (V := V) rfl) hV1 (rowS_dN (h := J2 p V) (b := 1) (V := V) rfl (by omega)) (beq_t (by omega)) (ok_lO (M := 0) hz (vO_aP (h := J2 p V) (b := 1) (V := V) rfl) (ln_d (h := J2 p V) (b := 1) (V := V) rfl (by omega)) hV kb (ok_lTt hp hV he hr lm)))) (by rfl) (by rfl) w
      by_cases v2 : 8388608 ≤ V
      · skip
        rw [← val_n c2 hz hs hM hVs he (ts.trans rfl) hb (q := jn (nD p) (sLow (J2 p V) (aP16 1) (d16 V).length)) (x := 0) (by rw [(doc_nums p).2.2.2.1, sLow_eq (vO_aP (h := J2 p V) (b := 1) (V := V) rfl) hV1, jn_eq (by omega) (by omega) (by omega) (by omega)]) rfl]
        exact fits_calls T0 (df1tfxft p m V) (okCons (decide_eq_true (by rw [sLow_eq (vO_aP (h := J2 p V) (b := 1) (V := V) rfl) hV1]; omega)) (ok_lE (vO_aP (h := J2 p V) (b := 1) (V := V) rfl) hV1 (rowS_dN (h := J2 p V) (b := 1) (V := V) rfl (by omega)) (beq_f (by omega)) (ok_lO (M := 0) hz (vO_aP (h := J2 p V) (b := 1) (V := V) rfl) (ln_d (h := J2 p V) (b := 1) (V := V) rfl (by omega)) hV kb (ok_lTt hp hV he hr lm)))) (by rfl) (by rfl) w
      rw [← val_n c2 hz hs hM hVs he (ts.trans rfl) hb (q := sLow (J2 p V) (aP16 1) (d16 V).length) (x := 0) (by rw [sLow_eq (vO_aP (h := J2 p V) (b := 1) (V := V) rfl) hV1, q4 (by omega)]; omega) rfl]
      exact fits_calls T0 (df1tfxff p m V) (okCons (decide_eq_false (by rw [sLow_eq (vO_aP (h := J2 p V) (b := 1) (V := V) rfl) hV1]; omega)) (ok_lE (vO_aP (h := J2 p V) (b := 1) (V := V) rfl) hV1 (rowS_dN (h := J2 p V) (b := 1) (V := V) rfl (by omega)) (beq_f (by omega)) (ok_lO (M := 0) hz (vO_aP (h := J2 p V) (b := 1) (V := V) rfl) (ln_d (h := J2 p V) (b := 1) (V := V) rfl (by omega)) hV kb (ok_lTt hp hV he hr lm)))) (by rfl) (by rfl) w
  | false =>
    have V0 : V = 0 := hV.symm.trans (nil_zeroN hr)
    have hvn : ∀ h : Hp, vO h none 0 = V := fun h => by rw [V0]; rfl
    have hb : ¬ 2139095040 ≤ p0N 0 false (sg p).toNat (xp p) := nil_smallN hz (hVs.trans V0)
    cases he : toL (sg p).toNat (xp p) (lowEN (sg p).toNat (xp p)) with
    | true =>
      cases hc : tinyN 0 (sgn p) (sg p).toNat (xp p) with
      | true =>
        have kb : decide (2139095040 ≤ p0N 0 (sgn p) (sg p).toNat (xp p)) = false := decide_eq_false (by rw [bs]; exact hb)
        obtain ⟨q1, q2, q3, q4⟩ := low_parts hz hVs hb
        rw [← val_n c2 hz hs hM hVs he (ts.trans hc) hb (q := sLow (J2 p F) none 0) (x := 24) (by rw [sLow_eq (hvn (J2 p F)) hV1, q4 (by omega)]; omega) rfl]
        exact fits_calls T0 (df1fttff p m V F g) (okCons (decide_eq_false (by rw [sLow_eq (hvn (J2 p F)) hV1]; omega)) (ok_lE (hvn (J2 p F)) hV1 rfl (beq_f (by omega)) (ok_lO (M := 0) hz (hvn (J2 p F)) rfl hV kb (ok_lSn (k := J2 p F) (b := 1) hz rfl rfl hF hg hc (ok_lTf hp he hr lm))))) (by rfl) (by rfl) w
      | false =>
        have kb : decide (2139095040 ≤ p0N 0 (sgn p) (sg p).toNat (xp p)) = false := decide_eq_false (by rw [bs]; exact hb)
        obtain ⟨q1, q2, q3, q4⟩ := low_parts hz hVs hb
        rw [← val_n c2 hz hs hM hVs he (ts.trans hc) hb (q := sLow (J2 p F) none 0) (x := 16) (by rw [sLow_eq (hvn (J2 p F)) hV1, q4 (by omega)]; omega) rfl]
        exact fits_calls T0 (df1ftfff p m V F g) (okCons (decide_eq_false (by rw [sLow_eq (hvn (J2 p F)) hV1]; omega)) (ok_lE (hvn (J2 p F)) hV1 rfl (beq_f (by omega)) (ok_lO (M := 0) hz (hvn (J2 p F)) rfl hV kb (ok_lSn (k := J2 p F) (b := 1) hz rfl rfl hF hg hc (ok_lTf hp he hr lm))))) (by rfl) (by rfl) w
    | false =>
      have kb : decide (2139095040 ≤ p0N 0 (sgn p) (sg p).toNat (xp p)) = false := decide_eq_false (by rw [bs]; exact hb)
      obtain ⟨q1, q2, q3, q4⟩ := low_parts hz hVs hb
      rw [← val_n c2 hz hs hM hVs he (ts.trans rfl) hb (q := sLow (J1 p) none 0) (x := 0) (by rw [sLow_eq (hvn (J1 p)) hV1, q4 (by omega)]; omega) rfl]
      exact fits_calls T0 (df1ffxff p m V) (okCons (decide_eq_false (by rw [sLow_eq (hvn (J1 p)) hV1]; omega)) (ok_lE (hvn (J1 p)) hV1 rfl (beq_f (by omega)) (ok_lO (M := 0) hz (hvn (J1 p)) rfl hV kb (ok_lTf hp he hr lm)))) (by rfl) (by rfl) w
theorem dto_f2 (p m : Int) (hp : U p) (c2 : cl p ≤ 2) (hm : mag p ≠ 0) (hs : sgn p = false) (hm1 : ¬ m < 0) (hm2 : m > 4) (w : World) : Calls Try.prog 8 #[.int .u64 p, .int .i64 m] w fun r w' => r = .returned (T2 (naP m p) (naF m p)) ∧ Tidy w w' := by
  have T0 := tabH_ok conNG_ok hcNG_ok
  have lz := ok_lZ hp c2 hm hs
  have lm : okLog (lM2 p m false) := okCons (decide_eq_true hm2) (okCons (decide_eq_false hm1) lz)
  have hM : mN 0 = mN m := by unfold mN; rw [if_neg hm1, if_pos hm2]; rfl
  have hz : (sg p).toNat ≠ 0 := sg_pos c2 hm
  obtain ⟨V, hV⟩ : ∃ V, toQ 0 (sgn p) (sg p).toNat (xp p) (lowEN (sg p).toNat (xp p)) = V := ⟨_, rfl⟩
  obtain ⟨F, hF⟩ : ∃ F, toQ 0 (sgn p) (sg p).toNat (xp p) (lgN (sg p).toNat (xp p) - 23) = F := ⟨_, rfl⟩
  obtain ⟨g, hg⟩ : ∃ g, toL (sg p).toNat (xp p) (lgN (sg p).toNat (xp p) - 23) = g := ⟨_, rfl⟩
  have hV1 : V ≤ 16777216 := by rw [← hV]; exact low_hiN 0 (sgn p) (sg p).toNat (xp p)
  have hVs : toQ 0 false (sg p).toNat (xp p) (lowEN (sg p).toNat (xp p)) = V := by rw [← hs]; exact hV
  have lV := d16_len (A := V) (k := 2) (Nat.lt_of_le_of_lt hV1 (by decide))
  have bs : p0N 0 (sgn p) (sg p).toNat (xp p) = p0N 0 false (sg p).toNat (xp p) := by rw [hs]
  have ts : tinyN 0 false (sg p).toNat (xp p) = tinyN 0 (sgn p) (sg p).toNat (xp p) := by rw [hs]
  cases hr : rowTo 0 (sgn p) (sg p).toNat (LA p) (xp p) (lowEN (sg p).toNat (xp p)) with
  | true =>
    cases he : toL (sg p).toNat (xp p) (lowEN (sg p).toNat (xp p)) with
    | true =>
      cases hc : tinyN 0 (sgn p) (sg p).toNat (xp p) with
      | true =>
        by_cases hb : 2139095040 ≤ p0N 0 false (sg p).toNat (xp p)
        · have kb : decide (2139095040 ≤ p0N 0 (sgn p) (sg p).toNat (xp p)) = true := decide_eq_true (by rw [bs]; exact hb)
          rw [← val_o c2 hz hs hM hb (q := 2139095040) (by unfold beyN upR; decide)]
          exact fits_calls T0 (df2tttfffo p m V F g) (okCons (by decide) (okCons (by decide) (okCons (by decide) (ok_lO (M := 0) hz (vO_aP (h := J3 p V F) (b := 1) (V := V) rfl) (ln_d (h := J3 p V F) (b := 1) (V := V) rfl (by omega)) hV kb (ok_lSn (k := J3 p V F) (b := 2) hz rfl rfl hF hg hc (ok_lTt hp hV he hr lm)))))) (by rfl) (by rfl) w
        have kb : decide (2139095040 ≤ p0N 0 (sgn p) (sg p).toNat (xp p)) = false := decide_eq_false (by rw [bs]; exact hb)
        obtain ⟨q1, q2, q3, q4⟩ := low_parts hz hVs hb
        by_cases v1 : V = 16777216
        · skip
          rw [← val_n c2 hz hs hM hVs he (ts.trans hc) hb (q := jn (IntKind.i64.wrap (nD p + 1)) 8388608) (x := 24) (by rw [(doc_nums p).2.2.2.1, wrapI' ⟨by omega, by omega⟩, jn_eq (by omega) (by omega) (by omega) (by omega)]; omega) rfl]
          exact fits_calls T0 (df2ttttt p m V F g) (okCons (by decide) (ok_lE (vO_aP (h := J3 p V F) (b := 1) (V := V) rfl) hV1 (rowS_dN (h := J3 p V F) (b := 1) (V := V) rfl (by omega)) (beq_t (by omega)) (ok_lO (M := 0) hz (vO_aP (h := J3 p V F) (b := 1) (V := V) rfl) (ln_d (h := J3 p V F) (b := 1) (V := V) rfl (by omega)) hV kb (ok_lSn (k := J3 p V F) (b := 2) hz rfl rfl hF hg hc (ok_lTt hp hV he hr lm))))) (by rfl) (by rfl) w
        by_cases v2 : 8388608 ≤ V
        · skip
          rw [← val_n c2 hz hs hM hVs he (ts.trans hc) hb (q := jn (nD p) (sLow (J3 p V F) (aP16 1) (d16 V).length)) (x := 24) (by rw [(doc_nums p).2.2.2.1, sLow_eq (vO_aP (h := J3 p V F) (b := 1) (V := V) rfl) hV1, jn_eq (by omega) (by omega) (by omega) (by omega)]) rfl]
          exact fits_calls T0 (df2tttft p m V F g) (okCons (decide_eq_true (by rw [sLow_eq (vO_aP (h := J3 p V F) (b := 1) (V := V) rfl) hV1]; omega)) (ok_lE (vO_aP (h := J3 p V F) (b := 1) (V := V) rfl) hV1 (rowS_dN (h := J3 p V F) (b := 1) (V := V) rfl (by omega)) (beq_f (by omega)) (ok_lO (M := 0) hz (vO_aP (h := J3 p V F) (b := 1) (V := V) rfl) (ln_d (h := J3 p V F) (b := 1) (V := V) rfl (by omega)) hV kb (ok_lSn (k := J3 p V F) (b := 2) hz rfl rfl hF hg hc (ok_lTt hp hV he hr lm))))) (by rfl) (by rfl) w
        rw [← val_n c2 hz hs hM hVs he (ts.trans hc) hb (q := sLow (J3 p V F) (aP16 1) (d16 V).length) (x := 24) (by rw [sLow_eq (vO_aP (h := J3 p V F) (b := 1) (V := V) rfl) hV1, q4 (by omega)]; omega) rfl]
        exact fits_calls T0 (df2tttff p m V F g) (okCons (decide_eq_false (by rw [sLow_eq (vO_aP (h := J3 p V F) (b := 1) (V := V) rfl) hV1]; omega)) (ok_lE (vO_aP (h := J3 p V F) (b := 1) (V := V) rfl) hV1 (rowS_dN (h := J3 p V F) (b := 1) (V := V) rfl (by omega)) (beq_f (by omega)) (ok_lO (M := 0) hz (vO_aP (h := J3 p V F) (b := 1) (V := V) rfl) (ln_d (h := J3 p V F) (b := 1) (V := V) rfl (by omega)) hV kb (ok_lSn (k := J3 p V F) (b := 2) hz rfl rfl hF hg hc (ok_lTt hp hV he hr lm))))) (by rfl) (by rfl) w
      | false =>
        by_cases hb : 2139095040 ≤ p0N 0 false (sg p).toNat (xp p)
        · have kb : decide (2139095040 ≤ p0N 0 (sgn p) (sg p).toNat (xp p)) = true := decide_eq_true (by rw [bs]; exact hb)
          rw [← val_o c2 hz hs hM hb (q := 2139095040) (by unfold beyN upR; decide)]
          exact fits_calls T0 (df2ttffffo p m V F g) (okCons (by decide) (okCons (by decide) (okCons (by decide) (ok_lO (M := 0) hz (vO_aP (h := J3 p V F) (b := 1) (V := V) rfl) (ln_d (h := J3 p V F) (b := 1) (V := V) rfl (by omega)) hV kb (ok_lSn (k := J3 p V F) (b := 2) hz rfl rfl hF hg hc (ok_lTt hp hV he hr lm)))))) (by rfl) (by rfl) w
        have kb : decide (2139095040 ≤ p0N 0 (sgn p) (sg p).toNat (xp p)) = false := decide_eq_false (by rw [bs]; exact hb)
        obtain ⟨q1, q2, q3, q4⟩ := low_parts hz hVs hb
        by_cases v1 : V = 16777216
        · skip
          rw [← val_n c2 hz hs hM hVs he (ts.trans hc) hb (q := jn (IntKind.i64.wrap (nD p + 1)) 8388608) (x := 16) (by rw [(doc_nums p).2.2.2.1, wrapI' ⟨by omega, by omega⟩, jn_eq (by omega) (by omega) (by omega) (by omega)]; omega) rfl]
          exact fits_calls T0 (df2ttftt p m V F g) (okCons (by decide) (ok_lE (vO_aP (h := J3 p V F) (b := 1) (V := V) rfl) hV1 (rowS_dN (h := J3 p V F) (b := 1) (V := V) rfl (by omega)) (beq_t (by omega)) (ok_lO (M := 0) hz (vO_aP (h := J3 p V F) (b := 1) (V := V) rfl) (ln_d (h := J3 p V F) (b := 1) (V := V) rfl (by omega)) hV kb (ok_lSn (k := J3 p V F) (b := 2) hz rfl rfl hF hg hc (ok_lTt hp hV he hr lm))))) (by rfl) (by rfl) w
        by_cases v2 : 8388608 ≤ V
        · skip
          rw [← val_n c2 hz hs hM hVs he (ts.trans hc) hb (q := jn (nD p) (sLow (J3 p V F) (aP16 1) (d16 V).length)) (x := 16) (by rw [(doc_nums p).2.2.2.1, sLow_eq (vO_aP (h := J3 p V F) (b := 1) (V := V) rfl) hV1, jn_eq (by omega) (by omega) (by omega) (by omega)]) rfl]
          exact fits_calls T0 (df2ttfft p m V F g) (okCons (decide_eq_true (by rw [sLow_eq (vO_aP (h := J3 p V F) (b := 1) (V := V) rfl) hV1]; omega)) (ok_lE (vO_aP (h := J3 p V F) (b := 1) (V := V) rfl) hV1 (rowS_dN (h := J3 p V F) (b := 1) (V := V) rfl (by omega)) (beq_f (by omega)) (ok_lO (M := 0) hz (vO_aP (h := J3 p V F) (b := 1) (V := V) rfl) (ln_d (h := J3 p V F) (b := 1) (V := V) rfl (by omega)) hV kb (ok_lSn (k := J3 p V F) (b := 2) hz rfl rfl hF hg hc (ok_lTt hp hV he hr lm))))) (by rfl) (by rfl) w
        rw [← val_n c2 hz hs hM hVs he (ts.trans hc) hb (q := sLow (J3 p V F) (aP16 1) (d16 V).length) (x := 16) (by rw [sLow_eq (vO_aP (h := J3 p V F) (b := 1) (V := V) rfl) hV1, q4 (by omega)]; omega) rfl]
        exact fits_calls T0 (df2ttfff p m V F g) (okCons (decide_eq_false (by rw [sLow_eq (vO_aP (h := J3 p V F) (b := 1) (V := V) rfl) hV1]; omega)) (ok_lE (vO_aP (h := J3 p V F) (b := 1) (V := V) rfl) hV1 (rowS_dN (h := J3 p V F) (b := 1) (V := V) rfl (by omega)) (beq_f (by omega)) (ok_lO (M := 0) hz (vO_aP (h := J3 p V F) (b := 1) (V := V) rfl) (ln_d (h := J3 p V F) (b := 1) (V := V) rfl (by omega)) hV kb (ok_lSn (k := J3 p V F) (b := 2) hz rfl rfl hF hg hc (ok_lTt hp hV he hr lm))))) (by rfl) (by rfl) w
    | false =>
      by_cases hb : 2139095040 ≤ p0N 0 false (sg p).toNat (xp p)
      · have kb : decide (2139095040 ≤ p0N 0 (sgn p) (sg p).toNat (xp p)) = true := decide_eq_true (by rw [bs]; exact hb)
        rw [← val_o c2 hz hs hM hb (q := 2139095040) (by unfold beyN upR; decide)]
        exact fits_calls T0 (df2tfxfffo p m V) (okCons (by decide) (okCons (by decide) (okCons (by decide) (ok_lO (M := 0) hz (vO_aP (h := J2 p V) (b := 1) (V := V) rfl) (ln_d (h := J2 p V) (b := 1) (V := V) rfl (by omega)) hV kb (ok_lTt hp hV he hr lm))))) (by rfl) (by rfl) w
      have kb : decide (2139095040 ≤ p0N 0 (sgn p) (sg p).toNat (xp p)) = false := decide_eq_false (by rw [bs]; exact hb)
      obtain ⟨q1, q2, q3, q4⟩ := low_parts hz hVs hb
      by_cases v1 : V = 16777216
      · skip
        rw [← val_n c2 hz hs hM hVs he (ts.trans rfl) hb (q := jn (IntKind.i64.wrap (nD p + 1)) 8388608) (x := 0) (by rw [(doc_nums p).2.2.2.1, wrapI' ⟨by omega, by omega⟩, jn_eq (by omega) (by omega) (by omega) (by omega)]; omega) rfl]
        exact fits_calls T0 (df2tfxtt p m V) (okCons (by decide) (ok_lE (vO_aP (h := J2 p V) (b := 1) (V := V) rfl) hV1 (rowS_dN (h := J2 p V) (b := 1) (V := V) rfl (by omega)) (beq_t (by omega)) (ok_lO (M := 0) hz (vO_aP (h := J2 p V) (b := 1) (V := V) rfl) (ln_d (h := J2 p V) (b := 1) (V := V) rfl (by omega)) hV kb (ok_lTt hp hV he hr lm)))) (by rfl) (by rfl) w
      by_cases v2 : 8388608 ≤ V
      · skip
        rw [← val_n c2 hz hs hM hVs he (ts.trans rfl) hb (q := jn (nD p) (sLow (J2 p V) (aP16 1) (d16 V).length)) (x := 0) (by rw [(doc_nums p).2.2.2.1, sLow_eq (vO_aP (h := J2 p V) (b := 1) (V := V) rfl) hV1, jn_eq (by omega) (by omega) (by omega) (by omega)]) rfl]
        exact fits_calls T0 (df2tfxft p m V) (okCons (decide_eq_true (by rw [sLow_eq (vO_aP (h := J2 p V) (b := 1) (V := V) rfl) hV1]; omega)) (ok_lE (vO_aP (h := J2 p V) (b := 1) (V := V) rfl) hV1 (rowS_dN (h := J2 p V) (b := 1) (V := V) rfl (by omega)) (beq_f (by omega)) (ok_lO (M := 0) hz (vO_aP (h := J2 p V) (b := 1) (V := V) rfl) (ln_d (h := J2 p V) (b := 1) (V := V) rfl (by omega)) hV kb (ok_lTt hp hV he hr lm)))) (by rfl) (by rfl) w
      rw [← val_n c2 hz hs hM hVs he (ts.trans rfl) hb (q := sLow (J2 p V) (aP16 1) (d16 V).length) (x := 0) (by rw [sLow_eq (vO_aP (h := J2 p V) (b := 1) (V := V) rfl) hV1, q4 (by omega)]; omega) rfl]
      exact fits_calls T0 (df2tfxff p m V) (okCons (decide_eq_false (by rw [sLow_eq (vO_aP (h := J2 p V) (b := 1) (V := V) rfl) hV1]; omega)) (ok_lE (vO_aP (h := J2 p V) (b := 1) (V := V) rfl) hV1 (rowS_dN (h := J2 p V) (b := 1) (V := V) rfl (by omega)) (beq_f (by omega)) (ok_lO (M := 0) hz (vO_aP (h := J2 p V) (b := 1) (V := V) rfl) (ln_d (h := J2 p V) (b := 1) (V := V) rfl (by omega)) hV kb (ok_lTt hp hV he hr lm)))) (by rfl) (by rfl) w
  | false =>
    have V0 : V = 0 := hV.symm.trans (nil_zeroN hr)
    have hvn : ∀ h : Hp, vO h none 0 = V := fun h => by rw [V0]; rfl
    have hb : ¬ 2139095040 ≤ p0N 0 false (sg p).toNat (xp p) := nil_smallN hz (hVs.trans V0)
    cases he : toL (sg p).toNat (xp p) (lowEN (sg p).toNat (xp p)) with
    | true =>
      cases hc : tinyN 0 (sgn p) (sg p).toNat (xp p) with
      | true =>
        have kb : decide (2139095040 ≤ p0N 0 (sgn p) (sg p).toNat (xp p)) = false := decide_eq_false (by rw [bs]; exact hb)
        obtain ⟨q1, q2, q3, q4⟩ := low_parts hz hVs hb
        rw [← val_n c2 hz hs hM hVs he (ts.trans hc) hb (q := sLow (J2 p F) none 0) (x := 24) (by rw [sLow_eq (hvn (J2 p F)) hV1, q4 (by omega)]; omega) rfl]
        exact fits_calls T0 (df2fttff p m V F g) (okCons (decide_eq_false (by rw [sLow_eq (hvn (J2 p F)) hV1]; omega)) (ok_lE (hvn (J2 p F)) hV1 rfl (beq_f (by omega)) (ok_lO (M := 0) hz (hvn (J2 p F)) rfl hV kb (ok_lSn (k := J2 p F) (b := 1) hz rfl rfl hF hg hc (ok_lTf hp he hr lm))))) (by rfl) (by rfl) w
      | false =>
        have kb : decide (2139095040 ≤ p0N 0 (sgn p) (sg p).toNat (xp p)) = false := decide_eq_false (by rw [bs]; exact hb)
        obtain ⟨q1, q2, q3, q4⟩ := low_parts hz hVs hb
        rw [← val_n c2 hz hs hM hVs he (ts.trans hc) hb (q := sLow (J2 p F) none 0) (x := 16) (by rw [sLow_eq (hvn (J2 p F)) hV1, q4 (by omega)]; omega) rfl]
        exact fits_calls T0 (df2ftfff p m V F g) (okCons (decide_eq_false (by rw [sLow_eq (hvn (J2 p F)) hV1]; omega)) (ok_lE (hvn (J2 p F)) hV1 rfl (beq_f (by omega)) (ok_lO (M := 0) hz (hvn (J2 p F)) rfl hV kb (ok_lSn (k := J2 p F) (b := 1) hz rfl rfl hF hg hc (ok_lTf hp he hr lm))))) (by rfl) (by rfl) w
    | false =>
      have kb : decide (2139095040 ≤ p0N 0 (sgn p) (sg p).toNat (xp p)) = false := decide_eq_false (by rw [bs]; exact hb)
      obtain ⟨q1, q2, q3, q4⟩ := low_parts hz hVs hb
      rw [← val_n c2 hz hs hM hVs he (ts.trans rfl) hb (q := sLow (J1 p) none 0) (x := 0) (by rw [sLow_eq (hvn (J1 p)) hV1, q4 (by omega)]; omega) rfl]
      exact fits_calls T0 (df2ffxff p m V) (okCons (decide_eq_false (by rw [sLow_eq (hvn (J1 p)) hV1]; omega)) (ok_lE (hvn (J1 p)) hV1 rfl (beq_f (by omega)) (ok_lO (M := 0) hz (hvn (J1 p)) rfl hV kb (ok_lTf hp he hr lm)))) (by rfl) (by rfl) w
theorem dto_f3 (p m : Int) (hp : U p) (c2 : cl p ≤ 2) (hm : mag p ≠ 0) (hs : sgn p = false) (hm1 : ¬ m < 0) (hm2 : ¬ m > 4) (w : World) : Calls Try.prog 8 #[.int .u64 p, .int .i64 m] w fun r w' => r = .returned (T2 (naP m p) (naF m p)) ∧ Tidy w w' := by
  have T0 := tabH_ok conNG_ok hcNG_ok
  have lz := ok_lZ hp c2 hm hs
  have lm : okLog (lM3 p m false) := okCons (decide_eq_false hm2) (okCons (decide_eq_false hm1) lz)
  have hM : mN m = mN m := rfl
  have hz : (sg p).toNat ≠ 0 := sg_pos c2 hm
  obtain ⟨V, hV⟩ : ∃ V, toQ m (sgn p) (sg p).toNat (xp p) (lowEN (sg p).toNat (xp p)) = V := ⟨_, rfl⟩
  obtain ⟨F, hF⟩ : ∃ F, toQ m (sgn p) (sg p).toNat (xp p) (lgN (sg p).toNat (xp p) - 23) = F := ⟨_, rfl⟩
  obtain ⟨g, hg⟩ : ∃ g, toL (sg p).toNat (xp p) (lgN (sg p).toNat (xp p) - 23) = g := ⟨_, rfl⟩
  have hV1 : V ≤ 16777216 := by rw [← hV]; exact low_hiN m (sgn p) (sg p).toNat (xp p)
  have hVs : toQ m false (sg p).toNat (xp p) (lowEN (sg p).toNat (xp p)) = V := by rw [← hs]; exact hV
  have lV := d16_len (A := V) (k := 2) (Nat.lt_of_le_of_lt hV1 (by decide))
  have bs : p0N m (sgn p) (sg p).toNat (xp p) = p0N m false (sg p).toNat (xp p) := by rw [hs]
  have ts : tinyN m false (sg p).toNat (xp p) = tinyN m (sgn p) (sg p).toNat (xp p) := by rw [hs]
  cases hr : rowTo m (sgn p) (sg p).toNat (LA p) (xp p) (lowEN (sg p).toNat (xp p)) with
  | true =>
    cases he : toL (sg p).toNat (xp p) (lowEN (sg p).toNat (xp p)) with
    | true =>
      cases hc : tinyN m (sgn p) (sg p).toNat (xp p) with
      | true =>
        by_cases hb : 2139095040 ≤ p0N m false (sg p).toNat (xp p)
        · have kb : decide (2139095040 ≤ p0N m (sgn p) (sg p).toNat (xp p)) = true := decide_eq_true (by rw [bs]; exact hb)
          by_cases h2 : m = 2
          · skip
            rw [← val_o c2 hz hs hM hb (q := 2139095039) (by unfold beyN upR; simp [h2])]
            exact fits_calls T0 (df3tttto p m V F g) (okCons (beq_t h2) (ok_lO (M := m) hz (vO_aP (h := J3 p V F) (b := 1) (V := V) rfl) (ln_d (h := J3 p V F) (b := 1) (V := V) rfl (by omega)) hV kb (ok_lSn (k := J3 p V F) (b := 2) hz rfl rfl hF hg hc (ok_lTt hp hV he hr lm)))) (by rfl) (by rfl) w
          by_cases h3 : m = 3
          · skip
            rw [← val_o c2 hz hs hM hb (q := 2139095040) (by unfold beyN upR; simp [h3])]
            exact fits_calls T0 (df3tttftfo p m V F g) (okCons (beq_f (by omega)) (okCons (beq_t h3) (okCons (beq_f h2) (ok_lO (M := m) hz (vO_aP (h := J3 p V F) (b := 1) (V := V) rfl) (ln_d (h := J3 p V F) (b := 1) (V := V) rfl (by omega)) hV kb (ok_lSn (k := J3 p V F) (b := 2) hz rfl rfl hF hg hc (ok_lTt hp hV he hr lm)))))) (by rfl) (by rfl) w
          by_cases h4 : m = 4
          · skip
            rw [← val_o c2 hz hs hM hb (q := 2139095039) (by unfold beyN upR; simp [h4])]
            exact fits_calls T0 (df3tttffto p m V F g) (okCons (beq_t h4) (okCons (beq_f h3) (okCons (beq_f h2) (ok_lO (M := m) hz (vO_aP (h := J3 p V F) (b := 1) (V := V) rfl) (ln_d (h := J3 p V F) (b := 1) (V := V) rfl (by omega)) hV kb (ok_lSn (k := J3 p V F) (b := 2) hz rfl rfl hF hg hc (ok_lTt hp hV he hr lm)))))) (by rfl) (by rfl) w
          rw [← val_o c2 hz hs hM hb (q := 2139095040) (by unfold beyN upR; simp [h2, h3, h4])]
          exact fits_calls T0 (df3tttfffo p m V F g) (okCons (beq_f h4) (okCons (beq_f h3) (okCons (beq_f h2) (ok_lO (M := m) hz (vO_aP (h := J3 p V F) (b := 1) (V := V) rfl) (ln_d (h := J3 p V F) (b := 1) (V := V) rfl (by omega)) hV kb (ok_lSn (k := J3 p V F) (b := 2) hz rfl rfl hF hg hc (ok_lTt hp hV he hr lm)))))) (by rfl) (by rfl) w
        have kb : decide (2139095040 ≤ p0N m (sgn p) (sg p).toNat (xp p)) = false := decide_eq_false (by rw [bs]; exact hb)
        obtain ⟨q1, q2, q3, q4⟩ := low_parts hz hVs hb
        by_cases v1 : V = 16777216
        · skip
          rw [← val_n c2 hz hs hM hVs he (ts.trans hc) hb (q := jn (IntKind.i64.wrap (nD p + 1)) 8388608) (x := 24) (by rw [(doc_nums p).2.2.2.1, wrapI' ⟨by omega, by omega⟩, jn_eq (by omega) (by omega) (by omega) (by omega)]; omega) rfl]
          exact fits_calls T0 (df3ttttt p m V F g) (okCons (by decide) (ok_lE (vO_aP (h := J3 p V F) (b := 1) (V := V) rfl) hV1 (rowS_dN (h := J3 p V F) (b := 1) (V := V) rfl (by omega)) (beq_t (by omega)) (ok_lO (M := m) hz (vO_aP (h := J3 p V F) (b := 1) (V := V) rfl) (ln_d (h := J3 p V F) (b := 1) (V := V) rfl (by omega)) hV kb (ok_lSn (k := J3 p V F) (b := 2) hz rfl rfl hF hg hc (ok_lTt hp hV he hr lm))))) (by rfl) (by rfl) w
        by_cases v2 : 8388608 ≤ V
        · skip
          rw [← val_n c2 hz hs hM hVs he (ts.trans hc) hb (q := jn (nD p) (sLow (J3 p V F) (aP16 1) (d16 V).length)) (x := 24) (by rw [(doc_nums p).2.2.2.1, sLow_eq (vO_aP (h := J3 p V F) (b := 1) (V := V) rfl) hV1, jn_eq (by omega) (by omega) (by omega) (by omega)]) rfl]
          exact fits_calls T0 (df3tttft p m V F g) (okCons (decide_eq_true (by rw [sLow_eq (vO_aP (h := J3 p V F) (b := 1) (V := V) rfl) hV1]; omega)) (ok_lE (vO_aP (h := J3 p V F) (b := 1) (V := V) rfl) hV1 (rowS_dN (h := J3 p V F) (b := 1) (V := V) rfl (by omega)) (beq_f (by omega)) (ok_lO (M := m) hz (vO_aP (h := J3 p V F) (b := 1) (V := V) rfl) (ln_d (h := J3 p V F) (b := 1) (V := V) rfl (by omega)) hV kb (ok_lSn (k := J3 p V F) (b := 2) hz rfl rfl hF hg hc (ok_lTt hp hV he hr lm))))) (by rfl) (by rfl) w
        rw [← val_n c2 hz hs hM hVs he (ts.trans hc) hb (q := sLow (J3 p V F) (aP16 1) (d16 V).length) (x := 24) (by rw [sLow_eq (vO_aP (h := J3 p V F) (b := 1) (V := V) rfl) hV1, q4 (by omega)]; omega) rfl]
        exact fits_calls T0 (df3tttff p m V F g) (okCons (decide_eq_false (by rw [sLow_eq (vO_aP (h := J3 p V F) (b := 1) (V := V) rfl) hV1]; omega)) (ok_lE (vO_aP (h := J3 p V F) (b := 1) (V := V) rfl) hV1 (rowS_dN (h := J3 p V F) (b := 1) (V := V) rfl (by omega)) (beq_f (by omega)) (ok_lO (M := m) hz (vO_aP (h := J3 p V F) (b := 1) (V := V) rfl) (ln_d (h := J3 p V F) (b := 1) (V := V) rfl (by omega)) hV kb (ok_lSn (k := J3 p V F) (b := 2) hz rfl rfl hF hg hc (ok_lTt hp hV he hr lm))))) (by rfl) (by rfl) w
      | false =>
        by_cases hb : 2139095040 ≤ p0N m false (sg p).toNat (xp p)
        · have kb : decide (2139095040 ≤ p0N m (sgn p) (sg p).toNat (xp p)) = true := decide_eq_true (by rw [bs]; exact hb)
          by_cases h2 : m = 2
          · skip
            rw [← val_o c2 hz hs hM hb (q := 2139095039) (by unfold beyN upR; simp [h2])]
            exact fits_calls T0 (df3ttfto p m V F g) (okCons (beq_t h2) (ok_lO (M := m) hz (vO_aP (h := J3 p V F) (b := 1) (V := V) rfl) (ln_d (h := J3 p V F) (b := 1) (V := V) rfl (by omega)) hV kb (ok_lSn (k := J3 p V F) (b := 2) hz rfl rfl hF hg hc (ok_lTt hp hV he hr lm)))) (by rfl) (by rfl) w
          by_cases h3 : m = 3
          · skip
            rw [← val_o c2 hz hs hM hb (q := 2139095040) (by unfold beyN upR; simp [h3])]
            exact fits_calls T0 (df3ttfftfo p m V F g) (okCons (beq_f (by omega)) (okCons (beq_t h3) (okCons (beq_f h2) (ok_lO (M := m) hz (vO_aP (h := J3 p V F) (b := 1) (V := V) rfl) (ln_d (h := J3 p V F) (b := 1) (V := V) rfl (by omega)) hV kb (ok_lSn (k := J3 p V F) (b := 2) hz rfl rfl hF hg hc (ok_lTt hp hV he hr lm)))))) (by rfl) (by rfl) w
          by_cases h4 : m = 4
          · skip
            rw [← val_o c2 hz hs hM hb (q := 2139095039) (by unfold beyN upR; simp [h4])]
            exact fits_calls T0 (df3ttfffto p m V F g) (okCons (beq_t h4) (okCons (beq_f h3) (okCons (beq_f h2) (ok_lO (M := m) hz (vO_aP (h := J3 p V F) (b := 1) (V := V) rfl) (ln_d (h := J3 p V F) (b := 1) (V := V) rfl (by omega)) hV kb (ok_lSn (k := J3 p V F) (b := 2) hz rfl rfl hF hg hc (ok_lTt hp hV he hr lm)))))) (by rfl) (by rfl) w
          rw [← val_o c2 hz hs hM hb (q := 2139095040) (by unfold beyN upR; simp [h2, h3, h4])]
          exact fits_calls T0 (df3ttffffo p m V F g) (okCons (beq_f h4) (okCons (beq_f h3) (okCons (beq_f h2) (ok_lO (M := m) hz (vO_aP (h := J3 p V F) (b := 1) (V := V) rfl) (ln_d (h := J3 p V F) (b := 1) (V := V) rfl (by omega)) hV kb (ok_lSn (k := J3 p V F) (b := 2) hz rfl rfl hF hg hc (ok_lTt hp hV he hr lm)))))) (by rfl) (by rfl) w
        have kb : decide (2139095040 ≤ p0N m (sgn p) (sg p).toNat (xp p)) = false := decide_eq_false (by rw [bs]; exact hb)
        obtain ⟨q1, q2, q3, q4⟩ := low_parts hz hVs hb
        by_cases v1 : V = 16777216
        · skip
          rw [← val_n c2 hz hs hM hVs he (ts.trans hc) hb (q := jn (IntKind.i64.wrap (nD p + 1)) 8388608) (x := 16) (by rw [(doc_nums p).2.2.2.1, wrapI' ⟨by omega, by omega⟩, jn_eq (by omega) (by omega) (by omega) (by omega)]; omega) rfl]
          exact fits_calls T0 (df3ttftt p m V F g) (okCons (by decide) (ok_lE (vO_aP (h := J3 p V F) (b := 1) (V := V) rfl) hV1 (rowS_dN (h := J3 p V F) (b := 1) (V := V) rfl (by omega)) (beq_t (by omega)) (ok_lO (M := m) hz (vO_aP (h := J3 p V F) (b := 1) (V := V) rfl) (ln_d (h := J3 p V F) (b := 1) (V := V) rfl (by omega)) hV kb (ok_lSn (k := J3 p V F) (b := 2) hz rfl rfl hF hg hc (ok_lTt hp hV he hr lm))))) (by rfl) (by rfl) w
        by_cases v2 : 8388608 ≤ V
        · skip
          rw [← val_n c2 hz hs hM hVs he (ts.trans hc) hb (q := jn (nD p) (sLow (J3 p V F) (aP16 1) (d16 V).length)) (x := 16) (by rw [(doc_nums p).2.2.2.1, sLow_eq (vO_aP (h := J3 p V F) (b := 1) (V := V) rfl) hV1, jn_eq (by omega) (by omega) (by omega) (by omega)]) rfl]
          exact fits_calls T0 (df3ttfft p m V F g) (okCons (decide_eq_true (by rw [sLow_eq (vO_aP (h := J3 p V F) (b := 1) (V := V) rfl) hV1]; omega)) (ok_lE (vO_aP (h := J3 p V F) (b := 1) (V := V) rfl) hV1 (rowS_dN (h := J3 p V F) (b := 1) (V := V) rfl (by omega)) (beq_f (by omega)) (ok_lO (M := m) hz (vO_aP (h := J3 p V F) (b := 1) (V := V) rfl) (ln_d (h := J3 p V F) (b := 1) (V := V) rfl (by omega)) hV kb (ok_lSn (k := J3 p V F) (b := 2) hz rfl rfl hF hg hc (ok_lTt hp hV he hr lm))))) (by rfl) (by rfl) w
        rw [← val_n c2 hz hs hM hVs he (ts.trans hc) hb (q := sLow (J3 p V F) (aP16 1) (d16 V).length) (x := 16) (by rw [sLow_eq (vO_aP (h := J3 p V F) (b := 1) (V := V) rfl) hV1, q4 (by omega)]; omega) rfl]
        exact fits_calls T0 (df3ttfff p m V F g) (okCons (decide_eq_false (by rw [sLow_eq (vO_aP (h := J3 p V F) (b := 1) (V := V) rfl) hV1]; omega)) (ok_lE (vO_aP (h := J3 p V F) (b := 1) (V := V) rfl) hV1 (rowS_dN (h := J3 p V F) (b := 1) (V := V) rfl (by omega)) (beq_f (by omega)) (ok_lO (M := m) hz (vO_aP (h := J3 p V F) (b := 1) (V := V) rfl) (ln_d (h := J3 p V F) (b := 1) (V := V) rfl (by omega)) hV kb (ok_lSn (k := J3 p V F) (b := 2) hz rfl rfl hF hg hc (ok_lTt hp hV he hr lm))))) (by rfl) (by rfl) w
    | false =>
      by_cases hb : 2139095040 ≤ p0N m false (sg p).toNat (xp p)
      · have kb : decide (2139095040 ≤ p0N m (sgn p) (sg p).toNat (xp p)) = true := decide_eq_true (by rw [bs]; exact hb)
        by_cases h2 : m = 2
        · skip
          rw [← val_o c2 hz hs hM hb (q := 2139095039) (by unfold beyN upR; simp [h2])]
          exact fits_calls T0 (df3tfxto p m V) (okCons (beq_t h2) (ok_lO (M := m) hz (vO_aP (h := J2 p V) (b := 1) (V := V) rfl) (ln_d (h := J2 p V) (b := 1) (V := V) rfl (by omega)) hV kb (ok_lTt hp hV he hr lm))) (by rfl) (by rfl) w
        by_cases h3 : m = 3
        · skip
          rw [← val_o c2 hz hs hM hb (q := 2139095040) (by unfold beyN upR; simp [h3])]
          exact fits_calls T0 (df3tfxftfo p m V) (okCons (beq_f (by omega)) (okCons (beq_t h3) (okCons (beq_f h2) (ok_lO (M := m) hz (vO_aP (h := J2 p V) (b := 1) (V := V) rfl) (ln_d (h := J2 p V) (b := 1) (V := V) rfl (by omega)) hV kb (ok_lTt hp hV he hr lm))))) (by rfl) (by rfl) w
        by_cases h4 : m = 4
        · skip
          rw [← val_o c2 hz hs hM hb (q := 2139095039) (by unfold beyN upR; simp [h4])]
          exact fits_calls T0 (df3tfxffto p m V) (okCons (beq_t h4) (okCons (beq_f h3) (okCons (beq_f h2) (ok_lO (M := m) hz (vO_aP (h := J2 p V) (b := 1) (V := V) rfl) (ln_d (h := J2 p V) (b := 1) (V := V) rfl (by omega)) hV kb (ok_lTt hp hV he hr lm))))) (by rfl) (by rfl) w
        rw [← val_o c2 hz hs hM hb (q := 2139095040) (by unfold beyN upR; simp [h2, h3, h4])]
        exact fits_calls T0 (df3tfxfffo p m V) (okCons (beq_f h4) (okCons (beq_f h3) (okCons (beq_f h2) (ok_lO (M := m) hz (vO_aP (h := J2 p V) (b := 1) (V := V) rfl) (ln_d (h := J2 p V) (b := 1) (V := V) rfl (by omega)) hV kb (ok_lTt hp hV he hr lm))))) (by rfl) (by rfl) w
      have kb : decide (2139095040 ≤ p0N m (sgn p) (sg p).toNat (xp p)) = false := decide_eq_false (by rw [bs]; exact hb)
      obtain ⟨q1, q2, q3, q4⟩ := low_parts hz hVs hb
      by_cases v1 : V = 16777216
      · skip
        rw [← val_n c2 hz hs hM hVs he (ts.trans rfl) hb (q := jn (IntKind.i64.wrap (nD p + 1)) 8388608) (x := 0) (by rw [(doc_nums p).2.2.2.1, wrapI' ⟨by omega, by omega⟩, jn_eq (by omega) (by omega) (by omega) (by omega)]; omega) rfl]
        exact fits_calls T0 (df3tfxtt p m V) (okCons (by decide) (ok_lE (vO_aP (h := J2 p V) (b := 1) (V := V) rfl) hV1 (rowS_dN (h := J2 p V) (b := 1) (V := V) rfl (by omega)) (beq_t (by omega)) (ok_lO (M := m) hz (vO_aP (h := J2 p V) (b := 1) (V := V) rfl) (ln_d (h := J2 p V) (b := 1) (V := V) rfl (by omega)) hV kb (ok_lTt hp hV he hr lm)))) (by rfl) (by rfl) w
      by_cases v2 : 8388608 ≤ V
      · skip
        rw [← val_n c2 hz hs hM hVs he (ts.trans rfl) hb (q := jn (nD p) (sLow (J2 p V) (aP16 1) (d16 V).length)) (x := 0) (by rw [(doc_nums p).2.2.2.1, sLow_eq (vO_aP (h := J2 p V) (b := 1) (V := V) rfl) hV1, jn_eq (by omega) (by omega) (by omega) (by omega)]) rfl]
        exact fits_calls T0 (df3tfxft p m V) (okCons (decide_eq_true (by rw [sLow_eq (vO_aP (h := J2 p V) (b := 1) (V := V) rfl) hV1]; omega)) (ok_lE (vO_aP (h := J2 p V) (b := 1) (V := V) rfl) hV1 (rowS_dN (h := J2 p V) (b := 1) (V := V) rfl (by omega)) (beq_f (by omega)) (ok_lO (M := m) hz (vO_aP (h := J2 p V) (b := 1) (V := V) rfl) (ln_d (h := J2 p V) (b := 1) (V := V) rfl (by omega)) hV kb (ok_lTt hp hV he hr lm)))) (by rfl) (by rfl) w
      rw [← val_n c2 hz hs hM hVs he (ts.trans rfl) hb (q := sLow (J2 p V) (aP16 1) (d16 V).length) (x := 0) (by rw [sLow_eq (vO_aP (h := J2 p V) (b := 1) (V := V) rfl) hV1, q4 (by omega)]; omega) rfl]
      exact fits_calls T0 (df3tfxff p m V) (okCons (decide_eq_false (by rw [sLow_eq (vO_aP (h := J2 p V) (b := 1) (V := V) rfl) hV1]; omega)) (ok_lE (vO_aP (h := J2 p V) (b := 1) (V := V) rfl) hV1 (rowS_dN (h := J2 p V) (b := 1) (V := V) rfl (by omega)) (beq_f (by omega)) (ok_lO (M := m) hz (vO_aP (h := J2 p V) (b := 1) (V := V) rfl) (ln_d (h := J2 p V) (b := 1) (V := V) rfl (by omega)) hV kb (ok_lTt hp hV he hr lm)))) (by rfl) (by rfl) w
  | false =>
    have V0 : V = 0 := hV.symm.trans (nil_zeroN hr)
    have hvn : ∀ h : Hp, vO h none 0 = V := fun h => by rw [V0]; rfl
    have hb : ¬ 2139095040 ≤ p0N m false (sg p).toNat (xp p) := nil_smallN hz (hVs.trans V0)
    cases he : toL (sg p).toNat (xp p) (lowEN (sg p).toNat (xp p)) with
    | true =>
      cases hc : tinyN m (sgn p) (sg p).toNat (xp p) with
      | true =>
        have kb : decide (2139095040 ≤ p0N m (sgn p) (sg p).toNat (xp p)) = false := decide_eq_false (by rw [bs]; exact hb)
        obtain ⟨q1, q2, q3, q4⟩ := low_parts hz hVs hb
        rw [← val_n c2 hz hs hM hVs he (ts.trans hc) hb (q := sLow (J2 p F) none 0) (x := 24) (by rw [sLow_eq (hvn (J2 p F)) hV1, q4 (by omega)]; omega) rfl]
        exact fits_calls T0 (df3fttff p m V F g) (okCons (decide_eq_false (by rw [sLow_eq (hvn (J2 p F)) hV1]; omega)) (ok_lE (hvn (J2 p F)) hV1 rfl (beq_f (by omega)) (ok_lO (M := m) hz (hvn (J2 p F)) rfl hV kb (ok_lSn (k := J2 p F) (b := 1) hz rfl rfl hF hg hc (ok_lTf hp he hr lm))))) (by rfl) (by rfl) w
      | false =>
        have kb : decide (2139095040 ≤ p0N m (sgn p) (sg p).toNat (xp p)) = false := decide_eq_false (by rw [bs]; exact hb)
        obtain ⟨q1, q2, q3, q4⟩ := low_parts hz hVs hb
        rw [← val_n c2 hz hs hM hVs he (ts.trans hc) hb (q := sLow (J2 p F) none 0) (x := 16) (by rw [sLow_eq (hvn (J2 p F)) hV1, q4 (by omega)]; omega) rfl]
        exact fits_calls T0 (df3ftfff p m V F g) (okCons (decide_eq_false (by rw [sLow_eq (hvn (J2 p F)) hV1]; omega)) (ok_lE (hvn (J2 p F)) hV1 rfl (beq_f (by omega)) (ok_lO (M := m) hz (hvn (J2 p F)) rfl hV kb (ok_lSn (k := J2 p F) (b := 1) hz rfl rfl hF hg hc (ok_lTf hp he hr lm))))) (by rfl) (by rfl) w
    | false =>
      have kb : decide (2139095040 ≤ p0N m (sgn p) (sg p).toNat (xp p)) = false := decide_eq_false (by rw [bs]; exact hb)
      obtain ⟨q1, q2, q3, q4⟩ := low_parts hz hVs hb
      rw [← val_n c2 hz hs hM hVs he (ts.trans rfl) hb (q := sLow (J1 p) none 0) (x := 0) (by rw [sLow_eq (hvn (J1 p)) hV1, q4 (by omega)]; omega) rfl]
      exact fits_calls T0 (df3ffxff p m V) (okCons (decide_eq_false (by rw [sLow_eq (hvn (J1 p)) hV1]; omega)) (ok_lE (hvn (J1 p)) hV1 rfl (beq_f (by omega)) (ok_lO (M := m) hz (hvn (J1 p)) rfl hV kb (ok_lTf hp he hr lm)))) (by rfl) (by rfl) w
theorem dto_calls (p m : Int) (hp : U p) (w : World) : Calls Try.prog 8 #[.int .u64 p, .int .i64 m] w fun r w' => r = .returned (T2 (naP m p) (naF m p)) ∧ Tidy w w' := by
  have T0 := tabH_ok conNG_ok hcNG_ok
  have kp : decide (U p) = true := decide_eq_true hp
  have ba := cl_bd p
  have et : p.tmod 9223372036854775808 = mag p := by rw [Int.tmod_eq_emod_of_nonneg hp.1]; rfl
  obtain ⟨k1, k2, k3⟩ := mag_cl p
  by_cases h3 : 3 < cl p
  · by_cases h5 : cl p = 5
    · have e : naP m p = 2143289344 ∧ naF m p = 1 := by unfold naP naF; rw [if_pos h3, if_pos h3, if_pos h5]; exact ⟨rfl, rfl⟩
      rw [e.1, e.2]
      exact fits_calls T0 (dn_l p m) (okCons (beq_t (by omega)) (okCons kp (okCons (decide_eq_true (by omega)) (okL1 kp)))) (by rfl) (by rfl) w
    · have e : naP m p = 2143289344 ∧ naF m p = 0 := by unfold naP naF; rw [if_pos h3, if_pos h3, if_neg h5]; exact ⟨rfl, rfl⟩
      rw [e.1, e.2]
      exact fits_calls T0 (dn_q p m) (okCons (beq_f (by omega)) (okCons kp (okCons (beq_f (by omega)) (okCons kp (okCons (decide_eq_true (by omega)) (okL1 kp)))))) (by rfl) (by rfl) w
  by_cases c3 : cl p = 3
  · have hi := k2.1 c3
    have e : naP m p = s3 (sgn p) 2139095040 ∧ naF m p = 0 := by unfold naP naF; rw [if_neg h3, if_neg h3, if_pos c3, if_pos c3]; exact ⟨rfl, rfl⟩
    rw [e.1, e.2]
    cases hs : sgn p with
    | true =>
      have hsd : decide (p ≥ 9223372036854775808) = true := hs
      exact fits_calls T0 (dn_it p m) (okCons (beq_t (by rw [et]; omega)) (okCons (by decide) (okCons hsd (okCons (decide_eq_false (by omega)) (okL1 kp))))) (by rfl) (by rfl) w
    | false =>
      have hsd : decide (p ≥ 9223372036854775808) = false := hs
      exact fits_calls T0 (dn_if p m) (okCons (beq_t (by rw [et]; omega)) (okCons (by decide) (okCons hsd (okCons (decide_eq_false (by omega)) (okL1 kp))))) (by rfl) (by rfl) w
  have c2 : cl p ≤ 2 := by omega
  by_cases hm : mag p = 0
  · have h0 : ex p = 0 ∧ fr p = 0 := by
      have h1 := mag_eq p
      have h2 := ex_lt p
      have h4 := fr_lt p
      omega
    have sz : (sg p).toNat = 0 := by unfold sg; simp [h0.1, h0.2]
    have e : naP m p = s3 (sgn p) 0 ∧ naF m p = 0 := by
      unfold naP naF rnPN rnFN
      rw [if_neg h3, if_neg h3, if_neg c3, if_neg c3, if_pos sz, if_pos sz]
      exact ⟨rfl, rfl⟩
    rw [e.1, e.2]
    cases hs : sgn p with
    | true =>
      have hsd : decide (p ≥ 9223372036854775808) = true := hs
      exact fits_calls T0 (dn_zt p m) (okCons (beq_t (by rw [et]; omega)) (okCons (by decide) (okCons (beq_f (by rw [et]; omega)) (okCons (by decide) (okCons hsd (okCons (decide_eq_false (by omega)) (okL1 kp))))))) (by rfl) (by rfl) w
    | false =>
      have hsd : decide (p ≥ 9223372036854775808) = false := hs
      exact fits_calls T0 (dn_zf p m) (okCons (beq_t (by rw [et]; omega)) (okCons (by decide) (okCons (beq_f (by rw [et]; omega)) (okCons (by decide) (okCons hsd (okCons (decide_eq_false (by omega)) (okL1 kp))))))) (by rfl) (by rfl) w
  cases hs : sgn p with
  | true =>
    by_cases hm1 : m < 0
    · exact dto_t1 p m hp c2 hm hs hm1 w
    by_cases hm2 : m > 4
    · exact dto_t2 p m hp c2 hm hs hm1 hm2 w
    exact dto_t3 p m hp c2 hm hs hm1 hm2 w
  | false =>
    by_cases hm1 : m < 0
    · exact dto_f1 p m hp c2 hm hs hm1 w
    by_cases hm2 : m > 4
    · exact dto_f2 p m hp c2 hm hs hm1 hm2 w
    exact dto_f3 p m hp c2 hm hs hm1 hm2 w
end Go.Proofs.Yteglhjkpcljpmaa
