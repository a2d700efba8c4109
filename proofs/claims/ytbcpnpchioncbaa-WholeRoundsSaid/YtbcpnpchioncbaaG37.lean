/-
  The pieces of wide.DivMod: a divisor of one word.
-/
import Derived.Test.YtbcpnpchioncbaaG35
namespace Go.Proofs.Ytbcpnpchioncbaa
open Go.KRun Go.Wd
set_option maxRecDepth 100000

theorem rd_100 (v0 v1 v14 v15 : Value) (up d0 d1 d2 d3 r0 r1 r2 r3 r4 q0 q1 q2 q3 : Int) (a b lw : W4) (g : Nat → Value) : Rd (tabOf Try.prog extY conQW true) Try.f67 1 0 0 v0 v1 v14 v15 up d0 d1 d2 d3 r0 r1 r2 r3 r4 q0 q1 q2 q3 a b lw g := ⟨by kernel_rfl, by kernel_rfl, by kernel_rfl⟩
theorem rd_101 (v0 v1 v14 v15 : Value) (up d0 d1 d2 d3 r0 r1 r2 r3 r4 q0 q1 q2 q3 : Int) (a b lw : W4) (g : Nat → Value) : Rd (tabOf Try.prog extY conQW true) Try.f67 1 0 1 v0 v1 v14 v15 up d0 d1 d2 d3 r0 r1 r2 r3 r4 q0 q1 q2 q3 a b lw g := ⟨by kernel_rfl, by kernel_rfl, by kernel_rfl⟩
theorem rd_102 (v0 v1 v14 v15 : Value) (up d0 d1 d2 d3 r0 r1 r2 r3 r4 q0 q1 q2 q3 : Int) (a b lw : W4) (g : Nat → Value) : Rd (tabOf Try.prog extY conQW true) Try.f67 1 0 2 v0 v1 v14 v15 up d0 d1 d2 d3 r0 r1 r2 r3 r4 q0 q1 q2 q3 a b lw g := ⟨by kernel_rfl, by kernel_rfl, by kernel_rfl⟩
theorem rd_110 (v0 v1 v14 v15 : Value) (up d0 d1 d2 d3 r0 r1 r2 r3 r4 q0 q1 q2 q3 : Int) (a b lw : W4) (g : Nat → Value) : Rd (tabOf Try.prog extY conQW true) Try.f67 1 1 0 v0 v1 v14 v15 up d0 d1 d2 d3 r0 r1 r2 r3 r4 q0 q1 q2 q3 a b lw g := ⟨by kernel_rfl, by kernel_rfl, by kernel_rfl⟩
theorem rd_111 (v0 v1 v14 v15 : Value) (up d0 d1 d2 d3 r0 r1 r2 r3 r4 q0 q1 q2 q3 : Int) (a b lw : W4) (g : Nat → Value) : Rd (tabOf Try.prog extY conQW true) Try.f67 1 1 1 v0 v1 v14 v15 up d0 d1 d2 d3 r0 r1 r2 r3 r4 q0 q1 q2 q3 a b lw g := ⟨by kernel_rfl, by kernel_rfl, by kernel_rfl⟩
theorem rd_112 (v0 v1 v14 v15 : Value) (up d0 d1 d2 d3 r0 r1 r2 r3 r4 q0 q1 q2 q3 : Int) (a b lw : W4) (g : Nat → Value) : Rd (tabOf Try.prog extY conQW true) Try.f67 1 1 2 v0 v1 v14 v15 up d0 d1 d2 d3 r0 r1 r2 r3 r4 q0 q1 q2 q3 a b lw g := ⟨by kernel_rfl, by kernel_rfl, by kernel_rfl⟩
theorem rd_120 (v0 v1 v14 v15 : Value) (up d0 d1 d2 d3 r0 r1 r2 r3 r4 q0 q1 q2 q3 : Int) (a b lw : W4) (g : Nat → Value) : Rd (tabOf Try.prog extY conQW true) Try.f67 1 2 0 v0 v1 v14 v15 up d0 d1 d2 d3 r0 r1 r2 r3 r4 q0 q1 q2 q3 a b lw g := ⟨by kernel_rfl, by kernel_rfl, by kernel_rfl⟩
theorem rd_121 (v0 v1 v14 v15 : Value) (up d0 d1 d2 d3 r0 r1 r2 r3 r4 q0 q1 q2 q3 : Int) (a b lw : W4) (g : Nat → Value) : Rd (tabOf Try.prog extY conQW true) Try.f67 1 2 1 v0 v1 v14 v15 up d0 d1 d2 d3 r0 r1 r2 r3 r4 q0 q1 q2 q3 a b lw g := ⟨by kernel_rfl, by kernel_rfl, by kernel_rfl⟩
theorem rd_122 (v0 v1 v14 v15 : Value) (up d0 d1 d2 d3 r0 r1 r2 r3 r4 q0 q1 q2 q3 : Int) (a b lw : W4) (g : Nat → Value) : Rd (tabOf Try.prog extY conQW true) Try.f67 1 2 2 v0 v1 v14 v15 up d0 d1 d2 d3 r0 r1 r2 r3 r4 q0 q1 q2 q3 a b lw g := ⟨by kernel_rfl, by kernel_rfl, by kernel_rfl⟩
theorem rd_130 (v0 v1 v14 v15 : Value) (up d0 d1 d2 d3 r0 r1 r2 r3 r4 q0 q1 q2 q3 : Int) (a b lw : W4) (g : Nat → Value) : Rd (tabOf Try.prog extY conQW true) Try.f67 1 3 0 v0 v1 v14 v15 up d0 d1 d2 d3 r0 r1 r2 r3 r4 q0 q1 q2 q3 a b lw g := ⟨by kernel_rfl, by kernel_rfl, by kernel_rfl⟩
theorem rd_131 (v0 v1 v14 v15 : Value) (up d0 d1 d2 d3 r0 r1 r2 r3 r4 q0 q1 q2 q3 : Int) (a b lw : W4) (g : Nat → Value) : Rd (tabOf Try.prog extY conQW true) Try.f67 1 3 1 v0 v1 v14 v15 up d0 d1 d2 d3 r0 r1 r2 r3 r4 q0 q1 q2 q3 a b lw g := ⟨by kernel_rfl, by kernel_rfl, by kernel_rfl⟩
theorem rd_132 (v0 v1 v14 v15 : Value) (up d0 d1 d2 d3 r0 r1 r2 r3 r4 q0 q1 q2 q3 : Int) (a b lw : W4) (g : Nat → Value) : Rd (tabOf Try.prog extY conQW true) Try.f67 1 3 2 v0 v1 v14 v15 up d0 d1 d2 d3 r0 r1 r2 r3 r4 q0 q1 q2 q3 a b lw g := ⟨by kernel_rfl, by kernel_rfl, by kernel_rfl⟩
end Go.Proofs.Ytbcpnpchioncbaa

/-
  The pieces of wide.DivMod: a divisor of two words.
-/
namespace Go.Proofs.Ytbcpnpchioncbaa
open Go.KRun Go.Wd
set_option maxRecDepth 100000

theorem rd_200 (v0 v1 v14 v15 : Value) (up d0 d1 d2 d3 r0 r1 r2 r3 r4 q0 q1 q2 q3 : Int) (a b lw : W4) (g : Nat → Value) : Rd (tabOf Try.prog extY conQW true) Try.f67 2 0 0 v0 v1 v14 v15 up d0 d1 d2 d3 r0 r1 r2 r3 r4 q0 q1 q2 q3 a b lw g := ⟨by kernel_rfl, by kernel_rfl, by kernel_rfl⟩
theorem rd_201 (v0 v1 v14 v15 : Value) (up d0 d1 d2 d3 r0 r1 r2 r3 r4 q0 q1 q2 q3 : Int) (a b lw : W4) (g : Nat → Value) : Rd (tabOf Try.prog extY conQW true) Try.f67 2 0 1 v0 v1 v14 v15 up d0 d1 d2 d3 r0 r1 r2 r3 r4 q0 q1 q2 q3 a b lw g := ⟨by kernel_rfl, by kernel_rfl, by kernel_rfl⟩
theorem rd_202 (v0 v1 v14 v15 : Value) (up d0 d1 d2 d3 r0 r1 r2 r3 r4 q0 q1 q2 q3 : Int) (a b lw : W4) (g : Nat → Value) : Rd (tabOf Try.prog extY conQW true) Try.f67 2 0 2 v0 v1 v14 v15 up d0 d1 d2 d3 r0 r1 r2 r3 r4 q0 q1 q2 q3 a b lw g := ⟨by kernel_rfl, by kernel_rfl, by kernel_rfl⟩
theorem rd_210 (v0 v1 v14 v15 : Value) (up d0 d1 d2 d3 r0 r1 r2 r3 r4 q0 q1 q2 q3 : Int) (a b lw : W4) (g : Nat → Value) : Rd (tabOf Try.prog extY conQW true) Try.f67 2 1 0 v0 v1 v14 v15 up d0 d1 d2 d3 r0 r1 r2 r3 r4 q0 q1 q2 q3 a b lw g := ⟨by kernel_rfl, by kernel_rfl, by kernel_rfl⟩
theorem rd_211 (v0 v1 v14 v15 : Value) (up d0 d1 d2 d3 r0 r1 r2 r3 r4 q0 q1 q2 q3 : Int) (a b lw : W4) (g : Nat → Value) : Rd (tabOf Try.prog extY conQW true) Try.f67 2 1 1 v0 v1 v14 v15 up d0 d1 d2 d3 r0 r1 r2 r3 r4 q0 q1 q2 q3 a b lw g := ⟨by kernel_rfl, by kernel_rfl, by kernel_rfl⟩
theorem rd_212 (v0 v1 v14 v15 : Value) (up d0 d1 d2 d3 r0 r1 r2 r3 r4 q0 q1 q2 q3 : Int) (a b lw : W4) (g : Nat → Value) : Rd (tabOf Try.prog extY conQW true) Try.f67 2 1 2 v0 v1 v14 v15 up d0 d1 d2 d3 r0 r1 r2 r3 r4 q0 q1 q2 q3 a b lw g := ⟨by kernel_rfl, by kernel_rfl, by kernel_rfl⟩
theorem rd_220 (v0 v1 v14 v15 : Value) (up d0 d1 d2 d3 r0 r1 r2 r3 r4 q0 q1 q2 q3 : Int) (a b lw : W4) (g : Nat → Value) : Rd (tabOf Try.prog extY conQW true) Try.f67 2 2 0 v0 v1 v14 v15 up d0 d1 d2 d3 r0 r1 r2 r3 r4 q0 q1 q2 q3 a b lw g := ⟨by kernel_rfl, by kernel_rfl, by kernel_rfl⟩
theorem rd_221 (v0 v1 v14 v15 : Value) (up d0 d1 d2 d3 r0 r1 r2 r3 r4 q0 q1 q2 q3 : Int) (a b lw : W4) (g : Nat → Value) : Rd (tabOf Try.prog extY conQW true) Try.f67 2 2 1 v0 v1 v14 v15 up d0 d1 d2 d3 r0 r1 r2 r3 r4 q0 q1 q2 q3 a b lw g := ⟨by kernel_rfl, by kernel_rfl, by kernel_rfl⟩
theorem rd_222 (v0 v1 v14 v15 : Value) (up d0 d1 d2 d3 r0 r1 r2 r3 r4 q0 q1 q2 q3 : Int) (a b lw : W4) (g : Nat → Value) : Rd (tabOf Try.prog extY conQW true) Try.f67 2 2 2 v0 v1 v14 v15 up d0 d1 d2 d3 r0 r1 r2 r3 r4 q0 q1 q2 q3 a b lw g := ⟨by kernel_rfl, by kernel_rfl, by kernel_rfl⟩
end Go.Proofs.Ytbcpnpchioncbaa

/-
  The pieces of wide.DivMod: a divisor of three or four words.
-/
namespace Go.Proofs.Ytbcpnpchioncbaa
open Go.KRun Go.Wd
set_option maxRecDepth 100000

theorem rd_300 (v0 v1 v14 v15 : Value) (up d0 d1 d2 d3 r0 r1 r2 r3 r4 q0 q1 q2 q3 : Int) (a b lw : W4) (g : Nat → Value) : Rd (tabOf Try.prog extY conQW true) Try.f67 3 0 0 v0 v1 v14 v15 up d0 d1 d2 d3 r0 r1 r2 r3 r4 q0 q1 q2 q3 a b lw g := ⟨by kernel_rfl, by kernel_rfl, by kernel_rfl⟩
theorem rd_301 (v0 v1 v14 v15 : Value) (up d0 d1 d2 d3 r0 r1 r2 r3 r4 q0 q1 q2 q3 : Int) (a b lw : W4) (g : Nat → Value) : Rd (tabOf Try.prog extY conQW true) Try.f67 3 0 1 v0 v1 v14 v15 up d0 d1 d2 d3 r0 r1 r2 r3 r4 q0 q1 q2 q3 a b lw g := ⟨by kernel_rfl, by kernel_rfl, by kernel_rfl⟩
theorem rd_302 (v0 v1 v14 v15 : Value) (up d0 d1 d2 d3 r0 r1 r2 r3 r4 q0 q1 q2 q3 : Int) (a b lw : W4) (g : Nat → Value) : Rd (tabOf Try.prog extY conQW true) Try.f67 3 0 2 v0 v1 v14 v15 up d0 d1 d2 d3 r0 r1 r2 r3 r4 q0 q1 q2 q3 a b lw g := ⟨by kernel_rfl, by kernel_rfl, by kernel_rfl⟩
theorem rd_310 (v0 v1 v14 v15 : Value) (up d0 d1 d2 d3 r0 r1 r2 r3 r4 q0 q1 q2 q3 : Int) (a b lw : W4) (g : Nat → Value) : Rd (tabOf Try.prog extY conQW true) Try.f67 3 1 0 v0 v1 v14 v15 up d0 d1 d2 d3 r0 r1 r2 r3 r4 q0 q1 q2 q3 a b lw g := ⟨by kernel_rfl, by kernel_rfl, by kernel_rfl⟩
theorem rd_311 (v0 v1 v14 v15 : Value) (up d0 d1 d2 d3 r0 r1 r2 r3 r4 q0 q1 q2 q3 : Int) (a b lw : W4) (g : Nat → Value) : Rd (tabOf Try.prog extY conQW true) Try.f67 3 1 1 v0 v1 v14 v15 up d0 d1 d2 d3 r0 r1 r2 r3 r4 q0 q1 q2 q3 a b lw g := ⟨by kernel_rfl, by kernel_rfl, by kernel_rfl⟩
theorem rd_312 (v0 v1 v14 v15 : Value) (up d0 d1 d2 d3 r0 r1 r2 r3 r4 q0 q1 q2 q3 : Int) (a b lw : W4) (g : Nat → Value) : Rd (tabOf Try.prog extY conQW true) Try.f67 3 1 2 v0 v1 v14 v15 up d0 d1 d2 d3 r0 r1 r2 r3 r4 q0 q1 q2 q3 a b lw g := ⟨by kernel_rfl, by kernel_rfl, by kernel_rfl⟩
theorem rd_400 (v0 v1 v14 v15 : Value) (up d0 d1 d2 d3 r0 r1 r2 r3 r4 q0 q1 q2 q3 : Int) (a b lw : W4) (g : Nat → Value) : Rd (tabOf Try.prog extY conQW true) Try.f67 4 0 0 v0 v1 v14 v15 up d0 d1 d2 d3 r0 r1 r2 r3 r4 q0 q1 q2 q3 a b lw g := ⟨by kernel_rfl, by kernel_rfl, by kernel_rfl⟩
theorem rd_401 (v0 v1 v14 v15 : Value) (up d0 d1 d2 d3 r0 r1 r2 r3 r4 q0 q1 q2 q3 : Int) (a b lw : W4) (g : Nat → Value) : Rd (tabOf Try.prog extY conQW true) Try.f67 4 0 1 v0 v1 v14 v15 up d0 d1 d2 d3 r0 r1 r2 r3 r4 q0 q1 q2 q3 a b lw g := ⟨by kernel_rfl, by kernel_rfl, by kernel_rfl⟩
theorem rd_402 (v0 v1 v14 v15 : Value) (up d0 d1 d2 d3 r0 r1 r2 r3 r4 q0 q1 q2 q3 : Int) (a b lw : W4) (g : Nat → Value) : Rd (tabOf Try.prog extY conQW true) Try.f67 4 0 2 v0 v1 v14 v15 up d0 d1 d2 d3 r0 r1 r2 r3 r4 q0 q1 q2 q3 a b lw g := ⟨by kernel_rfl, by kernel_rfl, by kernel_rfl⟩
end Go.Proofs.Ytbcpnpchioncbaa
