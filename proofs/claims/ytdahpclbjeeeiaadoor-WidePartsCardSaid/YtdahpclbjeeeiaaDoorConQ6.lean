/-
  The pieces of wide.DivMod: a divisor of three or four words.
-/
import Derived.Test.YtdahpclbjeeeiaaDoorConQ2
namespace Go.Proofs.YtdahpclbjeeeiaaDoor
open Go.KRun Go.Wd
set_option maxRecDepth 100000

theorem rd_300 (v0 v1 v14 v15 : Value) (up d0 d1 d2 d3 r0 r1 r2 r3 r4 q0 q1 q2 q3 : Int) (a b lw : W4) (g : Nat → Value) : Rd (tabOf Tryd.prog extY conQ true) Tryd.f4 3 0 0 v0 v1 v14 v15 up d0 d1 d2 d3 r0 r1 r2 r3 r4 q0 q1 q2 q3 a b lw g := ⟨by kernel_rfl, by kernel_rfl, by kernel_rfl⟩
theorem rd_301 (v0 v1 v14 v15 : Value) (up d0 d1 d2 d3 r0 r1 r2 r3 r4 q0 q1 q2 q3 : Int) (a b lw : W4) (g : Nat → Value) : Rd (tabOf Tryd.prog extY conQ true) Tryd.f4 3 0 1 v0 v1 v14 v15 up d0 d1 d2 d3 r0 r1 r2 r3 r4 q0 q1 q2 q3 a b lw g := ⟨by kernel_rfl, by kernel_rfl, by kernel_rfl⟩
theorem rd_302 (v0 v1 v14 v15 : Value) (up d0 d1 d2 d3 r0 r1 r2 r3 r4 q0 q1 q2 q3 : Int) (a b lw : W4) (g : Nat → Value) : Rd (tabOf Tryd.prog extY conQ true) Tryd.f4 3 0 2 v0 v1 v14 v15 up d0 d1 d2 d3 r0 r1 r2 r3 r4 q0 q1 q2 q3 a b lw g := ⟨by kernel_rfl, by kernel_rfl, by kernel_rfl⟩
theorem rd_310 (v0 v1 v14 v15 : Value) (up d0 d1 d2 d3 r0 r1 r2 r3 r4 q0 q1 q2 q3 : Int) (a b lw : W4) (g : Nat → Value) : Rd (tabOf Tryd.prog extY conQ true) Tryd.f4 3 1 0 v0 v1 v14 v15 up d0 d1 d2 d3 r0 r1 r2 r3 r4 q0 q1 q2 q3 a b lw g := ⟨by kernel_rfl, by kernel_rfl, by kernel_rfl⟩
theorem rd_311 (v0 v1 v14 v15 : Value) (up d0 d1 d2 d3 r0 r1 r2 r3 r4 q0 q1 q2 q3 : Int) (a b lw : W4) (g : Nat → Value) : Rd (tabOf Tryd.prog extY conQ true) Tryd.f4 3 1 1 v0 v1 v14 v15 up d0 d1 d2 d3 r0 r1 r2 r3 r4 q0 q1 q2 q3 a b lw g := ⟨by kernel_rfl, by kernel_rfl, by kernel_rfl⟩
theorem rd_312 (v0 v1 v14 v15 : Value) (up d0 d1 d2 d3 r0 r1 r2 r3 r4 q0 q1 q2 q3 : Int) (a b lw : W4) (g : Nat → Value) : Rd (tabOf Tryd.prog extY conQ true) Tryd.f4 3 1 2 v0 v1 v14 v15 up d0 d1 d2 d3 r0 r1 r2 r3 r4 q0 q1 q2 q3 a b lw g := ⟨by kernel_rfl, by kernel_rfl, by kernel_rfl⟩
theorem rd_400 (v0 v1 v14 v15 : Value) (up d0 d1 d2 d3 r0 r1 r2 r3 r4 q0 q1 q2 q3 : Int) (a b lw : W4) (g : Nat → Value) : Rd (tabOf Tryd.prog extY conQ true) Tryd.f4 4 0 0 v0 v1 v14 v15 up d0 d1 d2 d3 r0 r1 r2 r3 r4 q0 q1 q2 q3 a b lw g := ⟨by kernel_rfl, by kernel_rfl, by kernel_rfl⟩
theorem rd_401 (v0 v1 v14 v15 : Value) (up d0 d1 d2 d3 r0 r1 r2 r3 r4 q0 q1 q2 q3 : Int) (a b lw : W4) (g : Nat → Value) : Rd (tabOf Tryd.prog extY conQ true) Tryd.f4 4 0 1 v0 v1 v14 v15 up d0 d1 d2 d3 r0 r1 r2 r3 r4 q0 q1 q2 q3 a b lw g := ⟨by kernel_rfl, by kernel_rfl, by kernel_rfl⟩
theorem rd_402 (v0 v1 v14 v15 : Value) (up d0 d1 d2 d3 r0 r1 r2 r3 r4 q0 q1 q2 q3 : Int) (a b lw : W4) (g : Nat → Value) : Rd (tabOf Tryd.prog extY conQ true) Tryd.f4 4 0 2 v0 v1 v14 v15 up d0 d1 d2 d3 r0 r1 r2 r3 r4 q0 q1 q2 q3 a b lw g := ⟨by kernel_rfl, by kernel_rfl, by kernel_rfl⟩
end Go.Proofs.YtdahpclbjeeeiaaDoor
