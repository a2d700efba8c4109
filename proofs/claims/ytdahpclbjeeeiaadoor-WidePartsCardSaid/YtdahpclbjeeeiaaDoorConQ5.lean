/-
  The pieces of wide.DivMod: a divisor of two words.
-/
import Derived.Test.YtdahpclbjeeeiaaDoorConQ2
namespace Go.Proofs.YtdahpclbjeeeiaaDoor
open Go.KRun Go.Wd
set_option maxRecDepth 100000

theorem rd_200 (v0 v1 v14 v15 : Value) (up d0 d1 d2 d3 r0 r1 r2 r3 r4 q0 q1 q2 q3 : Int) (a b lw : W4) (g : Nat → Value) : Rd (tabOf Tryd.prog extY conQ true) Tryd.f4 2 0 0 v0 v1 v14 v15 up d0 d1 d2 d3 r0 r1 r2 r3 r4 q0 q1 q2 q3 a b lw g := ⟨by kernel_rfl, by kernel_rfl, by kernel_rfl⟩
theorem rd_201 (v0 v1 v14 v15 : Value) (up d0 d1 d2 d3 r0 r1 r2 r3 r4 q0 q1 q2 q3 : Int) (a b lw : W4) (g : Nat → Value) : Rd (tabOf Tryd.prog extY conQ true) Tryd.f4 2 0 1 v0 v1 v14 v15 up d0 d1 d2 d3 r0 r1 r2 r3 r4 q0 q1 q2 q3 a b lw g := ⟨by kernel_rfl, by kernel_rfl, by kernel_rfl⟩
theorem rd_202 (v0 v1 v14 v15 : Value) (up d0 d1 d2 d3 r0 r1 r2 r3 r4 q0 q1 q2 q3 : Int) (a b lw : W4) (g : Nat → Value) : Rd (tabOf Tryd.prog extY conQ true) Tryd.f4 2 0 2 v0 v1 v14 v15 up d0 d1 d2 d3 r0 r1 r2 r3 r4 q0 q1 q2 q3 a b lw g := ⟨by kernel_rfl, by kernel_rfl, by kernel_rfl⟩
theorem rd_210 (v0 v1 v14 v15 : Value) (up d0 d1 d2 d3 r0 r1 r2 r3 r4 q0 q1 q2 q3 : Int) (a b lw : W4) (g : Nat → Value) : Rd (tabOf Tryd.prog extY conQ true) Tryd.f4 2 1 0 v0 v1 v14 v15 up d0 d1 d2 d3 r0 r1 r2 r3 r4 q0 q1 q2 q3 a b lw g := ⟨by kernel_rfl, by kernel_rfl, by kernel_rfl⟩
theorem rd_211 (v0 v1 v14 v15 : Value) (up d0 d1 d2 d3 r0 r1 r2 r3 r4 q0 q1 q2 q3 : Int) (a b lw : W4) (g : Nat → Value) : Rd (tabOf Tryd.prog extY conQ true) Tryd.f4 2 1 1 v0 v1 v14 v15 up d0 d1 d2 d3 r0 r1 r2 r3 r4 q0 q1 q2 q3 a b lw g := ⟨by kernel_rfl, by kernel_rfl, by kernel_rfl⟩
theorem rd_212 (v0 v1 v14 v15 : Value) (up d0 d1 d2 d3 r0 r1 r2 r3 r4 q0 q1 q2 q3 : Int) (a b lw : W4) (g : Nat → Value) : Rd (tabOf Tryd.prog extY conQ true) Tryd.f4 2 1 2 v0 v1 v14 v15 up d0 d1 d2 d3 r0 r1 r2 r3 r4 q0 q1 q2 q3 a b lw g := ⟨by kernel_rfl, by kernel_rfl, by kernel_rfl⟩
theorem rd_220 (v0 v1 v14 v15 : Value) (up d0 d1 d2 d3 r0 r1 r2 r3 r4 q0 q1 q2 q3 : Int) (a b lw : W4) (g : Nat → Value) : Rd (tabOf Tryd.prog extY conQ true) Tryd.f4 2 2 0 v0 v1 v14 v15 up d0 d1 d2 d3 r0 r1 r2 r3 r4 q0 q1 q2 q3 a b lw g := ⟨by kernel_rfl, by kernel_rfl, by kernel_rfl⟩
theorem rd_221 (v0 v1 v14 v15 : Value) (up d0 d1 d2 d3 r0 r1 r2 r3 r4 q0 q1 q2 q3 : Int) (a b lw : W4) (g : Nat → Value) : Rd (tabOf Tryd.prog extY conQ true) Tryd.f4 2 2 1 v0 v1 v14 v15 up d0 d1 d2 d3 r0 r1 r2 r3 r4 q0 q1 q2 q3 a b lw g := ⟨by kernel_rfl, by kernel_rfl, by kernel_rfl⟩
theorem rd_222 (v0 v1 v14 v15 : Value) (up d0 d1 d2 d3 r0 r1 r2 r3 r4 q0 q1 q2 q3 : Int) (a b lw : W4) (g : Nat → Value) : Rd (tabOf Tryd.prog extY conQ true) Tryd.f4 2 2 2 v0 v1 v14 v15 up d0 d1 d2 d3 r0 r1 r2 r3 r4 q0 q1 q2 q3 a b lw g := ⟨by kernel_rfl, by kernel_rfl, by kernel_rfl⟩
end Go.Proofs.YtdahpclbjeeeiaaDoor
