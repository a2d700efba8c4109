/-
  The document's own Make, as a call in every world; which parts may be.
-/
import Derived.Test.YtkpmljcpjeeioaaDoorPatC
namespace Go.Proofs.YtkpmljcpjeeioaaDoor
open Go.KRun Go.Pt
set_option maxRecDepth 100000

def addM (m : Bool) (x : Int) : Int := match m with | true => IntKind.u64.wrap (x + 9223372036854775808) | false => x
def okM (m : Bool) (x : Int) : Value := .tuple #[.int .u64 (addM m x), .int .i64 0]
def noM : Value := .tuple #[.int .u64 0, .int .i64 1]
def plM (e s : Int) : Int := IntKind.u64.wrap (IntKind.u64.wrap (IntKind.u64.wrap (IntKind.u64.wrap (IntKind.i64.wrap (e + 1075)) * 4503599627370496) + s) - 4503599627370496)
def grM (s : Int) : Int := IntKind.u64.wrap (9218868437227405312 + s)
theorem r0_0 (m : Bool) (c e s : Int) : Fits (reckon (tabOf Tryd.prog extY conN true) 300 6 [vP m c e s] [cmp true, cmp true, cmp true]) (okM m 0) [(s == 0, true), (e == -1074, true), (c == 0, true)] := by
  cases m <;> exact ⟨by kernel_rfl, by kernel_rfl, by kernel_rfl, by kernel_rfl⟩
theorem r0_2 (m : Bool) (c e s : Int) : Fits (reckon (tabOf Tryd.prog extY conN true) 300 6 [vP m c e s] [cmp true, cmp false, cmp false, cmp false, cmp false, cmp false, cmp false]) (noM) [(c == 5, false), (c == 4, false), (c == 3, false), (c == 2, false), (c == 1, false), (e == -1074, false), (c == 0, true)] := by
  cases m <;> exact ⟨by kernel_rfl, by kernel_rfl, by kernel_rfl, by kernel_rfl⟩
theorem r0_3 (m : Bool) (c e s : Int) : Fits (reckon (tabOf Tryd.prog extY conN true) 300 6 [vP m c e s] [cmp true, cmp true, cmp false, cmp false, cmp false, cmp false, cmp false, cmp false]) (noM) [(c == 5, false), (c == 4, false), (c == 3, false), (c == 2, false), (c == 1, false), (s == 0, false), (e == -1074, true), (c == 0, true)] := by
  cases m <;> exact ⟨by kernel_rfl, by kernel_rfl, by kernel_rfl, by kernel_rfl⟩
theorem r1_0 (m : Bool) (c e s : Int) : Fits (reckon (tabOf Tryd.prog extY conN true) 300 6 [vP m c e s] [cmp false, cmp true, cmp true, cmp true, cmp true]) (okM m s) [(decide (s < 4503599627370496), true), (decide (s > 0), true), (e == -1074, true), (c == 1, true), (c == 0, false)] := by
  cases m <;> exact ⟨by kernel_rfl, by kernel_rfl, by kernel_rfl, by kernel_rfl⟩
theorem r1_2 (m : Bool) (c e s : Int) : Fits (reckon (tabOf Tryd.prog extY conN true) 300 6 [vP m c e s] [cmp false, cmp true, cmp false, cmp false, cmp false, cmp false, cmp false]) (noM) [(c == 5, false), (c == 4, false), (c == 3, false), (c == 2, false), (e == -1074, false), (c == 1, true), (c == 0, false)] := by
  cases m <;> exact ⟨by kernel_rfl, by kernel_rfl, by kernel_rfl, by kernel_rfl⟩
theorem r1_3 (m : Bool) (c e s : Int) : Fits (reckon (tabOf Tryd.prog extY conN true) 300 6 [vP m c e s] [cmp false, cmp true, cmp true, cmp false, cmp false, cmp false, cmp false, cmp false]) (noM) [(c == 5, false), (c == 4, false), (c == 3, false), (c == 2, false), (decide (s > 0), false), (e == -1074, true), (c == 1, true), (c == 0, false)] := by
  cases m <;> exact ⟨by kernel_rfl, by kernel_rfl, by kernel_rfl, by kernel_rfl⟩
theorem r1_4 (m : Bool) (c e s : Int) : Fits (reckon (tabOf Tryd.prog extY conN true) 300 6 [vP m c e s] [cmp false, cmp true, cmp true, cmp true, cmp false, cmp false, cmp false, cmp false, cmp false]) (noM) [(c == 5, false), (c == 4, false), (c == 3, false), (c == 2, false), (decide (s < 4503599627370496), false), (decide (s > 0), true), (e == -1074, true), (c == 1, true), (c == 0, false)] := by
  cases m <;> exact ⟨by kernel_rfl, by kernel_rfl, by kernel_rfl, by kernel_rfl⟩
theorem r2_0 (m : Bool) (c e s : Int) : Fits (reckon (tabOf Tryd.prog extY conN true) 300 6 [vP m c e s] [cmp false, cmp false, cmp true, cmp true, cmp true, cmp true, cmp true]) (okM m (plM e s)) [(decide (s < 9007199254740992), true), (decide (s ≥ 4503599627370496), true), (decide (e ≤ 971), true), (decide (e ≥ -1074), true), (c == 2, true), (c == 1, false), (c == 0, false)] := by
  cases m <;> exact ⟨by kernel_rfl, by kernel_rfl, by kernel_rfl, by kernel_rfl⟩
theorem r2_2 (m : Bool) (c e s : Int) : Fits (reckon (tabOf Tryd.prog extY conN true) 300 6 [vP m c e s] [cmp false, cmp false, cmp true, cmp false, cmp false, cmp false, cmp false]) (noM) [(c == 5, false), (c == 4, false), (c == 3, false), (decide (e ≥ -1074), false), (c == 2, true), (c == 1, false), (c == 0, false)] := by
  cases m <;> exact ⟨by kernel_rfl, by kernel_rfl, by kernel_rfl, by kernel_rfl⟩
theorem r2_3 (m : Bool) (c e s : Int) : Fits (reckon (tabOf Tryd.prog extY conN true) 300 6 [vP m c e s] [cmp false, cmp false, cmp true, cmp true, cmp false, cmp false, cmp false, cmp false]) (noM) [(c == 5, false), (c == 4, false), (c == 3, false), (decide (e ≤ 971), false), (decide (e ≥ -1074), true), (c == 2, true), (c == 1, false), (c == 0, false)] := by
  cases m <;> exact ⟨by kernel_rfl, by kernel_rfl, by kernel_rfl, by kernel_rfl⟩
theorem r2_4 (m : Bool) (c e s : Int) : Fits (reckon (tabOf Tryd.prog extY conN true) 300 6 [vP m c e s] [cmp false, cmp false, cmp true, cmp true, cmp true, cmp false, cmp false, cmp false, cmp false]) (noM) [(c == 5, false), (c == 4, false), (c == 3, false), (decide (s ≥ 4503599627370496), false), (decide (e ≤ 971), true), (decide (e ≥ -1074), true), (c == 2, true), (c == 1, false), (c == 0, false)] := by
  cases m <;> exact ⟨by kernel_rfl, by kernel_rfl, by kernel_rfl, by kernel_rfl⟩
theorem r2_5 (m : Bool) (c e s : Int) : Fits (reckon (tabOf Tryd.prog extY conN true) 300 6 [vP m c e s] [cmp false, cmp false, cmp true, cmp true, cmp true, cmp true, cmp false, cmp false, cmp false, cmp false]) (noM) [(c == 5, false), (c == 4, false), (c == 3, false), (decide (s < 9007199254740992), false), (decide (s ≥ 4503599627370496), true), (decide (e ≤ 971), true), (decide (e ≥ -1074), true), (c == 2, true), (c == 1, false), (c == 0, false)] := by
  cases m <;> exact ⟨by kernel_rfl, by kernel_rfl, by kernel_rfl, by kernel_rfl⟩
theorem r3_0 (m : Bool) (c e s : Int) : Fits (reckon (tabOf Tryd.prog extY conN true) 300 6 [vP m c e s] [cmp false, cmp false, cmp false, cmp true, cmp true, cmp true]) (okM m (grM s)) [(s == 0, true), (e == 0, true), (c == 3, true), (c == 2, false), (c == 1, false), (c == 0, false)] := by
  cases m <;> exact ⟨by kernel_rfl, by kernel_rfl, by kernel_rfl, by kernel_rfl⟩
theorem r3_2 (m : Bool) (c e s : Int) : Fits (reckon (tabOf Tryd.prog extY conN true) 300 6 [vP m c e s] [cmp false, cmp false, cmp false, cmp true, cmp false, cmp false, cmp false]) (noM) [(c == 5, false), (c == 4, false), (e == 0, false), (c == 3, true), (c == 2, false), (c == 1, false), (c == 0, false)] := by
  cases m <;> exact ⟨by kernel_rfl, by kernel_rfl, by kernel_rfl, by kernel_rfl⟩
theorem r3_3 (m : Bool) (c e s : Int) : Fits (reckon (tabOf Tryd.prog extY conN true) 300 6 [vP m c e s] [cmp false, cmp false, cmp false, cmp true, cmp true, cmp false, cmp false, cmp false]) (noM) [(c == 5, false), (c == 4, false), (s == 0, false), (e == 0, true), (c == 3, true), (c == 2, false), (c == 1, false), (c == 0, false)] := by
  cases m <;> exact ⟨by kernel_rfl, by kernel_rfl, by kernel_rfl, by kernel_rfl⟩
theorem r4_0 (m : Bool) (c e s : Int) : Fits (reckon (tabOf Tryd.prog extY conN true) 300 6 [vP m c e s] [cmp false, cmp false, cmp false, cmp false, cmp true, cmp true, cmp true, cmp true]) (okM m (grM s)) [(decide (s < 4503599627370496), true), (decide (s ≥ 2251799813685248), true), (e == 0, true), (c == 4, true), (c == 3, false), (c == 2, false), (c == 1, false), (c == 0, false)] := by
  cases m <;> exact ⟨by kernel_rfl, by kernel_rfl, by kernel_rfl, by kernel_rfl⟩
theorem r4_2 (m : Bool) (c e s : Int) : Fits (reckon (tabOf Tryd.prog extY conN true) 300 6 [vP m c e s] [cmp false, cmp false, cmp false, cmp false, cmp true, cmp false, cmp false]) (noM) [(c == 5, false), (e == 0, false), (c == 4, true), (c == 3, false), (c == 2, false), (c == 1, false), (c == 0, false)] := by
  cases m <;> exact ⟨by kernel_rfl, by kernel_rfl, by kernel_rfl, by kernel_rfl⟩
theorem r4_3 (m : Bool) (c e s : Int) : Fits (reckon (tabOf Tryd.prog extY conN true) 300 6 [vP m c e s] [cmp false, cmp false, cmp false, cmp false, cmp true, cmp true, cmp false, cmp false]) (noM) [(c == 5, false), (decide (s ≥ 2251799813685248), false), (e == 0, true), (c == 4, true), (c == 3, false), (c == 2, false), (c == 1, false), (c == 0, false)] := by
  cases m <;> exact ⟨by kernel_rfl, by kernel_rfl, by kernel_rfl, by kernel_rfl⟩
theorem r4_4 (m : Bool) (c e s : Int) : Fits (reckon (tabOf Tryd.prog extY conN true) 300 6 [vP m c e s] [cmp false, cmp false, cmp false, cmp false, cmp true, cmp true, cmp true, cmp false, cmp false]) (noM) [(c == 5, false), (decide (s < 4503599627370496), false), (decide (s ≥ 2251799813685248), true), (e == 0, true), (c == 4, true), (c == 3, false), (c == 2, false), (c == 1, false), (c == 0, false)] := by
  cases m <;> exact ⟨by kernel_rfl, by kernel_rfl, by kernel_rfl, by kernel_rfl⟩
theorem r5_0 (m : Bool) (c e s : Int) : Fits (reckon (tabOf Tryd.prog extY conN true) 300 6 [vP m c e s] [cmp false, cmp false, cmp false, cmp false, cmp false, cmp true, cmp true, cmp true, cmp true]) (okM m (grM s)) [(decide (s < 2251799813685248), true), (decide (s > 0), true), (e == 0, true), (c == 5, true), (c == 4, false), (c == 3, false), (c == 2, false), (c == 1, false), (c == 0, false)] := by
  cases m <;> exact ⟨by kernel_rfl, by kernel_rfl, by kernel_rfl, by kernel_rfl⟩
theorem r5_2 (m : Bool) (c e s : Int) : Fits (reckon (tabOf Tryd.prog extY conN true) 300 6 [vP m c e s] [cmp false, cmp false, cmp false, cmp false, cmp false, cmp true, cmp false]) (noM) [(e == 0, false), (c == 5, true), (c == 4, false), (c == 3, false), (c == 2, false), (c == 1, false), (c == 0, false)] := by
  cases m <;> exact ⟨by kernel_rfl, by kernel_rfl, by kernel_rfl, by kernel_rfl⟩
theorem r5_3 (m : Bool) (c e s : Int) : Fits (reckon (tabOf Tryd.prog extY conN true) 300 6 [vP m c e s] [cmp false, cmp false, cmp false, cmp false, cmp false, cmp true, cmp true, cmp false]) (noM) [(decide (s > 0), false), (e == 0, true), (c == 5, true), (c == 4, false), (c == 3, false), (c == 2, false), (c == 1, false), (c == 0, false)] := by
  cases m <;> exact ⟨by kernel_rfl, by kernel_rfl, by kernel_rfl, by kernel_rfl⟩
theorem r5_4 (m : Bool) (c e s : Int) : Fits (reckon (tabOf Tryd.prog extY conN true) 300 6 [vP m c e s] [cmp false, cmp false, cmp false, cmp false, cmp false, cmp true, cmp true, cmp true, cmp false]) (noM) [(decide (s < 2251799813685248), false), (decide (s > 0), true), (e == 0, true), (c == 5, true), (c == 4, false), (c == 3, false), (c == 2, false), (c == 1, false), (c == 0, false)] := by
  cases m <;> exact ⟨by kernel_rfl, by kernel_rfl, by kernel_rfl, by kernel_rfl⟩
theorem r_no (m : Bool) (c e s : Int) : Fits (reckon (tabOf Tryd.prog extY conN true) 300 6 [vP m c e s] [cmp false, cmp false, cmp false, cmp false, cmp false, cmp false]) (noM) [(c == 5, false), (c == 4, false), (c == 3, false), (c == 2, false), (c == 1, false), (c == 0, false)] := by
  cases m <;> exact ⟨by kernel_rfl, by kernel_rfl, by kernel_rfl, by kernel_rfl⟩
end Go.Proofs.YtkpmljcpjeeioaaDoor
