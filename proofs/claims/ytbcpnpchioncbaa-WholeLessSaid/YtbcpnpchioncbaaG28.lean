/-
  The pieces of wide.DivMod: a divisor of three or four words.
-/
import Derived.Test.YtbcpnpchioncbaaG25
import Derived.Test.YtbcpnpchioncbaaG27
namespace Go.Proofs.Ytbcpnpchioncbaa
open Go.KRun Go.Wd
set_option maxRecDepth 100000

theorem rd_300 (v0 v1 v14 v15 : Value) (up d0 d1 d2 d3 r0 r1 r2 r3 r4 q0 q1 q2 q3 : Int) (a b lw : W4) (g : Nat → Value) : Rd (tabOf Try.prog extY conQW true) Try.f67 3 0 0 v0 v1 v14 v15 up d0 d1 d2 d3 r0 r1 r2 r3 r4 q0 q1 q2 q3 a b lw g := ⟨by kernel_rfl, by kernel_rfl, by kernel_rfl⟩
theorem rd_301 (v0 v1 v14 v15 : Value) (up d0 d1 d2 d3 r0 r1 r2 r3 r4 q0 q1 q2 q3 : Int) (a b lw : W4) (g : Nat → Value) : Rd (tabOf Try.prog extY conQW true) Try.f67 3 0 1 v0 v1 v14 v15 up d0 d1 d2 d3 r0 r1 r2 r3 r4 q0 q1 q2 q3 a b lw g := ⟨by kernel_rfl, by kernel_rfl, by kernel_rfl⟩
theorem rd_302 (v0 v1 v14 v15 : Value) (up d0 d1 d2 d3 r0 r1 r2 r3 r4 q0 q1 q2 q3 : Int) (a b lw : W4) (g : Nat → Value) : Rd (tabOf Try.prog extY conQW true) Try.f67 3 0 2 v0 v1 v14 v15 up d0 d1 d2 d3 r0 r1 r2 r3 r4 q0 q1 q2 q3 a b lw g := ⟨by kernel_rfl, by kernel_rfl, by kernel_rfl⟩
theorem rd_310 (v0 v1 v14 v15 : Value) (up d0 d1 d2 d3 r0 r1 r2 r3 r4 q0 q1 q2 q3 : Int) (a b lw : W4) (g : Nat → Value) : Rd (tabOf Try.prog extY conQW true) Try.f67 3 1 0 v0 v1 v14 v15 up d0 d1 d2 d3 r0 r1 r2 r3 r4 q0 q1 q2 q3 a b lw g := ⟨by kernel_rfl, by kernel_rfl, by kernel_rfl⟩
theorem rd_311 (v0 v1 v14 v15 : Value) (up d0 d1 d2 d3 r0 r1 r2 r3 r4 q0 q1 q2 q3 : Int) (a b lw : W4) (g : Nat → Value) : Rd (tabOf Try.prog extY conQW true) Try.f67 3 1 1 v0 v1 v14 v15 up d0 d1 d2 d3 r0 r1 r2 r3 r4 q0 q1 q2 q3 a b lw g := ⟨by kernel_rfl, by kernel_rfl, by kernel_rfl⟩
theorem rd_312 (v0 v1 v14 v15 : Value) (up d0 d1 d2 d3 r0 r1 r2 r3 r4 q0 q1 q2 q3 : Int) (a b lw : W4) (g : Nat → Value) : Rd (tabOf Try.prog extY conQW true) Try.f67 3 1 2 v0 v1 v14 v15 up d0 d1 d2 d3 r0 r1 r2 r3 r4 q0 q1 q2 q3 a b lw g := ⟨by kernel_rfl, by kernel_rfl, by kernel_rfl⟩
theorem rd_400 (v0 v1 v14 v15 : Value) (up d0 d1 d2 d3 r0 r1 r2 r3 r4 q0 q1 q2 q3 : Int) (a b lw : W4) (g : Nat → Value) : Rd (tabOf Try.prog extY conQW true) Try.f67 4 0 0 v0 v1 v14 v15 up d0 d1 d2 d3 r0 r1 r2 r3 r4 q0 q1 q2 q3 a b lw g := ⟨by kernel_rfl, by kernel_rfl, by kernel_rfl⟩
theorem rd_401 (v0 v1 v14 v15 : Value) (up d0 d1 d2 d3 r0 r1 r2 r3 r4 q0 q1 q2 q3 : Int) (a b lw : W4) (g : Nat → Value) : Rd (tabOf Try.prog extY conQW true) Try.f67 4 0 1 v0 v1 v14 v15 up d0 d1 d2 d3 r0 r1 r2 r3 r4 q0 q1 q2 q3 a b lw g := ⟨by kernel_rfl, by kernel_rfl, by kernel_rfl⟩
theorem rd_402 (v0 v1 v14 v15 : Value) (up d0 d1 d2 d3 r0 r1 r2 r3 r4 q0 q1 q2 q3 : Int) (a b lw : W4) (g : Nat → Value) : Rd (tabOf Try.prog extY conQW true) Try.f67 4 0 2 v0 v1 v14 v15 up d0 d1 d2 d3 r0 r1 r2 r3 r4 q0 q1 q2 q3 a b lw g := ⟨by kernel_rfl, by kernel_rfl, by kernel_rfl⟩
end Go.Proofs.Ytbcpnpchioncbaa

/-
  The pieces of wide.DivMod, III: what stands ahead of the digits and behind them.
-/
namespace Go.Proofs.Ytbcpnpchioncbaa
open Go.KRun Go.Wd
set_option maxRecDepth 100000

theorem rd_all {n i c : Nat} (hn : 1 ≤ n) (hi : n + i ≤ 4) (hc : c < 3) {ds rs qs : List Int} (ld : ds.length = 4) (lr : rs.length = 5) (lq : qs.length = 4) (v0 v1 v14 v15 : Value) (up : Int) (a b lw : W4) (g : Nat → Value) :
    GoesT (evC (tabOf Try.prog extY conQW true) 500 false (qLoop Try.f67) (qFr v0 v1 n up i v14 v15 ++ tl 70 g, qHp a b lw ds rs qs, tkS n c) ⟨[], [], []⟩) 16 70 none (qFr v0 v1 n up (IntKind.i64.wrap ((i : Int) - 1)) v14 v15)
      (qHp a b lw ds (rs.take i ++ (tkO n c (ds.take n) ((rs.drop i).take (n + 1)) ++ rs.drop (i + n + 1))) (qs.set i (tkD n c (ds.take n) ((rs.drop i).take (n + 1))))) (tkG n c (ds.take n) ((rs.drop i).take (n + 1))) := by
  match ds, ld, rs, lr, qs, lq with
  | [d0, d1, d2, d3], _, [r0, r1, r2, r3, r4], _, [q0, q1, q2, q3], _ =>
    have hn' : n = 1 ∨ n = 2 ∨ n = 3 ∨ n = 4 := by omega
    have hc' : c = 0 ∨ c = 1 ∨ c = 2 := by omega
    rcases hn' with rfl | rfl | rfl | rfl
    · have hi' : i = 0 ∨ i = 1 ∨ i = 2 ∨ i = 3 := by omega
      rcases hi' with rfl | rfl | rfl | rfl
      · rcases hc' with rfl | rfl | rfl
        · exact rd_100 v0 v1 v14 v15 up d0 d1 d2 d3 r0 r1 r2 r3 r4 q0 q1 q2 q3 a b lw g
        · exact rd_101 v0 v1 v14 v15 up d0 d1 d2 d3 r0 r1 r2 r3 r4 q0 q1 q2 q3 a b lw g
        · exact rd_102 v0 v1 v14 v15 up d0 d1 d2 d3 r0 r1 r2 r3 r4 q0 q1 q2 q3 a b lw g
      · rcases hc' with rfl | rfl | rfl
        · exact rd_110 v0 v1 v14 v15 up d0 d1 d2 d3 r0 r1 r2 r3 r4 q0 q1 q2 q3 a b lw g
        · exact rd_111 v0 v1 v14 v15 up d0 d1 d2 d3 r0 r1 r2 r3 r4 q0 q1 q2 q3 a b lw g
        · exact rd_112 v0 v1 v14 v15 up d0 d1 d2 d3 r0 r1 r2 r3 r4 q0 q1 q2 q3 a b lw g
      · rcases hc' with rfl | rfl | rfl
        · exact rd_120 v0 v1 v14 v15 up d0 d1 d2 d3 r0 r1 r2 r3 r4 q0 q1 q2 q3 a b lw g
        · exact rd_121 v0 v1 v14 v15 up d0 d1 d2 d3 r0 r1 r2 r3 r4 q0 q1 q2 q3 a b lw g
        · exact rd_122 v0 v1 v14 v15 up d0 d1 d2 d3 r0 r1 r2 r3 r4 q0 q1 q2 q3 a b lw g
      · rcases hc' with rfl | rfl | rfl
        · exact rd_130 v0 v1 v14 v15 up d0 d1 d2 d3 r0 r1 r2 r3 r4 q0 q1 q2 q3 a b lw g
        · exact rd_131 v0 v1 v14 v15 up d0 d1 d2 d3 r0 r1 r2 r3 r4 q0 q1 q2 q3 a b lw g
        · exact rd_132 v0 v1 v14 v15 up d0 d1 d2 d3 r0 r1 r2 r3 r4 q0 q1 q2 q3 a b lw g
    · have hi' : i = 0 ∨ i = 1 ∨ i = 2 := by omega
      rcases hi' with rfl | rfl | rfl
      · rcases hc' with rfl | rfl | rfl
        · exact rd_200 v0 v1 v14 v15 up d0 d1 d2 d3 r0 r1 r2 r3 r4 q0 q1 q2 q3 a b lw g
        · exact rd_201 v0 v1 v14 v15 up d0 d1 d2 d3 r0 r1 r2 r3 r4 q0 q1 q2 q3 a b lw g
        · exact rd_202 v0 v1 v14 v15 up d0 d1 d2 d3 r0 r1 r2 r3 r4 q0 q1 q2 q3 a b lw g
      · rcases hc' with rfl | rfl | rfl
        · exact rd_210 v0 v1 v14 v15 up d0 d1 d2 d3 r0 r1 r2 r3 r4 q0 q1 q2 q3 a b lw g
        · exact rd_211 v0 v1 v14 v15 up d0 d1 d2 d3 r0 r1 r2 r3 r4 q0 q1 q2 q3 a b lw g
        · exact rd_212 v0 v1 v14 v15 up d0 d1 d2 d3 r0 r1 r2 r3 r4 q0 q1 q2 q3 a b lw g
      · rcases hc' with rfl | rfl | rfl
        · exact rd_220 v0 v1 v14 v15 up d0 d1 d2 d3 r0 r1 r2 r3 r4 q0 q1 q2 q3 a b lw g
        · exact rd_221 v0 v1 v14 v15 up d0 d1 d2 d3 r0 r1 r2 r3 r4 q0 q1 q2 q3 a b lw g
        · exact rd_222 v0 v1 v14 v15 up d0 d1 d2 d3 r0 r1 r2 r3 r4 q0 q1 q2 q3 a b lw g
    · have hi' : i = 0 ∨ i = 1 := by omega
      rcases hi' with rfl | rfl
      · rcases hc' with rfl | rfl | rfl
        · exact rd_300 v0 v1 v14 v15 up d0 d1 d2 d3 r0 r1 r2 r3 r4 q0 q1 q2 q3 a b lw g
        · exact rd_301 v0 v1 v14 v15 up d0 d1 d2 d3 r0 r1 r2 r3 r4 q0 q1 q2 q3 a b lw g
        · exact rd_302 v0 v1 v14 v15 up d0 d1 d2 d3 r0 r1 r2 r3 r4 q0 q1 q2 q3 a b lw g
      · rcases hc' with rfl | rfl | rfl
        · exact rd_310 v0 v1 v14 v15 up d0 d1 d2 d3 r0 r1 r2 r3 r4 q0 q1 q2 q3 a b lw g
        · exact rd_311 v0 v1 v14 v15 up d0 d1 d2 d3 r0 r1 r2 r3 r4 q0 q1 q2 q3 a b lw g
        · exact rd_312 v0 v1 v14 v15 up d0 d1 d2 d3 r0 r1 r2 r3 r4 q0 q1 q2 q3 a b lw g
    · have hi' : i = 0 := by omega
      subst hi'
      rcases hc' with rfl | rfl | rfl
      · exact rd_400 v0 v1 v14 v15 up d0 d1 d2 d3 r0 r1 r2 r3 r4 q0 q1 q2 q3 a b lw g
      · exact rd_401 v0 v1 v14 v15 up d0 d1 d2 d3 r0 r1 r2 r3 r4 q0 q1 q2 q3 a b lw g
      · exact rd_402 v0 v1 v14 v15 up d0 d1 d2 d3 r0 r1 r2 r3 r4 q0 q1 q2 q3 a b lw g
theorem quo_out (v0 v1 v14 v15 : Value) (n up : Int) (h : Hp) (g : Nat → Value) : GoesE (evC (tabOf Try.prog extY conQW true) 300 false (qLoop Try.f67) (qFr v0 v1 n up (-1) v14 v15 ++ tl 70 g, h, [cmp false]) ⟨[], [], []⟩) 16 70 (some (some 0))
    (qFr v0 v1 n up (-1) v14 v15) h [(decide ((-1 : Int) ≥ 0), false)] := by unfold GoesE; kernel_rfl
theorem quo_r (v0 v1 v13 v14 v15 : Value) (n up : Int) (h : Hp) (g : Nat → Value) : GoesE (evC (tabOf Try.prog extY conQW true) 300 false (qRW Try.f67) ([v0, v1, t_ 0, t_ 1, t_ 2, t_ 3, .nilIface, .int .i64 n, .int .i64 up, t_ 4, t_ 5, t_ 6, t_ 7, v13, v14, v15] ++ tl 70 g, h, []) ⟨[], [], []⟩) 16 70 none
    (qFr v0 v1 n up (IntKind.i64.wrap (4 - n)) v14 v15) h [] := by unfold GoesE; kernel_rfl
def upI (b : W4) (n : Int) : Int := IntKind.i64.wrap (IntKind.i64.wrap (n * 64) - lenI b)
def topI (a : W4) (up : Int) : Int := a.d.fdiv (2 ^ min ((IntKind.u64.wrap (IntKind.i64.wrap (64 - up))).toNat) 64)
def szI (b : W4) : Int := IntKind.i64.wrap (IntKind.i64.wrap (lenI b + 64) - 1)
def l4 (x : W4) : List Int := [x.a, x.b, x.c, x.d]
def l5 (x : W4) (t : Int) : List Int := [x.a, x.b, x.c, x.d, t]
def okQ (x : W4) : Bool × Bool := (decide x.ok, true)
theorem quo_pre (a b : W4) (n : Int) : GoesE (evL (tabOf Try.prog extY conQW true) 500 (qPre Try.f67) ([vW a, vW b] ++ List.replicate 84 undef, ⟨0, []⟩, [sam false, num n]) ⟨[], [], []⟩) 16 70 none
    [vW a, vW b, t_ 0, t_ 1, t_ 2, t_ 3, .nilIface, .int .i64 n, .int .i64 (upI b n), t_ 4, t_ 5, t_ 6, t_ 7, undef, undef, undef]
    (qHp a b (shlW a (upI b n)) (l4 (shlW b (upI b n))) (l5 (shlW a (upI b n)) (topI a (upI b n))) [0, 0, 0, 0])
    [(decide (IntKind.u64.wrap (IntKind.i64.wrap (64 - upI b n)) < 0), false), lk a (upI b n), lk b (upI b n), okQ b, (decide ((64 : Int) = 0), false), (decide (IntKind.i64.wrap ((szI b).tdiv 64) = n), true), okQ b, (eqW b ⟨0, 0, 0, 0⟩, false)] := by unfold GoesE; kernel_rfl
theorem quo_end (v0 v1 v14 v15 : Value) (n up i : Int) (a b lw : W4) (ds : List Int) (r0 r1 r2 r3 r4 : Int) (q : W4) (g : Nat → Value) :
    GoesT (evC (tabOf Try.prog extY conQW true) 500 false (qEnd Try.f67) (qFr v0 v1 n up i v14 v15 ++ tl 70 g, qHp a b lw ds [r0, r1, r2, r3, r4] (l4 q), []) ⟨[], [], []⟩) 7 79 (some none)
      [v0, v1, t_ 0, t_ 1, t_ 2, t_ 3, .nilIface] ⟨9, [cW (shrW ⟨r0, r1, r2, r3⟩ up), (vQ (l4 q), 42), (vQ [r0, r1, r2, r3, r4], 112), cW lw, (vQ ds, 42), cW (shrW ⟨r0, r1, r2, r3⟩ up), cW q, cW b, cW a]⟩ [lk ⟨r0, r1, r2, r3⟩ up] := ⟨by kernel_rfl, by kernel_rfl, by kernel_rfl⟩
end Go.Proofs.Ytbcpnpchioncbaa
