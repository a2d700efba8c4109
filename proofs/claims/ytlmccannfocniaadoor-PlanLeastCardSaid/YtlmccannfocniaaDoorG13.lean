/-
  PlL, RowM, PlT
-/
import Derived.Test.YtlmccannfocniaaDoorG12
import Derived.Lib.LaidTab
import Derived.ChangeSame
import Derived.RowKit
import Derived.Lib.LaidU8
namespace Go.Proofs.YtlmccannfocniaaDoor
open Go.KRun Go.RowKit Go.Pl
set_option maxRecDepth 100000
theorem T6_ok : TabOk (tabH Tryd.prog extY conN hcLm) := tabH_ok conN_ok hcLm_ok
/-- the rest of the temporaries, whatever they are -/
theorem RunsW.refold {T : Tab} {c : Code} {P : Ex → Lf → Prop} {front J : List Value} {n : Nat} {h : Hp} {s : List Dec} (hJ : J.length = n) (hr : ∀ g, RunsW T c (front ++ tl n g, h, s) P) : RunsW T c (front ++ J, h, s) P := by
  obtain ⟨g, e⟩ := tl_of hJ
  rw [e]
  exact hr g
abbrev hB (N P : Int) (p : Option Addr) (n c : Nat) : List Value × TypeId := ([.int .i64 N, .slice p n c, .int .i64 P], 24)
def r6V : List Value := [.int .i64 2, .int .i64 3, .int .i64 5, .int .i64 7, .int .i64 11, .int .i64 13]
abbrev hL3 (K P : Int) : Hp := ⟨3, [(r6V, tIn), hB K P none 0 0, (rdV, rdT)]⟩
abbrev hL4 (K : Int) (l : List Value) (z : Nat) : Hp := ⟨3, [hB K 0 (some ⟨1, 0, none⟩) z grown, (l, tIn), (rdV, rdT)]⟩
def pl3 (F : Func) : Code := cSnd (cSnd (cSnd (cBody F)))
def pl5 (F : Func) : Code := cSnd (pl3 F)
def plA (F : Func) : Code := cThn (cSnd (cFst (pl5 F)))
def pl13 (F : Func) : Code := cSnd (pl5 F)
def qLp (F : Func) : Code := cIn (cIn (cSnd (cFst (plA F))))
def qR8 (F : Func) : Code := cFst (cIn (cFst (cSnd (cSnd (qLp F)))))
def qIn (F : Func) : Code := cIn (cIn (cSnd (cIn (cFst (cSnd (cSnd (qLp F)))))))
def rLp (F : Func) : Code := cIn (cIn (cSnd (cFst (cSnd (pl13 F)))))
def q0 (F : Func) : Code := cFst (cBody F)
def qq1 (F : Func) : Code := cFst (cSnd (cBody F))
def qq2 (F : Func) : Code := cFst (cSnd (cSnd (cBody F)))
def qq3 (F : Func) : Code := cFst (pl3 F)
def qq5 (F : Func) : Code := cFst (cFst (pl5 F))
def qq6 (F : Func) : Code := cFst (cFst (plA F))
def qq7 (F : Func) : Code := cFst (qLp F)
def qqc (F : Func) : Code := cFst (cSnd (qLp F))
def qq11 (F : Func) : Code := cSnd (cSnd (cSnd (qLp F)))
def qT (F : Func) : Code := cFst (qIn F)
def qQ (F : Func) : Code := cIn (cSnd (qIn F))
def qLoop (F : Func) : Code := .seq (qq7 F) (.seq (qqc F) (.seq (.block 1 (.seq (qR8 F) (.block 2 (.loop (.seq (qT F) (.block 3 (qQ F))))))) (qq11 F)))
def qA (F : Func) : Code := .seq (.seq (qq6 F) (.block 0 (.loop (qLoop F)))) (cSnd (plA F))
def rB (F : Func) : Code := cIn (cFst (cSnd (rLp F)))
def rLoop (F : Func) : Code := .seq (cFst (rLp F)) (.seq (.block 5 (rB F)) (cSnd (cSnd (rLp F))))
def rEnd (F : Func) : Code := .seq (cFst (pl13 F)) (.seq (.seq (cFst (cFst (cSnd (pl13 F)))) (.block 4 (.loop (rLoop F)))) (cSnd (cSnd (pl13 F))))
def lsAll (F : Func) : Code := .seq (q0 F) (.seq (qq1 F) (.seq (qq2 F) (.seq (qq3 F) (.seq (.seq (qq5 F) (.cond (.tmp 33) (qA F) .skip)) (rEnd F)))))
theorem ls_body : Tryd.f6.body = some (lsAll Tryd.f6) := by kernel_rfl
abbrev qF (n K i : Int) (j r : Value) (q : Nat → Value) : List Value := [.int .i64 n, undef, .bool false, .int .i64 K, .pointer (some ⟨1, 0, none⟩), .nilIface, j, r] ++ (tl 26 q ++ [.slice (some ⟨2, 0, none⟩) 6 6, .int .i64 6, .int .i64 i])
abbrev rF (n K m last twos i : Int) (p : Nat) (j1 j2 j12 : Value) : List Value := [.int .i64 n, undef, .bool false, .int .i64 K, .pointer (some ⟨p, 0, none⟩), .nilIface, j1, j2, .int .i64 m, .int .i64 last, .int .i64 twos, .int .i64 i, j12]
theorem q_0 (n : Int) : GoesT (evC (tabH Tryd.prog extY conN hcLm) 200 false (q0 Tryd.f6) ([.int .i64 n] ++ List.replicate 123 undef, hR0, []) ⟨[], [], []⟩) 3 121 none ([.int .i64 n, undef, .bool false]) hR0 [] := ⟨by kernel_rfl, by kernel_rfl, by kernel_rfl⟩
theorem q_1 (n : Int) (g : Nat → Value) : GoesT (evC (tabH Tryd.prog extY conN hcLm) 200 false (qq1 Tryd.f6) ([.int .i64 n, undef, .bool false] ++ tl 121 g, hR0, []) ⟨[], [], []⟩) 4 120 none ([.int .i64 n, undef, .bool false, .int .i64 (IntKind.i64.wrap (1 + IntKind.i64.wrap ((IntKind.u64.wrap n).tmod 16777216)))]) hR0 [] := ⟨by kernel_rfl, by kernel_rfl, by kernel_rfl⟩
theorem q_2c (n K : Int) (l : List Value) (g : Nat → Value) : GoesT (evC (tabH Tryd.prog extY conN hcLm) 200 false (qq2 Tryd.f6) ([.int .i64 n, undef, .bool false, .int .i64 K] ++ tl 120 g, hR0, [cmp false, cmp true, cmp true, val (.agg ⟨l⟩)]) ⟨[], [], []⟩) 6 118 none ([.int .i64 n, undef, .bool false, .int .i64 K, .pointer (some ⟨2, 0, none⟩), .nilIface]) (hL4 K l l.length) [(eqI19 l (plI K), true), (decide (plW K.toNat = 1), true), (okPl K true, true), (mkBad K, false)] := ⟨by kernel_rfl, by kernel_rfl, by kernel_rfl⟩
theorem q_2d (n K : Int) (g : Nat → Value) : GoesT (evC (tabH Tryd.prog extY conN hcLm) 200 false (qq2 Tryd.f6) ([.int .i64 n, undef, .bool false, .int .i64 K] ++ tl 120 g, hR0, [cmp false, cmp true, cmp false]) ⟨[], [], []⟩) 6 118 none ([.int .i64 n, undef, .bool false, .int .i64 K, .pointer (some ⟨1, 0, none⟩), .nilIface]) ⟨2, [hB K 0 none 0 0, (rdV, rdT)]⟩ [(decide (plW K.toNat = 1), true), (okPl K false, true), (mkBad K, false)] := ⟨by kernel_rfl, by kernel_rfl, by kernel_rfl⟩
theorem q_2e (n K P : Int) (g : Nat → Value) : GoesT (evC (tabH Tryd.prog extY conN hcLm) 200 false (qq2 Tryd.f6) ([.int .i64 n, undef, .bool false, .int .i64 K] ++ tl 120 g, hR0, [cmp false, cmp false, num P]) ⟨[], [], []⟩) 6 118 none ([.int .i64 n, undef, .bool false, .int .i64 K, .pointer (some ⟨1, 0, none⟩), .nilIface]) ⟨2, [hB K P none 0 0, (rdV, rdT)]⟩ [(decide (((padK K.toNat : Nat) : Int) = P), true), (decide (plW K.toNat = 1), false), (mkBad K, false)] := ⟨by kernel_rfl, by kernel_rfl, by kernel_rfl⟩
theorem q_3 (n K P : Int) (g : Nat → Value) : GoesT (evC (tabH Tryd.prog extY conN hcLm) 200 false (qq3 Tryd.f6) ([.int .i64 n, undef, .bool false, .int .i64 K, .pointer (some ⟨1, 0, none⟩), .nilIface] ++ tl 118 g, ⟨2, [hB K P none 0 0, (rdV, rdT)]⟩, [cmp false]) ⟨[], [], []⟩) 6 118 none ([.int .i64 n, undef, .bool false, .int .i64 K, .pointer (some ⟨1, 0, none⟩), .nilIface]) ⟨2, [hB K P none 0 0, (rdV, rdT)]⟩ [(K != K, false)] := ⟨by kernel_rfl, by kernel_rfl, by kernel_rfl⟩
theorem r_3 (n K : Int) (l : List Value) (z : Nat) (g : Nat → Value) : GoesT (evC (tabH Tryd.prog extY conN hcLm) 200 false (qq3 Tryd.f6) ([.int .i64 n, undef, .bool false, .int .i64 K, .pointer (some ⟨2, 0, none⟩), .nilIface] ++ tl 118 g, hL4 K l z, [cmp false]) ⟨[], [], []⟩) 6 118 none ([.int .i64 n, undef, .bool false, .int .i64 K, .pointer (some ⟨2, 0, none⟩), .nilIface]) (hL4 K l z) [(K != K, false)] := ⟨by kernel_rfl, by kernel_rfl, by kernel_rfl⟩
theorem q_5 (n K P : Int) (g : Nat → Value) : GoesT (evC (tabH Tryd.prog extY conN hcLm) 200 false (qq5 Tryd.f6) ([.int .i64 n, undef, .bool false, .int .i64 K, .pointer (some ⟨1, 0, none⟩), .nilIface] ++ tl 118 g, ⟨2, [hB K P none 0 0, (rdV, rdT)]⟩, [cmp true]) ⟨[], [], []⟩) 34 90 none ([.int .i64 n, undef, .bool false, .int .i64 K, .pointer (some ⟨1, 0, none⟩), .nilIface] ++ [g 0, g 1, g 2, g 3, g 4, g 5, g 6, g 7, g 8, g 9, g 10, g 11, g 12, g 13, g 14, g 15, g 16, g 17, g 18, g 19, g 20, g 21, g 22, g 23, g 24, .pointer (some ⟨1, 2, none⟩), .int .i64 P, .bool true]) ⟨2, [hB K P none 0 0, (rdV, rdT)]⟩ [(decide (P > 0), true)] := ⟨by kernel_rfl, by kernel_rfl, by kernel_rfl⟩
theorem r_5 (n K : Int) (l : List Value) (z : Nat) (g : Nat → Value) : GoesT (evC (tabH Tryd.prog extY conN hcLm) 200 false (.seq (qq5 Tryd.f6) (.cond (.tmp 33) (qA Tryd.f6) .skip)) ([.int .i64 n, undef, .bool false, .int .i64 K, .pointer (some ⟨2, 0, none⟩), .nilIface] ++ tl 118 g, hL4 K l z, [cmp false]) ⟨[], [], []⟩) 6 118 none ([.int .i64 n, undef, .bool false, .int .i64 K, .pointer (some ⟨2, 0, none⟩), .nilIface]) (hL4 K l z) [(false, false)] := ⟨by kernel_rfl, by kernel_rfl, by kernel_rfl⟩
theorem q_nil (n : Int) (g : Nat → Value) : GoesT (evC (tabH Tryd.prog extY conN hcLm) 200 false (.seq (qq3 Tryd.f6) (.seq (.seq (qq5 Tryd.f6) (.cond (.tmp 33) (qA Tryd.f6) .skip)) (rEnd Tryd.f6))) ([.int .i64 n, undef, .bool false, .int .i64 1, .pointer (some ⟨1, 0, none⟩), .nilIface] ++ tl 118 g, ⟨2, [hB 1 0 none 0 0, (rdV, rdT)]⟩, []) ⟨[], [], []⟩) 3 121 (some none) ([.int .i64 n, undef, .bool true]) ⟨2, [hB 1 0 none 0 0, (rdV, rdT)]⟩ [] := ⟨by kernel_rfl, by kernel_rfl, by kernel_rfl⟩
theorem q_6 (n K P : Int) (g : Nat → Value) : GoesT (evC (tabH Tryd.prog extY conN hcLm) 200 false (qq6 Tryd.f6) ([.int .i64 n, undef, .bool false, .int .i64 K, .pointer (some ⟨1, 0, none⟩), .nilIface] ++ tl 118 g, ⟨2, [hB K P none 0 0, (rdV, rdT)]⟩, []) ⟨[], [], []⟩) 37 87 none (qF n K 0 (g 0) (g 1) (fun i => g (i + 2))) (hL3 K P) [] := ⟨by kernel_rfl, by kernel_rfl, by kernel_rfl⟩
theorem q_7t (n K H P i : Int) (j r : Value) (q g : Nat → Value) : GoesT (evC (tabH Tryd.prog extY conN hcLm) 200 false (qq7 Tryd.f6) (qF n K i j r q ++ tl 87 g, hL3 H P, [cmp true]) ⟨[], [], []⟩) 38 86 none (qF n K i j r q ++ [.bool true]) (hL3 H P) [(decide (i < 6), true)] := ⟨by kernel_rfl, by kernel_rfl, by kernel_rfl⟩
theorem q_7f (n K H P i : Int) (j r : Value) (q g : Nat → Value) : GoesT (evC (tabH Tryd.prog extY conN hcLm) 200 false (qq7 Tryd.f6) (qF n K i j r q ++ tl 87 g, hL3 H P, [cmp false]) ⟨[], [], []⟩) 38 86 none (qF n K i j r q ++ [.bool false]) (hL3 H P) [(decide (i < 6), false)] := ⟨by kernel_rfl, by kernel_rfl, by kernel_rfl⟩
theorem q_ct (n K H P i : Int) (j r : Value) (q g : Nat → Value) : GoesT (evC (tabH Tryd.prog extY conN hcLm) 200 false (qqc Tryd.f6) (qF n K i j r q ++ [.bool true] ++ tl 86 g, hL3 H P, []) ⟨[], [], []⟩) 37 87 none (qF n K i j r q) (hL3 H P) [] := ⟨by kernel_rfl, by kernel_rfl, by kernel_rfl⟩
theorem q_cf (n K H P i : Int) (j r : Value) (q g : Nat → Value) : GoesT (evC (tabH Tryd.prog extY conN hcLm) 200 false (qqc Tryd.f6) (qF n K i j r q ++ [.bool false] ++ tl 86 g, hL3 H P, []) ⟨[], [], []⟩) 37 87 (some (some 0)) (qF n K i j r q) (hL3 H P) [] := ⟨by kernel_rfl, by kernel_rfl, by kernel_rfl⟩
theorem q_80 (n K H P : Int) (j r : Value) (q g : Nat → Value) : GoesT (evC (tabH Tryd.prog extY conN hcLm) 200 false (qR8 Tryd.f6) (qF n K 0 j r q ++ tl 87 g, hL3 H P, []) ⟨[], [], []⟩) 37 87 none (qF n K 0 j (.int .i64 2) q) (hL3 H P) [] := ⟨by kernel_rfl, by kernel_rfl, by kernel_rfl⟩
theorem q_81 (n K H P : Int) (j r : Value) (q g : Nat → Value) : GoesT (evC (tabH Tryd.prog extY conN hcLm) 200 false (qR8 Tryd.f6) (qF n K 1 j r q ++ tl 87 g, hL3 H P, []) ⟨[], [], []⟩) 37 87 none (qF n K 1 j (.int .i64 3) q) (hL3 H P) [] := ⟨by kernel_rfl, by kernel_rfl, by kernel_rfl⟩
theorem q_82 (n K H P : Int) (j r : Value) (q g : Nat → Value) : GoesT (evC (tabH Tryd.prog extY conN hcLm) 200 false (qR8 Tryd.f6) (qF n K 2 j r q ++ tl 87 g, hL3 H P, []) ⟨[], [], []⟩) 37 87 none (qF n K 2 j (.int .i64 5) q) (hL3 H P) [] := ⟨by kernel_rfl, by kernel_rfl, by kernel_rfl⟩
theorem q_83 (n K H P : Int) (j r : Value) (q g : Nat → Value) : GoesT (evC (tabH Tryd.prog extY conN hcLm) 200 false (qR8 Tryd.f6) (qF n K 3 j r q ++ tl 87 g, hL3 H P, []) ⟨[], [], []⟩) 37 87 none (qF n K 3 j (.int .i64 7) q) (hL3 H P) [] := ⟨by kernel_rfl, by kernel_rfl, by kernel_rfl⟩
theorem q_84 (n K H P : Int) (j r : Value) (q g : Nat → Value) : GoesT (evC (tabH Tryd.prog extY conN hcLm) 200 false (qR8 Tryd.f6) (qF n K 4 j r q ++ tl 87 g, hL3 H P, []) ⟨[], [], []⟩) 37 87 none (qF n K 4 j (.int .i64 11) q) (hL3 H P) [] := ⟨by kernel_rfl, by kernel_rfl, by kernel_rfl⟩
theorem q_85 (n K H P : Int) (j r : Value) (q g : Nat → Value) : GoesT (evC (tabH Tryd.prog extY conN hcLm) 200 false (qR8 Tryd.f6) (qF n K 5 j r q ++ tl 87 g, hL3 H P, []) ⟨[], [], []⟩) 37 87 none (qF n K 5 j (.int .i64 13) q) (hL3 H P) [] := ⟨by kernel_rfl, by kernel_rfl, by kernel_rfl⟩
theorem q_t (n K H P i r : Int) (j : Value) (q g : Nat → Value) : GoesT (evC (tabH Tryd.prog extY conN hcLm) 200 false (qT Tryd.f6) (qF n K i j (.int .i64 r) q ++ tl 87 g, hL3 H P, [cmp false, cmp true]) ⟨[], [], []⟩) 37 87 none (qF n K i j (.int .i64 r) q) (hL3 H P) [(K.tmod r == 0, true), (decide (r = 0), false)] := ⟨by kernel_rfl, by kernel_rfl, by kernel_rfl⟩
theorem q_o (n K H P i r : Int) (j : Value) (q g : Nat → Value) : GoesT (evC (tabH Tryd.prog extY conN hcLm) 200 false (qT Tryd.f6) (qF n K i j (.int .i64 r) q ++ tl 87 g, hL3 H P, [cmp false, cmp false]) ⟨[], [], []⟩) 37 87 (some (some 2)) (qF n K i j (.int .i64 r) q) (hL3 H P) [(K.tmod r == 0, false), (decide (r = 0), false)] := ⟨by kernel_rfl, by kernel_rfl, by kernel_rfl⟩
theorem q_q (n K H P i r Q : Int) (j : Value) (q g : Nat → Value) : GoesT (evC (tabH Tryd.prog extY conN hcLm) 200 false (qQ Tryd.f6) (qF n K i j (.int .i64 r) q ++ tl 87 g, hL3 H P, [num Q]) ⟨[], [], []⟩) 37 87 none (qF n Q i j (.int .i64 r) q) (hL3 H P) [(decide (r = 0), false), (decide (IntKind.i64.wrap (K.tdiv r) = Q), true)] := ⟨by kernel_rfl, by kernel_rfl, by kernel_rfl⟩
theorem q_11 (n K H P i : Int) (j r : Value) (q g : Nat → Value) : GoesT (evC (tabH Tryd.prog extY conN hcLm) 200 false (qq11 Tryd.f6) (qF n K i j r q ++ tl 87 g, hL3 H P, []) ⟨[], [], []⟩) 37 87 none (qF n K (IntKind.i64.wrap (i + 1)) j r q) (hL3 H P) [] := ⟨by kernel_rfl, by kernel_rfl, by kernel_rfl⟩
theorem q_e (n K H P i : Int) (j r : Value) (q g : Nat → Value) : GoesT (evC (tabH Tryd.prog extY conN hcLm) 200 false (cSnd (plA Tryd.f6)) (qF n K i j r q ++ tl 87 g, hL3 H P, [cmp true, cmp false]) ⟨[], [], []⟩) 3 121 (some none) [.int .i64 n, undef, .bool true] (hL3 H P) [(ckB H (IntKind.i64.wrap (P.tdiv 2)) [], false), (true, true), (decide (K > 13), true)] := ⟨by kernel_rfl, by kernel_rfl, by kernel_rfl⟩
def r6 : List Nat := [2, 3, 5, 7, 11, 13]
section
variable {r : Nat} (hr : 2 ≤ r) (n H P i : Int)
include hr in
theorem q_inner {m : Nat} (hm : 0 < m) (hL : m ≤ 67108864) (j : Value) (q g : Nat → Value) :
    RunsW (tabH Tryd.prog extY conN hcLm) (.block 2 (.loop (.seq (qT Tryd.f6) (.block 3 (qQ Tryd.f6))))) (qF n (m : Nat) i j (.int .i64 (r : Nat)) q ++ tl 87 g, hL3 H P, []) fun e y => match e with
      | none => (∃ j q g, y.1 = qF n (lefR r m : Nat) i j (.int .i64 (r : Nat)) q ++ tl 87 g) ∧ y.2.1 = hL3 H P | some none => False | some (some _) => False := by
  refine RunsW.forLoop (P := fun y => (∃ j q g, y.1 = qF n (lefR r m : Nat) i j (.int .i64 (r : Nat)) q ++ tl 87 g) ∧ y.2.1 = hL3 H P) (R := fun _ => False)
    (fun z y => 0 < z ∧ z ≤ 67108864 ∧ lefR r z = lefR r m ∧ (∃ j q g, y.1 = qF n (z : Nat) i j (.int .i64 (r : Nat)) q ++ tl 87 g) ∧ y.2.1 = hL3 H P) ?_ (n := m) ⟨hm, hL, rfl, ⟨j, q, g, rfl⟩, rfl⟩
  rintro z ⟨t, h', s⟩ ⟨hz, hK, e2, ⟨j, q, g, ht⟩, hh⟩
  simp only at ht hh
  subst ht hh
  have hr0 : decide ((r : Int) = 0) = false := decide_eq_false (by omega)
  by_cases hd : z % r = 0
  · obtain ⟨c1, c2⟩ := cut_go hr hz hd
    rw [c2] at e2
    have hq := div_pos' hz hd
    have hlt := Nat.div_lt_self hz hr
    refine RunsW.goes T6_ok (q_t n z H P i r j q g) (okTwo (by rw [tmod_nat]; exact decide_eq_true hd) (okOne hr0)) fun g => ?_
    refine (RunsW.block (P1 := fun e y => e = none ∧ (∃ g, y.1 = qF n (z / r : Nat) i j (.int .i64 (r : Nat)) q ++ tl 87 g) ∧ y.2.1 = hL3 H P) (P := fun e y => e = none ∧ (∃ g, y.1 = qF n (z / r : Nat) i j (.int .i64 (r : Nat)) q ++ tl 87 g) ∧ y.2.1 = hL3 H P) (goesT_runsW T6_ok (q_q n z H P i r ((z / r : Nat) : Int) j q g) (okTwo hr0 (okOne (decide_eq_true (tdiv_nat (by omega)))))) (fun y hy => hy) (fun y hy => by cases hy.1) (fun y hy => by cases hy.1) (fun id y _ hy => by cases hy.1)).mono fun e y hy => ?_
    obtain ⟨t, h', s'⟩ := y
    obtain ⟨rfl, ⟨g', y1⟩, y2⟩ := hy
    simp only at y1 y2
    subst y1 y2
    exact ⟨z / r, hlt, hq, by omega, e2, ⟨j, q, g', rfl⟩, rfl⟩
  · obtain ⟨c1, c2⟩ := cut_stop hd
    rw [c2] at e2
    refine RunsW.seq (P1 := fun e y => e = some (some 2) ∧ (∃ g', y.1 = qF n z i j (.int .i64 (r : Nat)) q ++ tl 87 g') ∧ y.2.1 = hL3 H P) (goesT_runsW T6_ok (q_o n z H P i r j q g) (okTwo (by rw [tmod_nat]; exact decide_eq_false hd) (okOne hr0))) (fun y hy => by cases hy.1) fun e y hy => ?_
    obtain ⟨he, ⟨g', y1⟩, y2⟩ := hy
    obtain rfl := Option.some.inj he
    exact ⟨rfl, ⟨j, q, g', by rw [y1, e2]⟩, y2⟩
end
def qI (n H P : Int) (k : Nat) (z : Nat) (y : Lf) : Prop := ∃ i : Nat, z = 6 - i ∧ i ≤ 6 ∧ ∃ m : Nat, 0 < m ∧ m ≤ 67108864 ∧ parW (r6.drop i) m = plW k ∧ (∃ j r q g, y.1 = qF n (m : Nat) (i : Nat) j r q ++ tl 87 g) ∧ y.2.1 = hL3 H P
theorem q_round {n H P : Int} {k i r : Nat} (hi : i < 6) (hr : 2 ≤ r) (hd : r6.drop i = r :: r6.drop (i + 1)) {m : Nat} (hm : 0 < m) (hL : m ≤ 67108864) (e2 : parW (r6.drop i) m = plW k) (j jr : Value) (q g : Nat → Value)
    (h3 : ∀ (K : Int) (j jr : Value) (q g : Nat → Value), GoesT (evC (tabH Tryd.prog extY conN hcLm) 200 false (qR8 Tryd.f6) (qF n K (i : Nat) j jr q ++ tl 87 g, hL3 H P, []) ⟨[], [], []⟩) 37 87 none (qF n K (i : Nat) j (.int .i64 (r : Nat)) q) (hL3 H P) []) :
    RunsW (tabH Tryd.prog extY conN hcLm) (.seq (.block 1 (.seq (qR8 Tryd.f6) (.block 2 (.loop (.seq (qT Tryd.f6) (.block 3 (qQ Tryd.f6))))))) (qq11 Tryd.f6)) (qF n (m : Nat) (i : Nat) j jr q ++ tl 87 g, hL3 H P, []) fun e y => e = none ∧ qI n H P k (6 - (i + 1)) y := by
  have hs := cut_size hr hm
  rw [hd] at e2
  refine RunsW.seq (P1 := fun e y => e = none ∧ (∃ j jr q g, y.1 = qF n (lefR r m : Nat) (i : Nat) j jr q ++ tl 87 g) ∧ y.2.1 = hL3 H P) ?_ ?_ (fun e y hy => by cases hy.1)
  · refine RunsW.block (P1 := fun e y => e = none ∧ (∃ j jr q g, y.1 = qF n (lefR r m : Nat) (i : Nat) j jr q ++ tl 87 g) ∧ y.2.1 = hL3 H P) ?_ (fun y hy => hy) (fun y hy => by cases hy.1) (fun y hy => by cases hy.1) (fun id y _ hy => by cases hy.1)
    refine RunsW.goes T6_ok (h3 m j jr q g) ok19 fun g => ?_
    refine (q_inner hr n H P (i : Nat) hm hL j q g).mono fun e y he => ?_
    match e, he with
    | none, ⟨⟨j, q, g, h1⟩, h2⟩ => exact ⟨rfl, ⟨j, _, q, g, h1⟩, h2⟩
  · rintro ⟨t, h', s⟩ ⟨_, ⟨j, jr, q, g, ht⟩, hh⟩
    simp only at ht hh
    subst ht hh
    have hwi : IntKind.i64.wrap ((i : Int) + 1) = ((i + 1 : Nat) : Int) := by rw [wrapI (by omega) (by omega)]; omega
    have hG := q_11 n (lefR r m : Nat) H P (i : Nat) j jr q g
    rw [hwi] at hG
    exact RunsW.ends T6_ok hG ok19 fun g s' => ⟨rfl, i + 1, rfl, hi, lefR r m, lef_pos hr hm, by omega, e2, ⟨j, jr, q, g, rfl⟩, rfl⟩
/-- what a run of the law ends in -/
def okY : Lf → Prop := fun y => resS Tryd.prog Tryd.f6 y.1 y.2.1 = some (.bool true)
theorem q_all {k : Nat} (h0 : 2 ≤ k) (h1 : k ≤ 16777216) (hw : 13 < plW k) (n : Int) (g : Nat → Value) : RunsW (tabH Tryd.prog extY conN hcLm) (qA Tryd.f6) ([.int .i64 n, undef, .bool false, .int .i64 (k : Nat), .pointer (some ⟨1, 0, none⟩), .nilIface] ++ tl 118 g, ⟨2, [hB (k : Nat) (padK k : Nat) none 0 0, (rdV, rdT)]⟩, []) fun e y => e = some none ∧ okY y := by
  refine RunsW.seq (RunsW.goes T6_ok (q_6 n (k : Nat) (padK k : Nat) g) ok19 fun g2 => RunsW.forLoop (P := fun y => qI n (k : Nat) (padK k : Nat) k 0 y) (R := fun _ => False) (qI n (k : Nat) (padK k : Nat) k) ?_ (n := 6) ⟨0, rfl, by omega, k, by omega, by omega, plW_six (by omega), ⟨_, _, _, g2, rfl⟩, rfl⟩) ?_ ?_
  · rintro z ⟨t, h', s⟩ ⟨i, rfl, hi, m, hm, hL, e2, ⟨j, r, q, g, ht⟩, hh⟩
    simp only at ht hh
    subst ht hh
    by_cases h7 : i = 6
    · subst h7
      refine RunsW.goes T6_ok (q_7f n m (k : Nat) (padK k : Nat) (6 : Nat) j r q g) (okOne (by decide)) fun g => ?_
      refine RunsW.seq (P1 := fun e y => e = some (some 0) ∧ qI n (k : Nat) (padK k : Nat) k 0 y) (RunsW.ends T6_ok (q_cf n m (k : Nat) (padK k : Nat) (6 : Nat) j r q g) ok19 fun g s' => ⟨rfl, 6, rfl, by omega, m, hm, hL, e2, ⟨j, r, q, g, rfl⟩, rfl⟩) (fun y hy => by cases hy.1) fun e y hy => ?_
      obtain ⟨he, hy⟩ := hy
      obtain rfl := Option.some.inj he
      exact ⟨rfl, hy⟩
    · have hlt : i < 6 := by omega
      refine RunsW.goes T6_ok (q_7t n m (k : Nat) (padK k : Nat) (i : Nat) j r q g) (okOne (decide_eq_true (by omega))) fun g => ?_
      refine RunsW.goes T6_ok (q_ct n m (k : Nat) (padK k : Nat) (i : Nat) j r q g) ok19 fun g => ?_
      have key : RunsW (tabH Tryd.prog extY conN hcLm) (.seq (.block 1 (.seq (qR8 Tryd.f6) (.block 2 (.loop (.seq (qT Tryd.f6) (.block 3 (qQ Tryd.f6))))))) (qq11 Tryd.f6)) (qF n (m : Nat) (i : Nat) j r q ++ tl 87 g, hL3 (k : Nat) (padK k : Nat), []) fun e y => e = none ∧ qI n (k : Nat) (padK k : Nat) k (6 - (i + 1)) y := by
        rcases (show i = 0 ∨ i = 1 ∨ i = 2 ∨ i = 3 ∨ i = 4 ∨ i = 5 by omega) with rfl | rfl | rfl | rfl | rfl | rfl
        · exact q_round (r := 2) hlt (by decide) rfl hm hL e2 j r q g fun K j jr q g => q_80 n K (k : Nat) (padK k : Nat) j jr q g
        · exact q_round (r := 3) hlt (by decide) rfl hm hL e2 j r q g fun K j jr q g => q_81 n K (k : Nat) (padK k : Nat) j jr q g
        · exact q_round (r := 5) hlt (by decide) rfl hm hL e2 j r q g fun K j jr q g => q_82 n K (k : Nat) (padK k : Nat) j jr q g
        · exact q_round (r := 7) hlt (by decide) rfl hm hL e2 j r q g fun K j jr q g => q_83 n K (k : Nat) (padK k : Nat) j jr q g
        · exact q_round (r := 11) hlt (by decide) rfl hm hL e2 j r q g fun K j jr q g => q_84 n K (k : Nat) (padK k : Nat) j jr q g
        · exact q_round (r := 13) hlt (by decide) rfl hm hL e2 j r q g fun K j jr q g => q_85 n K (k : Nat) (padK k : Nat) j jr q g
      refine key.mono fun e y he => ?_
      obtain ⟨rfl, he⟩ := he
      exact ⟨6 - (i + 1), by omega, he⟩
  · rintro ⟨t, h', s⟩ ⟨i, hz, hi, m, hm, hL, e2, ⟨j, r, q, g, ht⟩, hh⟩
    have h7 : i = 6 := by omega
    subst h7
    simp only at ht hh
    subst ht hh
    have em : m = plW k := e2
    have hh : IntKind.i64.wrap (((padK k : Nat) : Int).tdiv 2) = ((padK k / 2 : Nat) : Int) := tdiv_nat (r := 2) (padK_spec h0 h1).2.2.1
    exact RunsW.ends T6_ok (q_e n m (k : Nat) (padK k : Nat) (6 : Nat) j r q g) (okTwo (by rw [hh]; exact ckB_half h0 h1) (okTwo rfl (okOne (decide_eq_true (by omega))))) fun g s' => ⟨rfl, rfl⟩
  · intro e y he
    match e, he with
    | none, he => exact absurd he (by simp)
/-! ### the order -/
theorem r_13 (n K : Int) (h : Hp) (g : Nat → Value) : GoesT (evC (tabH Tryd.prog extY conN hcLm) 200 false (cFst (pl13 Tryd.f6)) ([.int .i64 n, undef, .bool false, .int .i64 K, .pointer (some ⟨2, 0, none⟩), .nilIface] ++ tl 118 g, h, []) ⟨[], [], []⟩) 11 113 none ([.int .i64 n, undef, .bool false, .int .i64 K, .pointer (some ⟨2, 0, none⟩), .nilIface, g 0, g 1, .int .i64 1, .int .i64 0, .int .i64 0]) h [] := ⟨by kernel_rfl, by kernel_rfl, by kernel_rfl⟩
theorem r_14 (n K : Int) (j1 j2 : Value) (h : Hp) (g : Nat → Value) : GoesT (evC (tabH Tryd.prog extY conN hcLm) 200 false (cFst (cFst (cSnd (pl13 Tryd.f6)))) ([.int .i64 n, undef, .bool false, .int .i64 K, .pointer (some ⟨2, 0, none⟩), .nilIface, j1, j2, .int .i64 1, .int .i64 0, .int .i64 0] ++ tl 113 g, h, []) ⟨[], [], []⟩) 13 111 none (rF n K 1 0 0 0 2 j1 j2 (g 1)) h [] := ⟨by kernel_rfl, by kernel_rfl, by kernel_rfl⟩
theorem r_ct (n K m last twos i : Int) (l : List Value) (z : Nat) (j1 j2 j12 : Value) (g : Nat → Value) : GoesT (evC (tabH Tryd.prog extY conN hcLm) 200 false (cFst (rLp Tryd.f6)) (rF n K m last twos i 2 j1 j2 j12 ++ tl 111 g, hL4 K l z, [cmp true]) ⟨[], [], []⟩) 13 111 none (rF n K m last twos i 2 j1 j2 j12) (hL4 K l z) [(decide (i < z), true)] := ⟨by kernel_rfl, by kernel_rfl, by kernel_rfl⟩
theorem r_cf (n K m last twos i : Int) (l : List Value) (z : Nat) (j1 j2 j12 : Value) (g : Nat → Value) : GoesT (evC (tabH Tryd.prog extY conN hcLm) 200 false (cFst (rLp Tryd.f6)) (rF n K m last twos i 2 j1 j2 j12 ++ tl 111 g, hL4 K l z, [cmp false]) ⟨[], [], []⟩) 13 111 (some (some 4)) (rF n K m last twos i 2 j1 j2 j12) (hL4 K l z) [(decide (i < z), false)] := ⟨by kernel_rfl, by kernel_rfl, by kernel_rfl⟩
theorem r_16 (n K m last twos i : Int) (l : List Value) (z : Nat) (j1 j2 j12 : Value) (g : Nat → Value) : GoesT (evC (tabH Tryd.prog extY conN hcLm) 200 false (cSnd (cSnd (rLp Tryd.f6))) (rF n K m last twos i 2 j1 j2 j12 ++ tl 111 g, hL4 K l z, []) ⟨[], [], []⟩) 13 111 none (rF n K m last twos (IntKind.i64.wrap (i + 1)) 2 j1 j2 j12) (hL4 K l z) [] := ⟨by kernel_rfl, by kernel_rfl, by kernel_rfl⟩
theorem r_24 (n K m last twos i : Int) (l : List Value) (z : Nat) (j1 j2 j12 : Value) (g : Nat → Value) : GoesT (evC (tabH Tryd.prog extY conN hcLm) 200 false (cSnd (cSnd (pl13 Tryd.f6))) (rF n K m last twos i 2 j1 j2 j12 ++ tl 111 g, hL4 K l z, [cmp true, cmp true]) ⟨[], [], []⟩) 3 121 (some none) [.int .i64 n, undef, .bool true] (hL4 K l z) [(decide (twos ≤ 1), true), (m == K, true)] := ⟨by kernel_rfl, by kernel_rfl, by kernel_rfl⟩
theorem r_b4a (n K m last twos i r : Int) (l : List Value) (z : Nat) (j1 j2 j12 : Value) (g : Nat → Value) : GoesT (evC (tabH Tryd.prog extY conN hcLm) 200 false (rB Tryd.f6) (rF n K m last twos i 2 j1 j2 j12 ++ tl 111 g, hL4 K l z, [at_, val (.int .i64 r), cmp false, cmp true, cmp false, cmp false, cmp true, cmp false]) ⟨[], [], []⟩) 13 111 none (rF n K (IntKind.i64.wrap (m * r)) r twos i 2 j1 j2 (.int .i64 r)) (hL4 K l z) [(last != 0, false), (r == 4, true), (r != 4, false), (decide (last > 4), false), (r == 4, true), (r == 2, false), (cellIs (l[0 + i.toNat * 1]?) (.int .i64 r), true), (decide (0 ≤ i ∧ i < z), true)] := ⟨by kernel_rfl, by kernel_rfl, by kernel_rfl⟩
theorem r_b4b (n K m last twos i r : Int) (l : List Value) (z : Nat) (j1 j2 j12 : Value) (g : Nat → Value) : GoesT (evC (tabH Tryd.prog extY conN hcLm) 200 false (rB Tryd.f6) (rF n K m last twos i 2 j1 j2 j12 ++ tl 111 g, hL4 K l z, [at_, val (.int .i64 r), cmp false, cmp true, cmp false, cmp false, cmp true, cmp true, cmp false]) ⟨[], [], []⟩) 13 111 none (rF n K (IntKind.i64.wrap (m * r)) r twos i 2 j1 j2 (.int .i64 r)) (hL4 K l z) [(last != 4, false), (last != 0, true), (r == 4, true), (r != 4, false), (decide (last > 4), false), (r == 4, true), (r == 2, false), (cellIs (l[0 + i.toNat * 1]?) (.int .i64 r), true), (decide (0 ≤ i ∧ i < z), true)] := ⟨by kernel_rfl, by kernel_rfl, by kernel_rfl⟩
theorem r_bna (n K m last twos i r : Int) (l : List Value) (z : Nat) (j1 j2 j12 : Value) (g : Nat → Value) : GoesT (evC (tabH Tryd.prog extY conN hcLm) 200 false (rB Tryd.f6) (rF n K m last twos i 2 j1 j2 j12 ++ tl 111 g, hL4 K l z, [at_, val (.int .i64 r), cmp false, cmp false, cmp true, cmp false, cmp false]) ⟨[], [], []⟩) 13 111 none (rF n K (IntKind.i64.wrap (m * r)) r twos i 2 j1 j2 (.int .i64 r)) (hL4 K l z) [(r == 4, false), (last != 4, false), (r != 4, true), (r == 4, false), (r == 2, false), (cellIs (l[0 + i.toNat * 1]?) (.int .i64 r), true), (decide (0 ≤ i ∧ i < z), true)] := ⟨by kernel_rfl, by kernel_rfl, by kernel_rfl⟩
theorem r_bnb (n K m last twos i r : Int) (l : List Value) (z : Nat) (j1 j2 j12 : Value) (g : Nat → Value) : GoesT (evC (tabH Tryd.prog extY conN hcLm) 200 false (rB Tryd.f6) (rF n K m last twos i 2 j1 j2 j12 ++ tl 111 g, hL4 K l z, [at_, val (.int .i64 r), cmp false, cmp false, cmp true, cmp true, cmp false, cmp false]) ⟨[], [], []⟩) 13 111 none (rF n K (IntKind.i64.wrap (m * r)) r twos i 2 j1 j2 (.int .i64 r)) (hL4 K l z) [(r == 4, false), (decide (r < last), false), (last != 4, true), (r != 4, true), (r == 4, false), (r == 2, false), (cellIs (l[0 + i.toNat * 1]?) (.int .i64 r), true), (decide (0 ≤ i ∧ i < z), true)] := ⟨by kernel_rfl, by kernel_rfl, by kernel_rfl⟩
theorem r_b2a (n K m last twos i r : Int) (l : List Value) (z : Nat) (j1 j2 j12 : Value) (g : Nat → Value) : GoesT (evC (tabH Tryd.prog extY conN hcLm) 200 false (rB Tryd.f6) (rF n K m last twos i 2 j1 j2 j12 ++ tl 111 g, hL4 K l z, [at_, val (.int .i64 r), cmp true, cmp false, cmp true, cmp false, cmp false]) ⟨[], [], []⟩) 13 111 none (rF n K (IntKind.i64.wrap (m * r)) r (IntKind.i64.wrap (twos + 1)) i 2 j1 j2 (.int .i64 r)) (hL4 K l z) [(r == 4, false), (last != 4, false), (r != 4, true), (r == 4, false), (r == 2, true), (cellIs (l[0 + i.toNat * 1]?) (.int .i64 r), true), (decide (0 ≤ i ∧ i < z), true)] := ⟨by kernel_rfl, by kernel_rfl, by kernel_rfl⟩
theorem r_b2b (n K m last twos i r : Int) (l : List Value) (z : Nat) (j1 j2 j12 : Value) (g : Nat → Value) : GoesT (evC (tabH Tryd.prog extY conN hcLm) 200 false (rB Tryd.f6) (rF n K m last twos i 2 j1 j2 j12 ++ tl 111 g, hL4 K l z, [at_, val (.int .i64 r), cmp true, cmp false, cmp true, cmp true, cmp false, cmp false]) ⟨[], [], []⟩) 13 111 none (rF n K (IntKind.i64.wrap (m * r)) r (IntKind.i64.wrap (twos + 1)) i 2 j1 j2 (.int .i64 r)) (hL4 K l z) [(r == 4, false), (decide (r < last), false), (last != 4, true), (r != 4, true), (r == 4, false), (r == 2, true), (cellIs (l[0 + i.toNat * 1]?) (.int .i64 r), true), (decide (0 ≤ i ∧ i < z), true)] := ⟨by kernel_rfl, by kernel_rfl, by kernel_rfl⟩
theorem r_body {last r : Nat} (hb : badR last r = false) (n K m i : Int) (t : Nat) (ht : t ≤ 67108864) (l : List Value) (z : Nat) (hc : l[0 + i.toNat * 1]? = some (.int .i64 (r : Nat))) (hi : 0 ≤ i ∧ i < z) (j1 j2 j12 : Value) (g : Nat → Value) :
    RunsW (tabH Tryd.prog extY conN hcLm) (rB Tryd.f6) (rF n K m (last : Nat) (t : Nat) i 2 j1 j2 j12 ++ tl 111 g, hL4 K l z, []) fun e y => e = none ∧ (∃ g, y.1 = rF n K (IntKind.i64.wrap (m * (r : Nat))) (r : Nat) ((t + if r = 2 then 1 else 0 : Nat) : Int) i 2 j1 j2 (.int .i64 (r : Nat)) ++ tl 111 g) ∧ y.2.1 = hL4 K l z := by
  have c1 := cellIs_of hc
  have c2 : decide (0 ≤ i ∧ i < (z : Int)) = true := decide_eq_true hi
  have tw : IntKind.i64.wrap ((t : Int) + 1) = ((t + 1 : Nat) : Int) := by rw [wrapI (by omega) (by omega)]; omega
  unfold badR at hb
  by_cases h4 : r = 4
  · subst h4
    have hb' : ¬ 4 < last ∧ (last = 0 ∨ last = 4) := by
      simp at hb
      omega
    have a2 : (((4 : Nat) : Int) == 2) = false := by decide
    have a4 : (((4 : Nat) : Int) == 4) = true := by decide
    have a5 : (((4 : Nat) : Int) != 4) = false := by decide
    have a6 : decide ((last : Int) > 4) = false := decide_eq_false (by omega)
    by_cases hl : last = 0
    · subst hl
      exact goesT_runsW T6_ok (r_b4a n K m (0 : Nat) (t : Nat) i (4 : Nat) l z j1 j2 j12 g) (okTwo (by decide) (okTwo a4 (okTwo a5 (okTwo a6 (okTwo a4 (okTwo a2 (okTwo c1 (okOne c2))))))))
    · have hl4 : last = 4 := by omega
      subst hl4
      exact goesT_runsW T6_ok (r_b4b n K m (4 : Nat) (t : Nat) i (4 : Nat) l z j1 j2 j12 g) (okTwo (by decide) (okTwo (by decide) (okTwo a4 (okTwo a5 (okTwo a6 (okTwo a4 (okTwo a2 (okTwo c1 (okOne c2)))))))))
  · have a4 : ((r : Int) == 4) = false := beq_eq_false_iff_ne.2 (by omega)
    have a5 : ((r : Int) != 4) = true := bne_iff_ne.2 (by omega)
    have hb' : last = 4 ∨ (last ≠ 4 ∧ ¬ r < last) := by
      simp [h4] at hb
      omega
    by_cases h2 : r = 2
    · subst h2
      have a2 : (((2 : Nat) : Int) == 2) = true := by decide
      rcases hb' with rfl | ⟨h5, h6⟩
      · have hG := r_b2a n K m (4 : Nat) (t : Nat) i (2 : Nat) l z j1 j2 j12 g
        rw [tw] at hG
        exact goesT_runsW T6_ok hG (okTwo a4 (okTwo (by decide) (okTwo a5 (okTwo a4 (okTwo a2 (okTwo c1 (okOne c2)))))))
      · have hG := r_b2b n K m (last : Nat) (t : Nat) i (2 : Nat) l z j1 j2 j12 g
        rw [tw] at hG
        exact goesT_runsW T6_ok hG (okTwo a4 (okTwo (decide_eq_false (by omega)) (okTwo (bne_iff_ne.2 (by omega)) (okTwo a5 (okTwo a4 (okTwo a2 (okTwo c1 (okOne c2))))))))
    · have a2 : ((r : Int) == 2) = false := beq_eq_false_iff_ne.2 (by omega)
      rw [if_neg h2, Nat.add_zero]
      rcases hb' with rfl | ⟨h5, h6⟩
      · exact goesT_runsW T6_ok (r_bna n K m (4 : Nat) (t : Nat) i (r : Nat) l z j1 j2 j12 g) (okTwo a4 (okTwo (by decide) (okTwo a5 (okTwo a4 (okTwo a2 (okTwo c1 (okOne c2)))))))
      · exact goesT_runsW T6_ok (r_bnb n K m (last : Nat) (t : Nat) i (r : Nat) l z j1 j2 j12 g) (okTwo a4 (okTwo (decide_eq_false (by omega)) (okTwo (bne_iff_ne.2 (by omega)) (okTwo a5 (okTwo a4 (okTwo a2 (okTwo c1 (okOne c2))))))))
theorem r_all {k : Nat} (h0 : 0 < k) (h1 : k ≤ 16777216) (hw : plW k = 1) (n : Int) (g : Nat → Value) : RunsW (tabH Tryd.prog extY conN hcLm) (rEnd Tryd.f6) ([.int .i64 n, undef, .bool false, .int .i64 (k : Nat), .pointer (some ⟨2, 0, none⟩), .nilIface] ++ tl 118 g, hL4 (k : Nat) (wN (plL k)) (plL k).length, []) fun e y => e = some none ∧ okY y := by
  have hprod := pl_prod h0
  rw [hw, Nat.mul_one] at hprod
  have hlen := pl_len h0
  refine RunsW.goes T6_ok (r_13 n (k : Nat) _ g) ok19 fun g => ?_
  refine RunsW.seq (RunsW.goes T6_ok (r_14 n (k : Nat) _ _ _ g) ok19 fun g => RunsW.forLoop (P := fun y => (∃ last j1 j2 j12 i g, y.1 = rF n (k : Nat) (k : Nat) last (twoN (plL k) : Nat) i 2 j1 j2 j12 ++ tl 111 g) ∧ y.2.1 = hL4 (k : Nat) (wN (plL k)) (plL k).length) (R := fun _ => False)
    (fun z y => ∃ (done rest : List Nat) (last : Nat), z = rest.length ∧ done ++ rest = plL k ∧ ordL last rest = true ∧ (∃ j1 j2 j12 g, y.1 = rF n (k : Nat) (prodN done : Nat) (last : Nat) (twoN done : Nat) (done.length : Nat) 2 j1 j2 j12 ++ tl 111 g) ∧ y.2.1 = hL4 (k : Nat) (wN (plL k)) (plL k).length) ?_ (n := (plL k).length) ⟨[], plL k, 0, rfl, rfl, pl_ord h0, ⟨_, _, _, g, rfl⟩, rfl⟩) ?_ ?_
  · rintro z ⟨t, h', s⟩ ⟨done, rest, last, rfl, hd, ho, ⟨j1, j2, j12, g, ht⟩, hh⟩
    simp only at ht hh
    subst ht hh
    have hl : (plL k).length = done.length + rest.length := by rw [← hd, List.length_append]
    cases rest with
    | nil =>
      refine RunsW.seq (P1 := fun e y => e = some (some 4) ∧ (∃ last j1 j2 j12 i g, y.1 = rF n (k : Nat) (k : Nat) last (twoN (plL k) : Nat) i 2 j1 j2 j12 ++ tl 111 g) ∧ y.2.1 = hL4 (k : Nat) (wN (plL k)) (plL k).length) (RunsW.ends T6_ok (r_cf n (k : Nat) (prodN done : Nat) (last : Nat) (twoN done : Nat) (done.length : Nat) (wN (plL k)) (plL k).length j1 j2 j12 g) (okOne (decide_eq_false (by rw [hl]; simp))) fun g s' => ⟨rfl, ⟨last, j1, j2, j12, done.length, g, ?_⟩, rfl⟩) (fun y hy => by cases hy.1) fun e y hy => ?_
      · rw [List.append_nil] at hd
        rw [hd, hprod]
      · obtain ⟨he, hy⟩ := hy
        obtain rfl := Option.some.inj he
        exact ⟨rfl, hy⟩
    | cons r rest =>
      rw [List.length_cons] at hl
      have ho' : badR last r = false ∧ ordL r rest = true := by
        have : (!badR last r && ordL r rest) = true := ho
        rw [Bool.and_eq_true] at this
        exact ⟨by simpa using this.1, this.2⟩
      have hpr : prodN done * r * prodN rest = k := by
        have := prodN_app done (r :: rest)
        rw [hd, hprod] at this
        rw [this]
        show _ = prodN done * (r * prodN rest)
        rw [Nat.mul_assoc]
      have hle : prodN done * r ≤ k := by
        rcases Nat.eq_zero_or_pos (prodN rest) with e | e
        · rw [e, Nat.mul_zero] at hpr; omega
        · have := Nat.le_mul_of_pos_right (prodN done * r) e
          omega
      have hcell : (wN (plL k))[0 + ((done.length : Nat) : Int).toNat * 1]? = some (.int .i64 (r : Nat)) := by
        rw [Int.toNat_natCast, Nat.mul_one, Nat.zero_add, ← hd]
        unfold wN
        rw [List.getElem?_map, List.getElem?_append_right (Nat.le_refl _), Nat.sub_self]
        rfl
      have htw : twoN done ≤ 67108864 := by
        have := List.count_le_length (a := 2) (l := done)
        unfold twoN
        omega
      refine RunsW.goes T6_ok (r_ct n (k : Nat) (prodN done : Nat) (last : Nat) (twoN done : Nat) (done.length : Nat) (wN (plL k)) (plL k).length j1 j2 j12 g) (okOne (decide_eq_true (by rw [hl]; omega))) fun g => ?_
      have hwm : IntKind.i64.wrap (((prodN done : Nat) : Int) * ((r : Nat) : Int)) = ((prodN (done ++ [r]) : Nat) : Int) := by
        have e : prodN (done ++ [r]) = prodN done * r := by rw [prodN_app]; show prodN done * (r * 1) = _; rw [Nat.mul_one]
        rw [e, show ((prodN done : Nat) : Int) * ((r : Nat) : Int) = ((prodN done * r : Nat) : Int) from by simp, wrapI (by omega) (by omega)]
      have htn : twoN done + (if r = 2 then 1 else 0) = twoN (done ++ [r]) := by
        unfold twoN
        rw [List.count_append, List.count_singleton]
        by_cases h : r = 2 <;> simp [h]
      have hwi : IntKind.i64.wrap (((done.length : Nat) : Int) + 1) = (((done ++ [r]).length : Nat) : Int) := by rw [wrapI (by omega) (by omega), List.length_append, List.length_singleton]; omega
      have hb := r_body ho'.1 n (k : Nat) (prodN done : Nat) (done.length : Nat) (twoN done) htw (wN (plL k)) (plL k).length hcell ⟨by omega, by omega⟩ j1 j2 j12 g
      rw [hwm, htn] at hb
      refine RunsW.seq (P1 := fun e y => e = none ∧ (∃ g, y.1 = rF n (k : Nat) (prodN (done ++ [r]) : Nat) (r : Nat) (twoN (done ++ [r]) : Nat) (done.length : Nat) 2 j1 j2 (.int .i64 (r : Nat)) ++ tl 111 g) ∧ y.2.1 = hL4 (k : Nat) (wN (plL k)) (plL k).length) (RunsW.block (P1 := fun e y => e = none ∧ (∃ g, y.1 = rF n (k : Nat) (prodN (done ++ [r]) : Nat) (r : Nat) (twoN (done ++ [r]) : Nat) (done.length : Nat) 2 j1 j2 (.int .i64 (r : Nat)) ++ tl 111 g) ∧ y.2.1 = hL4 (k : Nat) (wN (plL k)) (plL k).length) hb (fun y hy => hy) (fun y hy => by cases hy.1) (fun y hy => by cases hy.1) (fun id y _ hy => by cases hy.1)) ?_ (fun e y hy => by cases hy.1)
      rintro ⟨t, h', s⟩ ⟨_, ⟨g, ht⟩, hh⟩
      simp only at ht hh
      subst ht hh
      have hG := r_16 n (k : Nat) (prodN (done ++ [r]) : Nat) (r : Nat) (twoN (done ++ [r]) : Nat) (done.length : Nat) (wN (plL k)) (plL k).length j1 j2 (.int .i64 (r : Nat)) g
      rw [hwi] at hG
      exact RunsW.ends T6_ok hG ok19 fun g s' => ⟨rest.length, by simp, done ++ [r], rest, r, rfl, by rw [List.append_assoc]; exact hd, ho'.2, ⟨j1, j2, _, g, rfl⟩, rfl⟩
  · rintro ⟨t, h', s⟩ ⟨⟨last, j1, j2, j12, i, g, ht⟩, hh⟩
    simp only at ht hh
    subst ht hh
    exact RunsW.ends T6_ok (r_24 n (k : Nat) (k : Nat) last (twoN (plL k) : Nat) i (wN (plL k)) (plL k).length j1 j2 j12 g) (okTwo (decide_eq_true (by have := pl_two h0; omega)) (okOne (by simp))) fun g s' => ⟨rfl, rfl⟩
  · intro e y he
    match e, he with
    | none, he => exact absurd he (by simp)
theorem least_k (n : Int) : ∃ k : Nat, IntKind.i64.wrap (1 + IntKind.i64.wrap ((IntKind.u64.wrap n).tmod 16777216)) = (k : Int) ∧ 0 < k ∧ k ≤ 16777216 := by
  have h1 : 0 ≤ IntKind.u64.wrap n ∧ IntKind.u64.wrap n < 18446744073709551616 := by
    simp [IntKind.wrap, IntKind.bits, IntKind.signed]
    omega
  have h2 : (IntKind.u64.wrap n).tmod 16777216 = (IntKind.u64.wrap n) % 16777216 := Int.tmod_eq_emod_of_nonneg h1.1
  rw [h2]
  generalize IntKind.u64.wrap n = u at *
  have h3 : 0 ≤ u % 16777216 ∧ u % 16777216 < 16777216 := ⟨Int.emod_nonneg _ (by decide), Int.emod_lt_of_pos _ (by decide)⟩
  generalize u % 16777216 = v at *
  rw [wrapI (n := v) (by omega) (by omega), wrapI (by omega) (by omega)]
  exact ⟨(1 + v).toNat, by omega, by omega, by omega⟩
theorem ls_runs (n : Int) : RunsW (tabH Tryd.prog extY conN hcLm) (lsAll Tryd.f6) ([.int .i64 n] ++ List.replicate (Tryd.f6.ntmps - [Value.int .i64 n].length) undef, hR0, []) fun e y => (e = none ∨ e = some none) ∧ resS Tryd.prog Tryd.f6 y.1 y.2.1 = some (.bool true) := by
  obtain ⟨k, ek, k0, k1⟩ := least_k n
  have et : ((k : Int)).toNat = k := Int.toNat_natCast k
  have b : mkBad (k : Int) = false := decide_eq_false (by omega)
  have ok1 : decide (0 < (k : Int) ∧ (k : Int) ≤ 67108864) = true := decide_eq_true (by omega)
  have kne : ((k : Int) != (k : Int)) = false := by simp
  refine RunsW.goes T6_ok (q_0 n) ok19 fun g => ?_
  have hG := q_1 n g
  rw [ek] at hG
  refine RunsW.goes T6_ok hG ok19 fun g => ?_
  by_cases hw : plW k = 1
  · have w1 : decide (plW ((k : Int)).toNat = 1) = true := by rw [et]; exact decide_eq_true hw
    cases hp : (plL k).isEmpty with
    | true =>
      have o1 : okPl (k : Int) false = true := by unfold okPl; rw [ok1, et]; simpa using hp
      have e0 : plL k = [] := by simpa using hp
      have e1 : k = 1 := by
        have := pl_prod k0
        rw [hw, e0] at this
        simpa [prodN] using this.symm
      refine RunsW.goes T6_ok (q_2d n (k : Nat) g) (okTwo w1 (okTwo o1 (okOne b))) fun g => ?_
      subst e1
      exact RunsW.ends T6_ok (q_nil n g) ok19 fun g s' => ⟨.inr rfl, rfl⟩
    | false =>
      have o1 : okPl (k : Int) true = true := by unfold okPl; rw [ok1, et]; simpa using hp
      refine RunsW.goes T6_ok (q_2c n (k : Nat) (wN (plL k)) g) (okTwo (eqI_wN k) (okTwo w1 (okTwo o1 (okOne b)))) fun g => ?_
      rw [wN_len]
      refine RunsW.goes T6_ok (r_3 n (k : Nat) (wN (plL k)) (plL k).length g) (okOne kne) fun g => RunsW.goes T6_ok (r_5 n (k : Nat) (wN (plL k)) (plL k).length g) (okOne rfl) fun g => ?_
      exact (r_all k0 k1 hw n g).mono fun e y hy => ⟨.inr hy.1, hy.2⟩
  · have w1 : decide (plW ((k : Int)).toNat = 1) = false := by rw [et]; exact decide_eq_false hw
    have hgt : 13 < plW k := by
      rcases Nat.lt_or_ge 13 (plW k) with h | h
      · exact h
      · exact absurd (plW_one k0 (by omega)) hw
    have hle : plW k ≤ k := by
      have := pl_prod k0
      exact Nat.le_of_dvd k0 ⟨prodN (plL k), by rw [Nat.mul_comm]; exact this.symm⟩
    have hp : decide (((padK ((k : Int)).toNat : Nat) : Int) = ((padK k : Nat) : Int)) = true := by rw [et]; exact decide_eq_true rfl
    have hpos : decide (((padK k : Nat) : Int) > 0) = true := decide_eq_true (by have := (padK_spec (k := k) (by omega) k1).2.1; omega)
    refine RunsW.goes T6_ok (q_2e n (k : Nat) (padK k : Nat) g) (okTwo hp (okTwo w1 (okOne b))) fun g => RunsW.goes T6_ok (q_3 n (k : Nat) (padK k : Nat) g) (okOne kne) fun g => ?_
    refine RunsW.seq (P1 := fun e y => e = some none ∧ okY y) ?_ (fun y hy => by cases hy.1) (fun e y hy => ⟨.inr hy.1, hy.2⟩)
    refine RunsW.goes T6_ok (q_5 n (k : Nat) (padK k : Nat) g) (okOne hpos) fun g2 => ?_
    have h3 : RunsW (tabH Tryd.prog extY conN hcLm) (qA Tryd.f6) ((([.int .i64 n, undef, .bool false, .int .i64 (k : Nat), .pointer (some ⟨1, 0, none⟩), .nilIface] ++ [g 0, g 1, g 2, g 3, g 4, g 5, g 6, g 7, g 8, g 9, g 10, g 11, g 12, g 13, g 14, g 15, g 16, g 17, g 18, g 19, g 20, g 21, g 22, g 23, g 24, .pointer (some ⟨1, 2, none⟩), .int .i64 (padK k : Nat), .bool true]) ++ tl 90 g2), ⟨2, [hB (k : Nat) (padK k : Nat) none 0 0, (rdV, rdT)]⟩, []) fun e y => e = some none ∧ okY y := by
      rw [List.append_assoc]
      exact RunsW.refold (by simp [tl_len]) fun g3 => q_all (by omega) k1 hgt n g3
    exact RunsW.cond true (by rfl) (by rfl) h3
theorem least_walk (n : Int) (w : World) (hr : knR w) : Calls Tryd.prog 6 #[.int .i64 n] w fun e w' => e = .returned (.bool true) ∧ Tidy w w' :=
  calls_of_startW (T := (tabH Tryd.prog extY conN hcLm)) Tryd.func6 ls_body (vals := [.int .i64 n]) (fun v hv => by rw [List.mem_singleton.1 hv]; rfl) (v := .bool true) (by rfl) (ls_runs n) (startR hr)
end Go.Proofs.YtlmccannfocniaaDoor
namespace Go.Proofs.YtlmccannfocniaaDoor
open Go.KRun Go.RowKit Go.ChangeShapes
set_option maxRecDepth 100000
theorem post_none {H : Type} {enc : TypeId × Value → H} {P : Program} {f : Func} {s : ChangeSpec} {apart fresh handsOn again : Bool} {W W' : World} {args : Array Value} {v : Value} {ds gs : List (DataW H)}
    (hW : DataW.Whole enc P f.params.toList s.vars apart W args.toList ds gs [])
    (hres : ∀ (b : Nat) (sp : Nat → Bool) (hd : Bool), DataW.TrodAll enc P W' b sp hd f.resultTypes.toList (v.resultList f.resultTypes.size) (s.fn H (ds ++ gs)).results [])
    (hargs : ∀ sp : Nat → Bool, DataW.TrodAll enc P W' 0 sp true f.params.toList args.toList (s.fn H (ds ++ gs)).args [])
    (hvars : ∀ sp : Nat → Bool, DataW.TrodVars enc P W' sp s.vars (s.fn H (ds ++ gs)).vars [])
    (hk : W.keptBut W' (· ∈ ([] : List MemPlace)))
    (hok : ∀ (j : Nat) (t : TypeId) (r : Value), f.resultTypes[j]? = some t → (v.resultList f.resultTypes.size)[j]? = some r → Value.okWide P W' .any 0 t r) :
    s.post enc P f apart fresh handsOn again W args v W' := by
  refine ⟨ds, gs, [], [], [], [], hW, hres _ _ _, hargs _, hvars _, World.keptBut_mono (fun p hp => absurd hp List.not_mem_nil) hk, fun _ => ?_⟩
  obtain ⟨_, _, _, _, _, _, hn⟩ := hW
  refine ⟨hok, _, _, ([] ++ []) ++ [], ⟨[] ++ [], [], trodAll_append (hargs _) (hres _ _ _), hvars _, rfl, ?_, ?_⟩, ?_⟩
  · intro b off hp
    exact absurd hp List.not_mem_nil
  · intro ha
    exact hn ha
  · intro p hp _
    exact absurd hp List.not_mem_nil
theorem laidV {P : Program} {w : World} : ∀ {l : List (String × DataW Unit)} {ps : List MemPlace}, DataW.LaidVars P w l ps → ∀ {n : String} {d : DataW Unit}, (n, d) ∈ l → ∃ g t cs fuel p, P.globalNamed n = some g ∧ (P.globals[g]?).map (·.type) = some t ∧ w.var? P n = some cs ∧ DataW.trod (fun _ => ()) P w 0 (fun _ => true) false fuel t cs.toList = some (d, p)
  | [], _, _, _, _, hm => absurd hm List.not_mem_nil
  | (n', d') :: r, ps, h, n, d, hm => by
    obtain ⟨g, t, cs, fuel, p, q, h1, h2, h3, h4, h5, _⟩ := h
    rcases List.mem_cons.1 hm with e | e
    · cases e
      exact ⟨g, t, cs, fuel, p, h1, h2, h3, h4⟩
    · exact laidV h5 e
end Go.Proofs.YtlmccannfocniaaDoor
namespace Go.Proofs.YtlmccannfocniaaDoor
open Go.KRun Go.RowKit Go.ChangeShapes Go.Lib
set_option maxRecDepth 100000
theorem trod_len {H : Type} {enc : TypeId × Value → H} {P : Program} {w : World} {base : Nat} {sp : Nat → Bool} {held : Bool} {fuel : Nat} {t e : TypeId} {n : Nat} {cs : List Value} {d : DataW H} {p : List MemPlace} (ht : P.underlying t = some (.array n e)) (h : DataW.trod enc P w base sp held fuel t cs = some (d, p)) : cs.length = P.cellsOf t := by
  cases fuel with
  | zero => simp [DataW.trod] at h
  | succ fuel =>
    simp only [DataW.trod, ht] at h
    split at h
    · assumption
    · cases h
def rdD : DataW Unit := .agg [.agg ([4, 12].map fun z => .lit (.int .i64 z)), .agg ([2, 8].map fun z => .lit (.int .i64 z)), .agg ([3, 33].map fun z => .lit (.int .i64 z)), .agg ([5, 65].map fun z => .lit (.int .i64 z)), .agg ([7, 105].map fun z => .lit (.int .i64 z)), .agg ([11, 209].map fun z => .lit (.int .i64 z)), .agg ([13, 273].map fun z => .lit (.int .i64 z))]
theorem knR_laid {l : List (String × DataW Unit)} {W : World} (h : laidMet Tryd.prog l W) {n : String} {d : DataW Unit} (hm : (n, d) ∈ l) (hn : Tryd.prog.globalNamed n = some 0) (hd : d = rdD) : knR W := by
  obtain ⟨ps, hl, _⟩ := h
  obtain ⟨g, t, cs, fuel, p, h1, h2, h3, h4⟩ := laidV hl hm
  obtain rfl := Option.some.inj (hn.symm.trans h1)
  have ht : (Tryd.prog.globals[0]?).map (·.type) = some 65 := by kernel_rfl
  obtain rfl := Option.some.inj (ht.symm.trans h2)
  rw [hd] at h4
  have c1 : Tryd.prog.cellsOf 64 = 2 := by kernel_rfl
  have hlen := trod_len Tryd.underlying65 h4
  rw [show Tryd.prog.cellsOf 65 = 14 from by kernel_rfl] at hlen
  have el : ∀ (i : Nat) (a b : Int), i < 7 → ([DataW.agg ([4, 12].map fun z => .lit (.int .i64 z)), .agg ([2, 8].map fun z => .lit (.int .i64 z)), .agg ([3, 33].map fun z => .lit (.int .i64 z)), .agg ([5, 65].map fun z => .lit (.int .i64 z)), .agg ([7, 105].map fun z => .lit (.int .i64 z)), .agg ([11, 209].map fun z => .lit (.int .i64 z)), .agg ([13, 273].map fun z => .lit (.int .i64 z))] : List (DataW Unit))[i]? = some (.agg ([a, b].map fun z => .lit (.int .i64 z))) → ((cs.toList.drop (i * 2)).take 2) = [.int .i64 a, .int .i64 b] := by
    intro i a b hi hab
    obtain ⟨fuel', d', q, hd', htr⟩ := array_elem Tryd.underlying65 h4 i hi
    rw [hab] at hd'
    obtain rfl := Option.some.inj hd'
    rw [c1] at htr
    exact ints_of_struct Tryd.underlying64 (fun i f hf => by
      match i, hf with
      | 0, hf => cases hf; exact ⟨by kernel_rfl, rfl, by kernel_rfl⟩
      | 1, hf => cases hf; exact ⟨by kernel_rfl, rfl, by kernel_rfl⟩
      | i + 2, hf => simp at hf) (by kernel_rfl) htr
  have hcs : cs.toList = rdV := by
    have e0 := el 0 4 12 (by decide) rfl
    have e1 := el 1 2 8 (by decide) rfl
    have e2 := el 2 3 33 (by decide) rfl
    have e3 := el 3 5 65 (by decide) rfl
    have e4 := el 4 7 105 (by decide) rfl
    have e5 := el 5 11 209 (by decide) rfl
    have e6 := el 6 13 273 (by decide) rfl
    generalize cs.toList = l at *
    clear el h4 h3
    match l, hlen with
    | [x0, x1, x2, x3, x4, x5, x6, x7, x8, x9, x10, x11, x12, x13], _ =>
      simp only [Nat.zero_mul, List.drop_zero, List.take_succ_cons, List.take_zero, List.cons.injEq, and_true, Nat.one_mul, List.drop_succ_cons, Nat.reduceMul] at e0 e1 e2 e3 e4 e5 e6
      obtain ⟨rfl, rfl⟩ := e0
      obtain ⟨rfl, rfl⟩ := e1
      obtain ⟨rfl, rfl⟩ := e2
      obtain ⟨rfl, rfl⟩ := e3
      obtain ⟨rfl, rfl⟩ := e4
      obtain ⟨rfl, rfl⟩ := e5
      obtain ⟨rfl, rfl⟩ := e6
      rfl
  unfold World.var? at h3
  rw [hn] at h3
  simp only [Option.bind_some] at h3
  split at h3
  · rename_i c e z hb
    cases h3
    refine ⟨e, z, ?_⟩
    rw [hb]
    congr 2
    apply Array.toList_inj.1
    rw [hcs]
  · cases h3
end Go.Proofs.YtlmccannfocniaaDoor
