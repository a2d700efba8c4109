/-
  FlX, FlU, FlY
-/
import Derived.Test.YtjkgnbdeklploaaGreatDoorG32
import Derived.Test.YtjkgnbdeklploaaGreatDoorG33
namespace Go.Proofs.YtjkgnbdeklploaaGreatDoor
open Go.KRun Go.Wd Go.RowKit Go.Pt
set_option maxRecDepth 100000
def lSv (l : List Value) (o n : Nat) (i a b : Int) : Log := [(true && cellsIs ((l.drop (o + i.toNat * 2)).take 2) [.int .u64 a, .int .u64 b], true), (decide (0 ≤ i ∧ i < n), true), (decide (i < n), true)]
theorem sd_ntt (o n c : Nat) (i a b : Int) (l : List Value) (g : Nat → Value) : GoesT (evC (tabOf Tryz.prog extY conN true) 100 false (fLoop Tryz.f16) ([sl 0 o n c, undef, nilS, nilS, .int .i64 i] ++ tl 32 g, ⟨1, [(l, tPr)]⟩, [cmp true, at_, val (.agg #[.int .u64 a, .int .u64 b]), cmp true, cmp true]) ⟨[], [], []⟩) 5 32 none [sl 0 o n c, undef, nilS, .slice (some ⟨3, 0, none⟩) 1 (dead + 2), .int .i64 (IntKind.i64.wrap (i + 1))] ⟨4, [([.int .u64 (IntKind.u64.wrap (a + 1351079888211148800)), .int .u64 (IntKind.u64.wrap (b + 1351079888211148800))], tp7), ([.int .u64 (IntKind.u64.wrap (a + 1351079888211148800)), .int .u64 (IntKind.u64.wrap (b + 1351079888211148800))], tp7), ([.int .u64 (IntKind.u64.wrap (a + 1351079888211148800)), .int .u64 (IntKind.u64.wrap (b + 1351079888211148800))], tp7), (l, tPr)]⟩ ([(bNot b 9223372036854775808 != 0, true), (bNot a 9223372036854775808 != 0, true)] ++ lSv l o n i a b) := ⟨by kernel_rfl, by kernel_rfl, by kernel_rfl⟩
theorem sd_stt (o n c k : Nat) (i a b : Int) (l lo : List Value) (g : Nat → Value) : GoesT (evC (tabOf Tryz.prog extY conN true) 100 false (fLoop Tryz.f16) ([sl 0 o n c, undef, nilS, sl 1 0 k (dead + 2), .int .i64 i] ++ tl 32 g, ⟨2, [(lo, tp7), (l, tPr)]⟩, [cmp true, at_, val (.agg #[.int .u64 a, .int .u64 b]), cmp true, cmp true, at_, at_]) ⟨[], [], []⟩) 5 32 none [sl 0 o n c, undef, nilS, .slice (some ⟨4, 0, none⟩) (k + 1) (dead + 2), .int .i64 (IntKind.i64.wrap (i + 1))] ⟨5, [(lo ++ [.int .u64 (IntKind.u64.wrap (a + 1351079888211148800)), .int .u64 (IntKind.u64.wrap (b + 1351079888211148800))], tp7), ([.int .u64 (IntKind.u64.wrap (a + 1351079888211148800)), .int .u64 (IntKind.u64.wrap (b + 1351079888211148800))], tp7), ([.int .u64 (IntKind.u64.wrap (a + 1351079888211148800)), .int .u64 (IntKind.u64.wrap (b + 1351079888211148800))], tp7), ([], 2 * dead), (l, tPr)]⟩ (lAp k lo (IntKind.u64.wrap (a + 1351079888211148800)) (IntKind.u64.wrap (b + 1351079888211148800)) :: (true, true) :: ([(bNot b 9223372036854775808 != 0, true), (bNot a 9223372036854775808 != 0, true)] ++ lSv l o n i a b)) := ⟨by kernel_rfl, by kernel_rfl, by kernel_rfl⟩
theorem sd_ntf (o n c : Nat) (i a b : Int) (l : List Value) (g : Nat → Value) : GoesT (evC (tabOf Tryz.prog extY conN true) 100 false (fLoop Tryz.f16) ([sl 0 o n c, undef, nilS, nilS, .int .i64 i] ++ tl 32 g, ⟨1, [(l, tPr)]⟩, [cmp true, at_, val (.agg #[.int .u64 a, .int .u64 b]), cmp true, cmp false]) ⟨[], [], []⟩) 5 32 none [sl 0 o n c, undef, nilS, .slice (some ⟨3, 0, none⟩) 1 (dead + 2), .int .i64 (IntKind.i64.wrap (i + 1))] ⟨4, [([.int .u64 (IntKind.u64.wrap (a + 1351079888211148800)), .int .u64 (b)], tp7), ([.int .u64 (IntKind.u64.wrap (a + 1351079888211148800)), .int .u64 (b)], tp7), ([.int .u64 (IntKind.u64.wrap (a + 1351079888211148800)), .int .u64 (b)], tp7), (l, tPr)]⟩ ([(bNot b 9223372036854775808 != 0, false), (bNot a 9223372036854775808 != 0, true)] ++ lSv l o n i a b) := ⟨by kernel_rfl, by kernel_rfl, by kernel_rfl⟩
theorem sd_stf (o n c k : Nat) (i a b : Int) (l lo : List Value) (g : Nat → Value) : GoesT (evC (tabOf Tryz.prog extY conN true) 100 false (fLoop Tryz.f16) ([sl 0 o n c, undef, nilS, sl 1 0 k (dead + 2), .int .i64 i] ++ tl 32 g, ⟨2, [(lo, tp7), (l, tPr)]⟩, [cmp true, at_, val (.agg #[.int .u64 a, .int .u64 b]), cmp true, cmp false, at_]) ⟨[], [], []⟩) 5 32 none [sl 0 o n c, undef, nilS, .slice (some ⟨4, 0, none⟩) (k + 1) (dead + 2), .int .i64 (IntKind.i64.wrap (i + 1))] ⟨5, [(lo ++ [.int .u64 (IntKind.u64.wrap (a + 1351079888211148800)), .int .u64 (b)], tp7), ([.int .u64 (IntKind.u64.wrap (a + 1351079888211148800)), .int .u64 (b)], tp7), ([.int .u64 (IntKind.u64.wrap (a + 1351079888211148800)), .int .u64 (b)], tp7), ([], 2 * dead), (l, tPr)]⟩ (lAp k lo (IntKind.u64.wrap (a + 1351079888211148800)) (b) :: ([(bNot b 9223372036854775808 != 0, false), (bNot a 9223372036854775808 != 0, true)] ++ lSv l o n i a b)) := ⟨by kernel_rfl, by kernel_rfl, by kernel_rfl⟩
theorem sd_nft (o n c : Nat) (i a b : Int) (l : List Value) (g : Nat → Value) : GoesT (evC (tabOf Tryz.prog extY conN true) 100 false (fLoop Tryz.f16) ([sl 0 o n c, undef, nilS, nilS, .int .i64 i] ++ tl 32 g, ⟨1, [(l, tPr)]⟩, [cmp true, at_, val (.agg #[.int .u64 a, .int .u64 b]), cmp false, cmp true]) ⟨[], [], []⟩) 5 32 none [sl 0 o n c, undef, nilS, .slice (some ⟨3, 0, none⟩) 1 (dead + 2), .int .i64 (IntKind.i64.wrap (i + 1))] ⟨4, [([.int .u64 (a), .int .u64 (IntKind.u64.wrap (b + 1351079888211148800))], tp7), ([.int .u64 (a), .int .u64 (IntKind.u64.wrap (b + 1351079888211148800))], tp7), ([.int .u64 (a), .int .u64 (IntKind.u64.wrap (b + 1351079888211148800))], tp7), (l, tPr)]⟩ ([(bNot b 9223372036854775808 != 0, true), (bNot a 9223372036854775808 != 0, false)] ++ lSv l o n i a b) := ⟨by kernel_rfl, by kernel_rfl, by kernel_rfl⟩
theorem sd_sft (o n c k : Nat) (i a b : Int) (l lo : List Value) (g : Nat → Value) : GoesT (evC (tabOf Tryz.prog extY conN true) 100 false (fLoop Tryz.f16) ([sl 0 o n c, undef, nilS, sl 1 0 k (dead + 2), .int .i64 i] ++ tl 32 g, ⟨2, [(lo, tp7), (l, tPr)]⟩, [cmp true, at_, val (.agg #[.int .u64 a, .int .u64 b]), cmp false, cmp true, at_, at_]) ⟨[], [], []⟩) 5 32 none [sl 0 o n c, undef, nilS, .slice (some ⟨4, 0, none⟩) (k + 1) (dead + 2), .int .i64 (IntKind.i64.wrap (i + 1))] ⟨5, [(lo ++ [.int .u64 (a), .int .u64 (IntKind.u64.wrap (b + 1351079888211148800))], tp7), ([.int .u64 (a), .int .u64 (IntKind.u64.wrap (b + 1351079888211148800))], tp7), ([.int .u64 (a), .int .u64 (IntKind.u64.wrap (b + 1351079888211148800))], tp7), ([], 2 * dead), (l, tPr)]⟩ (lAp k lo (a) (IntKind.u64.wrap (b + 1351079888211148800)) :: (true, true) :: ([(bNot b 9223372036854775808 != 0, true), (bNot a 9223372036854775808 != 0, false)] ++ lSv l o n i a b)) := ⟨by kernel_rfl, by kernel_rfl, by kernel_rfl⟩
theorem sd_nff (o n c : Nat) (i a b : Int) (l : List Value) (g : Nat → Value) : GoesT (evC (tabOf Tryz.prog extY conN true) 100 false (fLoop Tryz.f16) ([sl 0 o n c, undef, nilS, nilS, .int .i64 i] ++ tl 32 g, ⟨1, [(l, tPr)]⟩, [cmp true, at_, val (.agg #[.int .u64 a, .int .u64 b]), cmp false, cmp false]) ⟨[], [], []⟩) 5 32 none [sl 0 o n c, undef, nilS, .slice (some ⟨3, 0, none⟩) 1 (dead + 2), .int .i64 (IntKind.i64.wrap (i + 1))] ⟨4, [([.int .u64 (a), .int .u64 (b)], tp7), ([.int .u64 (a), .int .u64 (b)], tp7), ([.int .u64 (a), .int .u64 (b)], tp7), (l, tPr)]⟩ ([(bNot b 9223372036854775808 != 0, false), (bNot a 9223372036854775808 != 0, false)] ++ lSv l o n i a b) := ⟨by kernel_rfl, by kernel_rfl, by kernel_rfl⟩
theorem sd_sff (o n c k : Nat) (i a b : Int) (l lo : List Value) (g : Nat → Value) : GoesT (evC (tabOf Tryz.prog extY conN true) 100 false (fLoop Tryz.f16) ([sl 0 o n c, undef, nilS, sl 1 0 k (dead + 2), .int .i64 i] ++ tl 32 g, ⟨2, [(lo, tp7), (l, tPr)]⟩, [cmp true, at_, val (.agg #[.int .u64 a, .int .u64 b]), cmp false, cmp false, at_]) ⟨[], [], []⟩) 5 32 none [sl 0 o n c, undef, nilS, .slice (some ⟨4, 0, none⟩) (k + 1) (dead + 2), .int .i64 (IntKind.i64.wrap (i + 1))] ⟨5, [(lo ++ [.int .u64 (a), .int .u64 (b)], tp7), ([.int .u64 (a), .int .u64 (b)], tp7), ([.int .u64 (a), .int .u64 (b)], tp7), ([], 2 * dead), (l, tPr)]⟩ (lAp k lo (a) (b) :: ([(bNot b 9223372036854775808 != 0, false), (bNot a 9223372036854775808 != 0, false)] ++ lSv l o n i a b)) := ⟨by kernel_rfl, by kernel_rfl, by kernel_rfl⟩
theorem sd_body : Tryz.f16.body = some (seqs (fPre Tryz.f16) (.seq (.seq (fR2 Tryz.f16) (.block 0 (.loop (fLoop Tryz.f16)))) (fEnd Tryz.f16))) := by kernel_rfl
theorem sd_pre (v : Value) (h : Hp) : GoesT (evL (tabOf Tryz.prog extY conN true) 100 (fPre Tryz.f16) ([v] ++ List.replicate 36 undef, h, []) ⟨[], [], []⟩) 4 33 none [v, undef, nilS, nilS] h [] := ⟨by kernel_rfl, by kernel_rfl, by kernel_rfl⟩
theorem sd_r2 (v : Value) (h : Hp) (g : Nat → Value) : GoesT (evC (tabOf Tryz.prog extY conN true) 100 false (fR2 Tryz.f16) ([v, undef, nilS, nilS] ++ tl 33 g, h, []) ⟨[], [], []⟩) 5 32 none [v, undef, nilS, nilS, .int .i64 0] h [] := ⟨by kernel_rfl, by kernel_rfl, by kernel_rfl⟩
theorem sd_out (p : Option Addr) (v : Value) (n c : Nat) (i : Int) (h : Hp) (g : Nat → Value) : GoesT (evC (tabOf Tryz.prog extY conN true) 100 false (fLoop Tryz.f16) ([.slice p n c, undef, nilS, v, .int .i64 i] ++ tl 32 g, h, [cmp false]) ⟨[], [], []⟩) 5 32 (some (some 0)) [.slice p n c, undef, nilS, v, .int .i64 i] h [(decide (i < n), false)] := ⟨by kernel_rfl, by kernel_rfl, by kernel_rfl⟩
theorem sd_end (v x : Value) (i : Int) (h : Hp) (g : Nat → Value) : GoesT (evC (tabOf Tryz.prog extY conN true) 100 false (fEnd Tryz.f16) ([v, undef, nilS, x, .int .i64 i] ++ tl 32 g, h, []) ⟨[], [], []⟩) 5 32 (some none) [v, undef, x, x, .int .i64 i] h [] := ⟨by kernel_rfl, by kernel_rfl, by kernel_rfl⟩
def scI (a : Int) : Int := if mag a = 0 then a else IntKind.u64.wrap (a + 1351079888211148800)
def scV (v : Value) : Value := .int .u64 (scI (intOf v))
theorem nzT {a : Int} (ha : U a) (h : ¬ mag a = 0) : (bNot a 9223372036854775808 != 0) = true := by rw [bNot_mag ha]; simpa using h
theorem nzF {a : Int} (ha : U a) (h : mag a = 0) : (bNot a 9223372036854775808 != 0) = false := by rw [bNot_mag ha, h]; rfl
theorem ok_app2 {p q : Bool × Bool} {l : Log} (h1 : p.1 = p.2) (h2 : q.1 = q.2) (h3 : okLog l) : okLog ([p, q] ++ l) := okTwo h1 (okTwo h2 h3)
/-- one turn, the first one -/
theorem sd_step0 {o n c : Nat} {i a b : Int} {l : List Value} (g : Nat → Value) (s : List Dec) (ha : U a) (hb : U b) (hlog : okLog (lSv l o n i a b)) :
    RunsW (tabOf Tryz.prog extY conN true) (fLoop Tryz.f16) ([sl 0 o n c, undef, nilS, nilS, .int .i64 i] ++ tl 32 g, ⟨1, [(l, tPr)]⟩, s) fun e z => e = none ∧ (∃ g, z.1 = [sl 0 o n c, undef, nilS, .slice (some ⟨3, 0, none⟩) 1 (dead + 2), .int .i64 (IntKind.i64.wrap (i + 1))] ++ tl 32 g) ∧ z.2.1 = ⟨4, [([.int .u64 (scI a), .int .u64 (scI b)], tp7), ([.int .u64 (scI a), .int .u64 (scI b)], tp7), ([.int .u64 (scI a), .int .u64 (scI b)], tp7), (l, tPr)]⟩ := by
  have T := tabY_ok conN_ok
  by_cases h1 : mag a = 0 <;> by_cases h2 : mag b = 0
  · rw [show scI a = a from if_pos h1, show scI b = b from if_pos h2]
    exact goesT_runsW T (s0 := s) (sd_nff o n c i a b l g) (ok_app2 (nzF hb h2) (nzF ha h1) hlog)
  · rw [show scI a = a from if_pos h1, show scI b = _ from if_neg h2]
    exact goesT_runsW T (s0 := s) (sd_nft o n c i a b l g) (ok_app2 (nzT hb h2) (nzF ha h1) hlog)
  · rw [show scI a = _ from if_neg h1, show scI b = b from if_pos h2]
    exact goesT_runsW T (s0 := s) (sd_ntf o n c i a b l g) (ok_app2 (nzF hb h2) (nzT ha h1) hlog)
  · rw [show scI a = _ from if_neg h1, show scI b = _ from if_neg h2]
    exact goesT_runsW T (s0 := s) (sd_ntt o n c i a b l g) (ok_app2 (nzT hb h2) (nzT ha h1) hlog)
/-- one turn, a later one -/
theorem sd_step1 {o n c k : Nat} {i a b : Int} {l lo : List Value} (g : Nat → Value) (s : List Dec) (ha : U a) (hb : U b) (hk : lo.length = k * 2) (hz : (k + 1) * 16 ≤ 140737488355328) (hlog : okLog (lSv l o n i a b)) :
    RunsW (tabOf Tryz.prog extY conN true) (fLoop Tryz.f16) ([sl 0 o n c, undef, nilS, sl 1 0 k (dead + 2), .int .i64 i] ++ tl 32 g, ⟨2, [(lo, tp7), (l, tPr)]⟩, s) fun e z => e = none ∧ (∃ g, z.1 = [sl 0 o n c, undef, nilS, .slice (some ⟨4, 0, none⟩) (k + 1) (dead + 2), .int .i64 (IntKind.i64.wrap (i + 1))] ++ tl 32 g) ∧ z.2.1 = ⟨5, [(lo ++ [.int .u64 (scI a), .int .u64 (scI b)], tp7), ([.int .u64 (scI a), .int .u64 (scI b)], tp7), ([.int .u64 (scI a), .int .u64 (scI b)], tp7), ([], 2 * dead), (l, tPr)]⟩ := by
  have T := tabY_ok conN_ok
  by_cases h1 : mag a = 0 <;> by_cases h2 : mag b = 0
  · rw [show scI a = a from if_pos h1, show scI b = b from if_pos h2]
    exact goesT_runsW T (s0 := s) (sd_sff o n c k i a b l lo g) (okTwo (lAp_ok hk hz) (ok_app2 (nzF hb h2) (nzF ha h1) hlog))
  · rw [show scI a = a from if_pos h1, show scI b = _ from if_neg h2]
    exact goesT_runsW T (s0 := s) (sd_sft o n c k i a b l lo g) (okTwo (lAp_ok hk hz) (okTwo rfl (ok_app2 (nzT hb h2) (nzF ha h1) hlog)))
  · rw [show scI a = _ from if_neg h1, show scI b = b from if_pos h2]
    exact goesT_runsW T (s0 := s) (sd_stf o n c k i a b l lo g) (okTwo (lAp_ok hk hz) (ok_app2 (nzF hb h2) (nzT ha h1) hlog))
  · rw [show scI a = _ from if_neg h1, show scI b = _ from if_neg h2]
    exact goesT_runsW T (s0 := s) (sd_stt o n c k i a b l lo g) (okTwo (lAp_ok hk hz) (okTwo rfl (ok_app2 (nzT hb h2) (nzT ha h1) hlog)))
theorem sc_next {ty : TypeId} {x : List Value × TypeId} {o n c : Nat} {vs : List Value} (G : GiveOk ty x o n c vs) {i : Nat} (hi : i < n) : (vs.map scV).take (2 * (i + 1)) = (vs.map scV).take (2 * i) ++ [.int .u64 (scI (intOf (vs.getD (2 * i) undef))), .int .u64 (scI (intOf (vs.getD (2 * i + 1) undef)))] := by
  rw [← List.map_take, ← List.map_take, G.next hi, List.map_append]
  rfl
theorem GiveOk.two {ty : TypeId} {x : List Value × TypeId} {o n c : Nat} {vs : List Value} (G : GiveOk ty x o n c vs) {i : Nat} (hi : i < n) : (x.1.drop (o + i * 2)).take 2 = [.int .u64 (intOf (vs.getD (2 * i) undef)), .int .u64 (intOf (vs.getD (2 * i + 1) undef))] := by
  have c0 := G.cell (k := 2 * i) (by omega)
  have c1 := G.cell (k := 2 * i + 1) (by omega)
  refine List.ext_getElem? fun j => ?_
  rw [List.getElem?_take, List.getElem?_drop]
  match j with
  | 0 => simpa [Nat.mul_comm] using c0
  | 1 => simpa [Nat.mul_comm, Nat.add_assoc] using c1
  | j + 2 =>
    rw [if_neg (by omega)]
    rfl
def sdInv (l vs : List Value) (o c n : Nat) (k : Nat) (y : Lf) : Prop :=
  ∃ i : Nat, k = n - i ∧ i ≤ n ∧ ((i = 0 ∧ (∃ g, y.1 = [sl 0 o n c, undef, nilS, nilS, .int .i64 0] ++ tl 32 g) ∧ y.2.1 = ⟨1, [(l, tPr)]⟩) ∨
    (0 < i ∧ (∃ g, y.1 = [sl 0 o n c, undef, nilS, sl 1 0 i (dead + 2), .int .i64 (i : Nat)] ++ tl 32 g) ∧ y.2.1 = ⟨2, [((vs.map scV).take (2 * i), tp7), (l, tPr)]⟩))
def sdOut (l vs : List Value) (o c n : Nat) (y : Lf) : Prop := (∃ g, y.1 = [sl 0 o n c, undef, nilS, sl 1 0 n (dead + 2), .int .i64 (n : Nat)] ++ tl 32 g) ∧ y.2.1 = ⟨2, [(vs.map scV, tp7), (l, tPr)]⟩
theorem sd_loop {x : List Value × TypeId} {vs : List Value} {o c q n : Nat} (G : GiveOk tp7 x o n q vs) (h0 : 0 < n) (g : Nat → Value) :
    RunsW (tabOf Tryz.prog extY conN true) (.block 0 (.loop (fLoop Tryz.f16))) ([sl 0 o n c, undef, nilS, nilS, .int .i64 0] ++ tl 32 g, ⟨1, [(x.1, tPr)]⟩, []) fun e y => match e with | none => sdOut x.1 vs o c n y | some none => False | some (some _) => False := by
  have T := tabY_ok conN_ok
  refine RunsW.forLoop (P := sdOut x.1 vs o c n) (R := fun _ => False) (sdInv x.1 vs o c n) ?_ (n := n) ⟨0, by omega, by omega, .inl ⟨rfl, ⟨g, rfl⟩, rfl⟩⟩
  rintro m ⟨t, h', s⟩ ⟨i, hn, hi, hI⟩
  have hsz := G.sz
  by_cases hlt : i < n
  · have ei : IntKind.i64.wrap ((i : Int) + 1) = ((i + 1 : Nat) : Int) := by rw [wrapI (by omega) (by omega)]; omega
    have hv : 2 * i + 1 < vs.length := by rw [G.vlen]; omega
    have uA : U (intOf (vs.getD (2 * i) undef)) := by
      simp only [List.getD, List.getElem?_eq_getElem (show 2 * i < vs.length by omega), Option.getD_some]
      exact (isU6_spec (G.u6 _ (List.getElem_mem (show 2 * i < vs.length by omega)))).2
    have uB : U (intOf (vs.getD (2 * i + 1) undef)) := by
      simp only [List.getD, List.getElem?_eq_getElem hv, Option.getD_some]
      exact (isU6_spec (G.u6 _ (List.getElem_mem hv))).2
    have hlog : okLog (lSv x.1 o n i (intOf (vs.getD (2 * i) undef)) (intOf (vs.getD (2 * i + 1) undef))) := by
      have q1 : (true && cellsIs ((x.1.drop (o + (i : Int).toNat * 2)).take 2) [.int .u64 (intOf (vs.getD (2 * i) undef)), .int .u64 (intOf (vs.getD (2 * i + 1) undef))]) = true := by
        rw [Int.toNat_natCast, G.two hlt]
        simp [cellsIs, cellIs]
      have q3 : decide (0 ≤ (i : Int) ∧ (i : Int) < (n : Nat)) = true := decide_eq_true (by omega)
      have q4 : decide ((i : Int) < (n : Nat)) = true := decide_eq_true (by omega)
      exact okTwo q1 (okTwo q3 (okOne q4))
    have hne : ∀ z : Lf, (∃ g, z.1 = [sl 0 o n c, undef, nilS, sl 1 0 (i + 1) (dead + 2), .int .i64 ((i + 1 : Nat) : Int)] ++ tl 32 g) ∧ z.2.1 = ⟨2, [((vs.map scV).take (2 * (i + 1)), tp7), (x.1, tPr)]⟩ → ∃ n', n' < m ∧ sdInv x.1 vs o c n n' z := fun z hz =>
      ⟨n - (i + 1), by omega, i + 1, rfl, by omega, .inr ⟨by omega, hz.1, hz.2⟩⟩
    have st2 : ∀ v ∈ (vs.map scV).take (2 * (i + 1)), still v = true := fun v hv => by
      obtain ⟨u, _, rfl⟩ := List.mem_map.1 (List.mem_of_mem_take hv)
      rfl
    have nx := sc_next G hlt
    rcases hI with ⟨rfl, ⟨g, ht⟩, hh⟩ | ⟨hpos, ⟨g, ht⟩, hh⟩
    · simp only at ht hh
      subst ht hh
      have r := sd_step0 (o := o) (n := n) (c := c) (i := ((0 : Nat) : Int)) (l := x.1) g s uA uB hlog
      have r2 := r.two (front' := [sl 0 o n c, undef, nilS, .slice (some ⟨1, 0, none⟩) 1 (dead + 2), .int .i64 (IntKind.i64.wrap (((0 : Nat) : Int) + 1))]) (b := 3) (x := (x.1, tPr)) (y := ([.int .u64 (scI (intOf (vs.getD (2 * 0) undef))), .int .u64 (scI (intOf (vs.getD (2 * 0 + 1) undef)))], tp7)) (by kernel_rfl) (by rfl) (by rfl) (by omega) G.st (by
        intro v hv
        simp only [List.mem_cons, List.not_mem_nil, or_false] at hv
        rcases hv with rfl | rfl <;> rfl) (fun v hv => by
        simp only [List.mem_cons, List.not_mem_nil, or_false] at hv
        rcases hv with rfl | rfl | rfl | rfl | rfl <;> rfl)
      refine r2.mono fun e z hz => ?_
      obtain ⟨rfl, ⟨g', e1⟩, e2⟩ := hz
      refine hne z ⟨⟨g', by rw [e1]; rfl⟩, ?_⟩
      rw [e2, nx]
      simp
    · simp only at ht hh
      subst ht hh
      have hlen : ((vs.map scV).take (2 * i)).length = i * 2 := by rw [List.length_take, List.length_map, G.vlen]; omega
      have r := sd_step1 (o := o) (n := n) (c := c) (k := i) (i := (i : Int)) (l := x.1) g s uA uB hlen (by omega) hlog
      rw [← nx] at r
      have r2 := r.two (front' := [sl 0 o n c, undef, nilS, .slice (some ⟨1, 0, none⟩) (i + 1) (dead + 2), .int .i64 (IntKind.i64.wrap ((i : Int) + 1))]) (b := 4) (x := (x.1, tPr)) (y := ((vs.map scV).take (2 * (i + 1)), tp7)) (by kernel_rfl) (by rfl) (by rfl) (by omega) G.st st2 (fun v hv => by
        simp only [List.mem_cons, List.not_mem_nil, or_false] at hv
        rcases hv with rfl | rfl | rfl | rfl | rfl <;> rfl)
      refine r2.mono fun e z hz => ?_
      obtain ⟨rfl, ⟨g', e1⟩, e2⟩ := hz
      exact hne z ⟨⟨g', by rw [e1, ei]; rfl⟩, e2⟩
  · have hil : i = n := by omega
    subst hil
    rcases hI with ⟨h0', _⟩ | ⟨hpos, ⟨g, ht⟩, hh⟩
    · omega
    · simp only at ht hh
      subst ht hh
      refine (goesT_runsW T (sd_out _ _ _ _ _ _ g) (okOne (decide_eq_false (by omega)))).mono fun e z hz => ?_
      obtain ⟨rfl, e1, e2⟩ := hz
      refine ⟨rfl, e1, ?_⟩
      rw [e2, List.take_of_length_le (by rw [List.length_map, G.vlen]; omega)]
theorem sd_runs {x : List Value × TypeId} {vs : List Value} {o c q n : Nat} (G : GiveOk tp7 x o n q vs) (h0 : 0 < n) :
    RunsW (tabOf Tryz.prog extY conN true) (seqs (fPre Tryz.f16) (.seq (.seq (fR2 Tryz.f16) (.block 0 (.loop (fLoop Tryz.f16)))) (fEnd Tryz.f16))) ([sl 0 o n c] ++ List.replicate 36 undef, ⟨1, [(x.1, tPr)]⟩, []) fun e y => (e = none ∨ e = some none) ∧ resS Tryz.prog Tryz.f16 y.1 y.2.1 = some (sl 1 0 n (dead + 2)) ∧ ∃ r, y.2.1.blk? 1 = some (vs.map scV ++ r, tp7) := by
  have T := tabY_ok conN_ok
  refine goesT_listW T (sd_pre _ _) (fun x hx => by cases hx) fun g => ?_
  refine seqW3 (goesT_runsW T (sd_r2 _ _ g) (fun x hx => by cases hx)) (fun e y he => by cases he.1) (P2 := fun e y => match e with | none => sdOut x.1 vs o c n y | some none => False | some (some _) => False) ?_ ?_ ?_
  · rintro ⟨t, h', s⟩ ⟨_, ⟨g', ht⟩, hh⟩
    simp only at ht hh
    subst ht hh
    exact RunsW.script (sd_loop G h0 g')
  · intro e y he
    match e, he with
    | none, he => exact he
    | some id, he => exact he
  · rintro ⟨t, h', s⟩ ⟨⟨g', ht⟩, hh⟩
    simp only at ht hh
    subst ht hh
    refine (goesT_runsW T (sd_end _ _ _ _ g') (fun x hx => by cases hx)).mono fun e y he => ?_
    obtain ⟨rfl, ⟨g2, e1⟩, e2⟩ := he
    refine ⟨.inr rfl, ?_, [], ?_⟩
    · rw [e1, e2]; rfl
    · rw [e2, List.append_nil]; rfl
/-! ### as a call -/
theorem sd_n0 : FitsC (reckon (tabOf Tryz.prog extY conN true) 100 16 [nilS] []) nilS := ⟨by kernel_rfl, by kernel_rfl, by kernel_rfl, by kernel_rfl⟩
theorem tPr_facts2 : ro tPr = true ∧ ab tPr = false ∧ rt tPr = tp7 := ⟨by kernel_rfl, by kernel_rfl, by kernel_rfl⟩
theorem rowsY {l : List Value} (h : ∀ v ∈ l, still v = true) : (⟨1, [(l, tPr)]⟩ : Hp).rows := ⟨rfl, fun b x hb => by
  have : b < 1 := Hp.blk_lt hb
  have hb0 : b = 0 := by omega
  subst hb0
  obtain rfl := (Option.some.inj hb).symm
  exact ⟨tPr_facts2.1, h, tPr_facts2.2.1⟩⟩
theorem fitsY {l : List Value} {h : Hp} {b : Nat} {x : List Value × TypeId} (hb : h.blk? b = some x) (h1 : tomb x.2 = false) (h2 : rt x.2 = tp7) (e : x.1 = l) : (⟨1, [(l, tPr)]⟩ : Hp).fits (fun _ => b) h := by
  intro i y hi _
  have : i < 1 := Hp.blk_lt hi
  have hb0 : i = 0 := by omega
  subst hb0
  obtain rfl := (Option.some.inj hi).symm
  exact ⟨x, [], hb, h1, by rw [h2]; exact tPr_facts2.2.2.symm, by rw [e, List.append_nil]⟩
def gScl : AnsH := fun vals h s =>
  match vals with
  | [.slice none 0 0] => some (nilS, h, s, [])
  | [.slice (some ⟨b, o, none⟩) n _] =>
    match s, h.blk? b with
    | .inr (.inr (.inr (.inr (.inr (.tuple ⟨vs⟩))))) :: s', some x => some (sl h.n 0 n (dead + 2), h.push (vs.map scV) tp7, s', [(giveB tp7 x o n n vs, true), (decide (0 < n), true)])
    | _, _ => none
  | _ => none
theorem sd_more {m : Mp} {B : Nat} {h : Hp} {w : World} (E : Emb m B h w) {b o n c q : Nat} {x : List Value × TypeId} {vs : List Value} (hx : h.blk? b = some x) (G : GiveOk tp7 x o n q vs) (h0 : 0 < n) : Calls Tryz.prog 16 (([sl b o n c] : List Value).map (mv m)).toArray w fun e w' => ∃ m', e = .returned (mv m' (sl h.n 0 n (dead + 2))) ∧ Came m B h w (sl h.n 0 n (dead + 2)) (h.push (vs.map scV) tp7) m' w' :=
  row_calls1 (T := tabOf Tryz.prog extY conN true) Tryz.func16 sd_body (rowsY G.st) (vals := [sl 0 o n c]) (fun v hv => by rw [List.mem_singleton.1 hv]; rfl) (k := 1) (cs := vs.map scV) (ty := tp7) (fun u hu => by obtain ⟨y, _, rfl⟩ := List.mem_map.1 hu; rfl) (by kernel_rfl) (sd_runs (c := c) G h0) (v := sl 1 0 n (dead + 2)) (by rfl) E (s := fun _ => b) (fitsY hx G.tb G.rt rfl)
theorem gScl_ok : AnsHOk 16 gScl := by
  intro vals h s v h' s' lg hg hl m B w E hv
  unfold gScl at hg
  split at hg
  · cases hg
    refine (fitsC_calls (tabY_ok conN_ok) sd_n0 (by rfl) (by rfl) w).mono fun e w' he => ?_
    obtain ⟨E', hb⟩ := clean_emb E he.2
    exact ⟨m, he.1, ⟨Agree.refl _ _, E', hb, Nat.le_refl _, rfl⟩⟩
  · rename_i b o n _c
    split at hg
    · rename_i vs s2 x hx
      cases hg
      have G := giveB_ok (hl _ List.mem_cons_self)
      have h0 := of_decide_eq_true (hl _ (List.mem_cons_of_mem _ (List.mem_singleton.2 rfl)))
      exact sd_more E hx G h0
    · cases hg
  · cases hg
theorem RunsW.one {T : Tab} {c : Code} {x0 : Lf} {ex : Ex} {front : List Value} {n : Nat} {x y : List Value × TypeId} (hr : RunsW T c x0 fun e z => e = ex ∧ (∃ g, z.1 = front ++ tl n g) ∧ z.2.1 = ⟨2, [y, x]⟩)
    (hf : front.map (rn (fun _ => 0)) = front) (sx : ∀ v ∈ x.1, still v = true) (hw : ∀ v ∈ front, lt 1 v = true) :
    RunsW T c x0 fun e z => e = ex ∧ (∃ g, z.1 = front ++ tl n g) ∧ z.2.1 = ⟨1, [x]⟩ := by
  refine hr.small fun e z he => .inr ?_
  obtain ⟨rfl, ⟨g, h1⟩, h2⟩ := he
  obtain ⟨t, h', s⟩ := z
  simp only at h1 h2
  subst h1 h2
  have one : ∀ {i z}, (⟨1, [x]⟩ : Hp).blk? i = some z → i = 0 ∧ z = x := fun {i z} hz => by
    have : i < 1 := Hp.blk_lt hz
    have h0 : i = 0 := by omega
    subst h0
    exact ⟨rfl, (Option.some.inj hz).symm⟩
  refine ⟨front, front, tl n g, _, ⟨1, [x]⟩, s, fun _ => 0, rfl, hf, rfl, (by show 0 < 1; omega), fun i z hz => ?_, fun i j u v hi hj _ _ _ => ?_, hw, fun g' => ⟨rfl, ⟨g', by rw [tl_len]⟩, rfl⟩⟩
  · obtain ⟨rfl, rfl⟩ := one hz
    exact ⟨sx, z, [], rfl, rfl, by simp⟩
  · rw [(one hi).1, (one hj).1]
theorem us_nn (o n c : Nat) (i a b : Int) (l : List Value) (g : Nat → Value) : GoesT (evC (tabOf Tryz.prog extY conN true) 100 false (cIn (cIn (cSnd (cFst (cSnd (cBody Tryz.f15)))))) ([sl 0 o n c, undef, .bool false, .int .i64 i] ++ tl 46 g, ⟨1, [(l, parR)]⟩, [cmp true, at_, val (.int .u64 a), at_, val (.int .u64 b), cmp true, cmp false, cmp true, cmp false, cmp false]) ⟨[], [], []⟩) 4 46 none [sl 0 o n c, undef, .bool false, .int .i64 (IntKind.i64.wrap (i + 1))] ⟨2, [([.int .u64 (bNot a 9223372036854775808), .int .u64 (bNot b 9223372036854775808)], 38), (l, parR)]⟩ ([(false, false), (bNot b 9223372036854775808 != 0, false), (true, true), (bNot a 9223372036854775808 != 0, false), (true, true)] ++ lGv l o n i a b) := ⟨by kernel_rfl, by kernel_rfl, by kernel_rfl⟩
theorem us_nu (o n c : Nat) (i a b : Int) (l : List Value) (g : Nat → Value) : GoesT (evC (tabOf Tryz.prog extY conN true) 100 false (cIn (cIn (cSnd (cFst (cSnd (cBody Tryz.f15)))))) ([sl 0 o n c, undef, .bool false, .int .i64 i] ++ tl 46 g, ⟨1, [(l, parR)]⟩, [cmp true, at_, val (.int .u64 a), at_, val (.int .u64 b), cmp true, cmp false, cmp true, cmp true, cmp false, cmp false, cmp false]) ⟨[], [], []⟩) 4 46 none [sl 0 o n c, undef, .bool false, .int .i64 (IntKind.i64.wrap (i + 1))] ⟨2, [([.int .u64 (bNot a 9223372036854775808), .int .u64 (bNot b 9223372036854775808)], 38), (l, parR)]⟩ ([(false, false), (decide ((bNot b 9223372036854775808).fdiv 4503599627370496 > 1100), false), (false, false), (decide ((bNot b 9223372036854775808).fdiv 4503599627370496 < 900), false), (false, false), (bNot b 9223372036854775808 != 0, true), (true, true), (bNot a 9223372036854775808 != 0, false), (true, true)] ++ lGv l o n i a b) := ⟨by kernel_rfl, by kernel_rfl, by kernel_rfl⟩
theorem us_nl (o n c : Nat) (i a b : Int) (l : List Value) (g : Nat → Value) : GoesT (evC (tabOf Tryz.prog extY conN true) 100 false (cIn (cIn (cSnd (cFst (cSnd (cBody Tryz.f15)))))) ([sl 0 o n c, undef, .bool false, .int .i64 i] ++ tl 46 g, ⟨1, [(l, parR)]⟩, [cmp true, at_, val (.int .u64 a), at_, val (.int .u64 b), cmp true, cmp false, cmp true, cmp true, cmp true]) ⟨[], [], []⟩) 4 46 (some none) [sl 0 o n c, undef, .bool false, .int .i64 i] ⟨2, [([.int .u64 (bNot a 9223372036854775808), .int .u64 (bNot b 9223372036854775808)], 38), (l, parR)]⟩ ([(decide ((bNot b 9223372036854775808).fdiv 4503599627370496 < 900), true), (false, false), (bNot b 9223372036854775808 != 0, true), (true, true), (bNot a 9223372036854775808 != 0, false), (true, true)] ++ lGv l o n i a b) := ⟨by kernel_rfl, by kernel_rfl, by kernel_rfl⟩
theorem us_nh (o n c : Nat) (i a b : Int) (l : List Value) (g : Nat → Value) : GoesT (evC (tabOf Tryz.prog extY conN true) 100 false (cIn (cIn (cSnd (cFst (cSnd (cBody Tryz.f15)))))) ([sl 0 o n c, undef, .bool false, .int .i64 i] ++ tl 46 g, ⟨1, [(l, parR)]⟩, [cmp true, at_, val (.int .u64 a), at_, val (.int .u64 b), cmp true, cmp false, cmp true, cmp true, cmp false, cmp true]) ⟨[], [], []⟩) 4 46 (some none) [sl 0 o n c, undef, .bool false, .int .i64 i] ⟨2, [([.int .u64 (bNot a 9223372036854775808), .int .u64 (bNot b 9223372036854775808)], 38), (l, parR)]⟩ ([(decide ((bNot b 9223372036854775808).fdiv 4503599627370496 > 1100), true), (false, false), (decide ((bNot b 9223372036854775808).fdiv 4503599627370496 < 900), false), (false, false), (bNot b 9223372036854775808 != 0, true), (true, true), (bNot a 9223372036854775808 != 0, false), (true, true)] ++ lGv l o n i a b) := ⟨by kernel_rfl, by kernel_rfl, by kernel_rfl⟩
theorem us_un (o n c : Nat) (i a b : Int) (l : List Value) (g : Nat → Value) : GoesT (evC (tabOf Tryz.prog extY conN true) 100 false (cIn (cIn (cSnd (cFst (cSnd (cBody Tryz.f15)))))) ([sl 0 o n c, undef, .bool false, .int .i64 i] ++ tl 46 g, ⟨1, [(l, parR)]⟩, [cmp true, at_, val (.int .u64 a), at_, val (.int .u64 b), cmp true, cmp true, cmp false, cmp false, cmp true, cmp false, cmp false]) ⟨[], [], []⟩) 4 46 none [sl 0 o n c, undef, .bool false, .int .i64 (IntKind.i64.wrap (i + 1))] ⟨2, [([.int .u64 (bNot a 9223372036854775808), .int .u64 (bNot b 9223372036854775808)], 38), (l, parR)]⟩ ([(false, false), (bNot b 9223372036854775808 != 0, false), (true, true), (decide ((bNot a 9223372036854775808).fdiv 4503599627370496 > 1100), false), (false, false), (decide ((bNot a 9223372036854775808).fdiv 4503599627370496 < 900), false), (false, false), (bNot a 9223372036854775808 != 0, true), (true, true)] ++ lGv l o n i a b) := ⟨by kernel_rfl, by kernel_rfl, by kernel_rfl⟩
theorem us_uu (o n c : Nat) (i a b : Int) (l : List Value) (g : Nat → Value) : GoesT (evC (tabOf Tryz.prog extY conN true) 100 false (cIn (cIn (cSnd (cFst (cSnd (cBody Tryz.f15)))))) ([sl 0 o n c, undef, .bool false, .int .i64 i] ++ tl 46 g, ⟨1, [(l, parR)]⟩, [cmp true, at_, val (.int .u64 a), at_, val (.int .u64 b), cmp true, cmp true, cmp false, cmp false, cmp true, cmp true, cmp false, cmp false, cmp false]) ⟨[], [], []⟩) 4 46 none [sl 0 o n c, undef, .bool false, .int .i64 (IntKind.i64.wrap (i + 1))] ⟨2, [([.int .u64 (bNot a 9223372036854775808), .int .u64 (bNot b 9223372036854775808)], 38), (l, parR)]⟩ ([(false, false), (decide ((bNot b 9223372036854775808).fdiv 4503599627370496 > 1100), false), (false, false), (decide ((bNot b 9223372036854775808).fdiv 4503599627370496 < 900), false), (false, false), (bNot b 9223372036854775808 != 0, true), (true, true), (decide ((bNot a 9223372036854775808).fdiv 4503599627370496 > 1100), false), (false, false), (decide ((bNot a 9223372036854775808).fdiv 4503599627370496 < 900), false), (false, false), (bNot a 9223372036854775808 != 0, true), (true, true)] ++ lGv l o n i a b) := ⟨by kernel_rfl, by kernel_rfl, by kernel_rfl⟩
theorem us_ul (o n c : Nat) (i a b : Int) (l : List Value) (g : Nat → Value) : GoesT (evC (tabOf Tryz.prog extY conN true) 100 false (cIn (cIn (cSnd (cFst (cSnd (cBody Tryz.f15)))))) ([sl 0 o n c, undef, .bool false, .int .i64 i] ++ tl 46 g, ⟨1, [(l, parR)]⟩, [cmp true, at_, val (.int .u64 a), at_, val (.int .u64 b), cmp true, cmp true, cmp false, cmp false, cmp true, cmp true, cmp true]) ⟨[], [], []⟩) 4 46 (some none) [sl 0 o n c, undef, .bool false, .int .i64 i] ⟨2, [([.int .u64 (bNot a 9223372036854775808), .int .u64 (bNot b 9223372036854775808)], 38), (l, parR)]⟩ ([(decide ((bNot b 9223372036854775808).fdiv 4503599627370496 < 900), true), (false, false), (bNot b 9223372036854775808 != 0, true), (true, true), (decide ((bNot a 9223372036854775808).fdiv 4503599627370496 > 1100), false), (false, false), (decide ((bNot a 9223372036854775808).fdiv 4503599627370496 < 900), false), (false, false), (bNot a 9223372036854775808 != 0, true), (true, true)] ++ lGv l o n i a b) := ⟨by kernel_rfl, by kernel_rfl, by kernel_rfl⟩
theorem us_uh (o n c : Nat) (i a b : Int) (l : List Value) (g : Nat → Value) : GoesT (evC (tabOf Tryz.prog extY conN true) 100 false (cIn (cIn (cSnd (cFst (cSnd (cBody Tryz.f15)))))) ([sl 0 o n c, undef, .bool false, .int .i64 i] ++ tl 46 g, ⟨1, [(l, parR)]⟩, [cmp true, at_, val (.int .u64 a), at_, val (.int .u64 b), cmp true, cmp true, cmp false, cmp false, cmp true, cmp true, cmp false, cmp true]) ⟨[], [], []⟩) 4 46 (some none) [sl 0 o n c, undef, .bool false, .int .i64 i] ⟨2, [([.int .u64 (bNot a 9223372036854775808), .int .u64 (bNot b 9223372036854775808)], 38), (l, parR)]⟩ ([(decide ((bNot b 9223372036854775808).fdiv 4503599627370496 > 1100), true), (false, false), (decide ((bNot b 9223372036854775808).fdiv 4503599627370496 < 900), false), (false, false), (bNot b 9223372036854775808 != 0, true), (true, true), (decide ((bNot a 9223372036854775808).fdiv 4503599627370496 > 1100), false), (false, false), (decide ((bNot a 9223372036854775808).fdiv 4503599627370496 < 900), false), (false, false), (bNot a 9223372036854775808 != 0, true), (true, true)] ++ lGv l o n i a b) := ⟨by kernel_rfl, by kernel_rfl, by kernel_rfl⟩
theorem us_l (o n c : Nat) (i a b : Int) (l : List Value) (g : Nat → Value) : GoesT (evC (tabOf Tryz.prog extY conN true) 100 false (cIn (cIn (cSnd (cFst (cSnd (cBody Tryz.f15)))))) ([sl 0 o n c, undef, .bool false, .int .i64 i] ++ tl 46 g, ⟨1, [(l, parR)]⟩, [cmp true, at_, val (.int .u64 a), at_, val (.int .u64 b), cmp true, cmp true, cmp true]) ⟨[], [], []⟩) 4 46 (some none) [sl 0 o n c, undef, .bool false, .int .i64 i] ⟨2, [([.int .u64 (bNot a 9223372036854775808), .int .u64 (bNot b 9223372036854775808)], 38), (l, parR)]⟩ ([(decide ((bNot a 9223372036854775808).fdiv 4503599627370496 < 900), true), (false, false), (bNot a 9223372036854775808 != 0, true), (true, true)] ++ lGv l o n i a b) := ⟨by kernel_rfl, by kernel_rfl, by kernel_rfl⟩
theorem us_h (o n c : Nat) (i a b : Int) (l : List Value) (g : Nat → Value) : GoesT (evC (tabOf Tryz.prog extY conN true) 100 false (cIn (cIn (cSnd (cFst (cSnd (cBody Tryz.f15)))))) ([sl 0 o n c, undef, .bool false, .int .i64 i] ++ tl 46 g, ⟨1, [(l, parR)]⟩, [cmp true, at_, val (.int .u64 a), at_, val (.int .u64 b), cmp true, cmp true, cmp false, cmp true]) ⟨[], [], []⟩) 4 46 (some none) [sl 0 o n c, undef, .bool false, .int .i64 i] ⟨2, [([.int .u64 (bNot a 9223372036854775808), .int .u64 (bNot b 9223372036854775808)], 38), (l, parR)]⟩ ([(decide ((bNot a 9223372036854775808).fdiv 4503599627370496 > 1100), true), (false, false), (decide ((bNot a 9223372036854775808).fdiv 4503599627370496 < 900), false), (false, false), (bNot a 9223372036854775808 != 0, true), (true, true)] ++ lGv l o n i a b) := ⟨by kernel_rfl, by kernel_rfl, by kernel_rfl⟩
theorem us_body : Tryz.f15.body = some (seqs [cFst (cBody Tryz.f15)] (.seq (.seq (cFst (cFst (cSnd (cBody Tryz.f15)))) (.block 0 (.loop (cIn (cIn (cSnd (cFst (cSnd (cBody Tryz.f15))))))))) (cSnd (cSnd (cBody Tryz.f15))))) := by kernel_rfl
theorem us_pre (v : Value) (h : Hp) : GoesT (evL (tabOf Tryz.prog extY conN true) 100 [cFst (cBody Tryz.f15)] ([v] ++ List.replicate 49 undef, h, []) ⟨[], [], []⟩) 3 47 none [v, undef, .bool false] h [] := ⟨by kernel_rfl, by kernel_rfl, by kernel_rfl⟩
theorem us_r1 (v : Value) (h : Hp) (g : Nat → Value) : GoesT (evC (tabOf Tryz.prog extY conN true) 100 false (cFst (cFst (cSnd (cBody Tryz.f15)))) ([v, undef, .bool false] ++ tl 47 g, h, []) ⟨[], [], []⟩) 4 46 none [v, undef, .bool false, .int .i64 0] h [] := ⟨by kernel_rfl, by kernel_rfl, by kernel_rfl⟩
theorem us_out (p : Option Addr) (n c : Nat) (i : Int) (h : Hp) (g : Nat → Value) : GoesT (evC (tabOf Tryz.prog extY conN true) 100 false (cIn (cIn (cSnd (cFst (cSnd (cBody Tryz.f15)))))) ([.slice p n c, undef, .bool false, .int .i64 i] ++ tl 46 g, h, [cmp false]) ⟨[], [], []⟩) 4 46 (some (some 0)) [.slice p n c, undef, .bool false, .int .i64 i] h [(decide (i < n), false)] := ⟨by kernel_rfl, by kernel_rfl, by kernel_rfl⟩
theorem us_end (v i : Value) (h : Hp) (g : Nat → Value) : GoesT (evC (tabOf Tryz.prog extY conN true) 100 false (cSnd (cSnd (cBody Tryz.f15))) ([v, undef, .bool false, i] ++ tl 46 g, h, []) ⟨[], [], []⟩) 4 46 (some none) [v, undef, .bool true, i] h [] := ⟨by kernel_rfl, by kernel_rfl, by kernel_rfl⟩
/-- a part of a usual size -/
def usI (a : Int) : Bool := decide (bNot a 9223372036854775808 = 0) || (decide (900 ≤ (bNot a 9223372036854775808).fdiv 4503599627370496) && decide ((bNot a 9223372036854775808).fdiv 4503599627370496 ≤ 1100))
def usV (v : Value) : Bool := usI (intOf v)
theorem us_cases (a : Int) : (usI a = true ∧ bNot a 9223372036854775808 = 0) ∨ (usI a = true ∧ bNot a 9223372036854775808 ≠ 0 ∧ ¬ (bNot a 9223372036854775808).fdiv 4503599627370496 < 900 ∧ ¬ (bNot a 9223372036854775808).fdiv 4503599627370496 > 1100) ∨ (usI a = false ∧ bNot a 9223372036854775808 ≠ 0 ∧ (bNot a 9223372036854775808).fdiv 4503599627370496 < 900) ∨ (usI a = false ∧ bNot a 9223372036854775808 ≠ 0 ∧ ¬ (bNot a 9223372036854775808).fdiv 4503599627370496 < 900 ∧ (bNot a 9223372036854775808).fdiv 4503599627370496 > 1100) := by
  unfold usI
  by_cases h0 : bNot a 9223372036854775808 = 0
  · left; simp [h0]
  · by_cases h1 : (bNot a 9223372036854775808).fdiv 4503599627370496 < 900
    · right; right; left
      exact ⟨by simp [h0]; omega, h0, h1⟩
    · by_cases h2 : (bNot a 9223372036854775808).fdiv 4503599627370496 > 1100
      · right; right; right
        exact ⟨by simp [h0]; omega, h0, h1, h2⟩
      · right; left
        exact ⟨by simp [h0]; omega, h0, h1, h2⟩
theorem zz_f {a : Int} (h : a = 0) : (a != 0) = false := by rw [h]; rfl
theorem zz_t {a : Int} (h : a ≠ 0) : (a != 0) = true := by simpa using h
theorem us_turn {o n c : Nat} {i a b : Int} {l : List Value} (g : Nat → Value) (s : List Dec) (hl : ∀ v ∈ l, still v = true) (hlog : okLog (lGv l o n i a b)) :
    RunsW (tabOf Tryz.prog extY conN true) (cIn (cIn (cSnd (cFst (cSnd (cBody Tryz.f15)))))) ([sl 0 o n c, undef, .bool false, .int .i64 i] ++ tl 46 g, ⟨1, [(l, parR)]⟩, s) fun e z =>
      e = (if (usI a && usI b) = true then none else some none) ∧ (∃ g, z.1 = [sl 0 o n c, undef, .bool false, .int .i64 (if (usI a && usI b) = true then IntKind.i64.wrap (i + 1) else i)] ++ tl 46 g) ∧ z.2.1 = ⟨1, [(l, parR)]⟩ := by
  have T := tabY_ok conN_ok
  have fin : ∀ {ex : Ex} {j : Int} {y : List Value × TypeId}, (RunsW (tabOf Tryz.prog extY conN true) (cIn (cIn (cSnd (cFst (cSnd (cBody Tryz.f15)))))) ([sl 0 o n c, undef, .bool false, .int .i64 i] ++ tl 46 g, ⟨1, [(l, parR)]⟩, s) fun e z => e = ex ∧ (∃ g, z.1 = [sl 0 o n c, undef, .bool false, .int .i64 j] ++ tl 46 g) ∧ z.2.1 = ⟨2, [y, (l, parR)]⟩) → RunsW (tabOf Tryz.prog extY conN true) (cIn (cIn (cSnd (cFst (cSnd (cBody Tryz.f15)))))) ([sl 0 o n c, undef, .bool false, .int .i64 i] ++ tl 46 g, ⟨1, [(l, parR)]⟩, s) fun e z => e = ex ∧ (∃ g, z.1 = [sl 0 o n c, undef, .bool false, .int .i64 j] ++ tl 46 g) ∧ z.2.1 = ⟨1, [(l, parR)]⟩ := fun hr => RunsW.one hr (by kernel_rfl) hl (fun v hv => by
    simp only [List.mem_cons, List.not_mem_nil, or_false] at hv
    rcases hv with rfl | rfl | rfl | rfl <;> rfl)
  rcases us_cases a with ⟨ea, a1⟩ | ⟨ea, a1, a2, a3⟩ | ⟨ea, a1, a2⟩ | ⟨ea, a1, a2, a3⟩
  · rw [ea]
    rcases us_cases b with ⟨eb, b1⟩ | ⟨eb, b1, b2, b3⟩ | ⟨eb, b1, b2⟩ | ⟨eb, b1, b2, b3⟩
    · rw [eb]
      exact fin (goesT_runsW T (s0 := s) (us_nn o n c i a b l g) (okTwo rfl (okTwo (zz_f b1) (okTwo rfl (okTwo (zz_f a1) (okTwo rfl hlog))))))
    · rw [eb]
      exact fin (goesT_runsW T (s0 := s) (us_nu o n c i a b l g) (okTwo rfl (okTwo (decide_eq_false b3) (okTwo rfl (okTwo (decide_eq_false b2) (okTwo rfl (okTwo (zz_t b1) (okTwo rfl (okTwo (zz_f a1) (okTwo rfl hlog))))))))))
    · rw [eb]
      exact fin (goesT_runsW T (s0 := s) (us_nl o n c i a b l g) (okTwo (decide_eq_true b2) (okTwo rfl (okTwo (zz_t b1) (okTwo rfl (okTwo (zz_f a1) (okTwo rfl hlog)))))))
    · rw [eb]
      exact fin (goesT_runsW T (s0 := s) (us_nh o n c i a b l g) (okTwo (decide_eq_true b3) (okTwo rfl (okTwo (decide_eq_false b2) (okTwo rfl (okTwo (zz_t b1) (okTwo rfl (okTwo (zz_f a1) (okTwo rfl hlog)))))))))
  · rw [ea]
    rcases us_cases b with ⟨eb, b1⟩ | ⟨eb, b1, b2, b3⟩ | ⟨eb, b1, b2⟩ | ⟨eb, b1, b2, b3⟩
    · rw [eb]
      exact fin (goesT_runsW T (s0 := s) (us_un o n c i a b l g) (okTwo rfl (okTwo (zz_f b1) (okTwo rfl (okTwo (decide_eq_false a3) (okTwo rfl (okTwo (decide_eq_false a2) (okTwo rfl (okTwo (zz_t a1) (okTwo rfl hlog))))))))))
    · rw [eb]
      exact fin (goesT_runsW T (s0 := s) (us_uu o n c i a b l g) (okTwo rfl (okTwo (decide_eq_false b3) (okTwo rfl (okTwo (decide_eq_false b2) (okTwo rfl (okTwo (zz_t b1) (okTwo rfl (okTwo (decide_eq_false a3) (okTwo rfl (okTwo (decide_eq_false a2) (okTwo rfl (okTwo (zz_t a1) (okTwo rfl hlog))))))))))))))
    · rw [eb]
      exact fin (goesT_runsW T (s0 := s) (us_ul o n c i a b l g) (okTwo (decide_eq_true b2) (okTwo rfl (okTwo (zz_t b1) (okTwo rfl (okTwo (decide_eq_false a3) (okTwo rfl (okTwo (decide_eq_false a2) (okTwo rfl (okTwo (zz_t a1) (okTwo rfl hlog)))))))))))
    · rw [eb]
      exact fin (goesT_runsW T (s0 := s) (us_uh o n c i a b l g) (okTwo (decide_eq_true b3) (okTwo rfl (okTwo (decide_eq_false b2) (okTwo rfl (okTwo (zz_t b1) (okTwo rfl (okTwo (decide_eq_false a3) (okTwo rfl (okTwo (decide_eq_false a2) (okTwo rfl (okTwo (zz_t a1) (okTwo rfl hlog)))))))))))))
  · rw [ea]
    exact fin (goesT_runsW T (s0 := s) (us_l o n c i a b l g) (okTwo (decide_eq_true a2) (okTwo rfl (okTwo (zz_t a1) (okTwo rfl hlog)))))
  · rw [ea]
    exact fin (goesT_runsW T (s0 := s) (us_h o n c i a b l g) (okTwo (decide_eq_true a3) (okTwo rfl (okTwo (decide_eq_false a2) (okTwo rfl (okTwo (zz_t a1) (okTwo rfl hlog)))))))
def usInv (l vs : List Value) (o c n : Nat) (k : Nat) (y : Lf) : Prop :=
  ∃ i : Nat, k = n - i ∧ i ≤ n ∧ (vs.take (2 * i)).all usV = true ∧ (∃ g, y.1 = [sl 0 o n c, undef, .bool false, .int .i64 (i : Nat)] ++ tl 46 g) ∧ y.2.1 = ⟨1, [(l, parR)]⟩
def usEnd (l : List Value) (o c n : Nat) (y : Lf) : Prop := (∃ j g, y.1 = [sl 0 o n c, undef, .bool false, .int .i64 j] ++ tl 46 g) ∧ y.2.1 = ⟨1, [(l, parR)]⟩
theorem us_next {x : List Value × TypeId} {vs : List Value} {o c n i : Nat} (G : GiveOk ts7 x o n c vs) (hi : i < n) : (vs.take (2 * (i + 1))).all usV = ((vs.take (2 * i)).all usV && (usI (intOf (vs.getD (2 * i) undef)) && usI (intOf (vs.getD (2 * i + 1) undef)))) := by
  rw [G.next hi, List.all_append]
  simp only [List.all_cons, List.all_nil, Bool.and_true]
  rfl
theorem all_take {l : List Value} {k : Nat} (h : (l.take k).all usV = false) : l.all usV = false := by
  cases e : l.all usV with
  | false => rfl
  | true =>
    have : (l.take k).all usV = true := List.all_eq_true.2 fun v hv => List.all_eq_true.1 e v (List.mem_of_mem_take hv)
    rw [h] at this
    cases this
theorem us_loop {x : List Value × TypeId} {vs : List Value} {o c q n : Nat} (G : GiveOk ts7 x o n q vs) (g : Nat → Value) :
    RunsW (tabOf Tryz.prog extY conN true) (.block 0 (.loop (cIn (cIn (cSnd (cFst (cSnd (cBody Tryz.f15)))))))) ([sl 0 o n c, undef, .bool false, .int .i64 0] ++ tl 46 g, ⟨1, [(x.1, parR)]⟩, []) fun e y => match e with | none => vs.all usV = true ∧ usEnd x.1 o c n y | some none => vs.all usV = false ∧ usEnd x.1 o c n y | some (some _) => False := by
  have T := tabY_ok conN_ok
  refine RunsW.forLoop (P := fun y => vs.all usV = true ∧ usEnd x.1 o c n y) (R := fun y => vs.all usV = false ∧ usEnd x.1 o c n y) (usInv x.1 vs o c n) ?_ (n := n) ⟨0, by omega, by omega, by simp, ⟨g, rfl⟩, rfl⟩
  rintro m ⟨t, h', s⟩ ⟨i, hn, hi, hall, ⟨g, ht⟩, hh⟩
  have hsz := G.sz
  simp only at ht hh
  subst ht hh
  by_cases hlt : i < n
  · have ei : IntKind.i64.wrap ((i : Int) + 1) = ((i + 1 : Nat) : Int) := by rw [wrapI (by omega) (by omega)]; omega
    have hlog : okLog (lGv x.1 o n i (intOf (vs.getD (2 * i) undef)) (intOf (vs.getD (2 * i + 1) undef))) := by
      have c0 := G.cell (k := 2 * i) (by omega)
      have c1 := G.cell (k := 2 * i + 1) (by omega)
      have q1 : cellIs (x.1[o + (i : Int).toNat * 2]?) (.int .u64 (intOf (vs.getD (2 * i) undef))) = true := by rw [Int.toNat_natCast, Nat.mul_comm, c0]; simp [cellIs]
      have q2 : cellIs (x.1[o + (i : Int).toNat * 2 + 1]?) (.int .u64 (intOf (vs.getD (2 * i + 1) undef))) = true := by rw [Int.toNat_natCast, Nat.mul_comm, Nat.add_assoc, c1]; simp [cellIs]
      have q3 : decide (0 ≤ (i : Int) ∧ (i : Int) < (n : Nat)) = true := decide_eq_true (by omega)
      have q4 : decide ((i : Int) < (n : Nat)) = true := decide_eq_true (by omega)
      exact okTwo q2 (okTwo q3 (okTwo q1 (okTwo q3 (okOne q4))))
    have nx := us_next G hlt
    rw [hall, Bool.true_and] at nx
    refine (us_turn (o := o) (n := n) (c := c) (i := (i : Int)) (l := x.1) g s G.st hlog).mono fun e z hz => ?_
    obtain ⟨rfl, ⟨g', e1⟩, e2⟩ := hz
    cases hc : (usI (intOf (vs.getD (2 * i) undef)) && usI (intOf (vs.getD (2 * i + 1) undef))) with
    | true =>
      rw [hc] at nx e1
      rw [if_pos rfl, ei] at e1
      exact ⟨n - (i + 1), by omega, i + 1, rfl, by omega, nx, ⟨g', e1⟩, e2⟩
    | false =>
      rw [hc] at nx
      exact ⟨all_take nx, ⟨_, g', e1⟩, e2⟩
  · have hil : i = n := by omega
    subst hil
    refine (goesT_runsW T (us_out _ _ _ _ _ g) (okOne (decide_eq_false (by omega)))).mono fun e z hz => ?_
    obtain ⟨rfl, ⟨g', e1⟩, e2⟩ := hz
    rw [List.take_of_length_le (by rw [G.vlen]; omega)] at hall
    exact ⟨rfl, hall, ⟨_, g', e1⟩, e2⟩
theorem us_runs {x : List Value × TypeId} {vs : List Value} {o c q n : Nat} (G : GiveOk ts7 x o n q vs) :
    RunsW (tabOf Tryz.prog extY conN true) (seqs [cFst (cBody Tryz.f15)] (.seq (.seq (cFst (cFst (cSnd (cBody Tryz.f15)))) (.block 0 (.loop (cIn (cIn (cSnd (cFst (cSnd (cBody Tryz.f15))))))))) (cSnd (cSnd (cBody Tryz.f15))))) ([sl 0 o n c] ++ List.replicate 49 undef, ⟨1, [(x.1, parR)]⟩, []) fun e y => (e = none ∨ e = some none) ∧ resS Tryz.prog Tryz.f15 y.1 y.2.1 = some (.bool (vs.all usV)) := by
  have T := tabY_ok conN_ok
  refine goesT_listW T (us_pre _ _) (fun x hx => by cases hx) fun g => ?_
  refine RunsW.seq (P1 := fun e y => match e with | none => vs.all usV = true ∧ usEnd x.1 o c n y | some none => vs.all usV = false ∧ usEnd x.1 o c n y | some (some _) => False) (RunsW.seq (goesT_runsW T (us_r1 _ _ g) (fun x hx => by cases hx)) ?_ (fun e y he => by cases he.1)) ?_ ?_
  · rintro ⟨t, h', s⟩ ⟨_, ⟨g', ht⟩, hh⟩
    simp only at ht hh
    subst ht hh
    exact RunsW.script (us_loop G g')
  · rintro ⟨t, h', s⟩ ⟨hall, ⟨j, g', ht⟩, hh⟩
    simp only at ht hh
    subst ht hh
    refine (goesT_runsW T (us_end _ _ _ g') (fun x hx => by cases hx)).mono fun e y he => ?_
    obtain ⟨rfl, ⟨g2, e1⟩, e2⟩ := he
    refine ⟨.inr rfl, ?_⟩
    rw [e1, e2, hall]
    rfl
  · rintro e ⟨t, h', s⟩ he
    match e, he with
    | none, he =>
      obtain ⟨hall, ⟨j, g', ht⟩, hh⟩ := he
      simp only at ht hh
      subst ht hh
      refine ⟨.inr rfl, ?_⟩
      rw [hall]
      rfl
    | some id, he => exact he.elim
/-! ### as a call -/
theorem us_n0 : FitsC (reckon (tabOf Tryz.prog extY conN true) 100 15 [nilS] []) (.bool true) := ⟨by kernel_rfl, by kernel_rfl, by kernel_rfl, by kernel_rfl⟩
theorem us_e0 (o c : Nat) : Fits (reckonAt (tabOf Tryz.prog extY conN true) ⟨1, [([], 2 * dead)]⟩ 100 15 [.slice (some ⟨0, o, none⟩) 0 c] []) (.bool true) [] := ⟨by kernel_rfl, by kernel_rfl, by kernel_rfl, by kernel_rfl⟩
def gUsu : AnsH := fun vals h s =>
  match vals with
  | [.slice none 0 0] => some (.bool true, h, s, [])
  | [.slice (some ⟨b, o, none⟩) n _] =>
    match Nat.beq n 0 with
    | true => some (.bool true, h, s, [])
    | false =>
      match s, h.blk? b with
      | .inr (.inr (.inr (.inr (.inr (.tuple ⟨vs⟩))))) :: .inr (.inr (.inr (.inl d))) :: s', some x => some (.bool d, h, s', [(giveB ts7 x o n n vs, true), (vs.all usV, d)])
      | _, _ => none
  | _ => none
theorem us_zero {m : Mp} {B : Nat} {h : Hp} {w : World} (E : Emb m B h w) (b o c : Nat) : Calls Tryz.prog 15 (([.slice (some ⟨b, o, none⟩) 0 c] : List Value).map (mv m)).toArray w fun e w' => e = .returned (.bool true) ∧ Came m B h w (.bool true) h m w' :=
  fits_row0 (T := tabOf Tryz.prog extY conN true) (tabY_ok conN_ok) rowsTo (us_e0 o c) (fun x hx => by cases hx) (fun v hv => by rw [List.mem_singleton.1 hv]; rfl) (by rfl) E (s := fun _ => b) (fitsT0 _ _)
theorem us_more {m : Mp} {B : Nat} {h : Hp} {w : World} (E : Emb m B h w) {b o n c q : Nat} {x : List Value × TypeId} {vs : List Value} (hx : h.blk? b = some x) (G : GiveOk ts7 x o n q vs) : Calls Tryz.prog 15 (([sl b o n c] : List Value).map (mv m)).toArray w fun e w' => ∃ m', e = .returned (mv m' (.bool (vs.all usV))) ∧ Came m B h w (.bool (vs.all usV)) h m' w' :=
  row_calls0 (T := tabOf Tryz.prog extY conN true) Tryz.func15 us_body (rowsX G.st) (vals := [sl 0 o n c]) (fun v hv => by rw [List.mem_singleton.1 hv]; rfl) (v := .bool (vs.all usV)) (by rfl) (us_runs (c := c) G) E (s := fun _ => b) (fitsX hx G.tb G.rt rfl)
theorem gUsu_ok : AnsHOk 15 gUsu := by
  intro vals h s v h' s' lg hg hl m B w E hv
  unfold gUsu at hg
  split at hg
  · cases hg
    refine (fitsC_calls (tabY_ok conN_ok) us_n0 (by rfl) (by rfl) w).mono fun e w' he => ?_
    obtain ⟨E', hb⟩ := clean_emb E he.2
    exact ⟨m, he.1, ⟨Agree.refl _ _, E', hb, Nat.le_refl _, rfl⟩⟩
  · rename_i b o n c
    split at hg
    · rename_i h0
      obtain rfl := Nat.eq_of_beq_eq_true h0
      cases hg
      refine (us_zero E b o c).mono fun e w' he => ⟨m, ?_, he.2⟩
      rw [he.1]
      exact congrArg Ending.returned (mv_still (by rfl)).symm
    · split at hg
      · rename_i vs d s2 x hx
        cases hg
        have G := giveB_ok (hl _ List.mem_cons_self)
        have hd : vs.all usV = d := hl _ (List.mem_cons_of_mem _ (List.mem_singleton.2 rfl))
        have r := us_more (c := c) E hx G
        rw [hd] at r
        exact r
      · cases hg
  · cases hg
end Go.Proofs.YtjkgnbdeklploaaGreatDoor
namespace Go.Proofs.YtjkgnbdeklploaaGreatDoor
open Go.KRun Go.Wd Go.Pt Go.Rn
set_option maxRecDepth 100000
def hcSc : Hc := altH 15 gUsu (altH 16 gScl hcLs)
theorem hcSc_ok : HcOk hcSc := altH_ok Tryz.func15 (by rfl) gUsu_ok (altH_ok Tryz.func16 (by rfl) gScl_ok hcLs_ok)
def hcSn : Hc := altH 15 gUsu (altH 16 gScl hcLn)
theorem hcSn_ok : HcOk hcSn := altH_ok Tryz.func15 (by rfl) gUsu_ok (altH_ok Tryz.func16 (by rfl) gScl_ok hcLn_ok)
def scp (x : PR) : PR := (scI x.1, scI x.2)
theorem okCT2 {a : Bool} {l : Log} (h : a = true) (hl : okLog l) : okLog ((a, true) :: l) := okPC h hl
theorem okCF2 {a : Bool} {l : Log} (h : a = false) (hl : okLog l) : okLog ((a, false) :: l) := okPC h hl
theorem uz_dvd (s d j : Nat) : 2 ^ j ∣ s * 2 ^ (d + j) := by rw [Nat.pow_add, ← Nat.mul_assoc]; exact Nat.dvd_mul_left _ _
theorem uz_le {s q b c : Nat} (hs : s < 2 ^ b) (h : b + q ≤ c) : s * 2 ^ q ≤ 2 ^ c := Nat.le_trans (Nat.le_of_lt (Nat.mul_lt_mul_of_pos_right hs (Nat.pow_pos (by omega)))) (by rw [← Nat.pow_add]; exact Nat.pow_le_pow_right (by omega) h)
theorem usI_sz0 {j k : Nat} (hj : j = 899) (hk : k = 78) {a : Int} (hu : U a) (h : usI a = true) : Sz j k a := by
  unfold usI at h
  rw [bNot_mag hu] at h
  have hm : mag a = 0 ∨ (900 ≤ (mag a).fdiv 4503599627370496 ∧ (mag a).fdiv 4503599627370496 ≤ 1100) := by
    simpa [Bool.or_eq_true, Bool.and_eq_true] using h
  have e0 : (mag a).fdiv 4503599627370496 = mag a / 4503599627370496 := Int.fdiv_eq_ediv_of_nonneg _ (by omega)
  rw [e0] at hm
  have hcl : cl a ≤ 2 := (mag_cl a).2.2.2 (by unfold mag at *; unfold U at hu; omega)
  have hx := fin_ex hcl
  rcases hm with hm | ⟨h1, h2⟩
  · have z : uV a = 0 := (uV_zero hx).2 hm
    exact ⟨hu, hcl, by rw [z]; exact Nat.dvd_zero _, by rw [z]; exact Nat.zero_le _⟩
  · have hex : Go.Pt.ex a = mag a / 4503599627370496 := by unfold Go.Pt.ex mag U at *; omega
    have hf := fr_lt a
    have es : sg a = fr a + 4503599627370496 := by unfold sg; rw [if_neg (by omega), if_neg hx]
    have ee : xp a = Go.Pt.ex a - 1075 := by unfold xp; rw [if_neg (by omega), if_neg hx]
    obtain ⟨q, hq⟩ : ∃ q : Nat, Go.Pt.ex a = q + 1 := ⟨(Go.Pt.ex a - 1).toNat, by omega⟩
    have e2 : (xp a + 1074).toNat = q := by omega
    have e := uV_eq a
    rw [e2] at e
    have hs : (sg a).toNat < 2 ^ 53 := by
      have h53 : (2 : Nat) ^ 53 = 9007199254740992 := rfl
      omega
    obtain ⟨d, hd⟩ : ∃ d : Nat, q = d + j := ⟨q - j, by omega⟩
    refine ⟨hu, hcl, ?_, ?_⟩
    · rw [e, hd]
      exact uz_dvd _ d j
    · rw [e]
      exact uz_le (b := 53) (c := 1074 + k) hs (by omega)
theorem usI_sz {a : Int} (hu : U a) (h : usI a = true) : Sz 899 78 a := usI_sz0 rfl rfl hu h
theorem scI_sc {j k : Nat} {a : Int} (h : Sz j k a) (hj : 843 ≤ j) (hk : k ≤ 300) : scI a = sc a ∧ U (scI a) := by
  obtain ⟨c, hc⟩ : ∃ c : Nat, c = 300 := ⟨_, rfl⟩
  have hu := (h.sc hc hj hk).1
  have e : scI a = sc a := by
    unfold scI sc at *
    by_cases h0 : mag a = 0
    · rw [if_pos h0, if_pos h0]
    · rw [if_neg h0, if_neg h0]
      rw [if_neg h0] at hu
      exact wrap_u64' hu.1 hu.2
  rw [e]
  exact ⟨rfl, hu⟩
theorem scp_sc {j k : Nat} {x : PR} (h : Z2 j k x) (hj : 843 ≤ j) (hk : k ≤ 300) : scp x = sc2 x ∧ up2 (scp x) := by
  obtain ⟨a1, a2⟩ := scI_sc h.1 hj hk
  obtain ⟨b1, b2⟩ := scI_sc h.2 hj hk
  exact ⟨by unfold scp sc2; rw [a1, b1], a2, b2⟩
theorem usV_int (a : Int) : usV (.int .u64 a) = usI a := rfl
theorem prC_all {xs : List PR} (h : (prC xs).all usV = true) : ∀ x ∈ xs, usI x.1 = true ∧ usI x.2 = true := fun x hx => by
  have m : ∀ v ∈ [Value.int .u64 x.1, Value.int .u64 x.2], v ∈ prC xs := fun v hv => List.mem_flatMap.2 ⟨x, hx, hv⟩
  have h1 := List.all_eq_true.1 h _ (m (.int .u64 x.1) (by simp))
  have h2 := List.all_eq_true.1 h _ (m (.int .u64 x.2) (by simp))
  rw [usV_int] at h1 h2
  exact ⟨h1, h2⟩
/-- what a little transform of numbers of usual sizes is, and of these, times 2^300 -/
theorem fl_us {xs : List PR} (hu : allU xs) (h : (prC xs).all usV = true) (hn : xs.length ≤ 100) (t : Bool) :
    allU (xs.map scp) ∧ flV (xs.map scp) t = (flV xs t).map scp ∧ flags (flO (xs.map scp) t) = flags (flO xs t) := by
  have hz : ZA 899 78 xs := fun x hx => by
    obtain ⟨h1, h2⟩ := prC_all h x hx
    exact ⟨usI_sz (hu x hx).1 h1, usI_sz (hu x hx).2 h2⟩
  obtain ⟨r1, r2, r3⟩ := fl_sc hz hn t
  have e : xs.map scp = xs.map sc2 := List.map_congr_left fun x hx => (scp_sc (hz x hx) (by omega) (by omega)).1
  have e2 : (flV xs t).map scp = (flV xs t).map sc2 := List.map_congr_left fun x hx => (scp_sc (r3 x hx) (by omega) (by omega)).1
  refine ⟨fun p hp => ?_, by rw [e, e2, r1], by rw [e, r2]⟩
  obtain ⟨x, hx, rfl⟩ := List.mem_map.1 hp
  exact (scp_sc (hz x hx) (by omega) (by omega)).2
theorem ge_us {xs ys : List PR} (e : ys = xs.map scp) {i : Nat} (hi : i < xs.length) : (!(scI (geP xs i).1 == (geP ys i).1 && (scI (geP xs i).2 == (geP ys i).2 && true))) = false := by
  have : geP ys i = scp (geP xs i) := by
    unfold geP
    rw [e]
    simp only [List.getD, List.getElem?_map, List.getElem?_eq_getElem hi, Option.map_some, Option.getD_some]
  rw [this]
  simp [scp]
theorem give_nn {ty : TypeId} {x : List Value × TypeId} {o n c : Nat} {vs : List Value} (h : giveB ty x o n c vs = true) : giveB ty x o n n vs = true := by
  have G := giveB_ok h
  have hsz := G.sz
  unfold giveB at h ⊢
  simp only [Bool.and_eq_true] at h ⊢
  obtain ⟨⟨⟨⟨⟨⟨⟨⟨⟨h1, h2⟩, h3⟩, h4⟩, h5⟩, h6⟩, h7⟩, h8⟩, h9⟩, h10⟩ := h
  exact ⟨⟨⟨⟨⟨⟨⟨⟨⟨h1, h2⟩, h3⟩, h4⟩, h5⟩, h6⟩, Nat.ble_eq_true_of_le (Nat.le_refl _)⟩, blt_iff.2 (by unfold dead; omega)⟩, h9⟩, h10⟩
/-- a row of the program's own -/
theorem give_vs {ty : TypeId} {x : List Value × TypeId} {o n c : Nat} {vs : List Value} (h : giveB ty x o n c vs = true) : giveB tp7 (vs, tp7) 0 n n vs = true := by
  have G := giveB_ok (give_nn h)
  have hl := G.vlen
  have hsz := G.sz
  have u6 : vs.all isU6 = true := List.all_eq_true.2 G.u6
  have e : (vs.drop 0).take (2 * n) = vs := by rw [List.drop_zero, List.take_of_length_le (by omega)]
  unfold giveB
  simp only [Bool.and_eq_true, Bool.not_eq_true', decide_eq_true_eq, e]
  exact ⟨⟨⟨⟨⟨⟨⟨⟨⟨by kernel_rfl, by kernel_rfl⟩, u6⟩, u6⟩, trivial⟩, Nat.ble_eq_true_of_le (by omega)⟩, Nat.ble_eq_true_of_le (Nat.le_refl _)⟩, blt_iff.2 (by unfold dead; omega)⟩, Nat.ble_eq_true_of_le hsz⟩, List.all_eq_true.2 fun v hv => by rw [(isU6_spec (G.u6 v hv)).1]; rfl⟩
theorem prC_len (xs : List PR) : (prC xs).length = 2 * xs.length := by
  induction xs with
  | nil => rfl
  | cons x xs ih => unfold prC at *; simp only [List.flatMap_cons, List.length_append, ih, List.length_cons, List.length_nil]; omega
theorem give_pr {xs : List PR} {n : Nat} (hu : allU xs) (hn : xs.length = n) (hs : n ≤ 1000) : giveB tp7 (prC xs, tp7) 0 n n (prC xs) = true := by
  have hl := prC_len xs
  have u6 : (prC xs).all isU6 = true := by
    have h := litB_pr hu hn
    unfold litB at h
    simp only [Bool.and_eq_true] at h
    have h3 := h.1.1.2
    rwa [List.take_of_length_le (by omega)] at h3
  have e : ((prC xs).drop 0).take (2 * n) = prC xs := by rw [List.drop_zero, List.take_of_length_le (by omega)]
  unfold giveB
  simp only [Bool.and_eq_true, Bool.not_eq_true', decide_eq_true_eq, e]
  exact ⟨⟨⟨⟨⟨⟨⟨⟨⟨by kernel_rfl, by kernel_rfl⟩, u6⟩, u6⟩, trivial⟩, Nat.ble_eq_true_of_le (by omega)⟩, Nat.ble_eq_true_of_le (Nat.le_refl _)⟩, blt_iff.2 (by unfold dead; omega)⟩, Nat.ble_eq_true_of_le (by omega)⟩, List.all_eq_true.2 (prC_still xs)⟩
theorem fl_len2 {xs : List PR} {n : Nat} (hn : xs.length = n) (hc : n = 2 ∨ n = 3 ∨ n = 4 ∨ n = 5 ∨ n = 7 ∨ n = 11 ∨ n = 13) (t : Bool) : (flV xs t).length = n := by
  by_cases h2 : n = 2
  · subst h2
    match xs, hn with
    | [a, b], _ => rfl
  · by_cases h4 : n = 4
    · subst h4
      match xs, hn with
      | [a, b, c, d], _ => rfl
    · rw [(fl_odd xs (by omega) (by omega) t).1]
      unfold fyV fyAs fyEs
      simp only [List.length_cons, List.length_append, List.length_reverse, List.length_zipWith, List.length_map, List.length_range, hn]
      omega
theorem beq_T {a b : Int} (h : a = b) : (a == b) = true := by rw [h]; simp
end Go.Proofs.YtjkgnbdeklploaaGreatDoor
