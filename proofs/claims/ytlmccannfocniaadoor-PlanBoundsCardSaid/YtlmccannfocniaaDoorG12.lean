/-
  PlF, PlG
-/
import Derived.Test.YtlmccannfocniaaDoorG11
namespace Go.Proofs.YtlmccannfocniaaDoor
open Go.KRun Go.RowKit Go.Pl
set_option maxRecDepth 100000
theorem T0_ok : TabOk (tabH Tryd.prog extY conN hcN) := tabH_ok conN_ok hcN_ok
def m7 (F : Func) : Code := cSnd (cSnd (cSnd (cSnd (cSnd (cBody F)))))
def mkLp (F : Func) : Code := cIn (cIn (cSnd (cFst (m7 F))))
def mkC7 (F : Func) : Code := cFst (mkLp F)
def mkIn (F : Func) : Code := cIn (cIn (cIn (cFst (cSnd (mkLp F)))))
def mkR8 (F : Func) : Code := cSnd (cSnd (mkLp F))
def mkT (F : Func) : Code := cFst (mkIn F)
def mkA (F : Func) : Code := cFst (cIn (cSnd (mkIn F)))
def mkQ (F : Func) : Code := cSnd (cIn (cSnd (mkIn F)))
def mkE (F : Func) : Code := cSnd (m7 F)
def mkPad (F : Func) : Code := cIn (cIn (cFst (cSnd (cSnd (mkE F)))))
def mk0 (F : Func) : Code := cFst (cBody F)
def mk1 (F : Func) : Code := cFst (cSnd (cBody F))
def mk2 (F : Func) : Code := cFst (cSnd (cSnd (cBody F)))
def mk3 (F : Func) : Code := cFst (cSnd (cSnd (cSnd (cBody F))))
def mk4 (F : Func) : Code := cFst (cSnd (cSnd (cSnd (cSnd (cBody F)))))
def mk6 (F : Func) : Code := cFst (cFst (m7 F))
def mkEnd (F : Func) : Code := .seq (cFst (mkE F)) (.seq (cFst (cSnd (mkE F))) (.seq (.block 4 (.loop (mkPad F))) (cSnd (cSnd (cSnd (mkE F))))))
def mkAll (F : Func) : Code := .seq (mk0 F) (.seq (mk1 F) (.seq (mk2 F) (.seq (mk3 F) (.seq (mk4 F) (.seq (.seq (mk6 F) (.block 0 (.loop (.seq (mkC7 F) (.seq (.block 1 (.block 2 (.loop (.seq (mkT F) (.block 3 (.seq (mkA F) (mkQ F))))))) (mkR8 F)))))) (mkEnd F))))))
theorem mk_body : Tryd.f8.body = some (mkAll Tryd.f8) := by kernel_rfl
theorem mk_body0 : Tryd.f8.body = some (cBody Tryd.f8) := by kernel_rfl
def rowW : List Nat → Value
  | [] => .slice none 0 0
  | a :: l => .slice (some ⟨0, 0, none⟩) (a :: l).length grown
theorem rowW_app (L : List Nat) (r : Nat) : rowW (L ++ [r]) = .slice (some ⟨0, 0, none⟩) (L.length + 1) grown := by
  cases L with
  | nil => rfl
  | cons a l => show Value.slice _ (a :: (l ++ [r])).length grown = _; rw [List.length_cons, List.length_append]; rfl
def l7V : List Value := [.int .i64 4, .int .i64 2, .int .i64 3, .int .i64 5, .int .i64 7, .int .i64 11, .int .i64 13]
abbrev hM (x : List Value × TypeId) : Hp := ⟨3, [(l7V, tIn), ([.int .i64 0, .slice none 0 0, .int .i64 0], 29), x]⟩
abbrev hM5 (a b x : List Value × TypeId) : Hp := ⟨5, [a, b, (l7V, tIn), ([.int .i64 0, .slice none 0 0, .int .i64 0], 29), x]⟩
abbrev q1 : Value := .pointer (some ⟨1, 0, none⟩)
abbrev q7 : Value := .slice (some ⟨2, 0, none⟩) 7 7
abbrev mkF (n m : Int) (j1 v j8 : Value) (i : Int) : List Value := [.int .i64 n, j1, q1, .int .i64 0, q7, v, .int .i64 m, .int .i64 i, j8]
theorem mk_bad1 (n : Int) : GoesT (evC (tabH Tryd.prog extY conN hcN) 100 false (cBody Tryd.f8) ([.int .i64 n] ++ List.replicate 56 undef, ⟨1, [([], 2 * dead)]⟩, [cmp true]) ⟨[], [], []⟩) 4 53 (some none) [.int .i64 n, undef, q1, .int .i64 1] ⟨2, [([.int .i64 0, .slice none 0 0, .int .i64 0], 29), ([], 2 * dead)]⟩ [(decide (n < 1), true)] := ⟨by kernel_rfl, by kernel_rfl, by kernel_rfl⟩
theorem mk_bad2 (n : Int) : GoesT (evC (tabH Tryd.prog extY conN hcN) 100 false (cBody Tryd.f8) ([.int .i64 n] ++ List.replicate 56 undef, ⟨1, [([], 2 * dead)]⟩, [cmp false, cmp true]) ⟨[], [], []⟩) 4 53 (some none) [.int .i64 n, undef, q1, .int .i64 1] ⟨2, [([.int .i64 0, .slice none 0 0, .int .i64 0], 29), ([], 2 * dead)]⟩ [(decide (n > 16777216), true), (decide (n < 1), false)] := ⟨by kernel_rfl, by kernel_rfl, by kernel_rfl⟩
theorem mk_0 (n : Int) : GoesT (evC (tabH Tryd.prog extY conN hcN) 100 false (mk0 Tryd.f8) ([.int .i64 n] ++ List.replicate 56 undef, ⟨1, [([], 2 * dead)]⟩, []) ⟨[], [], []⟩) 4 53 none [.int .i64 n, undef, q1, .int .i64 0] ⟨2, [([.int .i64 0, .slice none 0 0, .int .i64 0], 29), ([], 2 * dead)]⟩ [] := ⟨by kernel_rfl, by kernel_rfl, by kernel_rfl⟩
theorem mk_1 (n : Int) (g : Nat → Value) : GoesT (evC (tabH Tryd.prog extY conN hcN) 100 false (mk1 Tryd.f8) ([.int .i64 n, undef, q1, .int .i64 0] ++ tl 53 g, ⟨2, [([.int .i64 0, .slice none 0 0, .int .i64 0], 29), ([], 2 * dead)]⟩, [cmp false, cmp false]) ⟨[], [], []⟩) 4 53 none [.int .i64 n, undef, q1, .int .i64 0] ⟨2, [([.int .i64 0, .slice none 0 0, .int .i64 0], 29), ([], 2 * dead)]⟩ [(decide (n > 16777216), false), (decide (n < 1), false)] := ⟨by kernel_rfl, by kernel_rfl, by kernel_rfl⟩
theorem mk_2 (n : Int) (g : Nat → Value) : GoesT (evC (tabH Tryd.prog extY conN hcN) 100 false (mk2 Tryd.f8) ([.int .i64 n, undef, q1, .int .i64 0] ++ tl 53 g, ⟨2, [([.int .i64 0, .slice none 0 0, .int .i64 0], 29), ([], 2 * dead)]⟩, []) ⟨[], [], []⟩) 5 52 none [.int .i64 n, undef, q1, .int .i64 0, q7] (hM ([], 2 * dead)) [] := ⟨by kernel_rfl, by kernel_rfl, by kernel_rfl⟩
theorem mk_3 (n : Int) (h : Hp) (g : Nat → Value) : GoesT (evC (tabH Tryd.prog extY conN hcN) 100 false (mk3 Tryd.f8) ([.int .i64 n, undef, q1, .int .i64 0, q7] ++ tl 52 g, h, []) ⟨[], [], []⟩) 6 51 none [.int .i64 n, undef, q1, .int .i64 0, q7, .slice none 0 0] h [] := ⟨by kernel_rfl, by kernel_rfl, by kernel_rfl⟩
theorem mk_4 (n : Int) (h : Hp) (g : Nat → Value) : GoesT (evC (tabH Tryd.prog extY conN hcN) 100 false (mk4 Tryd.f8) ([.int .i64 n, undef, q1, .int .i64 0, q7, .slice none 0 0] ++ tl 51 g, h, []) ⟨[], [], []⟩) 7 50 none [.int .i64 n, undef, q1, .int .i64 0, q7, .slice none 0 0, .int .i64 n] h [] := ⟨by kernel_rfl, by kernel_rfl, by kernel_rfl⟩
theorem mk_6 (n : Int) (h : Hp) (g : Nat → Value) : GoesT (evC (tabH Tryd.prog extY conN hcN) 100 false (mk6 Tryd.f8) ([.int .i64 n, undef, q1, .int .i64 0, q7, .slice none 0 0, .int .i64 n] ++ tl 50 g, h, []) ⟨[], [], []⟩) 9 48 none (mkF n n undef (.slice none 0 0) (g 1) 0) h [] := ⟨by kernel_rfl, by kernel_rfl, by kernel_rfl⟩
theorem mk_ct (n m i : Int) (j1 v j8 : Value) (h : Hp) (g : Nat → Value) : GoesT (evC (tabH Tryd.prog extY conN hcN) 100 false (mkC7 Tryd.f8) (mkF n m j1 v j8 i ++ tl 48 g, h, [cmp true]) ⟨[], [], []⟩) 9 48 none (mkF n m j1 v j8 i) h [(decide (i < 7), true)] := ⟨by kernel_rfl, by kernel_rfl, by kernel_rfl⟩
theorem mk_cf (n m i : Int) (j1 v j8 : Value) (h : Hp) (g : Nat → Value) : GoesT (evC (tabH Tryd.prog extY conN hcN) 100 false (mkC7 Tryd.f8) (mkF n m j1 v j8 i ++ tl 48 g, h, [cmp false]) ⟨[], [], []⟩) 9 48 (some (some 0)) (mkF n m j1 v j8 i) h [(decide (i < 7), false)] := ⟨by kernel_rfl, by kernel_rfl, by kernel_rfl⟩
theorem mk_8 (n m i : Int) (j1 v j8 : Value) (h : Hp) (g : Nat → Value) : GoesT (evC (tabH Tryd.prog extY conN hcN) 100 false (mkR8 Tryd.f8) (mkF n m j1 v j8 i ++ tl 48 g, h, []) ⟨[], [], []⟩) 9 48 none (mkF n m j1 v j8 (IntKind.i64.wrap (i + 1))) h [] := ⟨by kernel_rfl, by kernel_rfl, by kernel_rfl⟩
theorem mk_t (n m i r : Int) (j1 v j8 : Value) (x : List Value × TypeId) (g : Nat → Value) : GoesT (evC (tabH Tryd.prog extY conN hcN) 100 false (mkT Tryd.f8) (mkF n m j1 v j8 i ++ tl 48 g, hM x, [at_, val (.int .i64 r), cmp false, cmp true]) ⟨[], [], []⟩) 9 48 none (mkF n m j1 v j8 i) (hM x) [(m.tmod r == 0, true), (decide (r = 0), false), (cellIs (l7V[0 + i.toNat * 1]?) (.int .i64 r), true), (decide (0 ≤ i ∧ i < ((7 : Nat) : Int)), true)] := ⟨by kernel_rfl, by kernel_rfl, by kernel_rfl⟩
theorem mk_o (n m i r : Int) (j1 v j8 : Value) (x : List Value × TypeId) (g : Nat → Value) : GoesT (evC (tabH Tryd.prog extY conN hcN) 100 false (mkT Tryd.f8) (mkF n m j1 v j8 i ++ tl 48 g, hM x, [at_, val (.int .i64 r), cmp false, cmp false]) ⟨[], [], []⟩) 9 48 (some (some 2)) (mkF n m j1 v j8 i) (hM x) [(m.tmod r == 0, false), (decide (r = 0), false), (cellIs (l7V[0 + i.toNat * 1]?) (.int .i64 r), true), (decide (0 ≤ i ∧ i < ((7 : Nat) : Int)), true)] := ⟨by kernel_rfl, by kernel_rfl, by kernel_rfl⟩
theorem mk_n (n m i r : Int) (j1 j8 : Value) (x : List Value × TypeId) (g : Nat → Value) : GoesT (evC (tabH Tryd.prog extY conN hcN) 100 false (mkA Tryd.f8) (mkF n m j1 (.slice none 0 0) j8 i ++ tl 48 g, hM x, [at_, val (.int .i64 r)]) ⟨[], [], []⟩) 9 48 none (mkF n m j1 (.slice (some ⟨4, 0, none⟩) 1 grown) j8 i) (hM5 ([.int .i64 r], tIn) ([.int .i64 r], tIn) x) [(cellIs (l7V[0 + i.toNat * 1]?) (.int .i64 r), true), (decide (0 ≤ i ∧ i < ((7 : Nat) : Int)), true)] := ⟨by kernel_rfl, by kernel_rfl, by kernel_rfl⟩
theorem mk_s (n m i r : Int) (j1 j8 : Value) (z : Nat) (lo : List Value) (g : Nat → Value) : GoesT (evC (tabH Tryd.prog extY conN hcN) 100 false (mkA Tryd.f8) (mkF n m j1 (.slice (some ⟨0, 0, none⟩) z grown) j8 i ++ tl 48 g, hM (lo, tIn), [at_, val (.int .i64 r), at_]) ⟨[], [], []⟩) 9 48 none (mkF n m j1 (.slice (some ⟨4, 0, none⟩) (z + 1) grown) j8 i) (hM5 (lo ++ [.int .i64 r], tIn) ([.int .i64 r], tIn) ([], 2 * dead)) [(appChk tIn (lo, tIn) ([.int .i64 r], tIn) z 0 1, true), (cellIs (l7V[0 + i.toNat * 1]?) (.int .i64 r), true), (decide (0 ≤ i ∧ i < ((7 : Nat) : Int)), true)] := ⟨by kernel_rfl, by kernel_rfl, by kernel_rfl⟩
theorem mk_q (n m i r q : Int) (j1 v j8 : Value) (a b x : List Value × TypeId) (g : Nat → Value) : GoesT (evC (tabH Tryd.prog extY conN hcN) 100 false (mkQ Tryd.f8) (mkF n m j1 v j8 i ++ tl 48 g, hM5 a b x, [at_, val (.int .i64 r), num q]) ⟨[], [], []⟩) 9 48 none (mkF n q j1 v j8 i) (hM5 a b x) [(decide (r = 0), false), (decide (IntKind.i64.wrap (m.tdiv r) = q), true), (cellIs (l7V[0 + i.toNat * 1]?) (.int .i64 r), true), (decide (0 ≤ i ∧ i < ((7 : Nat) : Int)), true)] := ⟨by kernel_rfl, by kernel_rfl, by kernel_rfl⟩
theorem mk_en (n m i : Int) (j1 j8 : Value) (g : Nat → Value) : GoesT (evC (tabH Tryd.prog extY conN hcN) 100 false (mkEnd Tryd.f8) (mkF n m j1 (.slice none 0 0) j8 i ++ tl 48 g, hM ([], 2 * dead), [cmp true]) ⟨[], [], []⟩) 4 53 (some none) [.int .i64 n, j1, q1, .int .i64 0] ⟨3, [(l7V, tIn), ([.int .i64 n, .slice none 0 0, .int .i64 0], 29), ([], 2 * dead)]⟩ [(m == 1, true)] := ⟨by kernel_rfl, by kernel_rfl, by kernel_rfl⟩
theorem mk_es (n m i : Int) (z : Nat) (lo : List Value) (j1 j8 : Value) (g : Nat → Value) : GoesT (evC (tabH Tryd.prog extY conN hcN) 100 false (mkEnd Tryd.f8) (mkF n m j1 (.slice (some ⟨0, 0, none⟩) z grown) j8 i ++ tl 48 g, hM (lo, tIn), [cmp true]) ⟨[], [], []⟩) 4 53 (some none) [.int .i64 n, j1, q1, .int .i64 0] ⟨3, [(l7V, tIn), ([.int .i64 n, .slice (some ⟨0, 0, none⟩) z grown, .int .i64 0], 29), (lo, tIn)]⟩ [(m == 1, true)] := ⟨by kernel_rfl, by kernel_rfl, by kernel_rfl⟩
theorem mk_p (n m i : Int) (j1 v j8 : Value) (h : Hp) (g : Nat → Value) : GoesT (evC (tabH Tryd.prog extY conN hcN) 100 false (cFst (mkE Tryd.f8)) (mkF n m j1 v j8 i ++ tl 48 g, h, [cmp false]) ⟨[], [], []⟩) 9 48 none (mkF n m j1 v j8 i) h [(m == 1, false)] := ⟨by kernel_rfl, by kernel_rfl, by kernel_rfl⟩
theorem mk_p1 (n m i : Int) (j1 v j8 : Value) (h : Hp) (g : Nat → Value) : GoesT (evC (tabH Tryd.prog extY conN hcN) 100 false (cFst (cSnd (mkE Tryd.f8))) (mkF n m j1 v j8 i ++ tl 48 g, h, []) ⟨[], [], []⟩) 9 48 none (mkF n m j1 v (.int .i64 1) i) h [] := ⟨by kernel_rfl, by kernel_rfl, by kernel_rfl⟩
theorem mk_pg (n m i p : Int) (j1 v : Value) (h : Hp) (g : Nat → Value) : GoesT (evC (tabH Tryd.prog extY conN hcN) 100 false (mkPad Tryd.f8) (mkF n m j1 v (.int .i64 p) i ++ tl 48 g, h, [cmp true]) ⟨[], [], []⟩) 9 48 none (mkF n m j1 v (.int .i64 (IntKind.i64.wrap (2 * p))) i) h [(decide (p < IntKind.i64.wrap (IntKind.i64.wrap (2 * n) - 1)), true)] := ⟨by kernel_rfl, by kernel_rfl, by kernel_rfl⟩
theorem mk_po (n m i p : Int) (j1 v : Value) (h : Hp) (g : Nat → Value) : GoesT (evC (tabH Tryd.prog extY conN hcN) 100 false (mkPad Tryd.f8) (mkF n m j1 v (.int .i64 p) i ++ tl 48 g, h, [cmp false]) ⟨[], [], []⟩) 9 48 (some (some 4)) (mkF n m j1 v (.int .i64 p) i) h [(decide (p < IntKind.i64.wrap (IntKind.i64.wrap (2 * n) - 1)), false)] := ⟨by kernel_rfl, by kernel_rfl, by kernel_rfl⟩
theorem mk_pe (n m i p : Int) (j1 v : Value) (x : List Value × TypeId) (g : Nat → Value) : GoesT (evC (tabH Tryd.prog extY conN hcN) 100 false (cSnd (cSnd (cSnd (mkE Tryd.f8)))) (mkF n m j1 v (.int .i64 p) i ++ tl 48 g, hM x, []) ⟨[], [], []⟩) 4 53 (some none) [.int .i64 n, j1, q1, .int .i64 0] ⟨3, [(l7V, tIn), ([.int .i64 n, .slice none 0 0, .int .i64 p], 29), x]⟩ [] := ⟨by kernel_rfl, by kernel_rfl, by kernel_rfl⟩
def mkM (n : Int) (r z : Nat) (K : List Nat) (i : Int) : Ex → Lf → Prop := fun e y => e = none ∧ (∃ j g', y.1 = fillO j [some (.int .i64 n), none, some q1, some (.int .i64 0), some q7, some (.slice (some ⟨0, 0, none⟩) (K.length + 1) grown), some (.int .i64 ((z / r : Nat) : Int)), some (.int .i64 i), none] ++ tl 48 g') ∧ y.2.1 = ⟨[4, 1, 2].length, [(wN (K ++ [r]), tIn), ([.int .i64 0, .slice none 0 0, .int .i64 0], 29), (l7V, tIn)].reverse⟩
section
variable {r : Nat} (hr : 2 ≤ r) (n i : Int) (hi : 0 ≤ i ∧ i < 7) (hc : l7V[0 + i.toNat * 1]? = some (.int .i64 (r : Nat))) (j1 j8 : Value)
include hr hi hc in
theorem mk_inner {L : List Nat} {m : Nat} (hm : 0 < m) (hL : L.length + m ≤ 67108864) (g : Nat → Value) :
    RunsW (tabH Tryd.prog extY conN hcN) (.block 2 (.loop (.seq (mkT Tryd.f8) (.block 3 (.seq (mkA Tryd.f8) (mkQ Tryd.f8)))))) (mkF n m j1 (rowW L) j8 i ++ tl 48 g, hM (rowB L), []) fun e y => match e with
      | none => (∃ j1 j8 g, y.1 = mkF n (lefR r m : Nat) j1 (rowW (L ++ cutR r m)) j8 i ++ tl 48 g) ∧ y.2.1 = hM (rowB (L ++ cutR r m)) | some none => False | some (some _) => False := by
  refine RunsW.forLoop (P := fun y => (∃ j1 j8 g, y.1 = mkF n (lefR r m : Nat) j1 (rowW (L ++ cutR r m)) j8 i ++ tl 48 g) ∧ y.2.1 = hM (rowB (L ++ cutR r m))) (R := fun _ => False)
    (fun z y => ∃ K : List Nat, 0 < z ∧ K.length + z ≤ 67108864 ∧ K ++ cutR r z = L ++ cutR r m ∧ lefR r z = lefR r m ∧ (∃ j1 j8 g, y.1 = mkF n (z : Nat) j1 (rowW K) j8 i ++ tl 48 g) ∧ y.2.1 = hM (rowB K)) ?_ (n := m) ⟨L, hm, hL, rfl, rfl, ⟨j1, j8, g, rfl⟩, rfl⟩
  rintro z ⟨t, h', s⟩ ⟨K, hz, hK, e1, e2, ⟨j1, j8, g, ht⟩, hh⟩
  simp only at ht hh
  subst ht hh
  have hr0 : decide ((r : Int) = 0) = false := decide_eq_false (by omega)
  have c1' := cellIs_of hc
  have c2' : decide (0 ≤ i ∧ i < ((7 : Nat) : Int)) = true := decide_eq_true hi
  by_cases hd : z % r = 0
  · obtain ⟨c1, c2⟩ := cut_go hr hz hd
    rw [c1] at e1
    rw [c2] at e2
    have hq := div_pos' hz hd
    have hlt := Nat.div_lt_self hz hr
    refine RunsW.goes T0_ok (mk_t n z i r j1 (rowW K) j8 (rowB K) g) (okTwo (by rw [tmod_nat]; exact decide_eq_true hd) (okTwo hr0 (okTwo c1' (okOne c2')))) fun g => ?_
    refine (RunsW.block (P1 := mkM n r z K i) (P := mkM n r z K i) ?_ (fun y hy => hy) (fun y hy => by cases hy.1) (fun y hy => by cases hy.1) (fun id y _ hy => by cases hy.1)).mono fun e y hy => ?_
    · have fin : ∀ (b x : List Value × TypeId) (g : Nat → Value), RunsW (tabH Tryd.prog extY conN hcN) (mkQ Tryd.f8) (mkF n z j1 (.slice (some ⟨4, 0, none⟩) (K.length + 1) grown) j8 i ++ tl 48 g, hM5 (wN (K ++ [r]), tIn) b x, []) (mkM n r z K i) := by
        intro b x g
        refine (goesT_runsW (s0 := []) T0_ok (mk_q n z i r ((z / r : Nat) : Int) j1 (.slice (some ⟨4, 0, none⟩) (K.length + 1) grown) j8 (wN (K ++ [r]), tIn) b x g) (okTwo hr0 (okTwo (decide_eq_true (tdiv_nat (by omega))) (okTwo c1' (okOne c2'))))).cutP [some (.int .i64 n), none, some q1, some (.int .i64 0), some q7, some (.slice (some ⟨0, 0, none⟩) (K.length + 1) grown), some (.int .i64 ((z / r : Nat) : Int)), some (.int .i64 i), none] [4, 1, 2] [(wN (K ++ [r]), tIn), ([.int .i64 0, .slice none 0 0, .int .i64 0], 29), (l7V, tIn)] rfl (by decide) ⟨rfl, rfl, rfl, rfl, rfl, rfl, rfl, trivial⟩ (fun q hq => ?_) (by decide) (by kernel_rfl)
        have hq' : q = (4, (wN (K ++ [r]), tIn)) ∨ q = (1, ([.int .i64 0, .slice none 0 0, .int .i64 0], 29)) ∨ q = (2, (l7V, tIn)) := by simpa using hq
        rcases hq' with rfl | rfl | rfl
        · exact kept_x19 (wN_still _) (b := 4) rfl _ (by decide)
        · exact ⟨by kernel_rfl, by kernel_rfl⟩
        · exact ⟨by kernel_rfl, by kernel_rfl⟩
      cases K with
      | nil => exact RunsW.goes T0_ok (mk_n n z i r j1 j8 (rowB []) g) (okTwo c1' (okOne c2')) fun g => fin _ _ g
      | cons a l =>
        refine RunsW.goes T0_ok (mk_s n z i r j1 j8 (a :: l).length (wN (a :: l)) g) (okTwo (appI_ok _ (by omega)) (okTwo c1' (okOne c2'))) fun g => ?_
        rw [wN_app]
        exact fin _ _ g
    · obtain ⟨t, h', s'⟩ := y
      obtain ⟨rfl, ⟨j, g', y1⟩, y2⟩ := hy
      simp only at y1 y2
      subst y1 y2
      refine ⟨z / r, hlt, K ++ [r], hq, by rw [List.length_append, List.length_singleton]; omega, by rw [List.append_assoc]; exact e1, e2, ⟨j 1, j 8, g', ?_⟩, by rw [rowB_app]; rfl⟩
      rw [rowW_app]
      rfl
  · obtain ⟨c1, c2⟩ := cut_stop hd
    rw [c1, List.append_nil] at e1
    rw [c2] at e2
    refine RunsW.seq (P1 := fun e y => e = some (some 2) ∧ (∃ g', y.1 = mkF n z j1 (rowW K) j8 i ++ tl 48 g') ∧ y.2.1 = hM (rowB K)) (goesT_runsW T0_ok (mk_o n z i r j1 (rowW K) j8 (rowB K) g) (okTwo (by rw [tmod_nat]; exact decide_eq_false hd) (okTwo hr0 (okTwo c1' (okOne c2'))))) (fun y hy => by cases hy.1) fun e y hy => ?_
    obtain ⟨he, ⟨g', y1⟩, y2⟩ := hy
    obtain rfl := Option.some.inj he
    refine ⟨rfl, ⟨j1, j8, g', ?_⟩, ?_⟩
    · rw [y1, e1, e2]
    · rw [y2, e1]
end
def mkI (n : Nat) (z : Nat) (y : Lf) : Prop := ∃ i : Nat, z = 7 - i ∧ i ≤ 7 ∧ ∃ (L : List Nat) (m : Nat), 0 < m ∧ L.length + m ≤ 67108864 ∧ L ++ parL (rad7.drop i) m = plL n ∧ parW (rad7.drop i) m = plW n ∧ (∃ j1 j8 g, y.1 = mkF (n : Nat) (m : Nat) j1 (rowW L) j8 (i : Nat) ++ tl 48 g) ∧ y.2.1 = hM (rowB L)
theorem mk_round {n i r : Nat} (hi : i < 7) (hr : 2 ≤ r) (hd : rad7.drop i = r :: rad7.drop (i + 1)) (hc : l7V[0 + (i : Int).toNat * 1]? = some (.int .i64 (r : Nat))) {L : List Nat} {m : Nat} (hm : 0 < m) (hL : L.length + m ≤ 67108864) (e1 : L ++ parL (rad7.drop i) m = plL n) (e2 : parW (rad7.drop i) m = plW n) (j1 j8 : Value) (g : Nat → Value) :
    RunsW (tabH Tryd.prog extY conN hcN) (.seq (.block 1 (.block 2 (.loop (.seq (mkT Tryd.f8) (.block 3 (.seq (mkA Tryd.f8) (mkQ Tryd.f8))))))) (mkR8 Tryd.f8)) (mkF (n : Nat) (m : Nat) j1 (rowW L) j8 (i : Nat) ++ tl 48 g, hM (rowB L), []) fun e y => e = none ∧ mkI n (7 - (i + 1)) y := by
  have hs := cut_size hr hm
  rw [hd] at e1 e2
  refine RunsW.seq (P1 := fun e y => e = none ∧ (∃ j1 j8 g, y.1 = mkF (n : Nat) (lefR r m : Nat) j1 (rowW (L ++ cutR r m)) j8 (i : Nat) ++ tl 48 g) ∧ y.2.1 = hM (rowB (L ++ cutR r m))) ?_ ?_ (fun e y hy => by cases hy.1)
  · refine RunsW.block (P1 := fun e y => e = none ∧ (∃ j1 j8 g, y.1 = mkF (n : Nat) (lefR r m : Nat) j1 (rowW (L ++ cutR r m)) j8 (i : Nat) ++ tl 48 g) ∧ y.2.1 = hM (rowB (L ++ cutR r m))) ?_ (fun y hy => hy) (fun y hy => by cases hy.1) (fun y hy => by cases hy.1) (fun id y _ hy => by cases hy.1)
    refine (mk_inner hr (n : Nat) (i : Nat) ⟨by omega, by omega⟩ hc j1 j8 hm hL g).mono fun e y he => ?_
    match e, he with
    | none, he => exact ⟨rfl, he⟩
  · rintro ⟨t, h', s⟩ ⟨_, ⟨j1, j8, g, ht⟩, hh⟩
    simp only at ht hh
    subst ht hh
    have hwi : IntKind.i64.wrap ((i : Int) + 1) = ((i + 1 : Nat) : Int) := by rw [wrapI (by omega) (by omega)]; omega
    have hG := mk_8 (n : Nat) (lefR r m : Nat) (i : Nat) j1 (rowW (L ++ cutR r m)) j8 (hM (rowB (L ++ cutR r m))) g
    rw [hwi] at hG
    exact RunsW.ends T0_ok hG ok19 fun g s' => ⟨rfl, i + 1, rfl, hi, L ++ cutR r m, lefR r m, lef_pos hr hm, by rw [List.length_append]; omega, by rw [List.append_assoc]; exact e1, e2, ⟨j1, j8, g, rfl⟩, rfl⟩
/-- the answer of the document's Make -/
def mkV (n : Int) (v : Value) (p e : Int) : Value := .tuple #[.agg #[.int .i64 n, v, .int .i64 p], .int .i64 e]
def mkP (k : Nat) : Lf → Prop := fun y => (plW k = 1 → resS Tryd.prog Tryd.f8 y.1 y.2.1 = some (mkV (k : Nat) (rowW (plL k)) 0 0) ∧ y.2.1.blk? 0 = some (rowB (plL k))) ∧ (plW k ≠ 1 → resS Tryd.prog Tryd.f8 y.1 y.2.1 = some (mkV (k : Nat) (.slice none 0 0) (padK k : Nat) 0))
theorem mk_runs {k : Nat} (h0 : 0 < k) (hk : k ≤ 16777216) : RunsW (tabH Tryd.prog extY conN hcN) (mkAll Tryd.f8) ([.int .i64 (k : Nat)] ++ List.replicate (Tryd.f8.ntmps - [Value.int .i64 (k : Nat)].length) undef, ⟨1, [([], 2 * dead)]⟩, []) fun e y => (e = none ∨ e = some none) ∧ mkP k y := by
  refine RunsW.goes T0_ok (mk_0 k) ok19 fun g => RunsW.goes T0_ok (mk_1 k g) (okTwo (decide_eq_false (by omega)) (okOne (decide_eq_false (by omega)))) fun g => RunsW.goes T0_ok (mk_2 k g) ok19 fun g => RunsW.goes T0_ok (mk_3 k _ g) ok19 fun g => RunsW.goes T0_ok (mk_4 k _ g) ok19 fun g => ?_
  refine RunsW.seq (RunsW.goes T0_ok (mk_6 k _ g) ok19 fun g => RunsW.forLoop (P := fun y => mkI k 0 y) (R := fun _ => False) (mkI k) ?_ (n := 7) ⟨0, rfl, by omega, [], k, h0, by show 0 + k ≤ _; omega, rfl, rfl, ⟨_, _, g, rfl⟩, rfl⟩) ?_ ?_
  · rintro z ⟨t, h', s⟩ ⟨i, rfl, hi, L, m, hm, hL, e1, e2, ⟨j1, j8, g, ht⟩, hh⟩
    simp only at ht hh
    subst ht hh
    by_cases h7 : i = 7
    · subst h7
      refine RunsW.seq (P1 := fun e y => e = some (some 0) ∧ mkI k 0 y) (RunsW.ends T0_ok (mk_cf k m (7 : Nat) j1 (rowW L) j8 (hM (rowB L)) g) (okOne (by decide)) fun g s' => ⟨rfl, 7, rfl, by omega, L, m, hm, hL, e1, e2, ⟨j1, j8, g, rfl⟩, rfl⟩) (fun y hy => by cases hy.1) fun e y hy => ?_
      obtain ⟨he, hy⟩ := hy
      obtain rfl := Option.some.inj he
      exact ⟨rfl, hy⟩
    · have hlt : i < 7 := by omega
      refine RunsW.goes T0_ok (mk_ct k m (i : Nat) j1 (rowW L) j8 (hM (rowB L)) g) (okOne (decide_eq_true (by omega))) fun g => ?_
      have key : RunsW (tabH Tryd.prog extY conN hcN) (.seq (.block 1 (.block 2 (.loop (.seq (mkT Tryd.f8) (.block 3 (.seq (mkA Tryd.f8) (mkQ Tryd.f8))))))) (mkR8 Tryd.f8)) (mkF (k : Nat) (m : Nat) j1 (rowW L) j8 (i : Nat) ++ tl 48 g, hM (rowB L), []) fun e y => e = none ∧ mkI k (7 - (i + 1)) y := by
        rcases (show i = 0 ∨ i = 1 ∨ i = 2 ∨ i = 3 ∨ i = 4 ∨ i = 5 ∨ i = 6 by omega) with rfl | rfl | rfl | rfl | rfl | rfl | rfl
        · exact mk_round (r := 4) hlt (by decide) rfl rfl hm hL e1 e2 j1 j8 g
        · exact mk_round (r := 2) hlt (by decide) rfl rfl hm hL e1 e2 j1 j8 g
        · exact mk_round (r := 3) hlt (by decide) rfl rfl hm hL e1 e2 j1 j8 g
        · exact mk_round (r := 5) hlt (by decide) rfl rfl hm hL e1 e2 j1 j8 g
        · exact mk_round (r := 7) hlt (by decide) rfl rfl hm hL e1 e2 j1 j8 g
        · exact mk_round (r := 11) hlt (by decide) rfl rfl hm hL e1 e2 j1 j8 g
        · exact mk_round (r := 13) hlt (by decide) rfl rfl hm hL e1 e2 j1 j8 g
      refine key.mono fun e y he => ?_
      obtain ⟨rfl, he⟩ := he
      exact ⟨7 - (i + 1), by omega, he⟩
  · rintro ⟨t, h', s⟩ ⟨i, hz, hi, L, m, hm, hL, e1, e2, ⟨j1, j8, g, ht⟩, hh⟩
    have h7 : i = 7 := by omega
    subst h7
    simp only at ht hh
    subst ht hh
    have e1' : L = plL k := by rw [← e1]; exact (List.append_nil L).symm
    have e2' : m = plW k := e2
    by_cases hw : plW k = 1
    · have hm1 : ((m : Nat) : Int) == 1 := by rw [e2', hw]; rfl
      have fin : RunsW (tabH Tryd.prog extY conN hcN) (mkEnd Tryd.f8) (mkF (k : Nat) (m : Nat) j1 (rowW L) j8 ((7 : Nat) : Int) ++ tl 48 g, hM (rowB L), []) fun e y => (e = none ∨ e = some none) ∧ mkP k y := by
        cases L with
        | nil => exact RunsW.ends T0_ok (mk_en k m (7 : Nat) j1 j8 g) (okOne hm1) fun g s' => ⟨.inr rfl, fun _ => ⟨by rw [← e1']; rfl, by rw [← e1']; rfl⟩, fun h => absurd hw h⟩
        | cons a l => exact RunsW.ends T0_ok (mk_es k m (7 : Nat) (a :: l).length (wN (a :: l)) j1 j8 g) (okOne hm1) fun g s' => ⟨.inr rfl, fun _ => ⟨by rw [← e1']; rfl, by rw [← e1']; rfl⟩, fun h => absurd hw h⟩
      exact RunsW.script fin
    · have hm1 : (((m : Nat) : Int) == 1) = false := beq_eq_false_iff_ne.2 (by omega)
      have ht : IntKind.i64.wrap (IntKind.i64.wrap (2 * (k : Int)) - 1) = ((2 * k - 1 : Nat) : Int) := by
        rw [wrapI (n := 2 * (k : Int)) (by omega) (by omega), wrapI (by omega) (by omega)]
        omega
      refine RunsW.goes T0_ok (mk_p k m (7 : Nat) j1 (rowW L) j8 _ g) (okOne hm1) fun g => RunsW.goes T0_ok (mk_p1 k m (7 : Nat) j1 (rowW L) j8 _ g) ok19 fun g => ?_
      refine RunsW.seq (P1 := fun e y => match e with | none => (∃ g, y.1 = mkF (k : Nat) (m : Nat) j1 (rowW L) (.int .i64 (padK k : Nat)) (7 : Nat) ++ tl 48 g) ∧ y.2.1 = hM (rowB L) | some none => False | some (some _) => False)
        (RunsW.forLoop (P := fun y => (∃ g, y.1 = mkF (k : Nat) (m : Nat) j1 (rowW L) (.int .i64 (padK k : Nat)) (7 : Nat) ++ tl 48 g) ∧ y.2.1 = hM (rowB L)) (R := fun _ => False) (fun z y => ∃ p : Nat, 2 * k ≤ z + p ∧ 0 < p ∧ p < 67108864 ∧ padN z p (2 * k - 1) = padK k ∧ (∃ g, y.1 = mkF (k : Nat) (m : Nat) j1 (rowW L) (.int .i64 (p : Nat)) (7 : Nat) ++ tl 48 g) ∧ y.2.1 = hM (rowB L)) ?_ (n := 2 * k) ⟨1, by omega, by omega, by omega, rfl, ⟨g, rfl⟩, rfl⟩) ?_ ?_
      · rintro z ⟨t, h', s⟩ ⟨p, hz, hp0, hp1, he, ⟨g, h1⟩, h2⟩
        simp only at h1 h2
        subst h1 h2
        by_cases c : p < 2 * k - 1
        · cases z with
          | zero => omega
          | succ z =>
            rw [padN_go c] at he
            have hG := mk_pg k m (7 : Nat) p j1 (rowW L) (hM (rowB L)) g
            rw [ht, show IntKind.i64.wrap (2 * (p : Int)) = ((2 * p : Nat) : Int) from by rw [wrapI (by omega) (by omega)]; omega] at hG
            exact RunsW.ends T0_ok hG (okOne (decide_eq_true (by omega))) fun g s' => ⟨z, by omega, 2 * p, by omega, by omega, by omega, he, ⟨g, rfl⟩, rfl⟩
        · rw [padN_stop c] at he
          have hG := mk_po k m (7 : Nat) p j1 (rowW L) (hM (rowB L)) g
          rw [ht] at hG
          exact RunsW.ends T0_ok hG (okOne (decide_eq_false (by omega))) fun g s' => ⟨rfl, ⟨g, by rw [he]⟩, rfl⟩
      · rintro ⟨t, h', s⟩ ⟨⟨g, h1⟩, h2⟩
        simp only at h1 h2
        subst h1 h2
        exact RunsW.ends T0_ok (mk_pe k m (7 : Nat) (padK k : Nat) j1 (rowW L) (rowB L) g) ok19 fun g s' => ⟨.inr rfl, fun h => absurd h hw, fun _ => rfl⟩
      · intro e y he
        match e, he with
        | none, he => exact absurd he (by simp)
  · intro e y he
    match e, he with
    | none, he => exact absurd he (by simp)
/-- what is known of a call of it -/
def mkBad (n : Int) : Bool := decide (n < 1 ∨ n > 16777216)
def gMk : AnsH := fun vals h s => match vals, s with
  | [.int .i64 n], .inr (.inr (.inr (.inl true))) :: s' => some (mkV 0 (.slice none 0 0) 0 1, h, s', [(mkBad n, true)])
  | [.int .i64 n], .inr (.inr (.inr (.inl false))) :: .inr (.inr (.inr (.inl true))) :: .inr (.inr (.inr (.inl true))) :: .inr (.inr (.inr (.inr (.inr (.agg ⟨l⟩))))) :: s' => some (mkV n (.slice (some ⟨h.n, 0, none⟩) l.length grown) 0 0, h.push l tIn, s', [(eqI19 l (plI n), true), (decide (plW n.toNat = 1), true), (okPl n true, true), (mkBad n, false)])
  | [.int .i64 n], .inr (.inr (.inr (.inl false))) :: .inr (.inr (.inr (.inl true))) :: .inr (.inr (.inr (.inl false))) :: s' => some (mkV n (.slice none 0 0) 0 0, h, s', [(decide (plW n.toNat = 1), true), (okPl n false, true), (mkBad n, false)])
  | [.int .i64 n], .inr (.inr (.inr (.inl false))) :: .inr (.inr (.inr (.inl false))) :: .inr (.inl p) :: s' => some (mkV n (.slice none 0 0) p 0, h, s', [(decide (((padK n.toNat : Nat) : Int) = p), true), (decide (plW n.toNat = 1), false), (mkBad n, false)])
  | _, _ => none
theorem emb_tomb19 {m : Mp} {B : Nat} {h : Hp} {w : World} (E : Emb m B h w) : Emb (fun i => m i) w.heap.size ⟨1, [([], 2 * dead)]⟩ w := by
  have blk : ∀ (i : Nat) (z : List Value × TypeId), (⟨1, [([], 2 * dead)]⟩ : Hp).blk? i = some z → z = ([], 2 * dead) := fun i z hz => by
    have : i < 1 := Hp.blk_lt hz
    have e : i = 0 := by omega
    subst e
    exact (Option.some.inj hz).symm
  refine E.smallB (s := fun i => i) rfl (fun b y hb => ?_) (fun b y hb hy => ?_) (fun b y hb hy => ?_) <;> obtain rfl := blk b y hb
  · exact ⟨dead2_ro, fun v hv => by cases hv⟩
  · rw [dead2_tomb] at hy; cases hy
  · rw [dead2_ab] at hy; cases hy
theorem mkBad_no {n : Int} (h : mkBad n = false) : ∃ k : Nat, n = (k : Int) ∧ 0 < k ∧ k ≤ 16777216 := by
  have := of_decide_eq_false h
  exact ⟨n.toNat, by omega, by omega, by omega⟩
theorem gMk_ok : AnsHOk 8 gMk := by
  intro vals h s v h' s' lg hg hl m B w E hv
  have E0 := emb_tomb19 E
  unfold gMk at hg
  split at hg
  · rename_i n s2
    cases hg
    have hb := of_decide_eq_true (hl _ (List.mem_singleton.2 rfl))
    by_cases c : n < 1
    · exact row_calls0E (T := tabH Tryd.prog extY conN hcN) Tryd.func8 mk_body0 (vals := [.int .i64 n]) (fun v hv => by rw [List.mem_singleton.1 hv]; rfl) (v := mkV 0 (.slice none 0 0) 0 1) (by rfl) (RunsW.ends T0_ok (mk_bad1 n) (okOne (decide_eq_true c)) fun g s' => ⟨.inr rfl, rfl⟩) E (s := fun i => i) E0
    · exact row_calls0E (T := tabH Tryd.prog extY conN hcN) Tryd.func8 mk_body0 (vals := [.int .i64 n]) (fun v hv => by rw [List.mem_singleton.1 hv]; rfl) (v := mkV 0 (.slice none 0 0) 0 1) (by rfl) (RunsW.ends T0_ok (mk_bad2 n) (okTwo (decide_eq_true (by omega)) (okOne (decide_eq_false c))) fun g s' => ⟨.inr rfl, rfl⟩) E (s := fun i => i) E0
  · rename_i n l s2
    cases hg
    have l1 := wN_plI (show eqI19 l (plI n) = true from hl _ (List.mem_cons_self ..))
    have l2 := of_decide_eq_true (show decide (plW n.toNat = 1) = true from hl (decide (plW n.toNat = 1), true) (by simp))
    have l3 : okPl n true = true := hl (okPl n true, true) (by simp)
    obtain ⟨k, rfl, k0, k1⟩ := mkBad_no (show mkBad n = false from hl (mkBad n, false) (by simp))
    obtain ⟨_, _, _, _, _, _, ke⟩ := okPl_of l3
    rw [Int.toNat_natCast] at l1 l2
    have hr := mk_runs k0 k1
    have ke' : (plL k).isEmpty = false := by
      unfold okPl at l3
      rw [Bool.and_eq_true] at l3
      simpa using l3.2
    cases hp : plL k with
    | nil => rw [hp] at ke'; cases ke'
    | cons a r =>
      have := row_calls1E (T := tabH Tryd.prog extY conN hcN) Tryd.func8 mk_body (vals := [.int .i64 (k : Nat)]) (fun v hv => by rw [List.mem_singleton.1 hv]; rfl) (k := 0) (cs := wN (a :: r)) (ty := tIn) (fun u hu => by
        obtain ⟨q, _, rfl⟩ := List.mem_map.1 hu
        rfl) (by kernel_rfl) (v := mkV (k : Nat) (rowW (a :: r)) 0 0) (hr.mono fun e y hy => ⟨hy.1, by have := (hy.2.1 l2).1; rw [hp] at this; exact this, [], by have := (hy.2.1 l2).2; rw [hp] at this; rw [this, List.append_nil]; rfl⟩) (by kernel_rfl) E (s := fun i => i) E0
      have e1 : rn (fun _ => h.n) (mkV (k : Nat) (rowW (a :: r)) 0 0) = mkV (k : Nat) (.slice (some ⟨h.n, 0, none⟩) (a :: r).length grown) 0 0 := by kernel_rfl
      have e2 : [Value.int .i64 (k : Nat)].map (rn fun i => i) = [Value.int .i64 (k : Nat)] := rfl
      rw [e1, e2] at this
      rw [l1, hp, wN_len]
      exact this
  · rename_i n s2
    cases hg
    have l2 := of_decide_eq_true (show decide (plW n.toNat = 1) = true from hl _ (List.mem_cons_self ..))
    have l3 : okPl n false = true := hl (okPl n false, true) (by simp)
    obtain ⟨k, rfl, k0, k1⟩ := mkBad_no (show mkBad n = false from hl (mkBad n, false) (by simp))
    rw [Int.toNat_natCast] at l2
    have hr := mk_runs k0 k1
    have ke' : (plL k).isEmpty = true := by
      unfold okPl at l3
      rw [Bool.and_eq_true] at l3
      simpa using l3.2
    cases hp : plL k with
    | cons a r => rw [hp] at ke'; cases ke'
    | nil => exact row_calls0E (T := tabH Tryd.prog extY conN hcN) Tryd.func8 mk_body (vals := [.int .i64 (k : Nat)]) (fun v hv => by rw [List.mem_singleton.1 hv]; rfl) (v := mkV (k : Nat) (rowW []) 0 0) (by rfl) (hr.mono fun e y hy => ⟨hy.1, by have := (hy.2.1 l2).1; rw [hp] at this; exact this⟩) E (s := fun i => i) E0
  · rename_i n p s2
    cases hg
    have l1 := of_decide_eq_true (show decide (((padK n.toNat : Nat) : Int) = p) = true from hl _ (List.mem_cons_self ..))
    have l2 := of_decide_eq_false (show decide (plW n.toNat = 1) = false from hl (decide (plW n.toNat = 1), false) (by simp))
    obtain ⟨k, rfl, k0, k1⟩ := mkBad_no (show mkBad n = false from hl (mkBad n, false) (by simp))
    rw [Int.toNat_natCast] at l1 l2
    subst l1
    exact row_calls0E (T := tabH Tryd.prog extY conN hcN) Tryd.func8 mk_body (vals := [.int .i64 (k : Nat)]) (fun v hv => by rw [List.mem_singleton.1 hv]; rfl) (v := mkV (k : Nat) (.slice none 0 0) (padK k : Nat) 0) (by rfl) ((mk_runs k0 k1).mono fun e y hy => ⟨hy.1, hy.2.2 l2⟩) E (s := fun i => i) E0
  · cases hg
/-- a caller's row by itself -/
theorem row_one {h : Hp} {p : Option Addr} {n : Nat} (hr : rowIP h p n = true) (i : Nat) : ∃ (x : List Value × TypeId) (p' : Option Addr) (b : Nat), RowAt i x p' n (rowO h p n) ∧ (∀ (s : Nat → Nat), s i = b → ∀ c, rn s (.slice p' n c) = .slice p n c) ∧ (tomb x.2 = false → ∃ y r, h.blk? b = some y ∧ tomb y.2 = false ∧ rt y.2 = rt x.2 ∧ y.1 = x.1 ++ r) := by
  unfold rowIP at hr
  split at hr
  · have e := Nat.eq_of_beq_eq_true hr
    subst e
    exact ⟨([], 2 * dead), none, 0, ⟨rfl, by omega, .inl ⟨rfl, rfl⟩, (fun v hv => by cases hv), ⟨dead2_ro, dead2_ab⟩, fun _ h => by cases h⟩, fun _ _ _ => rfl, fun ht => by rw [dead2_tomb] at ht; cases ht⟩
  · rename_i a
    split at hr
    · rename_i x hs hx
      obtain ⟨b, o, sp⟩ := a
      simp only at hs hx
      subst hs
      obtain ⟨h0, h1, h2, h3, h4, h5, h6⟩ := rowCO_of hr
      have er : rowO h (some ⟨b, o, none⟩) n = cutO x.1 o n := by simp [rowO, hx]
      refine ⟨(x.1, tIR), some ⟨i, o, none⟩, b, ⟨by rw [er]; exact h1, h2, .inr ⟨o, rfl, rfl, by rw [er]; exact h3⟩, h6, ⟨tIR_ro, tIR_ab⟩, fun o' ho => by cases ho; exact h0⟩, fun s hs c => ?_, fun _ => ⟨x, [], hx, h4, by rw [h5]; exact tIR_rt.symm, by simp⟩⟩
      show Value.slice (some ⟨s i, o, none⟩) n c = _
      rw [hs]
    · cases hr
theorem rows_in2 {m : Mp} {B : Nat} {h : Hp} {w : World} (E : Emb m B h w) {p q : Option Addr} {n n' : Nat} (h1 : rowIP h p n = true) (h2 : rowIP h q n' = true) :
    ∃ (x y : List Value × TypeId) (p' q' : Option Addr) (s : Nat → Nat), Emb (fun i => m (s i)) w.heap.size ⟨2, [y, x]⟩ w ∧ RowAt 0 x p' n (rowO h p n) ∧ RowAt 1 y q' n' (rowO h q n') ∧ (∀ c, rn s (.slice p' n c) = .slice p n c) ∧ ∀ c, rn s (.slice q' n' c) = .slice q n' c := by
  obtain ⟨x, p', b, R1, f1, t1⟩ := row_one h1 0
  obtain ⟨y, q', d, R2, f2, t2⟩ := row_one h2 1
  refine ⟨x, y, p', q', fun i => if i = 0 then b else d, ?_, R1, R2, f1 _ rfl, f2 _ rfl⟩
  refine E.smallB rfl (fun k z hk => ?_) (fun k z hk hz => ?_) (fun k z hk hz => ?_) <;> rcases blkTwo hk with ⟨rfl, rfl⟩ | ⟨rfl, rfl⟩
  · exact ⟨R1.ros.1, R1.st⟩
  · exact ⟨R2.ros.1, R2.st⟩
  · exact t1 hz
  · exact t2 hz
  · rw [R1.ros.2] at hz; cases hz
  · rw [R2.ros.2] at hz; cases hz
def isLp (F : Func) : Code := cIn (cIn (cSnd (cFst (cSnd (cSnd (cBody F))))))
def isC (F : Func) : Code := cFst (isLp F)
def isB (F : Func) : Code := cIn (cFst (cSnd (isLp F)))
def isI5 (F : Func) : Code := cSnd (cSnd (isLp F))
def isE (F : Func) : Code := cSnd (cSnd (cSnd (cBody F)))
def is0 (F : Func) : Code := cFst (cBody F)
def is1 (F : Func) : Code := cFst (cSnd (cBody F))
def is3 (F : Func) : Code := cFst (cFst (cSnd (cSnd (cBody F))))
def isAll (F : Func) : Code := .seq (is0 F) (.seq (is1 F) (.seq (.seq (is3 F) (.block 0 (.loop (.seq (isC F) (.seq (.block 1 (isB F)) (isI5 F)))))) (isE F)))
theorem is_body : Tryd.f23.body = some (isAll Tryd.f23) := by kernel_rfl
abbrev isF (p q : Option Addr) (n c n' c' : Nat) (j2 j3 : Value) (i : Int) : List Value := [.slice p n c, .slice q n' c', j2, j3, .bool false, .int .i64 i]
theorem is_0 (p q : Option Addr) (n c n' c' : Nat) (h : Hp) : GoesT (evC (tabH Tryd.prog extY conN hcN) 100 false (is0 Tryd.f23) ([.slice p n c, .slice q n' c'] ++ List.replicate 24 undef, h, []) ⟨[], [], []⟩) 5 21 none ([.slice p n c, .slice q n' c', undef, undef, .bool false]) h [] := ⟨by kernel_rfl, by kernel_rfl, by kernel_rfl⟩
theorem is_1 (p q : Option Addr) (n c n' c' : Nat) (h : Hp) (g : Nat → Value) : GoesT (evC (tabH Tryd.prog extY conN hcN) 100 false (is1 Tryd.f23) ([.slice p n c, .slice q n' c', undef, undef, .bool false] ++ tl 21 g, h, [cmp false]) ⟨[], [], []⟩) 5 21 none ([.slice p n c, .slice q n' c', undef, undef, .bool false]) h [((n : Int) != n', false)] := ⟨by kernel_rfl, by kernel_rfl, by kernel_rfl⟩
theorem is_1t (p q : Option Addr) (n c n' c' : Nat) (h : Hp) (g : Nat → Value) : GoesT (evC (tabH Tryd.prog extY conN hcN) 100 false (is1 Tryd.f23) ([.slice p n c, .slice q n' c', undef, undef, .bool false] ++ tl 21 g, h, [cmp true]) ⟨[], [], []⟩) 5 21 (some none) ([.slice p n c, .slice q n' c', undef, undef, .bool false]) h [((n : Int) != n', true)] := ⟨by kernel_rfl, by kernel_rfl, by kernel_rfl⟩
theorem is_3 (p q : Option Addr) (n c n' c' : Nat) (h : Hp) (g : Nat → Value) : GoesT (evC (tabH Tryd.prog extY conN hcN) 100 false (is3 Tryd.f23) ([.slice p n c, .slice q n' c', undef, undef, .bool false] ++ tl 21 g, h, []) ⟨[], [], []⟩) 6 20 none (isF p q n c n' c' undef undef 0) h [] := ⟨by kernel_rfl, by kernel_rfl, by kernel_rfl⟩
theorem is_ct (p q : Option Addr) (n c n' c' : Nat) (j2 j3 : Value) (i : Int) (h : Hp) (g : Nat → Value) : GoesT (evC (tabH Tryd.prog extY conN hcN) 100 false (isC Tryd.f23) (isF p q n c n' c' j2 j3 i ++ tl 20 g, h, [cmp true]) ⟨[], [], []⟩) 6 20 none (isF p q n c n' c' j2 j3 i) h [(decide (i < n), true)] := ⟨by kernel_rfl, by kernel_rfl, by kernel_rfl⟩
theorem is_cf (p q : Option Addr) (n c n' c' : Nat) (j2 j3 : Value) (i : Int) (h : Hp) (g : Nat → Value) : GoesT (evC (tabH Tryd.prog extY conN hcN) 100 false (isC Tryd.f23) (isF p q n c n' c' j2 j3 i ++ tl 20 g, h, [cmp false]) ⟨[], [], []⟩) 6 20 (some (some 0)) (isF p q n c n' c' j2 j3 i) h [(decide (i < n), false)] := ⟨by kernel_rfl, by kernel_rfl, by kernel_rfl⟩
theorem is_5 (p q : Option Addr) (n c n' c' : Nat) (j2 j3 : Value) (i : Int) (h : Hp) (g : Nat → Value) : GoesT (evC (tabH Tryd.prog extY conN hcN) 100 false (isI5 Tryd.f23) (isF p q n c n' c' j2 j3 i ++ tl 20 g, h, []) ⟨[], [], []⟩) 6 20 none (isF p q n c n' c' j2 j3 (IntKind.i64.wrap (i + 1))) h [] := ⟨by kernel_rfl, by kernel_rfl, by kernel_rfl⟩
theorem is_e (p q : Option Addr) (n c n' c' : Nat) (j2 j3 : Value) (i : Int) (h : Hp) (g : Nat → Value) : GoesT (evC (tabH Tryd.prog extY conN hcN) 100 false (isE Tryd.f23) (isF p q n c n' c' j2 j3 i ++ tl 20 g, h, []) ⟨[], [], []⟩) 5 21 (some none) ([.slice p n c, .slice q n' c', j2, j3, .bool true]) h [] := ⟨by kernel_rfl, by kernel_rfl, by kernel_rfl⟩
theorem is_b (o o' n c n' c' : Nat) (a b : Int) (l l' : List Value) (j2 j3 : Value) (i : Int) (g : Nat → Value) : GoesT (evC (tabH Tryd.prog extY conN hcN) 100 false (isB Tryd.f23) (isF (some ⟨0, o, none⟩) (some ⟨1, o', none⟩) n c n' c' j2 j3 i ++ tl 20 g, ⟨2, [(l', tIR), (l, tIR)]⟩, [at_, num 5, at_, num 0, at_, num 2, num 1, at_, num 3, num 1, val (.int .i64 a), num 6, num 1, at_, num 7, num 1, val (.int .i64 b), num 8, num 1, cmp false]) ⟨[], [], []⟩) 6 20 none (isF (some ⟨0, o, none⟩) (some ⟨1, o', none⟩) n c n' c' j2 j3 i) ⟨2, [(l', tIR), (l, tIR)]⟩ [(a != b, false), (cellIs (l'[o' + i.toNat * 1]?) (.int .i64 b), true), (decide (0 ≤ i ∧ i < n'), true), (cellIs (l[o + i.toNat * 1]?) (.int .i64 a), true), (decide (0 ≤ i ∧ i < n), true)] := ⟨by kernel_rfl, by kernel_rfl, by kernel_rfl⟩
theorem is_t (o o' n c n' c' : Nat) (a b : Int) (l l' : List Value) (j2 j3 : Value) (i : Int) (g : Nat → Value) : GoesT (evC (tabH Tryd.prog extY conN hcN) 100 false (isB Tryd.f23) (isF (some ⟨0, o, none⟩) (some ⟨1, o', none⟩) n c n' c' j2 j3 i ++ tl 20 g, ⟨2, [(l', tIR), (l, tIR)]⟩, [at_, num 5, at_, num 0, at_, num 2, num 1, at_, num 3, num 1, val (.int .i64 a), num 6, num 1, at_, num 7, num 1, val (.int .i64 b), num 8, num 1, cmp true]) ⟨[], [], []⟩) 5 21 (some none) [.slice (some ⟨0, o, none⟩) n c, .slice (some ⟨1, o', none⟩) n' c', j2, j3, .bool false] ⟨2, [(l', tIR), (l, tIR)]⟩ [(a != b, true), (cellIs (l'[o' + i.toNat * 1]?) (.int .i64 b), true), (decide (0 ≤ i ∧ i < n'), true), (cellIs (l[o + i.toNat * 1]?) (.int .i64 a), true), (decide (0 ≤ i ∧ i < n), true)] := ⟨by kernel_rfl, by kernel_rfl, by kernel_rfl⟩
theorem is_runs {x y : List Value × TypeId} {p q : Option Addr} {n n' : Nat} {A B : List Int} (hA : RowAt 0 x p n A) (hB : RowAt 1 y q n' B) (c c' : Nat) :
    RunsW (tabH Tryd.prog extY conN hcN) (isAll Tryd.f23) ([.slice p n c, .slice q n' c'] ++ List.replicate (Tryd.f23.ntmps - [Value.slice p n c, .slice q n' c'].length) undef, ⟨2, [y, x]⟩, []) fun e z => (e = none ∨ e = some none) ∧ resS Tryd.prog Tryd.f23 z.1 z.2.1 = some (.bool (decide (A = B))) := by
  obtain ⟨l, ty⟩ := x
  obtain ⟨l', ty'⟩ := y
  have la := hA.len
  have lb := hB.len
  have ba := hA.big
  refine RunsW.goes T0_ok (is_0 p q n c n' c' _) ok19 fun g => ?_
  by_cases hn : n = n'
  · subst hn
    refine RunsW.goes T0_ok (is_1 p q n c n c' _ g) (okOne (by simp)) fun g => ?_
    refine RunsW.seq (RunsW.goes T0_ok (is_3 p q n c n c' _ g) ok19 fun g => RunsW.forLoop (P := fun z => A = B ∧ (∃ j2 j3 i g, z.1 = isF p q n c n c' j2 j3 i ++ tl 20 g) ∧ z.2.1 = ⟨2, [(l', ty'), (l, ty)]⟩) (R := fun z => A ≠ B ∧ resS Tryd.prog Tryd.f23 z.1 z.2.1 = some (.bool false))
      (fun k z => ∃ i : Nat, k = n - i ∧ i ≤ n ∧ A.take i = B.take i ∧ (∃ j2 j3 g, z.1 = isF p q n c n c' j2 j3 (i : Nat) ++ tl 20 g) ∧ z.2.1 = ⟨2, [(l', ty'), (l, ty)]⟩) ?_ (n := n) ⟨0, rfl, Nat.zero_le _, rfl, ⟨_, _, g, rfl⟩, rfl⟩) ?_ ?_
    · rintro k ⟨t, h', s⟩ ⟨i, rfl, hi, ht, ⟨j2, j3, g, h1⟩, h2⟩
      simp only at h1 h2
      subst h1 h2
      by_cases hin : i = n
      · refine RunsW.seq (P1 := fun e z => e = some (some 0) ∧ (∃ j2 j3 i g, z.1 = isF p q n c n c' j2 j3 i ++ tl 20 g) ∧ z.2.1 = ⟨2, [(l', ty'), (l, ty)]⟩) (RunsW.ends T0_ok (is_cf p q n c n c' j2 j3 i _ g) (okOne (decide_eq_false (by omega))) fun g s' => ⟨rfl, ⟨j2, j3, i, g, rfl⟩, rfl⟩) (fun z hz => by cases hz.1) fun e z hz => ?_
        obtain ⟨he, h1, h2⟩ := hz
        obtain rfl := Option.some.inj he
        refine ⟨rfl, ?_, h1, h2⟩
        have := ht
        rw [List.take_of_length_le (by omega), List.take_of_length_le (by omega)] at this
        exact this
      · have hlt : i < n := by omega
        rcases hA.pos with ⟨_, h0⟩ | ⟨o, rfl, hty, hcell⟩
        · omega
        rcases hB.pos with ⟨_, h0⟩ | ⟨o', rfl, hty', hcell'⟩
        · omega
        simp only at hty hcell hty' hcell'
        subst hty hty'
        have c1 := cellIs_of (hcell i hlt)
        have c2 := cellIs_of (hcell' i hlt)
        have d1 : decide (0 ≤ (i : Int) ∧ (i : Int) < (n : Int)) = true := decide_eq_true (by omega)
        have hwi : IntKind.i64.wrap ((i : Int) + 1) = ((i + 1 : Nat) : Int) := by rw [wrapI (by omega) (by omega)]; omega
        have e1 : A.take (i + 1) = A.take i ++ [A.getD i 0] := by
          rw [List.take_add_one, List.getD_eq_getElem?_getD, List.getElem?_eq_getElem (show i < A.length by omega)]
          rfl
        have e2 : B.take (i + 1) = B.take i ++ [B.getD i 0] := by
          rw [List.take_add_one, List.getD_eq_getElem?_getD, List.getElem?_eq_getElem (show i < B.length by omega)]
          rfl
        refine RunsW.goes T0_ok (is_ct _ _ n c n c' j2 j3 i _ g) (okOne (decide_eq_true (by omega))) fun g => ?_
        by_cases hv : A.getD i 0 = B.getD i 0
        · refine RunsW.seq (P1 := fun e z => e = none ∧ (∃ g, z.1 = isF (some ⟨0, o, none⟩) (some ⟨1, o', none⟩) n c n c' j2 j3 i ++ tl 20 g) ∧ z.2.1 = ⟨2, [(l', tIR), (l, tIR)]⟩) (RunsW.block (P1 := fun e z => e = none ∧ (∃ g, z.1 = isF (some ⟨0, o, none⟩) (some ⟨1, o', none⟩) n c n c' j2 j3 i ++ tl 20 g) ∧ z.2.1 = ⟨2, [(l', tIR), (l, tIR)]⟩) (goesT_runsW T0_ok (is_b o o' n c n c' (A.getD i 0) (B.getD i 0) l l' j2 j3 i g) (okTwo (by rw [hv]; simp) (okTwo c2 (okTwo d1 (okTwo c1 (okOne d1)))))) (fun y hy => hy) (fun y hy => by cases hy.1) (fun y hy => by cases hy.1) (fun id y _ hy => by cases hy.1)) ?_ (fun e z hz => by cases hz.1)
          rintro ⟨t, h', s⟩ ⟨_, ⟨g, h1⟩, h2⟩
          simp only at h1 h2
          subst h1 h2
          have hG := is_5 (some ⟨0, o, none⟩) (some ⟨1, o', none⟩) n c n c' j2 j3 i ⟨2, [(l', tIR), (l, tIR)]⟩ g
          rw [hwi] at hG
          exact RunsW.ends T0_ok hG ok19 fun g s' => ⟨n - (i + 1), by omega, i + 1, rfl, by omega, by rw [e1, e2, ht, hv], ⟨j2, j3, g, rfl⟩, rfl⟩
        · have hne : A ≠ B := fun h => hv (by rw [h])
          refine RunsW.seq (P1 := fun e z => e = some none ∧ resS Tryd.prog Tryd.f23 z.1 z.2.1 = some (.bool false)) (RunsW.block (P1 := fun e z => e = some none ∧ resS Tryd.prog Tryd.f23 z.1 z.2.1 = some (.bool false)) (RunsW.ends T0_ok (is_t o o' n c n c' (A.getD i 0) (B.getD i 0) l l' j2 j3 i g) (okTwo (by simpa using hv) (okTwo c2 (okTwo d1 (okTwo c1 (okOne d1))))) fun g s' => ⟨rfl, rfl⟩) (fun y hy => by cases hy.1) (fun y hy => hy) (fun y hy => by cases hy.1) (fun id y _ hy => by cases hy.1)) (fun z hz => by cases hz.1) fun e z hz => ?_
          obtain ⟨he, hz⟩ := hz
          obtain rfl := Option.some.inj he
          exact ⟨hne, hz⟩
    · rintro ⟨t, h', s⟩ ⟨he, ⟨j2, j3, i, g, h1⟩, h2⟩
      simp only at h1 h2
      subst h1 h2
      exact RunsW.ends T0_ok (is_e p q n c n c' j2 j3 i _ g) ok19 fun g s' => ⟨.inr rfl, by rw [decide_eq_true he]; rfl⟩
    · intro e z hz
      match e, hz with
      | none, hz => exact ⟨.inr rfl, by rw [decide_eq_false hz.1]; exact hz.2⟩
  · have hne : A ≠ B := fun h => hn (by rw [← la, ← lb, h])
    refine RunsW.seq (P1 := fun e z => e = some none ∧ resS Tryd.prog Tryd.f23 z.1 z.2.1 = some (.bool false)) (RunsW.ends T0_ok (is_1t p q n c n' c' _ g) (okOne (by simp; omega)) fun g s' => ⟨rfl, rfl⟩) (fun z hz => by cases hz.1) fun e z hz => ?_
    exact ⟨.inr hz.1, by rw [decide_eq_false hne]; exact hz.2⟩
/-- two rows, number by number: the outcome told ahead -/
def gIs : AnsH := fun vals h s => match vals, s with
  | [.slice p n _, .slice q n' _], .inr (.inr (.inr (.inl d))) :: s' => some (.bool d, h, s', [(decide (rowO h p n = rowO h q n'), d), (rowIP h p n, true), (rowIP h q n', true)])
  | _, _ => none
theorem gIs_ok : AnsHOk 23 gIs := by
  intro vals h s v h' s' lg hg hl m B w E hv
  unfold gIs at hg
  split at hg
  · rename_i p n c q n' c' d s2
    cases hg
    have l1 : decide (rowO h p n = rowO h q n') = d := hl _ (List.mem_cons_self ..)
    have l2 : rowIP h p n = true := hl (rowIP h p n, true) (by simp)
    have l3 : rowIP h q n' = true := hl (rowIP h q n', true) (by simp)
    obtain ⟨x, y, p', q', f, E0, R1, R2, f1, f2⟩ := rows_in2 E l2 l3
    have hr := is_runs R1 R2 c c'
    rw [l1] at hr
    have := row_calls0E (T := (tabH Tryd.prog extY conN hcN)) Tryd.func23 is_body (vals := [.slice p' n c, .slice q' n' c']) (fun v hv => by
      rcases List.mem_cons.1 hv with rfl | hv
      · exact R1.lt c (by show 0 < 2; decide)
      · rw [List.mem_singleton.1 hv]; exact R2.lt c' (by show 1 < 2; decide)) (v := .bool d) (by rfl) hr E E0
    simp only [List.map_cons, List.map_nil, f1, f2] at this
    exact this
  · cases hg
end Go.Proofs.YtlmccannfocniaaDoor
