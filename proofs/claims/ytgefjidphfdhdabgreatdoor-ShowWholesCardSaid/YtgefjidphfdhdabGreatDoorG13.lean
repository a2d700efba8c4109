/-
  PwE, PwF, ConNK, PwB, PwG, TxU, TxA, RunI, TxT
-/
import Derived.Test.YtgefjidphfdhdabGreatDoorG12
import Derived.SizedLaws
import Derived.Laws.RangeString
namespace Go.Proofs.YtgefjidphfdhdabGreatDoor.Na
open Go.KRun Go.Nt
set_option maxRecDepth 100000
set_option linter.unusedVariables false
def o2 (x : Int) : List Int := [IntKind.u32.wrap x, IntKind.u32.wrap (x.fdiv (2 ^ min (32 : Int).toNat 64))]
theorem of_go (x : Int) : GoesT (evC (tabH Tryz.prog extY conN hcOf) 100 false (cBody Tryz.f31) ([.int .u64 x] ++ List.replicate 9 undef, ⟨0, []⟩, []) ⟨[], [], []⟩) 3 7 (some none) [.int .u64 x, .tuple #[], sl 0 0 (trimN (cutI (wU (o2 x)) 0 2)) 2] ⟨1, [(wU (o2 x), tU)]⟩ [(rowOk tU (wU (o2 x)) 0 2 2, true), (decide ((32 : Int) < 0), false)] := ⟨by kernel_rfl, by kernel_rfl, by kernel_rfl⟩
theorem o2_eq {x : Int} (h0 : 0 ≤ x) (h1 : x < 18446744073709551616) : o2 x = dg 2 x := by
  have e : (2 : Int) ^ min (32 : Int).toNat 64 = 4294967296 := rfl
  unfold o2
  rw [e, Int.fdiv_eq_ediv_of_nonneg _ (by omega)]
  simp only [dg]
  have w : ∀ z : Int, IntKind.u32.wrap z = z % 4294967296 := fun z => by simp [IntKind.wrap, IntKind.bits, IntKind.signed]
  rw [w, w]
def gOfX : AnsH := fun vals h s =>
  match vals with
  | [.int .u64 x] => some (sl h.n 0 (trimN (dg 2 x)) 2, h.push (wU (dg 2 x)) tU, s, [(decide (0 ≤ x ∧ x < 18446744073709551616), true)])
  | _ => none
theorem gOfX_ok : AnsHOk 31 gOfX := by
  intro vals h s v h' s' lg hg hl m B w E hv
  have hr0 : (⟨0, []⟩ : Hp).rows := ⟨rfl, fun b x hx => by have : b < 0 := Hp.blk_lt hx; omega⟩
  unfold gOfX at hg
  split at hg
  · rename_i x
    cases hg
    have q := of_decide_eq_true (hl _ (List.mem_singleton.2 rfl))
    have hg := of_go x
    have hl2 := dg_len 2 x
    have ec : cutI (wU (dg 2 x)) 0 2 = dg 2 x := by
      have := cut_wU (dg 2 x)
      rw [hl2] at this
      exact this
    rw [o2_eq q.1 q.2, ec] at hg
    have hok : rowOk tU (wU (dg 2 x)) 0 2 2 = true := wU_rowAt (dg_wds _ _) (by omega) (by omega) (smallC_le (by omega))
    have r : RunsW (tabH Tryz.prog extY conN hcOf) (cBody Tryz.f31) ([.int .u64 x] ++ List.replicate 9 undef, ⟨0, []⟩, []) fun e z => (e = none ∨ e = some none) ∧ resS Tryz.prog Tryz.f31 z.1 z.2.1 = some (sl 0 0 (trimN (dg 2 x)) 2) ∧ ∃ r, z.2.1.blk? 0 = some (wU (dg 2 x) ++ r, tU) := by
      refine (goesT_runsW (tabH_ok conN_ok hcOf_ok) hg (okCons hok (okL1 (by decide)))).mono fun e z he => ?_
      obtain ⟨rfl, ⟨g, e1⟩, e2⟩ := he
      exact ⟨.inr rfl, by rw [e1, e2]; rfl, [], by rw [e2, List.append_nil]; rfl⟩
    exact row_calls1 (T := tabH Tryz.prog extY conN hcOf) Tryz.func31 of_body hr0 (vals := [.int .u64 x]) (fun v hv => by rw [List.mem_singleton.1 hv]; rfl) (k := 0) (cs := wU (dg 2 x)) (ty := tU) (wU_lt _) (by kernel_rfl) r (by simp [oc, oc2, oc1, sl]) E (s := fun i => i) (fun i x hx _ => by have : i < 0 := Hp.blk_lt hx; omega)
  · cases hg
def hcQ : Hc := altH 31 gOfX (altH 56 gPdN hcN)
theorem hcQ_ok : HcOk hcQ := altH_ok Tryz.func31 rfl gOfX_ok (altH_ok Tryz.func56 rfl gPdN_ok hcN_ok)
def qsn (k : Nat) (F : Func) : Code := match k with | 0 => cBody F | k + 1 => cSnd (qsn k F)
def qP (F : Func) : List Code := [cFst (qsn 0 F), cFst (qsn 1 F), cFst (qsn 2 F), cFst (qsn 3 F)]
def qI (F : Func) : Code := cFst (cFst (qsn 4 F))
def qL (F : Func) : Code := cIn (cIn (cSnd (cFst (qsn 4 F))))
def qE (F : Func) : Code := qsn 5 F
theorem np_body : Tryz.f28.body = some (seqs (qP Tryz.f28) (.seq (.seq (qI Tryz.f28) (.block 0 (.loop (qL Tryz.f28)))) (qE Tryz.f28))) := by kernel_rfl
theorem np_body1 : Tryz.f28.body = some (cBody Tryz.f28) := by kernel_rfl
def w32 (m : Nat) (V : Nat) : List Value × TypeId := (wU (dg m (V : Int)), tU)
def s32 (k m V : Nat) : Value := sl k 0 (trimN (dg m (V : Int))) m
def qF (b n : Int) (P O : Value) (i : Int) : List Value := [.int .u32 b, .int .i64 n, .tuple #[], .tuple #[], nilS, .nilIface, P, O, .nilIface, .int .i64 i]
def Q2 (b : Nat) : Hp := ⟨2, [w32 2 b, w32 2 1]⟩
def Q3 (b m V : Nat) : Hp := ⟨3, [w32 m V, w32 2 b, w32 2 1]⟩
def Q4 (b m V M S : Nat) : Hp := ⟨4, [w32 M S, w32 m V, w32 2 b, w32 2 1]⟩
def bitE (n i : Int) : Int := IntKind.i64.wrap ((BitVec.ofInt 64 (n.fdiv (2 ^ min i.toNat 64)) &&& BitVec.ofInt 64 1).toNat : Nat)
def q0F (b n : Int) (O : Value) : List Value := [.int .u32 b, .int .i64 n, .tuple #[], .tuple #[], nilS, .nilIface, s32 0 2 1, O, .nilIface]
theorem np_pre (b : Nat) (n : Int) : GoesT (evL (tabH Tryz.prog extY conPw hcQ) 100 (qP Tryz.f28) ([.int .u32 (b : Int), .int .i64 n] ++ List.replicate 54 undef, ⟨0, []⟩, [cmp false, cmp false]) ⟨[], [], []⟩) 9 47 none (q0F b n (sl 1 0 (trimN (dg 2 (IntKind.u64.wrap (b : Int)))) 2)) ⟨2, [(wU (dg 2 (IntKind.u64.wrap (b : Int))), tU), w32 2 1]⟩ [(decide (0 ≤ IntKind.u64.wrap (b : Int) ∧ IntKind.u64.wrap (b : Int) < 18446744073709551616), true), (decide (0 ≤ (1 : Int) ∧ (1 : Int) < 18446744073709551616), true), (decide (n > 1000000), false), (decide (n < 0), false)] := ⟨by kernel_rfl, by kernel_rfl, by kernel_rfl⟩
theorem np_i (b : Nat) (n : Int) (O : Value) (g : Nat → Value) (h : Hp) : GoesT (evC (tabH Tryz.prog extY conPw hcQ) 100 false (qI Tryz.f28) (q0F b n O ++ tl 47 g, h, []) ⟨[], [], []⟩) 10 46 none (qF b n (s32 0 2 1) O (IntKind.i64.wrap (((bitLen (IntKind.u64.wrap n).toNat : Nat) : Int) - 1))) h [(decide (0 ≤ IntKind.u64.wrap n ∧ IntKind.u64.wrap n < 65536), true)] := ⟨by kernel_rfl, by kernel_rfl, by kernel_rfl⟩
theorem np_bad0 (b n : Int) : GoesT (evC (tabH Tryz.prog extY conPw hcQ) 100 false (cBody Tryz.f28) ([.int .u32 b, .int .i64 n] ++ List.replicate 54 undef, ⟨0, []⟩, [cmp true]) ⟨[], [], []⟩) 6 50 (some none) [.int .u32 b, .int .i64 n, .tuple #[], undef, nilS, errV 1] ⟨0, []⟩ [(decide (n < 0), true)] := ⟨by kernel_rfl, by kernel_rfl, by kernel_rfl⟩
theorem np_bad1 (b n : Int) : GoesT (evC (tabH Tryz.prog extY conPw hcQ) 100 false (cBody Tryz.f28) ([.int .u32 b, .int .i64 n] ++ List.replicate 54 undef, ⟨0, []⟩, [cmp false, cmp true]) ⟨[], [], []⟩) 6 50 (some none) [.int .u32 b, .int .i64 n, .tuple #[], undef, nilS, errV 1] ⟨0, []⟩ [(decide (n > 1000000), true), (decide (n < 0), false)] := ⟨by kernel_rfl, by kernel_rfl, by kernel_rfl⟩
theorem np_a1 (n i : Int) (b m V S : Nat) (g : Nat → Value) : GoesT (evC (tabH Tryz.prog extY conPw hcQ) 100 false (qL Tryz.f28) (qF b n (s32 2 m V) (s32 1 2 b) i ++ tl 46 g, Q3 b m V, [cmp true, cmp false, num S, cmp false]) ⟨[], [], []⟩) 10 46 none (qF b n (s32 3 (trimN (dg m (V : Int)) + trimN (dg m (V : Int))) S) (s32 1 2 b) (IntKind.i64.wrap (i - 1))) (Q4 b m V (trimN (dg m (V : Int)) + trimN (dg m (V : Int))) S) [(bitE n i == 1, false), (decide (i < 0), false), (decide (mulR (rowOf (Q3 b m V) (some ⟨2, 0, none⟩) (trimN (dg m (V : Int)))) (rowOf (Q3 b m V) (some ⟨2, 0, none⟩) (trimN (dg m (V : Int)))) = dg (trimN (dg m (V : Int)) + trimN (dg m (V : Int))) (S : Int)), true), (rowX (Q3 b m V) (some ⟨2, 0, none⟩) (trimN (dg m (V : Int))) (m), true), (rowX (Q3 b m V) (some ⟨2, 0, none⟩) (trimN (dg m (V : Int))) (m), true), (!decide (trimN (dg m (V : Int)) = 0 ∨ trimN (dg m (V : Int)) = 0) && Nat.ble (trimN (dg m (V : Int)) + trimN (dg m (V : Int))) 8192, true), (decide (i ≥ 0), true)] := ⟨by kernel_rfl, by kernel_rfl, by kernel_rfl⟩
theorem np_a2 (n i : Int) (b m V S W : Nat) (g : Nat → Value) : GoesT (evC (tabH Tryz.prog extY conPw hcQ) 100 false (qL Tryz.f28) (qF b n (s32 2 m V) (s32 1 2 b) i ++ tl 46 g, Q3 b m V, [cmp true, cmp false, num S, cmp true, cmp false, num W]) ⟨[], [], []⟩) 10 46 none (qF b n (s32 4 (trimN (dg (trimN (dg m (V : Int)) + trimN (dg m (V : Int))) (S : Int)) + trimN (dg 2 (b : Int))) W) (s32 1 2 b) (IntKind.i64.wrap (i - 1))) ⟨5, [w32 (trimN (dg (trimN (dg m (V : Int)) + trimN (dg m (V : Int))) (S : Int)) + trimN (dg 2 (b : Int))) W, w32 (trimN (dg m (V : Int)) + trimN (dg m (V : Int))) S, w32 m V, w32 2 b, w32 2 1]⟩ [(decide (mulR (rowOf (Q4 b m V (trimN (dg m (V : Int)) + trimN (dg m (V : Int))) S) (some ⟨3, 0, none⟩) (trimN (dg (trimN (dg m (V : Int)) + trimN (dg m (V : Int))) (S : Int)))) (rowOf (Q4 b m V (trimN (dg m (V : Int)) + trimN (dg m (V : Int))) S) (some ⟨1, 0, none⟩) (trimN (dg 2 (b : Int)))) = dg (trimN (dg (trimN (dg m (V : Int)) + trimN (dg m (V : Int))) (S : Int)) + trimN (dg 2 (b : Int))) (W : Int)), true), (rowX (Q4 b m V (trimN (dg m (V : Int)) + trimN (dg m (V : Int))) S) (some ⟨3, 0, none⟩) (trimN (dg (trimN (dg m (V : Int)) + trimN (dg m (V : Int))) (S : Int))) (trimN (dg m (V : Int)) + trimN (dg m (V : Int))), true), (rowX (Q4 b m V (trimN (dg m (V : Int)) + trimN (dg m (V : Int))) S) (some ⟨1, 0, none⟩) (trimN (dg 2 (b : Int))) (2), true), (!decide (trimN (dg (trimN (dg m (V : Int)) + trimN (dg m (V : Int))) (S : Int)) = 0 ∨ trimN (dg 2 (b : Int)) = 0) && Nat.ble (trimN (dg (trimN (dg m (V : Int)) + trimN (dg m (V : Int))) (S : Int)) + trimN (dg 2 (b : Int))) 8192, true), (bitE n i == 1, true), (decide (i < 0), false), (decide (mulR (rowOf (Q3 b m V) (some ⟨2, 0, none⟩) (trimN (dg m (V : Int)))) (rowOf (Q3 b m V) (some ⟨2, 0, none⟩) (trimN (dg m (V : Int)))) = dg (trimN (dg m (V : Int)) + trimN (dg m (V : Int))) (S : Int)), true), (rowX (Q3 b m V) (some ⟨2, 0, none⟩) (trimN (dg m (V : Int))) (m), true), (rowX (Q3 b m V) (some ⟨2, 0, none⟩) (trimN (dg m (V : Int))) (m), true), (!decide (trimN (dg m (V : Int)) = 0 ∨ trimN (dg m (V : Int)) = 0) && Nat.ble (trimN (dg m (V : Int)) + trimN (dg m (V : Int))) 8192, true), (decide (i ≥ 0), true)] := ⟨by kernel_rfl, by kernel_rfl, by kernel_rfl⟩
theorem np_a3 (n i : Int) (b S W : Nat) (g : Nat → Value) : GoesT (evC (tabH Tryz.prog extY conPw hcQ) 100 false (qL Tryz.f28) (qF b n (s32 0 2 1) (s32 1 2 b) i ++ tl 46 g, Q2 b, [cmp true, cmp false, num S, cmp true, cmp false, num W]) ⟨[], [], []⟩) 10 46 none (qF b n (s32 3 (trimN (dg (trimN (dg 2 ((1 : Nat) : Int)) + trimN (dg 2 ((1 : Nat) : Int))) (S : Int)) + trimN (dg 2 (b : Int))) W) (s32 1 2 b) (IntKind.i64.wrap (i - 1))) ⟨4, [w32 (trimN (dg (trimN (dg 2 ((1 : Nat) : Int)) + trimN (dg 2 ((1 : Nat) : Int))) (S : Int)) + trimN (dg 2 (b : Int))) W, w32 (trimN (dg 2 ((1 : Nat) : Int)) + trimN (dg 2 ((1 : Nat) : Int))) S, w32 2 b, w32 2 1]⟩ [(decide (mulR (rowOf (Q3 b (trimN (dg 2 ((1 : Nat) : Int)) + trimN (dg 2 ((1 : Nat) : Int))) S) (some ⟨2, 0, none⟩) (trimN (dg (trimN (dg 2 ((1 : Nat) : Int)) + trimN (dg 2 ((1 : Nat) : Int))) (S : Int)))) (rowOf (Q3 b (trimN (dg 2 ((1 : Nat) : Int)) + trimN (dg 2 ((1 : Nat) : Int))) S) (some ⟨1, 0, none⟩) (trimN (dg 2 (b : Int)))) = dg (trimN (dg (trimN (dg 2 ((1 : Nat) : Int)) + trimN (dg 2 ((1 : Nat) : Int))) (S : Int)) + trimN (dg 2 (b : Int))) (W : Int)), true), (rowX (Q3 b (trimN (dg 2 ((1 : Nat) : Int)) + trimN (dg 2 ((1 : Nat) : Int))) S) (some ⟨2, 0, none⟩) (trimN (dg (trimN (dg 2 ((1 : Nat) : Int)) + trimN (dg 2 ((1 : Nat) : Int))) (S : Int))) (trimN (dg 2 ((1 : Nat) : Int)) + trimN (dg 2 ((1 : Nat) : Int))), true), (rowX (Q3 b (trimN (dg 2 ((1 : Nat) : Int)) + trimN (dg 2 ((1 : Nat) : Int))) S) (some ⟨1, 0, none⟩) (trimN (dg 2 (b : Int))) (2), true), (!decide (trimN (dg (trimN (dg 2 ((1 : Nat) : Int)) + trimN (dg 2 ((1 : Nat) : Int))) (S : Int)) = 0 ∨ trimN (dg 2 (b : Int)) = 0) && Nat.ble (trimN (dg (trimN (dg 2 ((1 : Nat) : Int)) + trimN (dg 2 ((1 : Nat) : Int))) (S : Int)) + trimN (dg 2 (b : Int))) 8192, true), (bitE n i == 1, true), (decide (i < 0), false), (decide (mulR (rowOf (Q2 b) (some ⟨0, 0, none⟩) (trimN (dg 2 ((1 : Nat) : Int)))) (rowOf (Q2 b) (some ⟨0, 0, none⟩) (trimN (dg 2 ((1 : Nat) : Int)))) = dg (trimN (dg 2 ((1 : Nat) : Int)) + trimN (dg 2 ((1 : Nat) : Int))) (S : Int)), true), (rowX (Q2 b) (some ⟨0, 0, none⟩) (trimN (dg 2 ((1 : Nat) : Int))) (2), true), (rowX (Q2 b) (some ⟨0, 0, none⟩) (trimN (dg 2 ((1 : Nat) : Int))) (2), true), (!decide (trimN (dg 2 ((1 : Nat) : Int)) = 0 ∨ trimN (dg 2 ((1 : Nat) : Int)) = 0) && Nat.ble (trimN (dg 2 ((1 : Nat) : Int)) + trimN (dg 2 ((1 : Nat) : Int))) 8192, true), (decide (i ≥ 0), true)] := ⟨by kernel_rfl, by kernel_rfl, by kernel_rfl⟩
theorem np_a4 (n i : Int) (b S : Nat) (g : Nat → Value) : GoesT (evC (tabH Tryz.prog extY conPw hcQ) 100 false (qL Tryz.f28) (qF b n (s32 0 2 1) (s32 1 2 b) i ++ tl 46 g, Q2 b, [cmp true, cmp false, num S, cmp true, cmp true]) ⟨[], [], []⟩) 10 46 none (qF b n nilS (s32 1 2 b) (IntKind.i64.wrap (i - 1))) (Q3 b (trimN (dg 2 ((1 : Nat) : Int)) + trimN (dg 2 ((1 : Nat) : Int))) S) [(decide (trimN (dg (trimN (dg 2 ((1 : Nat) : Int)) + trimN (dg 2 ((1 : Nat) : Int))) (S : Int)) = 0 ∨ trimN (dg 2 (b : Int)) = 0), true), (bitE n i == 1, true), (decide (i < 0), false), (decide (mulR (rowOf (Q2 b) (some ⟨0, 0, none⟩) (trimN (dg 2 ((1 : Nat) : Int)))) (rowOf (Q2 b) (some ⟨0, 0, none⟩) (trimN (dg 2 ((1 : Nat) : Int)))) = dg (trimN (dg 2 ((1 : Nat) : Int)) + trimN (dg 2 ((1 : Nat) : Int))) (S : Int)), true), (rowX (Q2 b) (some ⟨0, 0, none⟩) (trimN (dg 2 ((1 : Nat) : Int))) (2), true), (rowX (Q2 b) (some ⟨0, 0, none⟩) (trimN (dg 2 ((1 : Nat) : Int))) (2), true), (!decide (trimN (dg 2 ((1 : Nat) : Int)) = 0 ∨ trimN (dg 2 ((1 : Nat) : Int)) = 0) && Nat.ble (trimN (dg 2 ((1 : Nat) : Int)) + trimN (dg 2 ((1 : Nat) : Int))) 8192, true), (decide (i ≥ 0), true)] := ⟨by kernel_rfl, by kernel_rfl, by kernel_rfl⟩
theorem np_a5 (n i : Int) (b m V : Nat) (g : Nat → Value) : GoesT (evC (tabH Tryz.prog extY conPw hcQ) 100 false (qL Tryz.f28) (qF b n nilS (s32 1 2 b) i ++ tl 46 g, Q3 b m V, [cmp true, cmp true, cmp false]) ⟨[], [], []⟩) 10 46 none (qF b n nilS (s32 1 2 b) (IntKind.i64.wrap (i - 1))) (Q3 b m V) [(bitE n i == 1, false), (decide (i < 0), false), (decide (0 = 0 ∨ 0 = 0), true), (decide (i ≥ 0), true)] := ⟨by kernel_rfl, by kernel_rfl, by kernel_rfl⟩
theorem np_a6 (n i : Int) (b m V : Nat) (g : Nat → Value) : GoesT (evC (tabH Tryz.prog extY conPw hcQ) 100 false (qL Tryz.f28) (qF b n nilS (s32 1 2 b) i ++ tl 46 g, Q3 b m V, [cmp true, cmp true, cmp true, cmp true]) ⟨[], [], []⟩) 10 46 none (qF b n nilS (s32 1 2 b) (IntKind.i64.wrap (i - 1))) (Q3 b m V) [(decide (0 = 0 ∨ trimN (dg 2 (b : Int)) = 0), true), (bitE n i == 1, true), (decide (i < 0), false), (decide (0 = 0 ∨ 0 = 0), true), (decide (i ≥ 0), true)] := ⟨by kernel_rfl, by kernel_rfl, by kernel_rfl⟩
theorem np_x (n i : Int) (b : Nat) (P O : Value) (h : Hp) (g : Nat → Value) : GoesT (evC (tabH Tryz.prog extY conPw hcQ) 100 false (qL Tryz.f28) (qF b n P O i ++ tl 46 g, h, [cmp false]) ⟨[], [], []⟩) 10 46 (some (some 0)) (qF b n P O i) h [(decide (i ≥ 0), false)] := ⟨by kernel_rfl, by kernel_rfl, by kernel_rfl⟩
theorem np_e (n i : Int) (b : Nat) (P O : Value) (h : Hp) (g : Nat → Value) : GoesT (evC (tabH Tryz.prog extY conPw hcQ) 100 false (qE Tryz.f28) (qF b n P O i ++ tl 46 g, h, []) ⟨[], [], []⟩) 6 50 (some none) [.int .u32 (b : Int), .int .i64 n, .tuple #[], .tuple #[], P, .nilIface] h [] := ⟨by kernel_rfl, by kernel_rfl, by kernel_rfl⟩
/-! ### its numbers -/
def nw (V : Nat) : Nat := (d32 V).length
def pM (b j : Nat) : Nat := if j = 0 then 2 else if j % 2 = 1 then nw (b ^ (j - 1)) + nw b else nw (b ^ (j / 2)) + nw (b ^ (j / 2))
theorem tabQ : TabOk (tabH Tryz.prog extY conPw hcQ) := tabH_ok conPw_ok hcQ_ok
theorem nw_le {V k : Nat} (h : V < 4294967296 ^ k) : nw V ≤ k := db_len (by omega) k V h
theorem nw_lt (V : Nat) : V < 4294967296 ^ nw V := by
  have := vb_lt (b := 4294967296) (by omega) (d32 V) (db_dg (by omega) V)
  rw [show vb 4294967296 (d32 V) = V from vb_db (by omega) V] at this
  exact this
theorem nw_pos {V : Nat} (h : 0 < V) : 0 < nw V := (db_pos_len (by omega)).2 h
theorem nw_zero : nw 0 = 0 := by unfold nw d32; rw [db_zero]; rfl
theorem tn_nw {m V : Nat} (h : V < 4294967296 ^ m) (hm : m ≤ 1000) : trimN (dg m (V : Int)) = nw V :=
  (isRd (H := ⟨1, [w32 m V]⟩) (b := 0) rfl h hm).2.2.2.1
theorem pow_w {b j : Nat} (hb : b < 4294967296) (hj : 1 ≤ j) : b ^ j < 4294967296 ^ j := Nat.pow_lt_pow_left hb (by omega)
theorem nw_pow {b j : Nat} (hb : b < 4294967296) : nw (b ^ j) ≤ j + 1 := by
  by_cases h : 1 ≤ j
  · have := nw_le (pow_w hb h); omega
  · have : j = 0 := by omega
    subst this
    rw [Nat.pow_zero]
    exact nw_le (by decide)
theorem bitE_eq {n i : Nat} (hn : n < 65536) (hi : i < 64) : bitE (n : Int) (i : Int) = ((n / 2 ^ i % 2 : Nat) : Int) := by
  have e : (n : Int).fdiv (2 ^ min (i : Int).toNat 64) = ((n / 2 ^ i : Nat) : Int) := by
    rw [Int.toNat_natCast, show min i 64 = i by omega, Int.fdiv_eq_ediv_of_nonneg _ (Int.le_of_lt (Int.pow_pos (by omega)))]
    simp
  have hl : n / 2 ^ i ≤ n := Nat.div_le_self _ _
  unfold bitE
  rw [e, BitVec.toNat_and, show (BitVec.ofInt 64 1).toNat = 1 from rfl, Nat.and_one_is_mod, BitVec.toNat_ofInt]
  have h2 : ((2 ^ 64 : Nat) : Int) = 18446744073709551616 := rfl
  rw [wrapI (by omega) (by omega)]
  omega
theorem base2 (b : Nat) {h : Hp} (h0 : h.blk? 0 = some (w32 2 1)) (h1 : h.blk? 1 = some (w32 2 b)) : ∀ i x, (⟨2, [w32 2 b, w32 2 1]⟩ : Hp).blk? i = some x → h.blk? i = some x ∧ ∀ v ∈ x.1, still v = true := by
  intro i x hx
  have hi : i < 2 := Hp.blk_lt hx
  match i, hi, hx with
  | 0, _, hx =>
    have e : x = w32 2 1 := (Option.some.inj hx).symm
    subst e
    exact ⟨h0, wU_still _⟩
  | 1, _, hx =>
    have e : x = w32 2 b := (Option.some.inj hx).symm
    subst e
    exact ⟨h1, wU_still _⟩
theorem qF_lt (b n : Int) {P O : Value} (i : Int) (hP : lt 3 P = true) (hO : lt 3 O = true) : ∀ v ∈ qF b n P O i, lt 3 v = true := by
  intro v hv
  unfold qF at hv
  simp only [List.mem_cons, List.not_mem_nil, or_false] at hv
  rcases hv with rfl | rfl | rfl | rfl | rfl | rfl | rfl | rfl | rfl | rfl <;> first | rfl | exact hP | exact hO
/-- what there is with k bits to come -/
def nS (b n k : Nat) (y : Lf) : Prop := ∃ g, (n / 2 ^ k = 0 ∧ y.1 = qF b n (s32 0 2 1) (s32 1 2 b) ((k : Int) - 1) ++ tl 46 g ∧ y.2.1 = Q2 b) ∨
  (1 ≤ n / 2 ^ k ∧ 0 < b ∧ y.1 = qF b n (s32 2 (pM b (n / 2 ^ k)) (b ^ (n / 2 ^ k))) (s32 1 2 b) ((k : Int) - 1) ++ tl 46 g ∧ y.2.1 = Q3 b (pM b (n / 2 ^ k)) (b ^ (n / 2 ^ k))) ∨
  (1 ≤ n / 2 ^ k ∧ b = 0 ∧ ∃ m V, y.1 = qF b n nilS (s32 1 2 b) ((k : Int) - 1) ++ tl 46 g ∧ y.2.1 = Q3 b m V)
/-- powers of a small base, or of a small count, are short enough -/
theorem wd_small {b n : Nat} (hb : b < 4294967296) (hn : n ≤ 300) : ∀ j, j ≤ n → nw (b ^ j) ≤ 400 := fun j hj => by
  have := nw_pow (b := b) (j := j) hb
  omega
theorem wd_ten {n : Nat} (hn : n ≤ 2000) : ∀ j, j ≤ n → nw (10 ^ j) ≤ 400 := fun j hj => by
  have h : (10 : Nat) ^ j < 4294967296 ^ (j / 9 + 1) := by
    refine Nat.lt_of_le_of_lt (Nat.pow_le_pow_right (by omega) (show j ≤ 9 * (j / 9 + 1) by omega)) ?_
    rw [Nat.pow_mul]
    exact Nat.pow_lt_pow_left (by decide) (by omega)
  have := nw_le h
  omega
theorem pM_ok {b j n : Nat} (hw : ∀ j, j ≤ n → nw (b ^ j) ≤ 400) (hb : b < 4294967296) (hj : j ≤ n) (hj0 : 1 ≤ j) : b ^ j < 4294967296 ^ pM b j ∧ pM b j ≤ 1000 := by
  unfold pM
  rw [if_neg (by omega)]
  by_cases h : j % 2 = 1
  · rw [if_pos h]
    have e : b ^ j = b ^ (j - 1) * b := by rw [← Nat.pow_succ]; congr 1; omega
    have l1 := nw_lt (b ^ (j - 1))
    have l2 := nw_lt b
    have k1 := hw (j - 1) (by omega)
    have k2 : nw b ≤ 1 := nw_le (by omega)
    refine ⟨?_, by omega⟩
    rw [e, Nat.pow_add]
    exact Nat.mul_lt_mul'' l1 l2
  · rw [if_neg h]
    have e : b ^ j = b ^ (j / 2) * b ^ (j / 2) := by rw [← Nat.pow_add]; congr 1; omega
    have l1 := nw_lt (b ^ (j / 2))
    have k1 := hw (j / 2) (by omega)
    refine ⟨?_, by omega⟩
    rw [e, Nat.pow_add]
    exact Nat.mul_lt_mul'' l1 l1
theorem nz_ok2 {x y : Nat} (hx : 0 < x) (hy : 0 < y) (h : x + y ≤ 8192) : (!decide (x = 0 ∨ y = 0) && Nat.ble (x + y) 8192) = true := by
  rw [decide_eq_false (by omega), Nat.ble_eq_true_of_le h]
  rfl
theorem np_round {b n k : Nat} (hb : b < 4294967296) (hn : n ≤ 2000) (hw : ∀ j, j ≤ n → nw (b ^ j) ≤ 400) (hk : k ≤ 20) {y : Lf} (h : nS b n (k + 1) y) (ht : n / 2 ^ (k + 1) = 0 → n / 2 ^ k % 2 = 1) : RunsW (tabH Tryz.prog extY conPw hcQ) (qL Tryz.f28) y fun e z => e = none ∧ nS b n k z := by
  obtain ⟨t, h', s⟩ := y
  obtain ⟨i, hi⟩ : ∃ i : Int, i = ((k + 1 : Nat) : Int) - 1 := ⟨_, rfl⟩
  have hik : i = (k : Int) := by omega
  have hi0 : i ≥ 0 := by omega
  have hiF : decide (i < 0) = false := decide_eq_false (by omega)
  have ei : IntKind.i64.wrap (i - 1) = (k : Int) - 1 := by rw [wrapI (by omega) (by omega)]; omega
  have eb : bitE (n : Int) i = ((n / 2 ^ k % 2 : Nat) : Int) := by rw [hik]; exact bitE_eq (by omega) (by omega)
  have dd : n / 2 ^ k = 2 * (n / 2 ^ (k + 1)) + n / 2 ^ k % 2 := by
    rw [Nat.pow_succ, ← Nat.div_div_eq_div_mul]
    omega
  have jn : n / 2 ^ k ≤ n := Nat.div_le_self _ _
  have kb : nw b ≤ 1 := nw_le (by omega)
  have tb := tn_nw (m := 2) (V := b) (by have : (4294967296 : Nat) ^ 2 = 18446744073709551616 := rfl; omega) (by omega)
  have lt1 : KRun.lt 3 (s32 1 2 b) = true := rfl
  have bN : b < 4294967296 ^ 2 := by have : (4294967296 : Nat) ^ 2 = 18446744073709551616 := rfl; omega
  generalize hj : n / 2 ^ (k + 1) = j at *
  generalize hj' : n / 2 ^ k = j' at *
  obtain ⟨g, hy⟩ := h
  rw [hj] at hy
  rcases hy with ⟨j0, ht', hh⟩ | ⟨j1, b0, ht', hh⟩ | ⟨j1, b0, m, V, ht', hh⟩
  · have hbit := ht j0
    have j'1 : j' = 1 := by omega
    simp only at ht' hh
    rw [← hi] at ht'
    subst ht' hh
    have hbt : (bitE (n : Int) i == 1) = true := by rw [eb, hbit]; rfl
    have n1 : trimN (dg 2 ((1 : Nat) : Int)) = 1 := by decide
    have r1 := isRd (H := Q2 b) (b := 0) (V := 1) (m := 2) rfl (by decide) (by omega)
    have z1 : (!decide (trimN (dg 2 ((1 : Nat) : Int)) = 0 ∨ trimN (dg 2 ((1 : Nat) : Int)) = 0) && Nat.ble (trimN (dg 2 ((1 : Nat) : Int)) + trimN (dg 2 ((1 : Nat) : Int))) 8192) = true := nz_ok2 (by omega) (by omega) (by omega)
    by_cases b0 : 0 < b
    · have e2 : trimN (dg (trimN (dg 2 ((1 : Nat) : Int)) + trimN (dg 2 ((1 : Nat) : Int))) ((1 : Nat) : Int)) = 1 := by decide
      have r2 := isRd (H := Q3 b (trimN (dg 2 ((1 : Nat) : Int)) + trimN (dg 2 ((1 : Nat) : Int))) 1) (b := 2) (V := 1) (m := trimN (dg 2 ((1 : Nat) : Int)) + trimN (dg 2 ((1 : Nat) : Int))) rfl (by decide) (by omega)
      have r3 := isRd (H := Q3 b (trimN (dg 2 ((1 : Nat) : Int)) + trimN (dg 2 ((1 : Nat) : Int))) 1) (b := 1) (V := b) (m := 2) rfl bN (by omega)
      have pb := nw_pos b0
      have hg := np_a3 n i b 1 (1 * b) g
      rw [ei] at hg
      have z2 := nz_ok2 (x := trimN (dg (trimN (dg 2 ((1 : Nat) : Int)) + trimN (dg 2 ((1 : Nat) : Int))) ((1 : Nat) : Int))) (y := trimN (dg 2 (b : Int))) (by omega) (by omega) (by omega)
      have hp : pM b 1 = trimN (dg (trimN (dg 2 ((1 : Nat) : Int)) + trimN (dg 2 ((1 : Nat) : Int))) ((1 : Nat) : Int)) + trimN (dg 2 (b : Int)) := by
        rw [e2, tb]
        unfold pM
        rw [if_neg (by omega), if_pos (by omega), Nat.sub_self, Nat.pow_zero]
        rw [show nw 1 = 1 from by
          have := tn_nw (m := 2) (V := 1) (by decide) (by omega)
          rw [← this]
          exact n1]
      have run := goesT_runsW (s0 := s) tabQ hg (okCons (rMul r2 r3) (okCons (rX r2) (okCons (rX r3) (okCons z2 (okCons hbt (okCons hiF (okCons (rMul r1 r1) (okCons (rX r1) (okCons (rX r1) (okCons z1 (okL1 (decide_eq_true hi0))))))))))))
      rw [← hp, Nat.one_mul] at run
      have := run.kept (k := 2) (b := 3) (base := [w32 2 b, w32 2 1]) (y := w32 (pM b 1) b) (front' := qF b n (s32 2 (pM b 1) b) (s32 1 2 b) ((k : Int) - 1)) rfl (by kernel_rfl) (base2 b rfl rfl) rfl (by omega) (wU_still _) (qF_lt _ _ _ rfl rfl)
      refine this.mono fun e z hz => ?_
      obtain ⟨rfl, ⟨g', e1⟩, e2'⟩ := hz
      refine ⟨rfl, g', .inr (.inl ⟨by omega, b0, ?_, ?_⟩)⟩
      · rw [hj', j'1, Nat.pow_one]; exact e1
      · rw [hj', j'1, Nat.pow_one]; exact e2'
    · have bz : b = 0 := by omega
      have hg := np_a4 n i b 1 g
      rw [ei] at hg
      have run := goesT_runsW (s0 := s) tabQ hg (okCons (decide_eq_true (.inr (by rw [tb, bz, nw_zero]))) (okCons hbt (okCons hiF (okCons (rMul r1 r1) (okCons (rX r1) (okCons (rX r1) (okCons z1 (okL1 (decide_eq_true hi0)))))))))
      refine run.mono fun e z hz => ?_
      obtain ⟨rfl, ⟨g', e1⟩, e2'⟩ := hz
      exact ⟨rfl, g', .inr (.inr ⟨by rw [hj']; omega, bz, _, _, e1, e2'⟩)⟩
  · simp only at ht' hh
    rw [← hi] at ht'
    have hm : pM b j = pM b j := rfl
    obtain ⟨m, em⟩ : ∃ m, m = pM b j := ⟨_, rfl⟩
    obtain ⟨V, eV⟩ : ∃ V, V = b ^ j := ⟨_, rfl⟩
    rw [← em, ← eV] at ht' hh
    obtain ⟨p1, p2⟩ := pM_ok hw hb (show j ≤ n by omega) j1
    rw [← em, ← eV] at p1
    rw [← em] at p2
    subst ht' hh
    have V0 : 0 < V := by rw [eV]; exact Nat.pow_pos b0
    have tV := tn_nw p1 p2
    have pV := nw_pos V0
    have lV : nw V ≤ 400 := by rw [eV]; exact hw j (by omega)
    have r1 := isRd (H := Q3 b m V) (b := 2) (V := V) (m := m) rfl p1 p2
    have z1 := nz_ok2 (x := trimN (dg m (V : Int))) (y := trimN (dg m (V : Int))) (by omega) (by omega) (by omega)
    have eS : V * V = b ^ (2 * j) := by rw [eV, ← Nat.pow_add]; congr 1; omega
    by_cases hbit : j' % 2 = 1
    · have hbt : (bitE (n : Int) i == 1) = true := by rw [eb, hbit]; rfl
      have j'e : j' = 2 * j + 1 := by omega
      have pb := nw_pos b0
      obtain ⟨S, hS⟩ : ∃ S, S = V * V := ⟨_, rfl⟩
      have sB : S < 4294967296 ^ (trimN (dg m (V : Int)) + trimN (dg m (V : Int))) := by
        rw [hS, Nat.pow_add, tV]
        exact Nat.mul_lt_mul'' (nw_lt V) (nw_lt V)
      have sm : trimN (dg m (V : Int)) + trimN (dg m (V : Int)) ≤ 1000 := by omega
      have tS := tn_nw sB sm
      have S0 : 0 < S := by rw [hS]; exact Nat.mul_pos V0 V0
      have pS := nw_pos S0
      have lS : nw S ≤ 400 := by rw [hS, eS]; exact hw (2 * j) (by omega)
      have r2 := isRd (H := Q4 b m V (trimN (dg m (V : Int)) + trimN (dg m (V : Int))) S) (b := 3) (V := S) (m := trimN (dg m (V : Int)) + trimN (dg m (V : Int))) rfl sB sm
      have r3 := isRd (H := Q4 b m V (trimN (dg m (V : Int)) + trimN (dg m (V : Int))) S) (b := 1) (V := b) (m := 2) rfl bN (by omega)
      have z2 := nz_ok2 (x := trimN (dg (trimN (dg m (V : Int)) + trimN (dg m (V : Int))) (S : Int))) (y := trimN (dg 2 (b : Int))) (by omega) (by omega) (by omega)
      have rm := rMul r1 r1
      rw [← hS] at rm
      have hg := np_a2 n i b m V S (S * b) g
      rw [ei] at hg
      have hp : pM b j' = trimN (dg (trimN (dg m (V : Int)) + trimN (dg m (V : Int))) (S : Int)) + trimN (dg 2 (b : Int)) := by
        rw [tS, tb]
        unfold pM
        rw [if_neg (by omega), if_pos hbit, hS, eS, j'e, Nat.add_sub_cancel]
      have run := goesT_runsW (s0 := s) tabQ hg (okCons (rMul r2 r3) (okCons (rX r2) (okCons (rX r3) (okCons z2 (okCons hbt (okCons hiF (okCons rm (okCons (rX r1) (okCons (rX r1) (okCons z1 (okL1 (decide_eq_true hi0))))))))))))
      have hW : S * b = b ^ j' := by rw [hS, eS, j'e, Nat.pow_succ]
      rw [← hp, hW] at run
      have := run.kept (k := 2) (b := 4) (base := [w32 2 b, w32 2 1]) (y := w32 (pM b j') (b ^ j')) (front' := qF b n (s32 2 (pM b j') (b ^ j')) (s32 1 2 b) ((k : Int) - 1)) rfl (by kernel_rfl) (base2 b rfl rfl) rfl (by omega) (wU_still _) (qF_lt _ _ _ rfl rfl)
      refine this.mono fun e z hz => ?_
      obtain ⟨rfl, ⟨g', e1⟩, e2'⟩ := hz
      refine ⟨rfl, g', .inr (.inl ⟨by omega, b0, ?_, ?_⟩)⟩
      · rw [hj']; exact e1
      · rw [hj']; exact e2'
    · have hbt : (bitE (n : Int) i == 1) = false := by rw [eb, show j' % 2 = 0 by omega]; rfl
      have j'e : j' = 2 * j := by omega
      have hg := np_a1 n i b m V (V * V) g
      rw [ei] at hg
      have hp : pM b j' = trimN (dg m (V : Int)) + trimN (dg m (V : Int)) := by
        rw [tV, eV]
        unfold pM
        rw [if_neg (by omega), if_neg hbit, j'e, Nat.mul_div_cancel_left _ (by omega)]
      have run := goesT_runsW (s0 := s) tabQ hg (okCons hbt (okCons hiF (okCons (rMul r1 r1) (okCons (rX r1) (okCons (rX r1) (okCons z1 (okL1 (decide_eq_true hi0))))))))
      have hW : V * V = b ^ j' := by rw [eS, j'e]
      rw [← hp, hW] at run
      have := run.kept (k := 2) (b := 3) (base := [w32 2 b, w32 2 1]) (y := w32 (pM b j') (b ^ j')) (front' := qF b n (s32 2 (pM b j') (b ^ j')) (s32 1 2 b) ((k : Int) - 1)) rfl (by kernel_rfl) (base2 b rfl rfl) rfl (by omega) (wU_still _) (qF_lt _ _ _ rfl rfl)
      refine this.mono fun e z hz => ?_
      obtain ⟨rfl, ⟨g', e1⟩, e2'⟩ := hz
      refine ⟨rfl, g', .inr (.inl ⟨by omega, b0, ?_, ?_⟩)⟩
      · rw [hj']; exact e1
      · rw [hj']; exact e2'
  · simp only at ht' hh
    rw [← hi] at ht'
    subst ht' hh
    by_cases hbit : j' % 2 = 1
    · have hbt : (bitE (n : Int) i == 1) = true := by rw [eb, hbit]; rfl
      have hg := np_a6 n i b m V g
      rw [ei] at hg
      refine (goesT_runsW (s0 := s) tabQ hg (okCons (decide_eq_true (.inl rfl)) (okCons hbt (okCons hiF (okCons (by decide) (okL1 (decide_eq_true hi0))))))).mono fun e z hz => ?_
      obtain ⟨rfl, ⟨g', e1⟩, e2'⟩ := hz
      exact ⟨rfl, g', .inr (.inr ⟨by rw [hj']; omega, b0, m, V, e1, e2'⟩)⟩
    · have hbt : (bitE (n : Int) i == 1) = false := by rw [eb, show j' % 2 = 0 by omega]; rfl
      have hg := np_a5 n i b m V g
      rw [ei] at hg
      refine (goesT_runsW (s0 := s) tabQ hg (okCons hbt (okCons hiF (okCons (by decide) (okL1 (decide_eq_true hi0)))))).mono fun e z hz => ?_
      obtain ⟨rfl, ⟨g', e1⟩, e2'⟩ := hz
      exact ⟨rfl, g', .inr (.inr ⟨by rw [hj']; omega, b0, m, V, e1, e2'⟩)⟩
end Go.Proofs.YtgefjidphfdhdabGreatDoor.Na
namespace Go.Proofs.YtgefjidphfdhdabGreatDoor.Na
open Go.KRun Go.Nt
set_option maxRecDepth 100000
def fN (k : Int) (e : Value) : List Value := [nilS, i6' k, undef, undef, nilS, e]
theorem shlN_neg (k : Int) : GoesT (evC (tabH Tryz.prog extY conN hcS) 200 false (cBody Tryz.f29) ([nilS, i6' k] ++ List.replicate 45 undef, ⟨0, []⟩, [cmp true]) ⟨[], [], []⟩) 6 41 (some none) (fN k (errV 1)) ⟨0, []⟩ [(decide (k < 0), true)] := ⟨by kernel_rfl, by kernel_rfl, by kernel_rfl⟩
theorem shlN_nil (k : Int) : GoesT (evC (tabH Tryz.prog extY conN hcS) 200 false (cBody Tryz.f29) ([nilS, i6' k] ++ List.replicate 45 undef, ⟨0, []⟩, [cmp false]) ⟨[], [], []⟩) 6 41 (some none) (fN k .nilIface) ⟨0, []⟩ [(decide (k < 0), false)] := ⟨by kernel_rfl, by kernel_rfl, by kernel_rfl⟩
def shlE (d : Bool) : Value := match d with | true => errV 1 | false => .nilIface
theorem shlN_runs (k : Int) (d : Bool) (hd : decide (k < 0) = d) : Runs (tabH Tryz.prog extY conN hcS) (cBody Tryz.f29) ([nilS, i6' k] ++ List.replicate 45 undef, ⟨0, []⟩, []) fun e' y => (e' = none ∨ e' = some none) ∧ resS Tryz.prog Tryz.f29 y.1 y.2.1 = some (.tuple #[nilS, shlE d]) := by
  cases d with
  | true =>
    refine (goesT_runs (tabH_ok conN_ok hcS_ok) (shlN_neg k) (okOne hd)).mono fun e' y he => ?_
    obtain ⟨rfl, ⟨g, e2⟩, e3⟩ := he
    refine ⟨.inr rfl, ?_⟩
    rw [e2, e3]
    rfl
  | false =>
    refine (goesT_runs (tabH_ok conN_ok hcS_ok) (shlN_nil k) (okOne hd)).mono fun e' y he => ?_
    obtain ⟨rfl, ⟨g, e2⟩, e3⟩ := he
    refine ⟨.inr rfl, ?_⟩
    rw [e2, e3]
    rfl
def gShlX : AnsH := fun vals h s =>
  match vals with
  | [.slice none 0 0, .int .i64 k] =>
    match s with
    | .inr (.inr (.inr (.inl d))) :: s' => some (.tuple #[nilS, shlE d], h, s', [(decide (k < 0), d)])
    | _ => none
  | _ => gShl vals h s
theorem gShlX_ok : AnsHOk 29 gShlX := by
  intro vals h s v h' s' lg hg hl m B w E hv
  unfold gShlX at hg
  split at hg
  · rename_i k
    split at hg
    · rename_i d s2
      cases hg
      have hd := hl _ (List.mem_singleton.2 rfl)
      have e0 : rn (fun b => b) (.tuple #[nilS, shlE d]) = .tuple #[nilS, shlE d] := by cases d <;> exact rn_still (by rfl)
      have := row_calls (T := tabH Tryz.prog extY conN hcS) Tryz.func29 shl_body (h0 := ⟨0, []⟩) ⟨rfl, fun b x hb => absurd (Hp.blk_lt hb) (Nat.not_lt_zero _)⟩ (vals := [nilS, i6' k]) (fun v hv => by
        simp only [List.mem_cons, List.not_mem_nil, or_false] at hv
        rcases hv with rfl | rfl <;> rfl) (by cases d <;> rfl) (shlN_runs k d hd) E (s := fun b => b) (fun i hi => absurd hi (Nat.not_lt_zero _)) (fun i x hi => absurd (Hp.blk_lt hi) (Nat.not_lt_zero _))
      rw [e0] at this
      exact this.mono fun e w' he => ⟨m, he.1, he.2⟩
    · cases hg
  · exact gShl_ok _ _ _ _ _ _ _ hg hl m B w E hv
end Go.Proofs.YtgefjidphfdhdabGreatDoor.Na
namespace Go.Proofs.YtgefjidphfdhdabGreatDoor.Na
open Go.KRun Go.Nt
set_option maxRecDepth 100000
set_option linter.unusedVariables false
def sM (n : Nat) (k : Int) : Nat := k.toNat / 32 + (n + 1)
def gShlT : AnsH := fun vals h s =>
  match vals, s with
  | [.slice p n c, .int .i64 k], .inr (.inr (.inr (.inl true))) :: s' => some (.tuple #[nilS, errV 1], h, s', [(rowX h p n c, true), (badL (rowOf h p n) || decide (k < 0), true)])
  | [.slice p n c, .int .i64 k], .inr (.inr (.inr (.inl false))) :: .inr (.inr (.inr (.inl true))) :: s' => some (.tuple #[nilS, .nilIface], h, s', [(rowX h p n c, true), (badL (rowOf h p n) || decide (k < 0), false), (decide (n = 0), true)])
  | [.slice p n c, .int .i64 k], .inr (.inr (.inr (.inl false))) :: .inr (.inr (.inr (.inl false))) :: .inr (.inr (.inr (.inl true))) :: s' => some (.tuple #[nilS, errV 2], h, s', [(rowX h p n c, true), (badL (rowOf h p n) || decide (k < 0), false), (decide (n = 0), false), (decide (k > 262144 - lenN (rowOf h p n)), true)])
  | [.slice p n c, .int .i64 k], .inr (.inr (.inr (.inl false))) :: .inr (.inr (.inr (.inl false))) :: .inr (.inr (.inr (.inl false))) :: .inr (.inl V) :: s' => some (.tuple #[sl h.n 0 (trimN (dg (sM n k) V)) (sM n k), .nilIface], h.push (wU (dg (sM n k) V)) tU, s', [(decide (shlR (rowOf h p n) k.toNat = dg (sM n k) V), true), (rowX h p n c, true), (badL (rowOf h p n) || decide (k < 0), false), (decide (n = 0), false), (decide (k > 262144 - lenN (rowOf h p n)), false)])
  | _, _ => none
theorem gShlT_ok : AnsHOk 29 gShlT := by
  intro vals h s v h' s' lg hg hl m B w E hv
  unfold gShlT at hg
  split at hg
  · rename_i p n c k s2
    cases hg
    have l1 := hl _ (List.mem_cons_self)
    have l2 := hl _ (List.mem_cons_of_mem _ (List.mem_singleton.2 rfl))
    simp only at l1 l2
    rcases rowX_cases l1 with ⟨rfl, rfl, rfl, e0⟩ | ⟨b, o, x, rfl, hx, r1, e0⟩ <;> rw [e0] at l2
    · rw [badL_nil, Bool.false_or] at l2
      exact gShlX_ok _ h [cmp true] _ _ [] [(decide (k < 0), true)] rfl (okL1 l2) m B w E hv
    · exact gShlX_ok _ h [cmp true] _ _ [] [(rowOk x.2 x.1 o n c, true), (badL (cutI x.1 o n) || decide (k < 0), true)] (by simp only [gShlX, gShl, hx]) (okCons r1 (okL1 l2)) m B w E hv
  · rename_i p n c k s2
    cases hg
    have l1 := hl _ (List.mem_cons_self)
    have l2 := hl _ (List.mem_cons_of_mem _ List.mem_cons_self)
    have l3 := hl _ (List.mem_cons_of_mem _ (List.mem_cons_of_mem _ (List.mem_singleton.2 rfl)))
    simp only at l1 l2 l3
    rcases rowX_cases l1 with ⟨rfl, rfl, rfl, e0⟩ | ⟨b, o, x, rfl, hx, r1, e0⟩ <;> rw [e0] at l2
    · rw [badL_nil, Bool.false_or] at l2
      exact gShlX_ok _ h [cmp false] _ _ [] [(decide (k < 0), false)] rfl (okL1 l2) m B w E hv
    · exact gShlX_ok _ h [cmp false, cmp true] _ _ [] [(rowOk x.2 x.1 o n c, true), (badL (cutI x.1 o n) || decide (k < 0), false), (decide (n = 0), true)] (by simp only [gShlX, gShl, hx]) (okCons r1 (okCons l2 (okL1 l3))) m B w E hv
  · rename_i p n c k s2
    cases hg
    have l1 := hl _ (List.mem_cons_self)
    have l2 := hl _ (List.mem_cons_of_mem _ List.mem_cons_self)
    have l3 := hl _ (List.mem_cons_of_mem _ (List.mem_cons_of_mem _ List.mem_cons_self))
    have l4 := hl _ (List.mem_cons_of_mem _ (List.mem_cons_of_mem _ (List.mem_cons_of_mem _ (List.mem_singleton.2 rfl))))
    simp only at l1 l2 l3 l4
    rcases rowX_cases l1 with ⟨rfl, rfl, rfl, e0⟩ | ⟨b, o, x, rfl, hx, r1, e0⟩
    · exact absurd rfl (of_decide_eq_false l3)
    · rw [e0] at l2 l4
      exact gShlX_ok _ h [cmp false, cmp false, cmp true] _ _ [] [(rowOk x.2 x.1 o n c, true), (badL (cutI x.1 o n) || decide (k < 0), false), (decide (n = 0), false), (decide (k > 262144 - lenN (cutI x.1 o n)), true)] (by simp only [gShlX, gShl, hx]) (okCons r1 (okCons l2 (okCons l3 (okL1 l4)))) m B w E hv
  · rename_i p n c k V s2
    cases hg
    have l0 := of_decide_eq_true (hl _ (List.mem_cons_self))
    have l1 := hl _ (List.mem_cons_of_mem _ List.mem_cons_self)
    have l2 := hl _ (List.mem_cons_of_mem _ (List.mem_cons_of_mem _ List.mem_cons_self))
    have l3 := hl _ (List.mem_cons_of_mem _ (List.mem_cons_of_mem _ (List.mem_cons_of_mem _ List.mem_cons_self)))
    have l4 := hl _ (List.mem_cons_of_mem _ (List.mem_cons_of_mem _ (List.mem_cons_of_mem _ (List.mem_cons_of_mem _ (List.mem_singleton.2 rfl)))))
    simp only at l1 l2 l3 l4
    rcases rowX_cases l1 with ⟨rfl, rfl, rfl, e0⟩ | ⟨b, o, x, rfl, hx, r1, e0⟩
    · exact absurd rfl (of_decide_eq_false l3)
    · rw [e0] at l0 l2 l4
      rw [← l0]
      exact gShlX_ok _ h [cmp false, cmp false, cmp false] _ _ [] [(rowOk x.2 x.1 o n c, true), (badL (cutI x.1 o n) || decide (k < 0), false), (decide (n = 0), false), (decide (k > 262144 - lenN (cutI x.1 o n)), false)] (by simp only [gShlX, gShl, hx]; rfl) (okCons r1 (okCons l2 (okCons l3 (okL1 l4)))) m B w E hv
  · cases hg
theorem np_runs {b n : Nat} (hb : b < 4294967296) (hn : n ≤ 2000) (hw : ∀ j, j ≤ n → nw (b ^ j) ≤ 400) : RunsW (tabH Tryz.prog extY conPw hcQ) (seqs (qP Tryz.f28) (.seq (.seq (qI Tryz.f28) (.block 0 (.loop (qL Tryz.f28)))) (qE Tryz.f28))) ([.int .u32 (b : Int), .int .i64 (n : Int)] ++ List.replicate 54 undef, ⟨0, []⟩, []) fun e z => (e = none ∨ e = some none) ∧ ((¬ (b = 0 ∧ 1 ≤ n) ∧ ∃ k, resS Tryz.prog Tryz.f28 z.1 z.2.1 = some (.tuple #[s32 k (pM b n) (b ^ n), .nilIface]) ∧ ∃ r, z.2.1.blk? k = some (wU (dg (pM b n) ((b ^ n : Nat) : Int)) ++ r, tU)) ∨ ((b = 0 ∧ 1 ≤ n) ∧ resS Tryz.prog Tryz.f28 z.1 z.2.1 = some (.tuple #[nilS, .nilIface]))) := by
  have eb : IntKind.u64.wrap (b : Int) = (b : Int) := by simp [IntKind.wrap, IntKind.bits, IntKind.signed]; omega
  have en : IntKind.u64.wrap (n : Int) = (n : Int) := by simp [IntKind.wrap, IntKind.bits, IntKind.signed]; omega
  have hp := np_pre b n
  rw [eb] at hp
  have hi := np_i b n
  rw [en, Int.toNat_natCast] at hi
  have hl9 : bitLen n ≤ 11 := by
    obtain ⟨s1, s2⟩ := bitLen_spec n
    rcases Nat.lt_or_ge 11 (bitLen n) with h | h
    · have h0 : n ≠ 0 := by rintro rfl; simp [bitLen] at h
      have h1 := s2 h0
      have h2 : 2 ^ 11 ≤ 2 ^ (bitLen n - 1) := Nat.pow_le_pow_right (by omega) (by omega)
      have h3 : (2 : Nat) ^ 11 = 2048 := rfl
      omega
    · exact h
  have hz : n / 2 ^ bitLen n = 0 := Nat.div_eq_of_lt (bitLen_spec n).1
  have ew : IntKind.i64.wrap (((bitLen n : Nat) : Int) - 1) = ((bitLen n : Nat) : Int) - 1 := wrapI (by omega) (by omega)
  rw [ew] at hi
  refine goesT_listW tabQ hp (okCons (decide_eq_true ⟨by omega, by omega⟩) (okCons (by decide) (okCons (decide_eq_false (by omega)) (okL1 (decide_eq_false (by omega)))))) fun g => ?_
  refine RunsW.seq (P1 := fun e y => e = none ∧ nS b n 0 y) ?_ ?_ (fun e y hy => by cases hy.1)
  · refine RunsW.seq (goesT_runsW tabQ (hi (s32 1 2 b) g (Q2 b)) (okL1 (decide_eq_true ⟨by omega, by omega⟩))) ?_ (fun e y hy => by cases hy.1)
    rintro ⟨t, h', s⟩ ⟨_, ⟨g', ht⟩, hh⟩
    simp only at ht hh
    subst ht hh
    have lp := RunsW.forLoop (T := tabH Tryz.prog extY conPw hcQ) (c := qL Tryz.f28) (id := 0) (P := nS b n 0) (R := fun _ => False) (fun k y => k ≤ bitLen n ∧ nS b n k y) (x := (qF b n (s32 0 2 1) (s32 1 2 b) (((bitLen n : Nat) : Int) - 1) ++ tl 46 g', Q2 b, s)) ?_ (n := bitLen n) ⟨Nat.le_refl _, g', .inl ⟨hz, rfl, rfl⟩⟩
    · refine lp.mono fun e z hz => ?_
      match e, hz with
      | none, hz => exact ⟨rfl, hz⟩
      | some none, hz => exact hz.elim
      | some (some _), hz => exact hz.elim
    · rintro k y ⟨hk, hy⟩
      match k, hk, hy with
      | k + 1, hk, hy =>
        refine (np_round hb hn hw (by omega) hy fun h0 => ?_).mono fun e z hz => ?_
        · obtain ⟨s1, s2⟩ := bitLen_spec n
          have hn0 : n ≠ 0 := by
            rintro rfl
            simp [bitLen] at hk
          have h1 := s2 hn0
          have h2 : bitLen n = k + 1 := by
            rcases Nat.lt_or_ge (k + 1) (bitLen n) with h | h
            · exfalso
              have h3 : 2 ^ (k + 1) ≤ 2 ^ (bitLen n - 1) := Nat.pow_le_pow_right (by omega) (by omega)
              have h4 : 0 < n / 2 ^ (k + 1) := Nat.div_pos (by omega) (Nat.pow_pos (by omega))
              omega
            · omega
          rw [h2, Nat.add_sub_cancel] at h1
          have h5 : 0 < n / 2 ^ k := Nat.div_pos h1 (Nat.pow_pos (by omega))
          have h6 : n / 2 ^ (k + 1) = n / 2 ^ k / 2 := by rw [Nat.pow_succ, ← Nat.div_div_eq_div_mul]
          omega
        · obtain ⟨rfl, hz⟩ := hz
          exact ⟨k, by omega, by omega, hz⟩
      | 0, _, hy =>
        obtain ⟨t, h', s⟩ := y
        have out : ∀ (P : Value) (h : Hp) (g : Nat → Value) (s : List Dec), RunsW (tabH Tryz.prog extY conPw hcQ) (qL Tryz.f28) (qF b n P (s32 1 2 b) (((0 : Nat) : Int) - 1) ++ tl 46 g, h, s) fun e z => e = some (some 0) ∧ (∃ g, z.1 = qF b n P (s32 1 2 b) (((0 : Nat) : Int) - 1) ++ tl 46 g) ∧ z.2.1 = h := fun P h g s =>
          goesT_runsW tabQ (np_x n (((0 : Nat) : Int) - 1) b P (s32 1 2 b) h g) (okL1 (by decide))
        obtain ⟨g, hy⟩ := hy
        rcases hy with ⟨j0, ht, hh⟩ | ⟨j1, b0, ht, hh⟩ | ⟨j1, b0, m, V, ht, hh⟩ <;> simp only at ht hh <;> subst ht hh
        · refine (out _ _ g s).mono fun e z hz => ?_
          obtain ⟨rfl, ⟨g', e1⟩, e2⟩ := hz
          exact ⟨rfl, g', .inl ⟨j0, e1, e2⟩⟩
        · refine (out _ _ g s).mono fun e z hz => ?_
          obtain ⟨rfl, ⟨g', e1⟩, e2⟩ := hz
          exact ⟨rfl, g', .inr (.inl ⟨j1, b0, e1, e2⟩)⟩
        · refine (out _ _ g s).mono fun e z hz => ?_
          obtain ⟨rfl, ⟨g', e1⟩, e2⟩ := hz
          exact ⟨rfl, g', .inr (.inr ⟨j1, b0, m, V, e1, e2⟩)⟩
  · rintro ⟨t, h', s⟩ ⟨_, g, hy⟩
    rw [Nat.pow_zero, Nat.div_one] at hy
    rcases hy with ⟨j0, ht, hh⟩ | ⟨j1, b0, ht, hh⟩ | ⟨j1, b0, m, V, ht, hh⟩ <;> simp only at ht hh <;> subst ht hh
    · refine (goesT_runsW tabQ (np_e n _ b _ _ _ g) (fun x hx => by cases hx)).mono fun e z hz => ?_
      obtain ⟨rfl, ⟨g', e1⟩, e2⟩ := hz
      subst j0
      have e3 : pM b 0 = 2 := rfl
      rw [e3, Nat.pow_zero]
      exact ⟨.inr rfl, .inl ⟨by omega, 0, by rw [e1, e2]; rfl, [], by rw [e2, List.append_nil]; rfl⟩⟩
    · refine (goesT_runsW tabQ (np_e n _ b _ _ _ g) (fun x hx => by cases hx)).mono fun e z hz => ?_
      obtain ⟨rfl, ⟨g', e1⟩, e2⟩ := hz
      exact ⟨.inr rfl, .inl ⟨by omega, 2, by rw [e1, e2]; rfl, [], by rw [e2, List.append_nil]; rfl⟩⟩
    · refine (goesT_runsW tabQ (np_e n _ b _ _ _ g) (fun x hx => by cases hx)).mono fun e z hz => ?_
      obtain ⟨rfl, ⟨g', e1⟩, e2⟩ := hz
      exact ⟨.inr rfl, .inr ⟨⟨b0, j1⟩, by rw [e1, e2]; rfl⟩⟩
def okPn (b n : Int) : Bool := decide (0 ≤ b ∧ b < 4294967296 ∧ 0 ≤ n ∧ (n ≤ 300 ∨ ((b = 10 ∨ b = 5) ∧ n ≤ 2000)))
theorem okPn_wd {b n : Nat} (h : okPn b n = true) : b < 4294967296 ∧ n ≤ 2000 ∧ ∀ j, j ≤ n → nw (b ^ j) ≤ 400 := by
  have q := of_decide_eq_true h
  rcases q.2.2.2 with h1 | ⟨h1, h2⟩
  · exact ⟨by omega, by omega, wd_small (by omega) (by omega)⟩
  · refine ⟨by omega, by omega, fun j hj => ?_⟩
    rcases h1 with h1 | h1
    · rw [show b = 10 by omega]
      exact wd_ten (n := n) (by omega) j hj
    · rw [show b = 5 by omega]
      refine Nat.le_trans (nw_le (k := nw (10 ^ j)) (Nat.lt_of_le_of_lt (Nat.pow_le_pow_left (by omega) j) (nw_lt _))) (wd_ten (n := n) (by omega) j hj)
def pMi (b n : Int) : Nat := pM b.toNat n.toNat
/-- the power, told ahead -/
def gPowN : AnsH := fun vals h s =>
  match vals, s with
  | [.int .u32 b, .int .i64 n], .inr (.inr (.inr (.inl true))) :: s' => some (.tuple #[nilS, errV 1], h, s', [(decide (n < 0 ∨ n > 1000000), true)])
  | [.int .u32 b, .int .i64 n], .inr (.inr (.inr (.inl false))) :: .inr (.inr (.inr (.inl true))) :: s' => some (.tuple #[nilS, .nilIface], h, s', [(okPn b n, true), (decide (b = 0 ∧ 1 ≤ n), true)])
  | [.int .u32 b, .int .i64 n], .inr (.inr (.inr (.inl false))) :: .inr (.inr (.inr (.inl false))) :: .inr (.inl V) :: s' => some (.tuple #[sl h.n 0 (trimN (dg (pMi b n) V)) (pMi b n), .nilIface], h.push (wU (dg (pMi b n) V)) tU, s', [(decide (((b.toNat ^ n.toNat : Nat) : Int) = V), true), (okPn b n, true), (decide (b = 0 ∧ 1 ≤ n), false)])
  | _, _ => none
theorem gPowN_ok : AnsHOk 28 gPowN := by
  intro vals h s v h' s' lg hg hl m B w E hv
  have hr0 : (⟨0, []⟩ : Hp).rows := ⟨rfl, fun b x hx => by have : b < 0 := Hp.blk_lt hx; omega⟩
  unfold gPowN at hg
  split at hg
  · rename_i b n s2
    cases hg
    have l1 := of_decide_eq_true (hl _ (List.mem_singleton.2 rfl))
    have r : RunsW (tabH Tryz.prog extY conPw hcQ) (cBody Tryz.f28) ([.int .u32 b, .int .i64 n] ++ List.replicate 54 undef, ⟨0, []⟩, []) fun e z => (e = none ∨ e = some none) ∧ resS Tryz.prog Tryz.f28 z.1 z.2.1 = some (.tuple #[nilS, errV 1]) := by
      by_cases h0 : n < 0
      · refine (goesT_runsW tabQ (np_bad0 b n) (okL1 (decide_eq_true h0))).mono fun e z hz => ?_
        obtain ⟨rfl, ⟨g', e1⟩, e2⟩ := hz
        exact ⟨.inr rfl, by rw [e1, e2]; rfl⟩
      · refine (goesT_runsW tabQ (np_bad1 b n) (okCons (decide_eq_true (l1.resolve_left h0)) (okL1 (decide_eq_false h0)))).mono fun e z hz => ?_
        obtain ⟨rfl, ⟨g', e1⟩, e2⟩ := hz
        exact ⟨.inr rfl, by rw [e1, e2]; rfl⟩
    have := row_calls0 (T := tabH Tryz.prog extY conPw hcQ) Tryz.func28 np_body1 hr0 (vals := [.int .u32 b, .int .i64 n]) (fun v hv => by
      simp only [List.mem_cons, List.not_mem_nil, or_false] at hv
      rcases hv with rfl | rfl <;> rfl) (v := .tuple #[nilS, errV 1]) (by rfl) r E (s := fun i => i) (fun i x hx _ => by have : i < 0 := Hp.blk_lt hx; omega)
    exact this
  · rename_i b n s2
    cases hg
    have l2' : okPn b n = true := hl _ List.mem_cons_self
    have l2 := of_decide_eq_true l2'
    have l3 := of_decide_eq_true (hl _ (List.mem_cons_of_mem _ (List.mem_singleton.2 rfl)))
    obtain ⟨b', rfl⟩ := Int.eq_ofNat_of_zero_le l2.1
    obtain ⟨n', rfl⟩ := Int.eq_ofNat_of_zero_le l2.2.2.1
    obtain ⟨w1, w2, w3⟩ := okPn_wd l2'
    have r := (np_runs (b := b') (n := n') w1 w2 w3).mono (P' := fun e z => (e = none ∨ e = some none) ∧ resS Tryz.prog Tryz.f28 z.1 z.2.1 = some (.tuple #[nilS, .nilIface])) fun e z hz => ⟨hz.1, by
      rcases hz.2 with ⟨q, _⟩ | ⟨_, q⟩
      · exact absurd (show b' = 0 ∧ 1 ≤ n' by omega) q
      · exact q⟩
    have := row_calls0 (T := tabH Tryz.prog extY conPw hcQ) Tryz.func28 np_body hr0 (vals := [.int .u32 (b' : Int), .int .i64 (n' : Int)]) (fun v hv => by
      simp only [List.mem_cons, List.not_mem_nil, or_false] at hv
      rcases hv with rfl | rfl <;> rfl) (v := .tuple #[nilS, .nilIface]) (by rfl) r E (s := fun i => i) (fun i x hx _ => by have : i < 0 := Hp.blk_lt hx; omega)
    exact this
  · rename_i b n V s2
    cases hg
    have l1 := of_decide_eq_true (hl _ List.mem_cons_self)
    have l2' : okPn b n = true := hl _ (List.mem_cons_of_mem _ List.mem_cons_self)
    have l2 := of_decide_eq_true l2'
    have l3 := of_decide_eq_false (hl _ (List.mem_cons_of_mem _ (List.mem_cons_of_mem _ (List.mem_singleton.2 rfl))))
    obtain ⟨b', rfl⟩ := Int.eq_ofNat_of_zero_le l2.1
    obtain ⟨n', rfl⟩ := Int.eq_ofNat_of_zero_le l2.2.2.1
    obtain ⟨w1, w2, w3⟩ := okPn_wd l2'
    rw [Int.toNat_natCast, Int.toNat_natCast] at l1
    rw [← l1]
    have ep : pMi (b' : Int) (n' : Int) = pM b' n' := by unfold pMi; rw [Int.toNat_natCast, Int.toNat_natCast]
    rw [ep]
    have r := (np_runs (b := b') (n := n') w1 w2 w3).mono (P' := fun e z => (e = none ∨ e = some none) ∧ ∃ k, resS Tryz.prog Tryz.f28 z.1 z.2.1 = some (.tuple #[s32 k (pM b' n') (b' ^ n'), .nilIface]) ∧ ∃ r, z.2.1.blk? k = some (wU (dg (pM b' n') ((b' ^ n' : Nat) : Int)) ++ r, tU)) fun e z hz => ⟨hz.1, by
      rcases hz.2 with ⟨_, q⟩ | ⟨q, _⟩
      · exact q
      · exact absurd q (by omega)⟩
    exact row_calls2 (T := tabH Tryz.prog extY conPw hcQ) Tryz.func28 np_body hr0 (vals := [.int .u32 (b' : Int), .int .i64 (n' : Int)]) (fun v hv => by
      simp only [List.mem_cons, List.not_mem_nil, or_false] at hv
      rcases hv with rfl | rfl <;> rfl) (v := fun k => .tuple #[s32 k (pM b' n') (b' ^ n'), .nilIface]) (wU_lt _) (by kernel_rfl) r (fun k => by simp [oc, oc2, oc1, s32, sl]) E (s := fun i => i) (fun i x hx _ => by have : i < 0 := Hp.blk_lt hx; omega) (fun k => by simp [rn, rn2, rn1, s32, sl])
  · cases hg
end Go.Proofs.YtgefjidphfdhdabGreatDoor.Na
namespace Go.Proofs.YtgefjidphfdhdabGreatDoor
open Go.KRun
set_option maxRecDepth 100000
theorem okN9 : okLog [] := fun _ h => by cases h
/-- a string, by its letters -/
def bS (l : List UInt8) : Value := .string ⟨⟨l⟩⟩
theorem bs_eq (l l' : List UInt8) : ((⟨⟨l⟩⟩ : ByteArray) == ⟨⟨l'⟩⟩) = decide (l = l') := by
  rw [beq_toListBytes, ByteArray.toList_eq, ByteArray.toList_eq]
  show (l == l') = decide (l = l')
  by_cases h : l = l'
  · rw [decide_eq_true h]; simpa using h
  · rw [decide_eq_false h]; simpa using h
end Go.Proofs.YtgefjidphfdhdabGreatDoor
namespace Go.Proofs.YtgefjidphfdhdabGreatDoor.Na
open Go.KRun
set_option maxRecDepth 100000
def tlP (F : Func) : Code := cFst (cBody F)
def tlL (F : Func) : Code := cIn (cIn (cFst (cSnd (cBody F))))
def tlE (F : Func) : Code := cSnd (cSnd (cBody F))
theorem tl_body : Tryz.f92.body = some (seqs [tlP Tryz.f92] (.seq (.block 0 (.loop (tlL Tryz.f92))) (tlE Tryz.f92))) := by kernel_rfl
def tlF (l : List UInt8) (c : Int) : List Value := [bS l, .int .u8 c, undef, undef, bS []]
theorem tl_pre (l : List UInt8) (c : Int) : GoesT (evL (tabOf Tryz.prog extY conN true) 100 [tlP Tryz.f92] ([bS l, .int .u8 c] ++ List.replicate 15 undef, ⟨0, []⟩, []) ⟨[], [], []⟩) 5 12 none (tlF l c) ⟨0, []⟩ [] := ⟨by kernel_rfl, by kernel_rfl, by kernel_rfl⟩
theorem tl_go (x : UInt8) (l : List UInt8) (c : Int) (g : Nat → Value) : GoesT (evC (tabOf Tryz.prog extY conN true) 100 false (tlL Tryz.f92) (tlF (x :: l) c ++ tl 12 g, ⟨0, []⟩, [cmp true, cmp true, sam true]) ⟨[], [], []⟩) 5 12 none (tlF l c) ⟨0, []⟩ [(decide ((0 : Int) ≤ 1 ∧ (1 : Int) ≤ ((x :: l).length : Nat)), true), (((x.toNat : Nat) : Int) == c, true), (decide ((0 : Int) ≤ 0 ∧ 0 < (x :: l).length), true), (decide ((((x :: l).length : Nat) : Int) > 0), true)] := ⟨by kernel_rfl, by kernel_rfl, by kernel_rfl⟩
theorem tl_out (x : UInt8) (l : List UInt8) (c : Int) (g : Nat → Value) : GoesT (evC (tabOf Tryz.prog extY conN true) 100 false (tlL Tryz.f92) (tlF (x :: l) c ++ tl 12 g, ⟨0, []⟩, [cmp true, cmp false]) ⟨[], [], []⟩) 5 12 (some (some 0)) (tlF (x :: l) c) ⟨0, []⟩ [(((x.toNat : Nat) : Int) == c, false), (decide ((0 : Int) ≤ 0 ∧ 0 < (x :: l).length), true), (decide ((((x :: l).length : Nat) : Int) > 0), true)] := ⟨by kernel_rfl, by kernel_rfl, by kernel_rfl⟩
theorem tl_nil (c : Int) (g : Nat → Value) : GoesT (evC (tabOf Tryz.prog extY conN true) 100 false (tlL Tryz.f92) (tlF [] c ++ tl 12 g, ⟨0, []⟩, [cmp false]) ⟨[], [], []⟩) 5 12 (some (some 0)) (tlF [] c) ⟨0, []⟩ [(decide (((0 : Nat) : Int) > 0), false)] := ⟨by kernel_rfl, by kernel_rfl, by kernel_rfl⟩
theorem tl_fin (l : List UInt8) (c : Int) (g : Nat → Value) : GoesT (evC (tabOf Tryz.prog extY conN true) 100 false (tlE Tryz.f92) (tlF l c ++ tl 12 g, ⟨0, []⟩, []) ⟨[], [], []⟩) 5 12 (some none) [bS l, .int .u8 c, undef, undef, bS l] ⟨0, []⟩ [] := ⟨by kernel_rfl, by kernel_rfl, by kernel_rfl⟩
/-- a string's letters behind those that are c -/
def trL (c : Int) (l : List UInt8) : List UInt8 := l.dropWhile fun x => ((x.toNat : Nat) : Int) == c
theorem tl_loop (c : Int) (L : List UInt8) (n : Nat) (x : Lf) (h : ∃ (l : List UInt8) (g : Nat → Value), x.1 = tlF l c ++ tl 12 g ∧ x.2.1 = ⟨0, []⟩ ∧ trL c l = trL c L ∧ n = l.length) : Runs (tabOf Tryz.prog extY conN true) (tlL Tryz.f92) x fun e y => match e with | none => ∃ n', n' < n ∧ ∃ (l : List UInt8) (g : Nat → Value), y.1 = tlF l c ++ tl 12 g ∧ y.2.1 = ⟨0, []⟩ ∧ trL c l = trL c L ∧ n' = l.length | some none => False | some (some id') => id' = 0 ∧ ∃ g : Nat → Value, y.1 = tlF (trL c L) c ++ tl 12 g ∧ y.2.1 = ⟨0, []⟩ := by
  obtain ⟨l, g, e1, e2, h1, h2⟩ := h
  obtain ⟨t, hh, s⟩ := x
  have e1 : t = _ := e1
  have e2 : hh = _ := e2
  subst e1 e2
  have T := tabY_ok conN_ok
  cases l with
  | nil =>
    refine (goesT_runs T (tl_nil c g) (okL1 (by decide))).mono fun e z he => ?_
    obtain ⟨rfl, ⟨g', z1⟩, z2⟩ := he
    have : trL c L = [] := h1.symm
    rw [this]
    exact ⟨rfl, g', z1, z2⟩
  | cons x l =>
    by_cases hx : ((x.toNat : Nat) : Int) = c
    · refine (goesT_runs T (tl_go x l c g) (okCons (decide_eq_true (by rw [List.length_cons]; omega)) (okCons (by simpa using hx) (okCons (decide_eq_true (by rw [List.length_cons]; omega)) (okL1 (decide_eq_true (by rw [List.length_cons]; omega))))))).mono fun e z he => ?_
      obtain ⟨rfl, ⟨g', z1⟩, z2⟩ := he
      refine ⟨l.length, by rw [h2, List.length_cons]; omega, l, g', z1, z2, ?_, rfl⟩
      rw [← h1]
      unfold trL
      rw [List.dropWhile_cons_of_pos (by simpa using hx)]
    · refine (goesT_runs T (tl_out x l c g) (okCons (by simpa using hx) (okCons (decide_eq_true (by rw [List.length_cons]; omega)) (okL1 (decide_eq_true (by rw [List.length_cons]; omega)))))).mono fun e z he => ?_
      obtain ⟨rfl, ⟨g', z1⟩, z2⟩ := he
      have : trL c L = x :: l := by
        rw [← h1]
        unfold trL
        rw [List.dropWhile_cons_of_neg (by simpa using hx)]
      rw [this]
      exact ⟨rfl, g', z1, z2⟩
theorem tlb_calls (l : List UInt8) (c : Int) (w : World) : Calls Tryz.prog 92 #[bS l, .int .u8 c] w fun r w' => r = .returned (bS (trL c l)) ∧ Tidy w w' := by
  have hT := tabY_ok conN_ok
  refine calls_of_runs (T := tabOf Tryz.prog extY conN true) Tryz.func92 tl_body (by rfl) (by rfl) ?_ w
  refine goesT_list hT (tl_pre l c) okN9 fun g => ?_
  refine Runs.seq (P1 := fun e y => e = none ∧ ∃ g : Nat → Value, y.1 = tlF (trL c l) c ++ tl 12 g ∧ y.2.1 = ⟨0, []⟩) ?_ ?_ (fun e y he => by cases he.1)
  · refine (Runs.forLoop (R := fun _ => False) (P := fun y => ∃ g : Nat → Value, y.1 = tlF (trL c l) c ++ tl 12 g ∧ y.2.1 = ⟨0, []⟩) (fun n x => ∃ (l' : List UInt8) (g : Nat → Value), x.1 = tlF l' c ++ tl 12 g ∧ x.2.1 = ⟨0, []⟩ ∧ trL c l' = trL c l ∧ n = l'.length) (tl_loop c l) (n := l.length) ⟨l, g, rfl, rfl, rfl, rfl⟩).mono fun e z hz => ?_
    match e, hz with
    | none, hz => exact ⟨rfl, hz⟩
  · intro y he
    obtain ⟨_, g', e1, e2⟩ := he
    obtain ⟨t, hh, s⟩ := y
    have e1 : t = _ := e1
    have e2 : hh = _ := e2
    subst e1 e2
    refine (goesT_runs hT (tl_fin (trL c l) c g') okN9).mono fun e z hz => ?_
    obtain ⟨rfl, ⟨g2, z1⟩, z2⟩ := hz
    exact ⟨.inr rfl, by rw [z1, z2]; rfl⟩
def gTlb : Ans := fun vals s =>
  match vals with
  | [.string b, .int .u8 c] => some (bS (trL c b.data.toList), s, [])
  | _ => none
theorem gTlb_ok : AnsOk 92 gTlb := by
  intro vals s v s' lg h hl w
  unfold gTlb at h
  split at h
  · cases h
    exact tlb_calls _ _ w
  · cases h
def conTl : Con := alt 92 gTlb conN
theorem conTl_ok : ConOk conTl := alt_ok Tryz.func92 rfl gTlb_ok conN_ok
theorem tr_e (l : List UInt8) : Fits (reckon (tabOf Tryz.prog extY conTl true) 100 64 [bS l, bS [48]] [sam true]) (bS l) [((⟨⟨l⟩⟩ : ByteArray) == ⟨⟨[]⟩⟩, true)] := ⟨by kernel_rfl, by kernel_rfl, by kernel_rfl, by kernel_rfl⟩
theorem tr_n (l : List UInt8) : Fits (reckon (tabOf Tryz.prog extY conTl true) 100 64 [bS l, bS [48]] [sam false]) (bS (trL 48 l)) [(true, true), (true, true), ((⟨⟨l⟩⟩ : ByteArray) == ⟨⟨[]⟩⟩, false)] := ⟨by kernel_rfl, by kernel_rfl, by kernel_rfl, by kernel_rfl⟩
/-- what is left of a string behind its noughts -/
def gTrl : Ans := fun vals s =>
  match vals with
  | [.string b, .string ⟨⟨[c]⟩⟩] => some (bS (trL 48 b.data.toList), s, [(decide (c = 48), true)])
  | _ => none
theorem gTrl_ok : AnsOk 64 gTrl := by
  intro vals s v s' lg h hl w
  unfold gTrl at h
  split at h
  · rename_i b c
    cases h
    have hc := of_decide_eq_true (hl _ (List.mem_singleton.2 rfl))
    subst hc
    by_cases hn : b.data.toList = []
    · have := fits_calls (tabY_ok conTl_ok) (tr_e b.data.toList) (okL1 ((bs_eq _ _).trans (decide_eq_true hn))) (by rfl) (by rfl) w
      rw [hn] at this ⊢
      have hb : b = ⟨⟨[]⟩⟩ := by
        apply ByteArray.ext
        apply Array.ext'
        exact hn
      rw [hb]
      exact this
    · exact fits_calls (tabY_ok conTl_ok) (tr_n b.data.toList) (okCons rfl (okCons rfl (okL1 ((bs_eq _ _).trans (decide_eq_false hn))))) (by rfl) (by rfl) w
  · cases h
end Go.Proofs.YtgefjidphfdhdabGreatDoor.Na
namespace Go.KRun
open Go.RowKit
/-- all that lies below B stays, but for one block -/
structure BelowI (B r : Nat) (w w' : World) : Prop where
  os : w'.os = w.os
  tape : w'.tape = w.tape
  output : w'.output = w.output
  size : w.heap.size ≤ w'.heap.size
  block : ∀ k, k < B → k ≠ r → w'.heap[k]? = w.heap[k]?
/-! ### one step of the iterator -/
end Go.KRun
namespace Go.Proofs.YtgefjidphfdhdabGreatDoor
open Go.KRun
set_option maxRecDepth 100000
theorem logB {x : Bool × Bool} {l : Log} (h : okLog (x :: l)) : x.1 = x.2 ∧ okLog l := ⟨h _ List.mem_cons_self, fun y hy => h y (List.mem_cons_of_mem _ hy)⟩
end Go.Proofs.YtgefjidphfdhdabGreatDoor
