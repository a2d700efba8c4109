/-
  PlM
-/
import Derived.Test.YtlmccannfocniaaDoorG13
namespace Go.Proofs.YtlmccannfocniaaDoor
open Go.KRun Go.RowKit Go.Pl
set_option maxRecDepth 100000
/-- a sum over a row -/
def sumF (f : Int → Int) : List Int → Int | [] => 0 | a :: l => f a + sumF f l
theorem sumF_snoc (f : Int → Int) (L : List Int) (a : Int) : sumF f (L ++ [a]) = sumF f L + f a := by
  induction L with
  | nil => simp [sumF]
  | cons b L ih => simp [sumF, ih]; omega
theorem sumF_bd {f : Int → Int} {M : Int} : ∀ {L : List Int}, (∀ x ∈ L, 0 ≤ f x ∧ f x ≤ M) → 0 ≤ sumF f L ∧ sumF f L ≤ M * L.length
  | [], _ => by simp [sumF]
  | a :: L, h => by
    have h1 := h a (List.mem_cons_self ..)
    have h2 := sumF_bd (L := L) fun x hx => h x (List.mem_cons_of_mem _ hx)
    have e : M * ((a :: L).length : Int) = M * L.length + M := by rw [List.length_cons, Int.natCast_succ, Int.mul_add, Int.mul_one]
    show 0 ≤ f a + sumF f L ∧ f a + sumF f L ≤ M * ((a :: L).length : Int)
    rw [e]
    omega
theorem take_snoc {L : List Int} {i : Nat} (h : i < L.length) : L.take (i + 1) = L.take i ++ [L.getD i 0] := by
  rw [List.take_add_one, List.getD_eq_getElem?_getD, List.getElem?_eq_getElem h]
  rfl
/-- a loop that sums over a row -/
theorem row_sum {T : Tab} {c : Code} {id : Nat} {L : List Int} (f : Int → Int) (S : Int → Nat → Lf → Prop)
    (round : ∀ i y, i < L.length → S (sumF f (L.take i)) i y → RunsW T c y fun e y' => e = none ∧ S (sumF f (L.take i) + f (L.getD i 0)) (i + 1) y')
    (out : ∀ y, S (sumF f L) L.length y → RunsW T c y fun e y' => e = some (some id) ∧ S (sumF f L) L.length y') {y : Lf} (h0 : S 0 0 y) :
    RunsW T (.block id (.loop c)) y fun e y' => e = none ∧ S (sumF f L) L.length y' := by
  refine (RunsW.forLoop (P := fun y' => S (sumF f L) L.length y') (R := fun _ => False) (fun z y => ∃ i, z = L.length - i ∧ i ≤ L.length ∧ S (sumF f (L.take i)) i y) ?_ (n := L.length) ⟨0, rfl, Nat.zero_le _, h0⟩).mono fun e y' he => ?_
  · rintro z y ⟨i, rfl, hi, hs⟩
    by_cases h : i = L.length
    · subst h
      rw [List.take_length] at hs
      exact (out y hs).mono fun e y' he => by
        obtain ⟨rfl, he⟩ := he
        exact ⟨rfl, he⟩
    · have hlt : i < L.length := by omega
      exact (round i y hlt hs).mono fun e y' he => by
        obtain ⟨rfl, he⟩ := he
        exact ⟨L.length - (i + 1), by omega, i + 1, rfl, by omega, by rw [take_snoc hlt, sumF_snoc]; exact he⟩
  · match e, he with
    | none, he => exact ⟨rfl, he⟩
theorem mem_take {L : List Int} {i : Nat} {P : Int → Prop} (h : ∀ x ∈ L, P x) : ∀ x ∈ L.take i, P x := fun x hx => h x (List.mem_of_mem_take hx)
theorem getD_mem {L : List Int} {i : Nat} (h : i < L.length) : L.getD i 0 ∈ L := by
  rw [List.getD_eq_getElem?_getD, List.getElem?_eq_getElem h]
  exact List.getElem_mem h
theorem wrR_bd {r : Int} (h : isR r = true) : 0 ≤ wrR r ∧ wrR r ≤ 300 := by
  rcases isR_is h with rfl | rfl | rfl | rfl | rfl | rfl | rfl <;> decide
/-- a row whose loop may be run: radices alone, not too many -/
def okRs (h : Hp) (p : Option Addr) (n : Nat) : Bool := rowIP h p n && ((rowO h p n).all isR && Nat.blt n 1073741824)
theorem okRs_of {h : Hp} {p : Option Addr} {n : Nat} (hk : okRs h p n = true) : rowIP h p n = true ∧ (∀ x ∈ rowO h p n, isR x = true) ∧ n < 1073741824 := by
  unfold okRs at hk
  rw [Bool.and_eq_true, Bool.and_eq_true] at hk
  exact ⟨hk.1, List.all_eq_true.1 hk.2.1, blt_iff.1 hk.2.2⟩
/-! ### wrong -/
theorem wr_body : Tryd.f28.body = some (.seq (cFst (cBody Tryd.f28)) (.seq (cFst (cSnd (cBody Tryd.f28))) (.seq (.seq (cFst (cFst (cSnd (cSnd (cBody Tryd.f28))))) (.block 0 (.loop (cIn (cIn (cSnd (cFst (cSnd (cSnd (cBody Tryd.f28)))))))))) (cSnd (cSnd (cSnd (cBody Tryd.f28))))))) := by kernel_rfl
theorem wr_a (p : Option Addr) (n c : Nat) (h : Hp) : GoesT (evC (tabH Tryd.prog extY conN hcFd) 100 false (cFst (cBody Tryd.f28)) ([.slice p n c] ++ List.replicate 24 undef, h, []) ⟨[], [], []⟩) 3 22 none ([.slice p n c, undef, .int .i64 0]) h [] := ⟨by kernel_rfl, by kernel_rfl, by kernel_rfl⟩
theorem wr_b (p : Option Addr) (n c : Nat) (h : Hp) (g : Nat → Value) : GoesT (evC (tabH Tryd.prog extY conN hcFd) 100 false (cFst (cSnd (cBody Tryd.f28))) ([.slice p n c, undef, .int .i64 0] ++ tl 22 g, h, []) ⟨[], [], []⟩) 4 21 none ([.slice p n c, undef, .int .i64 0, .int .i64 0]) h [] := ⟨by kernel_rfl, by kernel_rfl, by kernel_rfl⟩
theorem wr_c (p : Option Addr) (n c : Nat) (h : Hp) (g : Nat → Value) : GoesT (evC (tabH Tryd.prog extY conN hcFd) 100 false (cFst (cFst (cSnd (cSnd (cBody Tryd.f28))))) ([.slice p n c, undef, .int .i64 0, .int .i64 0] ++ tl 21 g, h, []) ⟨[], [], []⟩) 11 14 none (pdF p n c 0 (g 0) (g 1) (g 2) (g 3) 0) h [] := ⟨by kernel_rfl, by kernel_rfl, by kernel_rfl⟩
theorem wr_go (o n c : Nat) (k r i : Int) (l : List Value) (j4 j5 j6 j7 : Value) (g : Nat → Value) : GoesT (evC (tabH Tryd.prog extY conN hcFd) 100 false (cIn (cIn (cSnd (cFst (cSnd (cSnd (cBody Tryd.f28))))))) (pdF (some ⟨1, o, none⟩) n c k j4 j5 j6 j7 i ++ tl 14 g, hTR (l, tIR), [cmp true, at_, val (.int .i64 r), cmp true]) ⟨[], [], []⟩) 11 14 none (pdF (some ⟨1, o, none⟩) n c (IntKind.i64.wrap (k + wrR r)) j4 (.int .i64 r) (.pointer (some ⟨2, 0, none⟩)) (.bool true) (IntKind.i64.wrap (i + 1))) (hTR3 ([.int .i64 r, .int .i64 (wrR r)], 64) (l, tIR)) [(isR r, true), (cellIs (l[o + i.toNat * 1]?) (.int .i64 r), true), (decide (0 ≤ i ∧ i < n), true), (decide (i < n), true)] := ⟨by kernel_rfl, by kernel_rfl, by kernel_rfl⟩
theorem wr_out (p : Option Addr) (n c : Nat) (k i : Int) (h : Hp) (j4 j5 j6 j7 : Value) (g : Nat → Value) : GoesT (evC (tabH Tryd.prog extY conN hcFd) 100 false (cIn (cIn (cSnd (cFst (cSnd (cSnd (cBody Tryd.f28))))))) (pdF p n c k j4 j5 j6 j7 i ++ tl 14 g, h, [cmp false]) ⟨[], [], []⟩) 11 14 (some (some 0)) (pdF p n c k j4 j5 j6 j7 i) h [(decide (i < n), false)] := ⟨by kernel_rfl, by kernel_rfl, by kernel_rfl⟩
theorem wr_end (p : Option Addr) (n c : Nat) (k i : Int) (h : Hp) (j4 j5 j6 j7 : Value) (g : Nat → Value) : GoesT (evC (tabH Tryd.prog extY conN hcFd) 100 false (cSnd (cSnd (cSnd (cBody Tryd.f28)))) (pdF p n c k j4 j5 j6 j7 i ++ tl 14 g, h, []) ⟨[], [], []⟩) 3 22 (some none) ([.slice p n c, undef, .int .i64 k]) h [] := ⟨by kernel_rfl, by kernel_rfl, by kernel_rfl⟩
theorem wr_runs {x : List Value × TypeId} {p : Option Addr} {n : Nat} {L : List Int} (hR : RowAt 1 x p n L) (hL : ∀ x ∈ L, isR x = true) (hn : n < 1073741824) (c : Nat) :
    RunsW (tabH Tryd.prog extY conN hcFd) (.seq (cFst (cBody Tryd.f28)) (.seq (cFst (cSnd (cBody Tryd.f28))) (.seq (.seq (cFst (cFst (cSnd (cSnd (cBody Tryd.f28))))) (.block 0 (.loop (cIn (cIn (cSnd (cFst (cSnd (cSnd (cBody Tryd.f28)))))))))) (cSnd (cSnd (cSnd (cBody Tryd.f28))))))) ([.slice p n c] ++ List.replicate (Tryd.f28.ntmps - [Value.slice p n c].length) undef, hTR x, []) fun e y => (e = none ∨ e = some none) ∧ resS Tryd.prog Tryd.f28 y.1 y.2.1 = some (.int .i64 (sumF wrR L)) := by
  obtain ⟨l, ty⟩ := x
  have hlen := hR.len
  subst hlen
  refine RunsW.goes T19_ok (wr_a p L.length c _) ok19 fun g => RunsW.goes T19_ok (wr_b p L.length c _ g) ok19 fun g => ?_
  refine RunsW.seq (P1 := fun e y => e = none ∧ (∃ j4 j5 j6 j7 g, y.1 = pdF p L.length c (sumF wrR L) j4 j5 j6 j7 (L.length : Nat) ++ tl 14 g) ∧ y.2.1 = hTR (l, ty)) (RunsW.goes T19_ok (wr_c p L.length c _ g) ok19 fun g => row_sum wrR (fun k i y => (∃ j4 j5 j6 j7 g, y.1 = pdF p L.length c k j4 j5 j6 j7 (i : Nat) ++ tl 14 g) ∧ y.2.1 = hTR (l, ty)) ?_ ?_ ⟨⟨_, _, _, _, g, rfl⟩, rfl⟩) ?_ (fun e y hy => by cases hy.1)
  · rintro i ⟨t, h', s⟩ hi ⟨⟨j4, j5, j6, j7, g, h1⟩, h2⟩
    simp only at h1 h2
    subst h1 h2
    rcases hR.pos with ⟨_, h0⟩ | ⟨o, rfl, hty, hcell⟩
    · omega
    simp only at hty hcell
    subst hty
    have hc := cellIs_of (hcell i hi)
    have hm := hL _ (getD_mem hi)
    have hb := sumF_bd (f := wrR) (M := 300) (L := L.take i) (mem_take fun x hx => wrR_bd (hL x hx))
    have hb2 := wrR_bd hm
    have hl2 : ((L.take i).length : Int) ≤ 1073741824 := by rw [List.length_take]; omega
    have hw : IntKind.i64.wrap (sumF wrR (L.take i) + wrR (L.getD i 0)) = sumF wrR (L.take i) + wrR (L.getD i 0) := wrapI (by omega) (by omega)
    have hwi : IntKind.i64.wrap ((i : Int) + 1) = ((i + 1 : Nat) : Int) := by rw [wrapI (by omega) (by omega)]; omega
    have hG := wr_go o L.length c (sumF wrR (L.take i)) (L.getD i 0) i l j4 j5 j6 j7 g
    rw [hw, hwi] at hG
    refine ((goesT_runsW (s0 := s) T19_ok hG (okTwo hm (okTwo hc (okTwo (decide_eq_true (by omega)) (okOne (decide_eq_true (by omega))))))).cutP [some (.slice (some ⟨1, o, none⟩) L.length c), some undef, some (.int .i64 0), some (.int .i64 (sumF wrR (L.take i) + wrR (L.getD i 0))), none, none, none, none, some (.slice (some ⟨1, o, none⟩) L.length c), some (.int .i64 L.length), some (.int .i64 ((i + 1 : Nat) : Int))] [0, 1] [(rdV, rdT), (l, tIR)] rfl (by decide) ⟨rfl, rn_undef _, rfl, rfl, rfl, rfl, rfl, trivial⟩ (blkTR hR.st) (by decide) (by kernel_rfl)).mono fun e y hy => ?_
    obtain ⟨t, h', s'⟩ := y
    obtain ⟨rfl, ⟨j, g', y1⟩, y2⟩ := hy
    simp only at y1 y2
    subst y1 y2
    exact ⟨rfl, ⟨_, _, _, _, g', rfl⟩, rfl⟩
  · rintro ⟨t, h', s⟩ ⟨⟨j4, j5, j6, j7, g, h1⟩, h2⟩
    simp only at h1 h2
    subst h1 h2
    exact RunsW.ends T19_ok (wr_out p L.length c (sumF wrR L) (L.length : Nat) _ j4 j5 j6 j7 g) (okOne (decide_eq_false (by omega))) fun g s' => ⟨rfl, ⟨j4, j5, j6, j7, g, rfl⟩, rfl⟩
  · rintro ⟨t, h', s⟩ ⟨_, ⟨j4, j5, j6, j7, g, h1⟩, h2⟩
    simp only at h1 h2
    subst h1 h2
    exact RunsW.ends T19_ok (wr_end p L.length c (sumF wrR L) (L.length : Nat) _ j4 j5 j6 j7 g) ok19 fun g s' => ⟨.inr rfl, rfl⟩
def gWr : AnsH := fun vals h s => match vals with
  | [.slice p n _] => match hasRd h with
    | true => some (.int .i64 (sumF wrR (rowO h p n)), h, s, [(okRs h p n, true)])
    | false => none
  | _ => none
theorem gWr_ok : AnsHOk 28 gWr := by
  intro vals h s v h' s' lg hg hl m B w E hv
  unfold gWr at hg
  split at hg
  · rename_i p n c
    split at hg
    · rename_i ht
      cases hg
      obtain ⟨k1, k2, k3⟩ := okRs_of (hl _ (List.mem_singleton.2 rfl))
      obtain ⟨x, p', f, E0, hR, hf⟩ := row_in E k1 ht
      have := row_calls0E (T := (tabH Tryd.prog extY conN hcFd)) Tryd.func28 wr_body (vals := [.slice p' n c]) (fun v hv => by rw [List.mem_singleton.1 hv]; exact hR.lt c (by show 1 < 2; decide)) (v := .int .i64 (sumF wrR (rowO h p n))) (by rfl) (wr_runs hR k2 k3 c) E E0
      simp only [List.map_cons, List.map_nil, hf] at this
      exact this
    · cases hg
  · cases hg
/-! ### the document's sum -/
theorem sm_body : Tryd.f30.body = some (.seq (cFst (cBody Tryd.f30)) (.seq (cFst (cSnd (cBody Tryd.f30))) (.seq (.seq (cFst (cFst (cSnd (cSnd (cBody Tryd.f30))))) (.block 0 (.loop (cIn (cIn (cSnd (cFst (cSnd (cSnd (cBody Tryd.f30)))))))))) (cSnd (cSnd (cSnd (cBody Tryd.f30))))))) := by kernel_rfl
theorem sm_a0 (p : Option Addr) (n c : Nat) (h : Hp) : GoesT (evC (tabH Tryd.prog extY conN hcN) 100 false (cFst (cBody Tryd.f30)) ([.slice p n c] ++ List.replicate 37 undef, h, []) ⟨[], [], []⟩) 3 35 none ([.slice p n c, undef, .int .i64 0]) h [] := ⟨by kernel_rfl, by kernel_rfl, by kernel_rfl⟩
theorem sm_b0 (p : Option Addr) (n c : Nat) (h : Hp) (g : Nat → Value) : GoesT (evC (tabH Tryd.prog extY conN hcN) 100 false (cFst (cSnd (cBody Tryd.f30))) ([.slice p n c, undef, .int .i64 0] ++ tl 35 g, h, []) ⟨[], [], []⟩) 4 34 none ([.slice p n c, undef, .int .i64 0, .int .i64 0]) h [] := ⟨by kernel_rfl, by kernel_rfl, by kernel_rfl⟩
theorem sm_c0 (p : Option Addr) (n c : Nat) (h : Hp) (g : Nat → Value) : GoesT (evC (tabH Tryd.prog extY conN hcN) 100 false (cFst (cFst (cSnd (cSnd (cBody Tryd.f30))))) ([.slice p n c, undef, .int .i64 0, .int .i64 0] ++ tl 34 g, h, []) ⟨[], [], []⟩) 5 33 none ([.slice p n c, undef, .int .i64 0, .int .i64 0, .int .i64 0]) h [] := ⟨by kernel_rfl, by kernel_rfl, by kernel_rfl⟩
theorem sm_2 (o n c : Nat) (k r i : Int) (l : List Value) (g : Nat → Value) : GoesT (evC (tabH Tryd.prog extY conN hcN) 100 false (cIn (cIn (cSnd (cFst (cSnd (cSnd (cBody Tryd.f30))))))) ([.slice (some ⟨1, o, none⟩) n c, undef, .int .i64 0, .int .i64 k, .int .i64 i] ++ tl 33 g, hTR (l, tIR), [cmp true, at_, val (.int .i64 r), cmp true]) ⟨[], [], []⟩) 5 33 none ([.slice (some ⟨1, o, none⟩) n c, undef, .int .i64 0, .int .i64 (IntKind.i64.wrap (k + 8)), .int .i64 (IntKind.i64.wrap (i + 1))]) (hTR (l, tIR)) [(r == 2, true), (cellIs (l[o + i.toNat * 1]?) (.int .i64 r), true), (decide (0 ≤ i ∧ i < n), true), (decide (i < n), true)] := ⟨by kernel_rfl, by kernel_rfl, by kernel_rfl⟩
theorem sm_4 (o n c : Nat) (k r i : Int) (l : List Value) (g : Nat → Value) : GoesT (evC (tabH Tryd.prog extY conN hcN) 100 false (cIn (cIn (cSnd (cFst (cSnd (cSnd (cBody Tryd.f30))))))) ([.slice (some ⟨1, o, none⟩) n c, undef, .int .i64 0, .int .i64 k, .int .i64 i] ++ tl 33 g, hTR (l, tIR), [cmp true, at_, val (.int .i64 r), cmp false, at_, val (.int .i64 r), cmp true]) ⟨[], [], []⟩) 5 33 none ([.slice (some ⟨1, o, none⟩) n c, undef, .int .i64 0, .int .i64 (IntKind.i64.wrap (k + 12)), .int .i64 (IntKind.i64.wrap (i + 1))]) (hTR (l, tIR)) [(r == 4, true), (cellIs (l[o + i.toNat * 1]?) (.int .i64 r), true), (decide (0 ≤ i ∧ i < n), true), (r == 2, false), (cellIs (l[o + i.toNat * 1]?) (.int .i64 r), true), (decide (0 ≤ i ∧ i < n), true), (decide (i < n), true)] := ⟨by kernel_rfl, by kernel_rfl, by kernel_rfl⟩
theorem sm_n (o n c : Nat) (k r i : Int) (l : List Value) (g : Nat → Value) : GoesT (evC (tabH Tryd.prog extY conN hcN) 100 false (cIn (cIn (cSnd (cFst (cSnd (cSnd (cBody Tryd.f30))))))) ([.slice (some ⟨1, o, none⟩) n c, undef, .int .i64 0, .int .i64 k, .int .i64 i] ++ tl 33 g, hTR (l, tIR), [cmp true, at_, val (.int .i64 r), cmp false, at_, val (.int .i64 r), cmp false, at_, val (.int .i64 r), at_, val (.int .i64 r)]) ⟨[], [], []⟩) 5 33 none ([.slice (some ⟨1, o, none⟩) n c, undef, .int .i64 0, .int .i64 (IntKind.i64.wrap (k + IntKind.i64.wrap (r * IntKind.i64.wrap (r + 8)))), .int .i64 (IntKind.i64.wrap (i + 1))]) (hTR (l, tIR)) [(cellIs (l[o + i.toNat * 1]?) (.int .i64 r), true), (decide (0 ≤ i ∧ i < n), true), (cellIs (l[o + i.toNat * 1]?) (.int .i64 r), true), (decide (0 ≤ i ∧ i < n), true), (r == 4, false), (cellIs (l[o + i.toNat * 1]?) (.int .i64 r), true), (decide (0 ≤ i ∧ i < n), true), (r == 2, false), (cellIs (l[o + i.toNat * 1]?) (.int .i64 r), true), (decide (0 ≤ i ∧ i < n), true), (decide (i < n), true)] := ⟨by kernel_rfl, by kernel_rfl, by kernel_rfl⟩
theorem sm_out (p : Option Addr) (n c : Nat) (k i : Int) (h : Hp) (g : Nat → Value) : GoesT (evC (tabH Tryd.prog extY conN hcN) 100 false (cIn (cIn (cSnd (cFst (cSnd (cSnd (cBody Tryd.f30))))))) ([.slice p n c, undef, .int .i64 0, .int .i64 k, .int .i64 i] ++ tl 33 g, h, [cmp false]) ⟨[], [], []⟩) 5 33 (some (some 0)) ([.slice p n c, undef, .int .i64 0, .int .i64 k, .int .i64 i]) h [(decide (i < n), false)] := ⟨by kernel_rfl, by kernel_rfl, by kernel_rfl⟩
theorem sm_end (p : Option Addr) (n c : Nat) (k i : Int) (h : Hp) (g : Nat → Value) : GoesT (evC (tabH Tryd.prog extY conN hcN) 100 false (cSnd (cSnd (cSnd (cBody Tryd.f30)))) ([.slice p n c, undef, .int .i64 0, .int .i64 k, .int .i64 i] ++ tl 33 g, h, []) ⟨[], [], []⟩) 3 35 (some none) ([.slice p n c, undef, .int .i64 k]) h [] := ⟨by kernel_rfl, by kernel_rfl, by kernel_rfl⟩
theorem sm_round {L : List Int} {i : Nat} (hi : i < L.length) (hL : ∀ x ∈ L, isR x = true) (hn : L.length < 1073741824) {l : List Value} {o : Nat} (hc : cellIs (l[o + ((i : Nat) : Int).toNat * 1]?) (.int .i64 (L.getD i 0)) = true) (c : Nat) (s : List Dec) (g : Nat → Value) :
    RunsW (tabH Tryd.prog extY conN hcN) (cIn (cIn (cSnd (cFst (cSnd (cSnd (cBody Tryd.f30))))))) ([.slice (some ⟨1, o, none⟩) L.length c, undef, .int .i64 0, .int .i64 (sumF wrR (L.take i)), .int .i64 (i : Nat)] ++ tl 33 g, hTR (l, tIR), s) fun e y => e = none ∧ (∃ g, y.1 = [.slice (some ⟨1, o, none⟩) L.length c, undef, .int .i64 0, .int .i64 (sumF wrR (L.take i) + wrR (L.getD i 0)), .int .i64 ((i + 1 : Nat) : Int)] ++ tl 33 g) ∧ y.2.1 = hTR (l, tIR) := by
  have hm := hL _ (getD_mem hi)
  have hb := sumF_bd (f := wrR) (M := 300) (L := L.take i) (mem_take fun x hx => wrR_bd (hL x hx))
  have hb2 := wrR_bd hm
  have hl2 : ((L.take i).length : Int) ≤ 1073741824 := by rw [List.length_take]; omega
  have hw : IntKind.i64.wrap (sumF wrR (L.take i) + wrR (L.getD i 0)) = sumF wrR (L.take i) + wrR (L.getD i 0) := wrapI (by omega) (by omega)
  have hwi : IntKind.i64.wrap ((i : Int) + 1) = ((i + 1 : Nat) : Int) := by rw [wrapI (by omega) (by omega)]; omega
  have d1 : decide ((i : Int) < (L.length : Nat)) = true := decide_eq_true (by omega)
  have d2 : decide (0 ≤ (i : Int) ∧ (i : Int) < (L.length : Nat)) = true := decide_eq_true (by omega)
  generalize sumF wrR (L.take i) = k at *
  generalize L.getD i 0 = r at *
  by_cases h2 : r = 2
  · subst h2
    have hG := sm_2 o L.length c k 2 i l g
    rw [show k + 8 = k + wrR 2 from rfl, hw, hwi] at hG
    exact goesT_runsW T0_ok hG (okTwo (by decide) (okTwo hc (okTwo d2 (okOne d1))))
  · have e2 : (r == 2) = false := beq_eq_false_iff_ne.2 h2
    by_cases h4 : r = 4
    · subst h4
      have hG := sm_4 o L.length c k 4 i l g
      rw [show k + 12 = k + wrR 4 from rfl, hw, hwi] at hG
      exact goesT_runsW T0_ok hG (okTwo (by decide) (okTwo hc (okTwo d2 (okTwo e2 (okTwo hc (okTwo d2 (okOne d1)))))))
    · have e4 : (r == 4) = false := beq_eq_false_iff_ne.2 h4
      have hr : IntKind.i64.wrap (r * IntKind.i64.wrap (r + 8)) = wrR r := by
        rcases isR_is hm with rfl | rfl | rfl | rfl | rfl | rfl | rfl <;> first | decide | exact absurd rfl h4 | exact absurd rfl h2
      have hG := sm_n o L.length c k r i l g
      rw [hr, hw, hwi] at hG
      exact goesT_runsW T0_ok hG (okTwo hc (okTwo d2 (okTwo hc (okTwo d2 (okTwo e4 (okTwo hc (okTwo d2 (okTwo e2 (okTwo hc (okTwo d2 (okOne d1)))))))))))
theorem sm_runs {x : List Value × TypeId} {p : Option Addr} {n : Nat} {L : List Int} (hR : RowAt 1 x p n L) (hL : ∀ x ∈ L, isR x = true) (hn : n < 1073741824) (c : Nat) :
    RunsW (tabH Tryd.prog extY conN hcN) (.seq (cFst (cBody Tryd.f30)) (.seq (cFst (cSnd (cBody Tryd.f30))) (.seq (.seq (cFst (cFst (cSnd (cSnd (cBody Tryd.f30))))) (.block 0 (.loop (cIn (cIn (cSnd (cFst (cSnd (cSnd (cBody Tryd.f30)))))))))) (cSnd (cSnd (cSnd (cBody Tryd.f30))))))) ([.slice p n c] ++ List.replicate (Tryd.f30.ntmps - [Value.slice p n c].length) undef, hTR x, []) fun e y => (e = none ∨ e = some none) ∧ resS Tryd.prog Tryd.f30 y.1 y.2.1 = some (.int .i64 (sumF wrR L)) := by
  obtain ⟨l, ty⟩ := x
  have hlen := hR.len
  subst hlen
  refine RunsW.goes T0_ok (sm_a0 p L.length c _) ok19 fun g => RunsW.goes T0_ok (sm_b0 p L.length c _ g) ok19 fun g => ?_
  refine RunsW.seq (P1 := fun e y => e = none ∧ (∃ g, y.1 = [.slice p L.length c, undef, .int .i64 0, .int .i64 (sumF wrR L), .int .i64 (L.length : Nat)] ++ tl 33 g) ∧ y.2.1 = hTR (l, ty)) (RunsW.goes T0_ok (sm_c0 p L.length c _ g) ok19 fun g => row_sum wrR (fun k i y => (∃ g, y.1 = [.slice p L.length c, undef, .int .i64 0, .int .i64 k, .int .i64 (i : Nat)] ++ tl 33 g) ∧ y.2.1 = hTR (l, ty)) ?_ ?_ ⟨⟨g, rfl⟩, rfl⟩) ?_ (fun e y hy => by cases hy.1)
  · rintro i ⟨t, h', s⟩ hi ⟨⟨g, h1⟩, h2⟩
    simp only at h1 h2
    subst h1 h2
    rcases hR.pos with ⟨_, h0⟩ | ⟨o, rfl, hty, hcell⟩
    · omega
    simp only at hty hcell
    subst hty
    exact sm_round hi hL hn (cellIs_of (hcell i hi)) c s g
  · rintro ⟨t, h', s⟩ ⟨⟨g, h1⟩, h2⟩
    simp only at h1 h2
    subst h1 h2
    exact RunsW.ends T0_ok (sm_out p L.length c (sumF wrR L) (L.length : Nat) _ g) (okOne (decide_eq_false (by omega))) fun g s' => ⟨rfl, ⟨g, rfl⟩, rfl⟩
  · rintro ⟨t, h', s⟩ ⟨_, ⟨g, h1⟩, h2⟩
    simp only at h1 h2
    subst h1 h2
    exact RunsW.ends T0_ok (sm_end p L.length c (sumF wrR L) (L.length : Nat) _ g) ok19 fun g s' => ⟨.inr rfl, rfl⟩
def gDs : AnsH := fun vals h s => match vals with
  | [.slice p n _] => match hasRd h with
    | true => some (.int .i64 (sumF wrR (rowO h p n)), h, s, [(okRs h p n, true)])
    | false => none
  | _ => none
theorem gDs_ok : AnsHOk 30 gDs := by
  intro vals h s v h' s' lg hg hl m B w E hv
  unfold gDs at hg
  split at hg
  · rename_i p n c
    split at hg
    · rename_i ht
      cases hg
      obtain ⟨k1, k2, k3⟩ := okRs_of (hl _ (List.mem_singleton.2 rfl))
      obtain ⟨x, p', f, E0, hR, hf⟩ := row_in E k1 ht
      have := row_calls0E (T := (tabH Tryd.prog extY conN hcN)) Tryd.func30 sm_body (vals := [.slice p' n c]) (fun v hv => by rw [List.mem_singleton.1 hv]; exact hR.lt c (by show 1 < 2; decide)) (v := .int .i64 (sumF wrR (rowO h p n))) (by rfl) (sm_runs hR k2 k3 c) E E0
      simp only [List.map_cons, List.map_nil, hf] at this
      exact this
    · cases hg
  · cases hg
/-! ### littles -/
theorem li_body : Tryd.f31.body = some (.seq (cFst (cBody Tryd.f31)) (.seq (cFst (cSnd (cBody Tryd.f31))) (.seq (.seq (cFst (cFst (cSnd (cSnd (cBody Tryd.f31))))) (.block 0 (.loop (cIn (cIn (cSnd (cFst (cSnd (cSnd (cBody Tryd.f31)))))))))) (cSnd (cSnd (cSnd (cBody Tryd.f31))))))) := by kernel_rfl
theorem li_a (N : Int) (p : Option Addr) (n c : Nat) (h : Hp) : GoesT (evC (tabH Tryd.prog extY conN hcN) 100 false (cFst (cBody Tryd.f31)) ([.int .i64 N, .slice p n c] ++ List.replicate 19 undef, h, []) ⟨[], [], []⟩) 5 16 none ([.int .i64 N, .slice p n c, undef, undef, .int .i64 0]) h [] := ⟨by kernel_rfl, by kernel_rfl, by kernel_rfl⟩
theorem li_b (N : Int) (p : Option Addr) (n c : Nat) (h : Hp) (g : Nat → Value) : GoesT (evC (tabH Tryd.prog extY conN hcN) 100 false (cFst (cSnd (cBody Tryd.f31))) ([.int .i64 N, .slice p n c, undef, undef, .int .i64 0] ++ tl 16 g, h, []) ⟨[], [], []⟩) 6 15 none ([.int .i64 N, .slice p n c, undef, undef, .int .i64 0, .int .i64 0]) h [] := ⟨by kernel_rfl, by kernel_rfl, by kernel_rfl⟩
theorem li_c (N : Int) (p : Option Addr) (n c : Nat) (h : Hp) (g : Nat → Value) : GoesT (evC (tabH Tryd.prog extY conN hcN) 100 false (cFst (cFst (cSnd (cSnd (cBody Tryd.f31))))) ([.int .i64 N, .slice p n c, undef, undef, .int .i64 0, .int .i64 0] ++ tl 15 g, h, []) ⟨[], [], []⟩) 11 10 none ([.int .i64 N, .slice p n c, undef, undef, .int .i64 0, .int .i64 0, g 0, (g 1), .slice p n c, .int .i64 n, .int .i64 0]) h [] := ⟨by kernel_rfl, by kernel_rfl, by kernel_rfl⟩
theorem li_go (N : Int) (o n c : Nat) (k r i q : Int) (l : List Value) (j6 j7 : Value) (g : Nat → Value) : GoesT (evC (tabH Tryd.prog extY conN hcN) 100 false (cIn (cIn (cSnd (cFst (cSnd (cSnd (cBody Tryd.f31))))))) ([.int .i64 N, .slice (some ⟨1, o, none⟩) n c, undef, undef, .int .i64 0, .int .i64 k, j6, j7, .slice (some ⟨1, o, none⟩) n c, .int .i64 n, .int .i64 i] ++ tl 10 g, hTR (l, tIR), [cmp true, at_, val (.int .i64 r), num q]) ⟨[], [], []⟩) 11 10 none ([.int .i64 N, .slice (some ⟨1, o, none⟩) n c, undef, undef, .int .i64 0, .int .i64 (IntKind.i64.wrap (k + q)), j6, (.int .i64 r), .slice (some ⟨1, o, none⟩) n c, .int .i64 n, .int .i64 (IntKind.i64.wrap (i + 1))]) (hTR (l, tIR)) [(decide (r = 0), false), (decide (IntKind.i64.wrap (N.tdiv r) = q), true), (cellIs (l[o + i.toNat * 1]?) (.int .i64 r), true), (decide (0 ≤ i ∧ i < n), true), (decide (i < n), true)] := ⟨by kernel_rfl, by kernel_rfl, by kernel_rfl⟩
theorem li_out (N : Int) (p : Option Addr) (n c : Nat) (k i : Int) (h : Hp) (j6 j7 : Value) (g : Nat → Value) : GoesT (evC (tabH Tryd.prog extY conN hcN) 100 false (cIn (cIn (cSnd (cFst (cSnd (cSnd (cBody Tryd.f31))))))) ([.int .i64 N, .slice p n c, undef, undef, .int .i64 0, .int .i64 k, j6, j7, .slice p n c, .int .i64 n, .int .i64 i] ++ tl 10 g, h, [cmp false]) ⟨[], [], []⟩) 11 10 (some (some 0)) ([.int .i64 N, .slice p n c, undef, undef, .int .i64 0, .int .i64 k, j6, j7, .slice p n c, .int .i64 n, .int .i64 i]) h [(decide (i < n), false)] := ⟨by kernel_rfl, by kernel_rfl, by kernel_rfl⟩
theorem li_end (N : Int) (p : Option Addr) (n c : Nat) (k i : Int) (h : Hp) (j6 j7 : Value) (g : Nat → Value) : GoesT (evC (tabH Tryd.prog extY conN hcN) 100 false (cSnd (cSnd (cSnd (cBody Tryd.f31)))) ([.int .i64 N, .slice p n c, undef, undef, .int .i64 0, .int .i64 k, j6, j7, .slice p n c, .int .i64 n, .int .i64 i] ++ tl 10 g, h, []) ⟨[], [], []⟩) 5 16 (some none) ([.int .i64 N, .slice p n c, undef, undef, .int .i64 k]) h [] := ⟨by kernel_rfl, by kernel_rfl, by kernel_rfl⟩
def litF (N r : Int) : Int := N.tdiv r
theorem lit_bd {N r : Int} (hN : 0 ≤ N ∧ N ≤ 67108864) (h : isR r = true) : 0 ≤ litF N r ∧ litF N r ≤ 67108864 ∧ IntKind.i64.wrap (N.tdiv r) = litF N r ∧ r ≠ 0 := by
  have hr : 2 ≤ r := by rcases isR_is h with rfl | rfl | rfl | rfl | rfl | rfl | rfl <;> decide
  have e : N.tdiv r = N / r := Int.tdiv_eq_ediv_of_nonneg hN.1
  have b1 : 0 ≤ N / r := Int.ediv_nonneg hN.1 (by omega)
  have b2 : N / r ≤ N := Int.ediv_le_self r hN.1
  unfold litF
  rw [e]
  exact ⟨b1, by omega, wrapI (by omega) (by omega), by omega⟩
theorem li_runs {N : Int} (hN : 0 ≤ N ∧ N ≤ 67108864) {x : List Value × TypeId} {p : Option Addr} {n : Nat} {L : List Int} (hR : RowAt 1 x p n L) (hL : ∀ x ∈ L, isR x = true) (hn : n < 1073741824) (c : Nat) :
    RunsW (tabH Tryd.prog extY conN hcN) (.seq (cFst (cBody Tryd.f31)) (.seq (cFst (cSnd (cBody Tryd.f31))) (.seq (.seq (cFst (cFst (cSnd (cSnd (cBody Tryd.f31))))) (.block 0 (.loop (cIn (cIn (cSnd (cFst (cSnd (cSnd (cBody Tryd.f31)))))))))) (cSnd (cSnd (cSnd (cBody Tryd.f31))))))) ([.int .i64 N, .slice p n c] ++ List.replicate (Tryd.f31.ntmps - [Value.int .i64 N, Value.slice p n c].length) undef, hTR x, []) fun e y => (e = none ∨ e = some none) ∧ resS Tryd.prog Tryd.f31 y.1 y.2.1 = some (.int .i64 (sumF (litF N) L)) := by
  obtain ⟨l, ty⟩ := x
  have hlen := hR.len
  subst hlen
  refine RunsW.goes T0_ok (li_a N p L.length c _) ok19 fun g => RunsW.goes T0_ok (li_b N p L.length c _ g) ok19 fun g => ?_
  refine RunsW.seq (P1 := fun e y => e = none ∧ (∃ j6 j7 g, y.1 = [.int .i64 N, .slice p L.length c, undef, undef, .int .i64 0, .int .i64 (sumF (litF N) L), j6, j7, .slice p L.length c, .int .i64 L.length, .int .i64 (L.length : Nat)] ++ tl 10 g) ∧ y.2.1 = hTR (l, ty)) (RunsW.goes T0_ok (li_c N p L.length c _ g) ok19 fun g => row_sum (litF N) (fun k i y => (∃ j6 j7 g, y.1 = [.int .i64 N, .slice p L.length c, undef, undef, .int .i64 0, .int .i64 k, j6, j7, .slice p L.length c, .int .i64 L.length, .int .i64 (i : Nat)] ++ tl 10 g) ∧ y.2.1 = hTR (l, ty)) ?_ ?_ ⟨⟨_, _, g, rfl⟩, rfl⟩) ?_ (fun e y hy => by cases hy.1)
  · rintro i ⟨t, h', s⟩ hi ⟨⟨j6, j7, g, h1⟩, h2⟩
    simp only at h1 h2
    subst h1 h2
    rcases hR.pos with ⟨_, h0⟩ | ⟨o, rfl, hty, hcell⟩
    · omega
    simp only at hty hcell
    subst hty
    have hc := cellIs_of (hcell i hi)
    have hm := lit_bd hN (hL _ (getD_mem hi))
    have hb := sumF_bd (f := litF N) (M := 67108864) (L := L.take i) (mem_take fun x hx => ⟨(lit_bd hN (hL x hx)).1, (lit_bd hN (hL x hx)).2.1⟩)
    have hl2 : ((L.take i).length : Int) ≤ 1073741824 := by rw [List.length_take]; omega
    have hw : IntKind.i64.wrap (sumF (litF N) (L.take i) + litF N (L.getD i 0)) = sumF (litF N) (L.take i) + litF N (L.getD i 0) := wrapI (by omega) (by omega)
    have hwi : IntKind.i64.wrap ((i : Int) + 1) = ((i + 1 : Nat) : Int) := by rw [wrapI (by omega) (by omega)]; omega
    have hG := li_go N o L.length c (sumF (litF N) (L.take i)) (L.getD i 0) i (litF N (L.getD i 0)) l j6 j7 g
    rw [hw, hwi] at hG
    exact RunsW.ends T0_ok hG (okTwo (decide_eq_false hm.2.2.2) (okTwo (decide_eq_true hm.2.2.1) (okTwo hc (okTwo (decide_eq_true (by omega)) (okOne (decide_eq_true (by omega))))))) fun g s' => ⟨rfl, ⟨j6, _, g, rfl⟩, rfl⟩
  · rintro ⟨t, h', s⟩ ⟨⟨j6, j7, g, h1⟩, h2⟩
    simp only at h1 h2
    subst h1 h2
    exact RunsW.ends T0_ok (li_out N p L.length c (sumF (litF N) L) (L.length : Nat) _ j6 j7 g) (okOne (decide_eq_false (by omega))) fun g s' => ⟨rfl, ⟨j6, j7, g, rfl⟩, rfl⟩
  · rintro ⟨t, h', s⟩ ⟨_, ⟨j6, j7, g, h1⟩, h2⟩
    simp only at h1 h2
    subst h1 h2
    exact RunsW.ends T0_ok (li_end N p L.length c (sumF (litF N) L) (L.length : Nat) _ j6 j7 g) ok19 fun g s' => ⟨.inr rfl, rfl⟩
def gLi : AnsH := fun vals h s => match vals with
  | [.int .i64 N, .slice p n _] => match hasRd h with
    | true => some (.int .i64 (sumF (litF N) (rowO h p n)), h, s, [(decide (0 ≤ N ∧ N ≤ 67108864), true), (okRs h p n, true)])
    | false => none
  | _ => none
theorem gLi_ok : AnsHOk 31 gLi := by
  intro vals h s v h' s' lg hg hl m B w E hv
  unfold gLi at hg
  split at hg
  · rename_i N p n c
    split at hg
    · rename_i ht
      cases hg
      have hN := of_decide_eq_true (show decide (0 ≤ N ∧ N ≤ 67108864) = true from hl _ (List.mem_cons_self ..))
      obtain ⟨k1, k2, k3⟩ := okRs_of (show okRs h p n = true from hl (okRs h p n, true) (by simp))
      obtain ⟨x, p', f, E0, hR, hf⟩ := row_in E k1 ht
      have := row_calls0E (T := (tabH Tryd.prog extY conN hcN)) Tryd.func31 li_body (vals := [.int .i64 N, .slice p' n c]) (fun v hv => by
        rcases List.mem_cons.1 hv with rfl | hv
        · rfl
        · rw [List.mem_singleton.1 hv]; exact hR.lt c (by show 1 < 2; decide)) (v := .int .i64 (sumF (litF N) (rowO h p n))) (by rfl) (li_runs hN hR k2 k3 c) E E0
      simp only [List.map_cons, List.map_nil, hf] at this
      exact this
    · cases hg
  · cases hg
/-! ### root -/
/-- the least number whose square is no less -/
def rtN : Nat → Nat → Nat → Nat | 0, s, _ => s | f + 1, s, n => if s * s < n then rtN f (s + 1) n else s
theorem rtN_go {f s n : Nat} (h : s * s < n) : rtN (f + 1) s n = rtN f (s + 1) n := by rw [rtN, if_pos h]
theorem rtN_stop {f s n : Nat} (h : ¬ s * s < n) : rtN f s n = s := by
  cases f with
  | zero => rfl
  | succ f => rw [rtN, if_neg h]
def rtK (n : Nat) : Nat := rtN n 1 n
theorem rt_body : Tryd.f29.body = some (.seq (cFst (cBody Tryd.f29)) (.seq (cFst (cSnd (cBody Tryd.f29))) (.seq (.block 0 (.loop (cIn (cIn (cFst (cSnd (cSnd (cBody Tryd.f29)))))))) (cSnd (cSnd (cSnd (cBody Tryd.f29))))))) := by kernel_rfl
theorem rt_a (N : Int) (h : Hp) : GoesT (evC (tabH Tryd.prog extY conN hcN) 100 false (cFst (cBody Tryd.f29)) ([.int .i64 N] ++ List.replicate 11 undef, h, []) ⟨[], [], []⟩) 3 9 none ([.int .i64 N, undef, .int .i64 0]) h [] := ⟨by kernel_rfl, by kernel_rfl, by kernel_rfl⟩
theorem rt_b (N : Int) (h : Hp) (g : Nat → Value) : GoesT (evC (tabH Tryd.prog extY conN hcN) 100 false (cFst (cSnd (cBody Tryd.f29))) ([.int .i64 N, undef, .int .i64 0] ++ tl 9 g, h, []) ⟨[], [], []⟩) 4 8 none ([.int .i64 N, undef, .int .i64 0, .int .i64 1]) h [] := ⟨by kernel_rfl, by kernel_rfl, by kernel_rfl⟩
theorem rt_go (N s : Int) (h : Hp) (g : Nat → Value) : GoesT (evC (tabH Tryd.prog extY conN hcN) 100 false (cIn (cIn (cFst (cSnd (cSnd (cBody Tryd.f29)))))) ([.int .i64 N, undef, .int .i64 0, .int .i64 s] ++ tl 8 g, h, [cmp true]) ⟨[], [], []⟩) 4 8 none ([.int .i64 N, undef, .int .i64 0, .int .i64 (IntKind.i64.wrap (s + 1))]) h [(decide (IntKind.i64.wrap (s * s) < N), true)] := ⟨by kernel_rfl, by kernel_rfl, by kernel_rfl⟩
theorem rt_out (N s : Int) (h : Hp) (g : Nat → Value) : GoesT (evC (tabH Tryd.prog extY conN hcN) 100 false (cIn (cIn (cFst (cSnd (cSnd (cBody Tryd.f29)))))) ([.int .i64 N, undef, .int .i64 0, .int .i64 s] ++ tl 8 g, h, [cmp false]) ⟨[], [], []⟩) 4 8 (some (some 0)) ([.int .i64 N, undef, .int .i64 0, .int .i64 s]) h [(decide (IntKind.i64.wrap (s * s) < N), false)] := ⟨by kernel_rfl, by kernel_rfl, by kernel_rfl⟩
theorem rt_end (N s : Int) (h : Hp) (g : Nat → Value) : GoesT (evC (tabH Tryd.prog extY conN hcN) 100 false (cSnd (cSnd (cSnd (cBody Tryd.f29)))) ([.int .i64 N, undef, .int .i64 0, .int .i64 s] ++ tl 8 g, h, []) ⟨[], [], []⟩) 3 9 (some none) ([.int .i64 N, undef, .int .i64 s]) h [] := ⟨by kernel_rfl, by kernel_rfl, by kernel_rfl⟩
/-- one step of the loop is as rtN's -/
theorem rt_sq {s n : Nat} (hs : s ≤ 16777216) : decide (IntKind.i64.wrap ((s : Int) * s) < (n : Int)) = decide (s * s < n) := by
  have h1 : s * s ≤ 16777216 * 16777216 := Nat.mul_le_mul hs hs
  rw [show ((s : Int) * s) = ((s * s : Nat) : Int) from by simp, wrapI (by omega) (by omega)]
  by_cases c : s * s < n
  · rw [decide_eq_true c]; exact decide_eq_true (by omega)
  · rw [decide_eq_false c]; exact decide_eq_false (by omega)
theorem rt_le {s n : Nat} (h : s * s < n) : s < n := by
  rcases Nat.eq_zero_or_pos s with e | e
  · subst e; omega
  · have := Nat.le_mul_of_pos_right s e
    omega
theorem rt_runs {n : Nat} (h0 : 0 < n) (hn : n ≤ 16777216) (w0 : Hp) : RunsW (tabH Tryd.prog extY conN hcN) (.seq (cFst (cBody Tryd.f29)) (.seq (cFst (cSnd (cBody Tryd.f29))) (.seq (.block 0 (.loop (cIn (cIn (cFst (cSnd (cSnd (cBody Tryd.f29)))))))) (cSnd (cSnd (cSnd (cBody Tryd.f29))))))) ([.int .i64 (n : Nat)] ++ List.replicate (Tryd.f29.ntmps - [Value.int .i64 (n : Nat)].length) undef, w0, []) fun e y => (e = none ∨ e = some none) ∧ resS Tryd.prog Tryd.f29 y.1 y.2.1 = some (.int .i64 (rtK n : Nat)) := by
  refine RunsW.goes T0_ok (rt_a n w0) ok19 fun g => RunsW.goes T0_ok (rt_b n w0 g) ok19 fun g => ?_
  refine RunsW.seq (P1 := fun e y => match e with | none => (∃ g, y.1 = [.int .i64 (n : Nat), undef, .int .i64 0, .int .i64 (rtK n : Nat)] ++ tl 8 g) ∧ y.2.1 = w0 | some none => False | some (some _) => False)
    (RunsW.forLoop (P := fun y => (∃ g, y.1 = [.int .i64 (n : Nat), undef, .int .i64 0, .int .i64 (rtK n : Nat)] ++ tl 8 g) ∧ y.2.1 = w0) (R := fun _ => False) (fun z y => ∃ s : Nat, n + 1 ≤ z + s ∧ s ≤ n ∧ rtN z s n = rtK n ∧ (∃ g, y.1 = [.int .i64 (n : Nat), undef, .int .i64 0, .int .i64 (s : Nat)] ++ tl 8 g) ∧ y.2.1 = w0) ?_ (n := n) ⟨1, by omega, by omega, rfl, ⟨g, rfl⟩, rfl⟩) ?_ ?_
  · rintro z ⟨t, h', s0⟩ ⟨s, hz, hs, he, ⟨g, h1⟩, h2⟩
    simp only at h1 h2
    subst h1 h2
    have hq := rt_sq (s := s) (n := n) (by omega)
    by_cases c : s * s < n
    · rw [decide_eq_true c] at hq
      have hlt := rt_le c
      cases z with
      | zero => omega
      | succ z =>
        rw [rtN_go c] at he
        have hG := rt_go n s h' g
        rw [show IntKind.i64.wrap ((s : Int) + 1) = ((s + 1 : Nat) : Int) from by rw [wrapI (by omega) (by omega)]; omega] at hG
        exact RunsW.ends T0_ok hG (okOne hq) fun g s' => ⟨z, by omega, s + 1, by omega, by omega, he, ⟨g, rfl⟩, rfl⟩
    · rw [decide_eq_false c] at hq
      rw [rtN_stop c] at he
      exact RunsW.ends T0_ok (rt_out n s h' g) (okOne hq) fun g s' => ⟨rfl, ⟨g, by rw [he]⟩, rfl⟩
  · rintro ⟨t, h', s⟩ ⟨⟨g, h1⟩, h2⟩
    simp only at h1 h2
    subst h1 h2
    exact RunsW.ends T0_ok (rt_end n (rtK n : Nat) _ g) ok19 fun g s' => ⟨.inr rfl, rfl⟩
  · intro e y he
    match e, he with
    | none, he => exact absurd he (by simp)
def gRt : AnsH := fun vals h s => match vals, s with
  | [.int .i64 n], .inr (.inl p) :: s' => some (.int .i64 p, h, s', [(decide (((rtK n.toNat : Nat) : Int) = p), true), (decide (0 < n ∧ n ≤ 16777216), true)])
  | _, _ => none
theorem gRt_ok : AnsHOk 29 gRt := by
  intro vals h s v h' s' lg hg hl m B w E hv
  unfold gRt at hg
  split at hg
  · rename_i n p s2
    cases hg
    have l1 := of_decide_eq_true (show decide (((rtK n.toNat : Nat) : Int) = p) = true from hl _ (List.mem_cons_self ..))
    have l2 := of_decide_eq_true (show decide (0 < n ∧ n ≤ 16777216) = true from hl (decide (0 < n ∧ n ≤ 16777216), true) (by simp))
    obtain ⟨k, rfl⟩ : ∃ k : Nat, n = (k : Int) := ⟨n.toNat, by omega⟩
    rw [Int.toNat_natCast] at l1
    subst l1
    exact row_calls0E (T := (tabH Tryd.prog extY conN hcN)) Tryd.func29 rt_body (h0 := ⟨0, []⟩) (vals := [.int .i64 (k : Nat)]) (fun v hv => by rw [List.mem_singleton.1 hv]; rfl) (v := .int .i64 (rtK k : Nat)) (by rfl) (rt_runs (by omega) (by omega) _) E (s := fun i => i) (Emb.smallB E rfl (fun b x hb => absurd (Hp.blk_lt hb) (Nat.not_lt_zero _)) (fun b x hb => absurd (Hp.blk_lt hb) (Nat.not_lt_zero _)) (fun b x hb => absurd (Hp.blk_lt hb) (Nat.not_lt_zero _)))
  · cases hg
end Go.Proofs.YtlmccannfocniaaDoor
