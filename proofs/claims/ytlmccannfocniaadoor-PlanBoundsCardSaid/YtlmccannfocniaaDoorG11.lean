/-
  PlC, PlD, PlE
-/
import Derived.Test.YtlmccannfocniaaDoorG10
namespace Go.Proofs.YtlmccannfocniaaDoor
open Go.KRun Go.RowKit Go.Pl
set_option maxRecDepth 100000
/-- the product of radices, 0 where one is none or where it is too great -/
def prG : Int → List Int → Int
  | k, [] => k
  | k, r :: l => if isR r = true then (if k > Int.tdiv 16777216 r then 0 else prG (k * r) l) else 0
theorem isR_is {r : Int} (h : isR r = true) : r = 4 ∨ r = 2 ∨ r = 3 ∨ r = 5 ∨ r = 7 ∨ r = 11 ∨ r = 13 := by unfold isR at h; exact of_decide_eq_true h
theorem cellIs_of {l : List Value} {k : Nat} {r : Int} (h : l[k]? = some (.int .i64 r)) : cellIs l[k]? (.int .i64 r) = true := by rw [h]; simp [cellIs]
theorem drop_cons {L : List Int} {i : Nat} (h : i < L.length) : L.drop i = L.getD i 0 :: L.drop (i + 1) := by
  rw [List.drop_eq_getElem_cons h]
  simp [List.getD, List.getElem?_eq_getElem h]
abbrev hTR (x : List Value × TypeId) : Hp := ⟨2, [x, (rdV, rdT)]⟩
abbrev hTR3 (y x : List Value × TypeId) : Hp := ⟨3, [y, x, (rdV, rdT)]⟩
theorem T19_ok : TabOk (tabH Tryd.prog extY conN hcFd) := tabH_ok conN_ok hcFd_ok
def pdR2 (F : Func) : Code := cFst (cFst (cSnd (cSnd (cBody F))))
def pdLp (F : Func) : Code := cIn (cIn (cSnd (cFst (cSnd (cSnd (cBody F))))))
def pdEn (F : Func) : Code := cSnd (cSnd (cSnd (cBody F)))
theorem pd_body : Tryd.f38.body = some (.seq (cFst (cBody Tryd.f38)) (.seq (cFst (cSnd (cBody Tryd.f38))) (.seq (.seq (pdR2 Tryd.f38) (.block 0 (.loop (pdLp Tryd.f38)))) (pdEn Tryd.f38)))) := by kernel_rfl
abbrev pdF (p : Option Addr) (n c : Nat) (k : Int) (j4 j5 j6 j7 : Value) (i : Int) : List Value := [.slice p n c, undef, .int .i64 0, .int .i64 k, j4, j5, j6, j7, .slice p n c, .int .i64 n, .int .i64 i]
theorem pd_a (v : Option Addr) (n c : Nat) (h : Hp) : GoesT (evC (tabH Tryd.prog extY conN hcFd) 100 false (cFst (cBody Tryd.f38)) ([.slice v n c] ++ List.replicate 31 undef, h, []) ⟨[], [], []⟩) 3 29 none [.slice v n c, undef, .int .i64 0] h [] := ⟨by kernel_rfl, by kernel_rfl, by kernel_rfl⟩
theorem pd_b (v : Option Addr) (n c : Nat) (h : Hp) (g : Nat → Value) : GoesT (evC (tabH Tryd.prog extY conN hcFd) 100 false (cFst (cSnd (cBody Tryd.f38))) ([.slice v n c, undef, .int .i64 0] ++ tl 29 g, h, []) ⟨[], [], []⟩) 4 28 none [.slice v n c, undef, .int .i64 0, .int .i64 1] h [] := ⟨by kernel_rfl, by kernel_rfl, by kernel_rfl⟩
theorem pd_c (v : Option Addr) (n c : Nat) (h : Hp) (g : Nat → Value) : GoesT (evC (tabH Tryd.prog extY conN hcFd) 100 false (pdR2 Tryd.f38) ([.slice v n c, undef, .int .i64 0, .int .i64 1] ++ tl 28 g, h, []) ⟨[], [], []⟩) 11 21 none ([.slice v n c, undef, .int .i64 0, .int .i64 1, g 0, g 1, g 2, g 3, .slice v n c, .int .i64 n, .int .i64 0]) h [] := ⟨by kernel_rfl, by kernel_rfl, by kernel_rfl⟩
theorem pd_go (o n c : Nat) (k r i q : Int) (l : List Value) (j4 j5 j6 j7 : Value) (g : Nat → Value) : GoesT (evC (tabH Tryd.prog extY conN hcFd) 100 false (pdLp Tryd.f38) (pdF (some ⟨1, o, none⟩) n c k j4 j5 j6 j7 i ++ tl 21 g, hTR (l, tIR), [cmp true, at_, val (.int .i64 r), cmp true, num q, cmp false]) ⟨[], [], []⟩) 11 21 none (pdF (some ⟨1, o, none⟩) n c (IntKind.i64.wrap (k * r)) j4 (.int .i64 r) (.pointer (some ⟨2, 0, none⟩)) (.bool true) (IntKind.i64.wrap (i + 1))) (hTR3 ([.int .i64 r, .int .i64 (wrR r)], 64) (l, tIR)) [(decide (k > q), false), (decide (r = 0), false), (decide (IntKind.i64.wrap (Int.tdiv 16777216 r) = q), true), (isR r, true), (cellIs (l[o + i.toNat * 1]?) (.int .i64 r), true), (decide (0 ≤ i ∧ i < n), true), (decide (i < n), true)] := ⟨by kernel_rfl, by kernel_rfl, by kernel_rfl⟩
theorem pd_big (o n c : Nat) (k r i q : Int) (l : List Value) (j4 j5 j6 j7 : Value) (g : Nat → Value) : GoesT (evC (tabH Tryd.prog extY conN hcFd) 100 false (pdLp Tryd.f38) (pdF (some ⟨1, o, none⟩) n c k j4 j5 j6 j7 i ++ tl 21 g, hTR (l, tIR), [cmp true, at_, val (.int .i64 r), cmp true, num q, cmp true]) ⟨[], [], []⟩) 3 29 (some none) [.slice (some ⟨1, o, none⟩) n c, undef, .int .i64 0] (hTR3 ([.int .i64 r, .int .i64 (wrR r)], 64) (l, tIR)) [(decide (k > q), true), (decide (r = 0), false), (decide (IntKind.i64.wrap (Int.tdiv 16777216 r) = q), true), (isR r, true), (cellIs (l[o + i.toNat * 1]?) (.int .i64 r), true), (decide (0 ≤ i ∧ i < n), true), (decide (i < n), true)] := ⟨by kernel_rfl, by kernel_rfl, by kernel_rfl⟩
theorem pd_bad (o n c : Nat) (k r i : Int) (l : List Value) (j4 j5 j6 j7 : Value) (g : Nat → Value) : GoesT (evC (tabH Tryd.prog extY conN hcFd) 100 false (pdLp Tryd.f38) (pdF (some ⟨1, o, none⟩) n c k j4 j5 j6 j7 i ++ tl 21 g, hTR (l, tIR), [cmp true, at_, val (.int .i64 r), cmp false]) ⟨[], [], []⟩) 3 29 (some none) [.slice (some ⟨1, o, none⟩) n c, undef, .int .i64 0] (hTR3 ([.int .i64 0, .int .i64 0], 64) (l, tIR)) [(isR r, false), (cellIs (l[o + i.toNat * 1]?) (.int .i64 r), true), (decide (0 ≤ i ∧ i < n), true), (decide (i < n), true)] := ⟨by kernel_rfl, by kernel_rfl, by kernel_rfl⟩
theorem pd_out (p : Option Addr) (n c : Nat) (k i : Int) (h : Hp) (j4 j5 j6 j7 : Value) (g : Nat → Value) : GoesT (evC (tabH Tryd.prog extY conN hcFd) 100 false (pdLp Tryd.f38) (pdF p n c k j4 j5 j6 j7 i ++ tl 21 g, h, [cmp false]) ⟨[], [], []⟩) 11 21 (some (some 0)) (pdF p n c k j4 j5 j6 j7 i) h [(decide (i < n), false)] := ⟨by kernel_rfl, by kernel_rfl, by kernel_rfl⟩
theorem pd_end (p : Option Addr) (n c : Nat) (k i : Int) (h : Hp) (j4 j5 j6 j7 : Value) (g : Nat → Value) : GoesT (evC (tabH Tryd.prog extY conN hcFd) 100 false (pdEn Tryd.f38) (pdF p n c k j4 j5 j6 j7 i ++ tl 21 g, h, []) ⟨[], [], []⟩) 3 29 (some none) [.slice p n c, undef, .int .i64 k] h [] := ⟨by kernel_rfl, by kernel_rfl, by kernel_rfl⟩
theorem tdiv_one {r d : Int} (e : Int.tdiv 16777216 r = d) (w : IntKind.i64.wrap d = d) (r0 : 0 < r) (hd : d * r ≤ 16777216) : IntKind.i64.wrap (Int.tdiv 16777216 r) = Int.tdiv 16777216 r ∧ ∀ k : Int, 0 < k → k ≤ Int.tdiv 16777216 r → 0 < k * r ∧ k * r ≤ 16777216 ∧ IntKind.i64.wrap (k * r) = k * r := by
  rw [e]
  refine ⟨w, fun k h0 h1 => ?_⟩
  have h2 := Int.mul_pos h0 r0
  have h3 := Int.mul_le_mul_of_nonneg_right h1 (Int.le_of_lt r0)
  exact ⟨h2, by omega, wrapI (by omega) (by omega)⟩
theorem tdiv_R {r : Int} (h : isR r = true) : IntKind.i64.wrap (Int.tdiv 16777216 r) = Int.tdiv 16777216 r ∧ ∀ k : Int, 0 < k → k ≤ Int.tdiv 16777216 r → 0 < k * r ∧ k * r ≤ 16777216 ∧ IntKind.i64.wrap (k * r) = k * r := by
  rcases isR_is h with rfl | rfl | rfl | rfl | rfl | rfl | rfl
  · exact tdiv_one (d := 4194304) (by decide) (by decide) (by decide) (by decide)
  · exact tdiv_one (d := 8388608) (by decide) (by decide) (by decide) (by decide)
  · exact tdiv_one (d := 5592405) (by decide) (by decide) (by decide) (by decide)
  · exact tdiv_one (d := 3355443) (by decide) (by decide) (by decide) (by decide)
  · exact tdiv_one (d := 2396745) (by decide) (by decide) (by decide) (by decide)
  · exact tdiv_one (d := 1525201) (by decide) (by decide) (by decide) (by decide)
  · exact tdiv_one (d := 1290555) (by decide) (by decide) (by decide) (by decide)
/-- behind the loop -/
def pdP (x : List Value × TypeId) (p : Option Addr) (n c : Nat) (L : List Int) : Lf → Prop := fun y => (∃ j4 j5 j6 j7 i g, y.1 = pdF p n c (prG 1 L) j4 j5 j6 j7 i ++ tl 21 g) ∧ y.2.1 = hTR x
def pdR (L : List Int) : Lf → Prop := fun y => resS Tryd.prog Tryd.f38 y.1 y.2.1 = some (.int .i64 (prG 1 L))
theorem blkTR {x : List Value × TypeId} (st : ∀ v ∈ x.1, still v = true) {y : List Value × TypeId} : ∀ q ∈ [0, 1].zip [(rdV, rdT), x], (q.2.1.all (lt1 [0, 1].length)) = true ∧ (hTR3 y x).blk? q.1 = some (q.2.1.map (rn1 fun i => [0, 1].getD i 0), q.2.2) := by
  intro q hq
  have hq' : q = (0, (rdV, rdT)) ∨ q = (1, x) := by simpa using hq
  rcases hq' with rfl | rfl
  · exact ⟨by kernel_rfl, by kernel_rfl⟩
  · exact kept_x19 st (b := 1) (h := hTR3 y x) rfl _ (by decide)
theorem pd_loop {x : List Value × TypeId} {p : Option Addr} {n : Nat} {L : List Int} (hR : RowAt 1 x p n L) (c : Nat) (j4 j5 j6 j7 : Value) (g : Nat → Value) :
    RunsW (tabH Tryd.prog extY conN hcFd) (.block 0 (.loop (pdLp Tryd.f38))) (pdF p n c 1 j4 j5 j6 j7 0 ++ tl 21 g, hTR x, []) fun e y => match e with | none => pdP x p n c L y | some none => pdR L y | some (some _) => False := by
  obtain ⟨l, ty⟩ := x
  have hlen := hR.len
  have hbig := hR.big
  refine RunsW.forLoop (P := pdP (l, ty) p n c L) (R := pdR L) (fun z y => ∃ (i : Nat) (k : Int), z = n - i ∧ i ≤ n ∧ 0 < k ∧ k ≤ 16777216 ∧ prG k (L.drop i) = prG 1 L ∧ (∃ j4 j5 j6 j7 g, y.1 = pdF p n c k j4 j5 j6 j7 i ++ tl 21 g) ∧ y.2.1 = hTR (l, ty)) ?_ (n := n) ⟨0, 1, rfl, Nat.zero_le _, by omega, by omega, rfl, ⟨j4, j5, j6, j7, g, rfl⟩, rfl⟩
  rintro z ⟨t, h', s⟩ ⟨i, k, rfl, hi, hk0, hk1, hp, ⟨j4, j5, j6, j7, g, ht⟩, hh⟩
  simp only at ht hh
  subst ht hh
  by_cases hin : i = n
  · refine RunsW.ends T19_ok (pd_out p n c k i (hTR (l, ty)) j4 j5 j6 j7 g) (okOne (decide_eq_false (by omega))) fun g' s' => ⟨rfl, ⟨j4, j5, j6, j7, i, g', ?_⟩, rfl⟩
    have : L.drop i = [] := List.drop_eq_nil_of_le (by omega)
    rw [this] at hp
    rw [← hp]
    rfl
  · have hlt : i < n := by omega
    rcases hR.pos with ⟨_, h0⟩ | ⟨o, rfl, hty, hcell⟩
    · omega
    simp only at hty hcell
    subst hty
    have hc := cellIs_of (hcell i hlt)
    have hdr := drop_cons (L := L) (i := i) (by omega)
    rw [hdr] at hp
    generalize L.getD i 0 = r at *
    have hi1 : decide ((i : Int) < (n : Int)) = true := decide_eq_true (by omega)
    have hi2 : decide (0 ≤ (i : Int) ∧ (i : Int) < (n : Int)) = true := decide_eq_true (by omega)
    have hwi : IntKind.i64.wrap ((i : Int) + 1) = ((i + 1 : Nat) : Int) := by rw [wrapI (by omega) (by omega)]; omega
    by_cases hr : isR r = true
    · obtain ⟨q1, q2⟩ := tdiv_R hr
      have hr0 : decide (r = 0) = false := decide_eq_false (by rcases isR_is hr with rfl | rfl | rfl | rfl | rfl | rfl | rfl <;> decide)
      have ep : prG k (r :: L.drop (i + 1)) = if k > Int.tdiv 16777216 r then 0 else prG (k * r) (L.drop (i + 1)) := by
        show (if isR r = true then _ else _) = _
        rw [if_pos hr]
      rw [ep] at hp
      by_cases hb : k > Int.tdiv 16777216 r
      · rw [if_pos hb] at hp
        refine RunsW.ends T19_ok (pd_big o n c k r i (Int.tdiv 16777216 r) l j4 j5 j6 j7 g) (okTwo (decide_eq_true hb) (okTwo hr0 (okTwo (decide_eq_true q1) (okTwo hr (okTwo hc (okTwo hi2 (okOne hi1))))))) fun g' s' => ?_
        show pdR L _
        unfold pdR
        rw [← hp]
        rfl
      · rw [if_neg hb] at hp
        obtain ⟨w1, w2, w3⟩ := q2 k hk0 (by omega)
        have hG := pd_go o n c k r i (Int.tdiv 16777216 r) l j4 j5 j6 j7 g
        rw [w3, hwi] at hG
        have hW := goesT_runsW (s0 := s) T19_ok hG (okTwo (decide_eq_false hb) (okTwo hr0 (okTwo (decide_eq_true q1) (okTwo hr (okTwo hc (okTwo hi2 (okOne hi1)))))))
        refine (hW.cutP [some (.slice (some ⟨1, o, none⟩) n c), some undef, some (.int .i64 0), some (.int .i64 (k * r)), none, none, none, none, some (.slice (some ⟨1, o, none⟩) n c), some (.int .i64 n), some (.int .i64 ((i + 1 : Nat) : Int))] [0, 1] [(rdV, rdT), (l, tIR)] rfl (by decide) ⟨rfl, rn_undef _, rfl, rfl, rfl, rfl, rfl, trivial⟩ (blkTR hR.st) (by decide) (by kernel_rfl)).mono fun e y hy => ?_
        obtain ⟨t, h', s'⟩ := y
        obtain ⟨rfl, ⟨j, g', y1⟩, y2⟩ := hy
        simp only at y1 y2
        subst y1 y2
        exact ⟨n - (i + 1), by omega, i + 1, k * r, rfl, by omega, w1, w2, hp, ⟨_, _, _, _, g', rfl⟩, rfl⟩
    · have hr' : isR r = false := by simpa using hr
      have ep : prG k (r :: L.drop (i + 1)) = 0 := by
        show (if isR r = true then _ else _) = _
        rw [if_neg hr]
      rw [ep] at hp
      refine RunsW.ends T19_ok (pd_bad o n c k r i l j4 j5 j6 j7 g) (okTwo hr' (okTwo hc (okTwo hi2 (okOne hi1)))) fun g' s' => ?_
      show pdR L _
      unfold pdR
      rw [← hp]
      rfl
theorem pd_runs {x : List Value × TypeId} {p : Option Addr} {n : Nat} {L : List Int} (hR : RowAt 1 x p n L) (c : Nat) :
    RunsW (tabH Tryd.prog extY conN hcFd) (.seq (cFst (cBody Tryd.f38)) (.seq (cFst (cSnd (cBody Tryd.f38))) (.seq (.seq (pdR2 Tryd.f38) (.block 0 (.loop (pdLp Tryd.f38)))) (pdEn Tryd.f38)))) ([.slice p n c] ++ List.replicate (Tryd.f38.ntmps - [Value.slice p n c].length) undef, hTR x, []) fun e y => (e = none ∨ e = some none) ∧ resS Tryd.prog Tryd.f38 y.1 y.2.1 = some (.int .i64 (prG 1 L)) := by
  refine RunsW.goes T19_ok (pd_a p n c _) ok19 fun g => RunsW.goes T19_ok (pd_b p n c _ g) ok19 fun g => ?_
  refine RunsW.seq (RunsW.goes T19_ok (pd_c p n c _ g) ok19 fun g2 => pd_loop hR c _ _ _ _ g2) ?_ ?_
  · rintro ⟨t, h', s⟩ ⟨⟨j4, j5, j6, j7, i, g', ht⟩, hh⟩
    simp only at ht hh
    subst ht hh
    exact RunsW.ends T19_ok (pd_end p n c (prG 1 L) i _ j4 j5 j6 j7 g') ok19 fun g s' => ⟨.inr rfl, rfl⟩
  · intro e y he
    match e, he with
    | none, he => exact ⟨.inr rfl, he⟩
def gPd : AnsH := fun vals h s => match vals with
  | [.slice p n _] => match hasRd h with
    | true => some (.int .i64 (prG 1 (rowO h p n)), h, s, [(rowIP h p n, true)])
    | false => none
  | _ => none
theorem gPd_ok : AnsHOk 38 gPd := by
  intro vals h s v h' s' lg hg hl m B w E hv
  unfold gPd at hg
  split at hg
  · rename_i p n c
    split at hg
    · rename_i ht
      cases hg
      obtain ⟨x, p', f, E0, hR, hf⟩ := row_in E (hl _ (List.mem_singleton.2 rfl)) ht
      have := row_calls0E (T := tabH Tryd.prog extY conN hcFd) Tryd.func38 pd_body (vals := [.slice p' n c]) (fun v hv => by rw [List.mem_singleton.1 hv]; exact hR.lt c (by show 1 < 2; decide)) (v := .int .i64 (prG 1 (rowO h p n))) (by rfl) (pd_runs hR c) E E0
      simp only [List.map_cons, List.map_nil, hf] at this
      exact this
    · cases hg
  · cases hg
def wN (L : List Nat) : List Value := L.map fun r => Value.int .i64 ((r : Nat) : Int)
def rowV : List Nat → Value
  | [] => .slice none 0 0
  | a :: l => .slice (some ⟨1, 0, none⟩) (a :: l).length grown
def rowB : List Nat → List Value × TypeId
  | [] => ([], 2 * dead)
  | a :: l => (wN (a :: l), tIn)
theorem wN_still (L : List Nat) : ∀ v ∈ wN L, still v = true := fun v hv => by
  obtain ⟨r, _, rfl⟩ := List.mem_map.1 hv
  rfl
theorem wN_app (L : List Nat) (r : Nat) : wN L ++ [.int .i64 (r : Int)] = wN (L ++ [r]) := by unfold wN; rw [List.map_append]; rfl
theorem wN_len (L : List Nat) : (wN L).length = L.length := by unfold wN; rw [List.length_map]
theorem rowB_still (L : List Nat) : ∀ v ∈ (rowB L).1, still v = true := by
  cases L with
  | nil => intro v hv; cases hv
  | cons a l => exact wN_still _
theorem rowB_app (L : List Nat) (r : Nat) : rowB (L ++ [r]) = (wN (L ++ [r]), tIn) := by cases L <;> rfl
theorem rowV_app (L : List Nat) (r : Nat) : rowV (L ++ [r]) = .slice (some ⟨1, 0, none⟩) (L.length + 1) grown := by
  cases L with
  | nil => rfl
  | cons a l => show Value.slice _ (a :: (l ++ [r])).length grown = _; rw [List.length_cons, List.length_append]; rfl
theorem appI_ok {L : List Nat} (r : Int) (h : L.length < 1073741824) : appChk tIn (wN L, tIn) ([.int .i64 r], tIn) L.length 0 1 = true := by
  unfold appChk
  have h1 : Nat.beq L.length (wN L).length = true := by rw [wN_len]; exact Nat.beq_refl _
  have h2 : Nat.ble (L.length + 1) 1073741824 = true := Nat.ble_eq_true_of_le (by omega)
  simp only [h1, h2, Bool.true_and]
  rfl
def rdX : Value := .agg #[.int .i64 4, .int .i64 12, .int .i64 2, .int .i64 8, .int .i64 3, .int .i64 33, .int .i64 5, .int .i64 65, .int .i64 7, .int .i64 105, .int .i64 11, .int .i64 209, .int .i64 13, .int .i64 273]
def ptLp (F : Func) : Code := cIn (cIn (cSnd (cFst (cSnd (cBody F)))))
def ptR1 (F : Func) : Code := cFst (cFst (cSnd (cBody F)))
def ptEn (F : Func) : Code := cSnd (cSnd (cBody F))
def ptR2 (F : Func) : Code := cFst (ptLp F)
def ptCd (F : Func) : Code := cFst (cSnd (ptLp F))
def ptR3 (F : Func) : Code := cFst (cIn (cFst (cSnd (cSnd (ptLp F)))))
def ptIn (F : Func) : Code := cIn (cIn (cSnd (cIn (cFst (cSnd (cSnd (ptLp F)))))))
def ptR7 (F : Func) : Code := cSnd (cSnd (cSnd (ptLp F)))
def ptT (F : Func) : Code := cFst (ptIn F)
def ptA (F : Func) : Code := cFst (cIn (cSnd (ptIn F)))
def ptQ (F : Func) : Code := cSnd (cIn (cSnd (ptIn F)))
theorem pt_body : Tryd.f21.body = some (.seq (cFst (cBody Tryd.f21)) (.seq (.seq (ptR1 Tryd.f21) (.block 0 (.loop (.seq (ptR2 Tryd.f21) (.seq (ptCd Tryd.f21) (.seq (.block 1 (.seq (ptR3 Tryd.f21) (.block 2 (.loop (.seq (ptT Tryd.f21) (.block 3 (.seq (ptA Tryd.f21) (ptQ Tryd.f21)))))))) (ptR7 Tryd.f21))))))) (ptEn Tryd.f21))) := by kernel_rfl
abbrev ptF (m : Int) (j1 v j3 j4 rr : Value) (i : Int) : List Value := [.int .i64 m, j1, v, j3, j4, rr, rdX, .int .i64 i]
abbrev p2 : Value := .pointer (some ⟨2, 0, none⟩)
theorem pt_a (n : Int) (h : Hp) : GoesT (evC (tabH Tryd.prog extY conN hcFd) 100 false (cFst (cBody Tryd.f21)) ([.int .i64 n] ++ List.replicate 26 undef, h, []) ⟨[], [], []⟩) 4 23 none [.int .i64 n, undef, .slice none 0 0, .int .i64 0] h [] := ⟨by kernel_rfl, by kernel_rfl, by kernel_rfl⟩
theorem pt_b (n : Int) (x : List Value × TypeId) (g : Nat → Value) : GoesT (evC (tabH Tryd.prog extY conN hcFd) 100 false (ptR1 Tryd.f21) ([.int .i64 n, undef, .slice none 0 0, .int .i64 0] ++ tl 23 g, hTR x, []) ⟨[], [], []⟩) 8 19 none (ptF n undef (.slice none 0 0) (.int .i64 0) (g 0) (g 1) 0) (hTR x) [] := ⟨by kernel_rfl, by kernel_rfl, by kernel_rfl⟩
theorem pt_h (m i : Int) (v j1 j3 j4 rr : Value) (h : Hp) (g : Nat → Value) : GoesT (evC (tabH Tryd.prog extY conN hcFd) 100 false (ptR2 Tryd.f21) (ptF m j1 v j3 j4 rr i ++ tl 19 g, h, [cmp true]) ⟨[], [], []⟩) 9 18 none (ptF m j1 v j3 j4 rr i ++ [.bool true]) h [(decide (i < 7), true)] := ⟨by kernel_rfl, by kernel_rfl, by kernel_rfl⟩
theorem pt_hn (m i : Int) (v j1 j3 j4 rr : Value) (h : Hp) (g : Nat → Value) : GoesT (evC (tabH Tryd.prog extY conN hcFd) 100 false (ptR2 Tryd.f21) (ptF m j1 v j3 j4 rr i ++ tl 19 g, h, [cmp false]) ⟨[], [], []⟩) 9 18 none (ptF m j1 v j3 j4 rr i ++ [.bool false]) h [(decide (i < 7), false)] := ⟨by kernel_rfl, by kernel_rfl, by kernel_rfl⟩
theorem pt_ct (m i : Int) (v j1 j3 j4 rr : Value) (h : Hp) (g : Nat → Value) : GoesT (evC (tabH Tryd.prog extY conN hcFd) 100 false (ptCd Tryd.f21) (ptF m j1 v j3 j4 rr i ++ [.bool true] ++ tl 18 g, h, []) ⟨[], [], []⟩) 8 19 none (ptF m j1 v j3 j4 rr i) h [] := ⟨by kernel_rfl, by kernel_rfl, by kernel_rfl⟩
theorem pt_cf (m i : Int) (v j1 j3 j4 rr : Value) (h : Hp) (g : Nat → Value) : GoesT (evC (tabH Tryd.prog extY conN hcFd) 100 false (ptCd Tryd.f21) (ptF m j1 v j3 j4 rr i ++ [.bool false] ++ tl 18 g, h, []) ⟨[], [], []⟩) 8 19 (some (some 0)) (ptF m j1 v j3 j4 rr i) h [] := ⟨by kernel_rfl, by kernel_rfl, by kernel_rfl⟩
theorem pt_30 (m : Int) (v j1 j3 j4 rr : Value) (x : List Value × TypeId) (g : Nat → Value) : GoesT (evC (tabH Tryd.prog extY conN hcFd) 100 false (ptR3 Tryd.f21) (ptF m j1 v j3 j4 rr 0 ++ tl 19 g, hTR x, []) ⟨[], [], []⟩) 8 19 none (ptF m j1 v j3 j4 p2 0) (hTR3 ([.int .i64 4, .int .i64 12], 64) x) [] := ⟨by kernel_rfl, by kernel_rfl, by kernel_rfl⟩
theorem pt_31 (m : Int) (v j1 j3 j4 rr : Value) (x : List Value × TypeId) (g : Nat → Value) : GoesT (evC (tabH Tryd.prog extY conN hcFd) 100 false (ptR3 Tryd.f21) (ptF m j1 v j3 j4 rr 1 ++ tl 19 g, hTR x, []) ⟨[], [], []⟩) 8 19 none (ptF m j1 v j3 j4 p2 1) (hTR3 ([.int .i64 2, .int .i64 8], 64) x) [] := ⟨by kernel_rfl, by kernel_rfl, by kernel_rfl⟩
theorem pt_32 (m : Int) (v j1 j3 j4 rr : Value) (x : List Value × TypeId) (g : Nat → Value) : GoesT (evC (tabH Tryd.prog extY conN hcFd) 100 false (ptR3 Tryd.f21) (ptF m j1 v j3 j4 rr 2 ++ tl 19 g, hTR x, []) ⟨[], [], []⟩) 8 19 none (ptF m j1 v j3 j4 p2 2) (hTR3 ([.int .i64 3, .int .i64 33], 64) x) [] := ⟨by kernel_rfl, by kernel_rfl, by kernel_rfl⟩
theorem pt_33 (m : Int) (v j1 j3 j4 rr : Value) (x : List Value × TypeId) (g : Nat → Value) : GoesT (evC (tabH Tryd.prog extY conN hcFd) 100 false (ptR3 Tryd.f21) (ptF m j1 v j3 j4 rr 3 ++ tl 19 g, hTR x, []) ⟨[], [], []⟩) 8 19 none (ptF m j1 v j3 j4 p2 3) (hTR3 ([.int .i64 5, .int .i64 65], 64) x) [] := ⟨by kernel_rfl, by kernel_rfl, by kernel_rfl⟩
theorem pt_34 (m : Int) (v j1 j3 j4 rr : Value) (x : List Value × TypeId) (g : Nat → Value) : GoesT (evC (tabH Tryd.prog extY conN hcFd) 100 false (ptR3 Tryd.f21) (ptF m j1 v j3 j4 rr 4 ++ tl 19 g, hTR x, []) ⟨[], [], []⟩) 8 19 none (ptF m j1 v j3 j4 p2 4) (hTR3 ([.int .i64 7, .int .i64 105], 64) x) [] := ⟨by kernel_rfl, by kernel_rfl, by kernel_rfl⟩
theorem pt_35 (m : Int) (v j1 j3 j4 rr : Value) (x : List Value × TypeId) (g : Nat → Value) : GoesT (evC (tabH Tryd.prog extY conN hcFd) 100 false (ptR3 Tryd.f21) (ptF m j1 v j3 j4 rr 5 ++ tl 19 g, hTR x, []) ⟨[], [], []⟩) 8 19 none (ptF m j1 v j3 j4 p2 5) (hTR3 ([.int .i64 11, .int .i64 209], 64) x) [] := ⟨by kernel_rfl, by kernel_rfl, by kernel_rfl⟩
theorem pt_36 (m : Int) (v j1 j3 j4 rr : Value) (x : List Value × TypeId) (g : Nat → Value) : GoesT (evC (tabH Tryd.prog extY conN hcFd) 100 false (ptR3 Tryd.f21) (ptF m j1 v j3 j4 rr 6 ++ tl 19 g, hTR x, []) ⟨[], [], []⟩) 8 19 none (ptF m j1 v j3 j4 p2 6) (hTR3 ([.int .i64 13, .int .i64 273], 64) x) [] := ⟨by kernel_rfl, by kernel_rfl, by kernel_rfl⟩
theorem pt_t (m i r w : Int) (v j1 j3 j4 : Value) (x : List Value × TypeId) (g : Nat → Value) : GoesT (evC (tabH Tryd.prog extY conN hcFd) 100 false (ptT Tryd.f21) (ptF m j1 v j3 j4 p2 i ++ tl 19 g, hTR3 ([.int .i64 r, .int .i64 w], 64) x, [cmp false, cmp true]) ⟨[], [], []⟩) 8 19 none (ptF m j1 v j3 j4 p2 i) (hTR3 ([.int .i64 r, .int .i64 w], 64) x) [(m.tmod r == 0, true), (decide (r = 0), false)] := ⟨by kernel_rfl, by kernel_rfl, by kernel_rfl⟩
theorem pt_o (m i r w : Int) (v j1 j3 j4 : Value) (x : List Value × TypeId) (g : Nat → Value) : GoesT (evC (tabH Tryd.prog extY conN hcFd) 100 false (ptT Tryd.f21) (ptF m j1 v j3 j4 p2 i ++ tl 19 g, hTR3 ([.int .i64 r, .int .i64 w], 64) x, [cmp false, cmp false]) ⟨[], [], []⟩) 8 19 (some (some 2)) (ptF m j1 v j3 j4 p2 i) (hTR3 ([.int .i64 r, .int .i64 w], 64) x) [(m.tmod r == 0, false), (decide (r = 0), false)] := ⟨by kernel_rfl, by kernel_rfl, by kernel_rfl⟩
abbrev hTR5 (a b y x : List Value × TypeId) : Hp := ⟨5, [a, b, y, x, (rdV, rdT)]⟩
theorem pt_n (m i r w : Int) (j1 j3 j4 : Value) (x : List Value × TypeId) (g : Nat → Value) : GoesT (evC (tabH Tryd.prog extY conN hcFd) 100 false (ptA Tryd.f21) (ptF m j1 (.slice none 0 0) j3 j4 p2 i ++ tl 19 g, hTR3 ([.int .i64 r, .int .i64 w], 64) x, []) ⟨[], [], []⟩) 8 19 none (ptF m j1 (.slice (some ⟨4, 0, none⟩) 1 grown) j3 j4 p2 i) (hTR5 ([.int .i64 r], tIn) ([.int .i64 r], tIn) ([.int .i64 r, .int .i64 w], 64) x) [] := ⟨by kernel_rfl, by kernel_rfl, by kernel_rfl⟩
theorem pt_s (m i r w : Int) (j1 j3 j4 : Value) (z : Nat) (lo : List Value) (g : Nat → Value) : GoesT (evC (tabH Tryd.prog extY conN hcFd) 100 false (ptA Tryd.f21) (ptF m j1 (.slice (some ⟨1, 0, none⟩) z grown) j3 j4 p2 i ++ tl 19 g, hTR3 ([.int .i64 r, .int .i64 w], 64) (lo, tIn), [at_]) ⟨[], [], []⟩) 8 19 none (ptF m j1 (.slice (some ⟨4, 0, none⟩) (z + 1) grown) j3 j4 p2 i) (hTR5 (lo ++ [.int .i64 r], tIn) ([.int .i64 r], tIn) ([.int .i64 r, .int .i64 w], 64) ([], 2 * dead)) [(appChk tIn (lo, tIn) ([.int .i64 r], tIn) z 0 1, true)] := ⟨by kernel_rfl, by kernel_rfl, by kernel_rfl⟩
theorem pt_q (m i r w q : Int) (v j1 j3 j4 : Value) (a b x : List Value × TypeId) (g : Nat → Value) : GoesT (evC (tabH Tryd.prog extY conN hcFd) 100 false (ptQ Tryd.f21) (ptF m j1 v j3 j4 p2 i ++ tl 19 g, hTR5 a b ([.int .i64 r, .int .i64 w], 64) x, [num q]) ⟨[], [], []⟩) 8 19 none (ptF q j1 v j3 j4 p2 i) (hTR5 a b ([.int .i64 r, .int .i64 w], 64) x) [(decide (r = 0), false), (decide (IntKind.i64.wrap (m.tdiv r) = q), true)] := ⟨by kernel_rfl, by kernel_rfl, by kernel_rfl⟩
theorem pt_7 (m i : Int) (v rr j1 j3 j4 : Value) (h : Hp) (g : Nat → Value) : GoesT (evC (tabH Tryd.prog extY conN hcFd) 100 false (ptR7 Tryd.f21) (ptF m j1 v j3 j4 rr i ++ tl 19 g, h, []) ⟨[], [], []⟩) 8 19 none (ptF m j1 v j3 j4 rr (IntKind.i64.wrap (i + 1))) h [] := ⟨by kernel_rfl, by kernel_rfl, by kernel_rfl⟩
theorem pt_e (m i : Int) (v rr j1 j3 j4 : Value) (h : Hp) (g : Nat → Value) : GoesT (evC (tabH Tryd.prog extY conN hcFd) 100 false (ptEn Tryd.f21) (ptF m j1 v j3 j4 rr i ++ tl 19 g, h, []) ⟨[], [], []⟩) 4 23 (some none) [.int .i64 m, j1, v, .int .i64 m] h [] := ⟨by kernel_rfl, by kernel_rfl, by kernel_rfl⟩
theorem tmod_nat (m r : Nat) : ((m : Int).tmod (r : Int) == 0) = decide (m % r = 0) := by
  rw [show ((m : Int).tmod (r : Int)) = ((m % r : Nat) : Int) from (Int.ofNat_tmod m r)]
  by_cases h : m % r = 0
  · rw [h]; rfl
  · rw [decide_eq_false h]; exact beq_eq_false_iff_ne.2 (by omega)
theorem tdiv_nat {m r : Nat} (hm : m ≤ 67108864) : IntKind.i64.wrap ((m : Int).tdiv (r : Int)) = ((m / r : Nat) : Int) := by
  have := Nat.div_le_self m r
  rw [show ((m : Int).tdiv (r : Int)) = ((m / r : Nat) : Int) from (Int.ofNat_tdiv m r)]
  generalize m / r = q at *
  rw [wrapI (by omega) (by omega)]
def ptM (r w z : Nat) (K : List Nat) (i : Int) : Ex → Lf → Prop := fun e y => e = none ∧ (∃ j g', y.1 = fillO j [some (.int .i64 ((z / r : Nat) : Int)), none, some (.slice (some ⟨1, 0, none⟩) (K.length + 1) grown), none, none, some p2, some rdX, some (.int .i64 i)] ++ tl 19 g') ∧ y.2.1 = ⟨[0, 4, 2].length, [(rdV, rdT), (wN (K ++ [r]), tIn), ([.int .i64 r, .int .i64 w], 64)].reverse⟩
section
variable {r w : Nat} (hr : 2 ≤ r) (i : Int) (j1 j3 j4 : Value)
include hr in
theorem pt_inner {L : List Nat} {m : Nat} (hm : 0 < m) (hL : L.length + m ≤ 67108864) (g : Nat → Value) :
    RunsW (tabH Tryd.prog extY conN hcFd) (.block 2 (.loop (.seq (ptT Tryd.f21) (.block 3 (.seq (ptA Tryd.f21) (ptQ Tryd.f21)))))) (ptF m j1 (rowV L) j3 j4 p2 i ++ tl 19 g, hTR3 ([.int .i64 r, .int .i64 w], 64) (rowB L), []) fun e y => match e with
      | none => (∃ j1 j3 j4 g, y.1 = ptF (lefR r m : Nat) j1 (rowV (L ++ cutR r m)) j3 j4 p2 i ++ tl 19 g) ∧ y.2.1 = hTR3 ([.int .i64 r, .int .i64 w], 64) (rowB (L ++ cutR r m)) | some none => False | some (some _) => False := by
  refine RunsW.forLoop (P := fun y => (∃ j1 j3 j4 g, y.1 = ptF (lefR r m : Nat) j1 (rowV (L ++ cutR r m)) j3 j4 p2 i ++ tl 19 g) ∧ y.2.1 = hTR3 ([.int .i64 r, .int .i64 w], 64) (rowB (L ++ cutR r m))) (R := fun _ => False)
    (fun z y => ∃ K : List Nat, 0 < z ∧ K.length + z ≤ 67108864 ∧ K ++ cutR r z = L ++ cutR r m ∧ lefR r z = lefR r m ∧ (∃ j1 j3 j4 g, y.1 = ptF (z : Nat) j1 (rowV K) j3 j4 p2 i ++ tl 19 g) ∧ y.2.1 = hTR3 ([.int .i64 r, .int .i64 w], 64) (rowB K)) ?_ (n := m) ⟨L, hm, hL, rfl, rfl, ⟨j1, j3, j4, g, rfl⟩, rfl⟩
  rintro z ⟨t, h', s⟩ ⟨K, hz, hK, e1, e2, ⟨j1, j3, j4, g, ht⟩, hh⟩
  simp only at ht hh
  subst ht hh
  have hr0 : decide ((r : Int) = 0) = false := decide_eq_false (by omega)
  by_cases hd : z % r = 0
  · obtain ⟨c1, c2⟩ := cut_go hr hz hd
    rw [c1] at e1
    rw [c2] at e2
    have hq := div_pos' hz hd
    have hlt := Nat.div_lt_self hz hr
    refine RunsW.goes T19_ok (pt_t z i r w (rowV K) j1 j3 j4 (rowB K) g) (okTwo (by rw [tmod_nat]; exact decide_eq_true hd) (okOne hr0)) fun g => ?_
    refine (RunsW.block (P1 := ptM r w z K i) (P := ptM r w z K i) ?_ (fun y hy => hy) (fun y hy => by cases hy.1) (fun y hy => by cases hy.1) (fun id y _ hy => by cases hy.1)).mono fun e y hy => ?_
    · have fin : ∀ (b x : List Value × TypeId) (g : Nat → Value), RunsW (tabH Tryd.prog extY conN hcFd) (ptQ Tryd.f21) (ptF z j1 (.slice (some ⟨4, 0, none⟩) (K.length + 1) grown) j3 j4 p2 i ++ tl 19 g, hTR5 (wN (K ++ [r]), tIn) b ([.int .i64 r, .int .i64 w], 64) x, []) (ptM r w z K i) := by
        intro b x g
        refine (goesT_runsW (s0 := []) T19_ok (pt_q z i r w ((z / r : Nat) : Int) (.slice (some ⟨4, 0, none⟩) (K.length + 1) grown) j1 j3 j4 (wN (K ++ [r]), tIn) b x g) (okTwo hr0 (okOne (decide_eq_true (tdiv_nat (by omega)))))).cutP [some (.int .i64 ((z / r : Nat) : Int)), none, some (.slice (some ⟨1, 0, none⟩) (K.length + 1) grown), none, none, some p2, some rdX, some (.int .i64 i)] [0, 4, 2] [(rdV, rdT), (wN (K ++ [r]), tIn), ([.int .i64 r, .int .i64 w], 64)] rfl (by decide) ⟨rfl, rfl, rfl, by kernel_rfl, rfl, trivial⟩ (fun q hq => ?_) (by decide) (by kernel_rfl)
        have hq' : q = (0, (rdV, rdT)) ∨ q = (4, (wN (K ++ [r]), tIn)) ∨ q = (2, ([.int .i64 r, .int .i64 w], 64)) := by simpa using hq
        rcases hq' with rfl | rfl | rfl
        · exact ⟨by kernel_rfl, by kernel_rfl⟩
        · exact kept_x19 (wN_still _) (b := 4) rfl _ (by decide)
        · exact ⟨by kernel_rfl, by kernel_rfl⟩
      cases K with
      | nil => exact RunsW.goes T19_ok (pt_n z i r w j1 j3 j4 (rowB []) g) ok19 fun g => fin _ _ g
      | cons a l =>
        refine RunsW.goes T19_ok (pt_s z i r w j1 j3 j4 (a :: l).length (wN (a :: l)) g) (okOne (appI_ok _ (by omega))) fun g => ?_
        rw [wN_app]
        exact fin _ _ g
    · obtain ⟨t, h', s'⟩ := y
      obtain ⟨rfl, ⟨j, g', y1⟩, y2⟩ := hy
      simp only at y1 y2
      subst y1 y2
      refine ⟨z / r, hlt, K ++ [r], hq, by rw [List.length_append, List.length_singleton]; omega, by rw [List.append_assoc]; exact e1, e2, ⟨j 1, j 3, j 4, g', ?_⟩, by rw [rowB_app]; rfl⟩
      rw [rowV_app]
      rfl
  · obtain ⟨c1, c2⟩ := cut_stop hd
    rw [c1, List.append_nil] at e1
    rw [c2] at e2
    refine RunsW.seq (P1 := fun e y => e = some (some 2) ∧ (∃ g', y.1 = ptF z j1 (rowV K) j3 j4 p2 i ++ tl 19 g') ∧ y.2.1 = hTR3 ([.int .i64 r, .int .i64 w], 64) (rowB K)) (goesT_runsW T19_ok (pt_o z i r w (rowV K) j1 j3 j4 (rowB K) g) (okTwo (by rw [tmod_nat]; exact decide_eq_false hd) (okOne hr0))) (fun y hy => by cases hy.1) fun e y hy => ?_
    obtain ⟨he, ⟨g', y1⟩, y2⟩ := hy
    obtain rfl := Option.some.inj he
    refine ⟨rfl, ⟨j1, j3, j4, g', ?_⟩, ?_⟩
    · rw [y1, e1, e2]
    · rw [y2, e1]
end
theorem cut_size {r m : Nat} (hr : 2 ≤ r) (hm : 0 < m) : (cutR r m).length + lefR r m ≤ m :=
  cut_ind (P := fun m l k => l.length + k ≤ m) hr (fun m _ _ => by simp) (fun m h0 _ ih => by
    have := Nat.div_lt_self h0 hr
    rw [List.length_cons]
    omega) m hm
theorem rowV_rn (L : List Nat) : rn (fun i => [0, 1].getD i 0) (rowV L) = rowV L := by cases L <;> rfl
def ptI (n : Nat) (z : Nat) (y : Lf) : Prop := ∃ i : Nat, z = 7 - i ∧ i ≤ 7 ∧ ∃ (L : List Nat) (m : Nat), 0 < m ∧ L.length + m ≤ 67108864 ∧ L ++ parL (rad7.drop i) m = plL n ∧ parW (rad7.drop i) m = plW n ∧ (∃ j1 j3 j4 rr g, y.1 = ptF (m : Nat) j1 (rowV L) j3 j4 rr (i : Nat) ++ tl 19 g) ∧ y.2.1 = hTR (rowB L)
theorem pt_round {n i r w : Nat} (hi : i < 7) (hr : 2 ≤ r) (hd : rad7.drop i = r :: rad7.drop (i + 1)) {L : List Nat} {m : Nat} (hm : 0 < m) (hL : L.length + m ≤ 67108864) (e1 : L ++ parL (rad7.drop i) m = plL n) (e2 : parW (rad7.drop i) m = plW n) (j1 j3 j4 rr : Value) (g : Nat → Value)
    (h3 : ∀ (m : Int) (v j1 j3 j4 rr : Value) (x : List Value × TypeId) (g : Nat → Value), GoesT (evC (tabH Tryd.prog extY conN hcFd) 100 false (ptR3 Tryd.f21) (ptF m j1 v j3 j4 rr (i : Nat) ++ tl 19 g, hTR x, []) ⟨[], [], []⟩) 8 19 none (ptF m j1 v j3 j4 p2 (i : Nat)) (hTR3 ([.int .i64 (r : Nat), .int .i64 (w : Nat)], 64) x) []) :
    RunsW (tabH Tryd.prog extY conN hcFd) (.seq (.block 1 (.seq (ptR3 Tryd.f21) (.block 2 (.loop (.seq (ptT Tryd.f21) (.block 3 (.seq (ptA Tryd.f21) (ptQ Tryd.f21)))))))) (ptR7 Tryd.f21)) (ptF (m : Nat) j1 (rowV L) j3 j4 rr (i : Nat) ++ tl 19 g, hTR (rowB L), []) fun e y => e = none ∧ ptI n (7 - (i + 1)) y := by
  have hs := cut_size hr hm
  rw [hd] at e1 e2
  refine RunsW.seq (P1 := fun e y => e = none ∧ (∃ j1 j3 j4 g, y.1 = ptF (lefR r m : Nat) j1 (rowV (L ++ cutR r m)) j3 j4 p2 (i : Nat) ++ tl 19 g) ∧ y.2.1 = hTR3 ([.int .i64 (r : Nat), .int .i64 (w : Nat)], 64) (rowB (L ++ cutR r m))) ?_ ?_ (fun e y hy => by cases hy.1)
  · refine RunsW.block (P1 := fun e y => e = none ∧ (∃ j1 j3 j4 g, y.1 = ptF (lefR r m : Nat) j1 (rowV (L ++ cutR r m)) j3 j4 p2 (i : Nat) ++ tl 19 g) ∧ y.2.1 = hTR3 ([.int .i64 (r : Nat), .int .i64 (w : Nat)], 64) (rowB (L ++ cutR r m))) ?_ (fun y hy => hy) (fun y hy => by cases hy.1) (fun y hy => by cases hy.1) (fun id y _ hy => by cases hy.1)
    refine RunsW.goes T19_ok (h3 m (rowV L) j1 j3 j4 rr (rowB L) g) ok19 fun g => ?_
    refine (pt_inner hr (i : Nat) j1 j3 j4 hm hL g).mono fun e y he => ?_
    match e, he with
    | none, he => exact ⟨rfl, he⟩
  · rintro ⟨t, h', s⟩ ⟨_, ⟨j1, j3, j4, g, ht⟩, hh⟩
    simp only at ht hh
    subst ht hh
    have hwi : IntKind.i64.wrap ((i : Int) + 1) = ((i + 1 : Nat) : Int) := by rw [wrapI (by omega) (by omega)]; omega
    have hG := pt_7 (lefR r m : Nat) (i : Nat) (rowV (L ++ cutR r m)) p2 j1 j3 j4 (hTR3 ([.int .i64 (r : Nat), .int .i64 (w : Nat)], 64) (rowB (L ++ cutR r m))) g
    rw [hwi] at hG
    refine ((goesT_runsW (s0 := s) T19_ok hG ok19).cutP [some (.int .i64 (lefR r m : Nat)), none, some (rowV (L ++ cutR r m)), none, none, none, some rdX, some (.int .i64 (i + 1 : Nat))] [0, 1] [(rdV, rdT), rowB (L ++ cutR r m)] rfl (by decide) ⟨rfl, rowV_rn _, by kernel_rfl, rfl, trivial⟩ (fun q hq => ?_) (by decide) ?_).mono fun e y hy => ?_
    · exact blkTR (rowB_still _) q hq
    · generalize L ++ cutR r m = K
      cases K <;> kernel_rfl
    · obtain ⟨t, h', s'⟩ := y
      obtain ⟨rfl, ⟨j, g', y1⟩, y2⟩ := hy
      simp only at y1 y2
      subst y1 y2
      exact ⟨rfl, i + 1, rfl, hi, L ++ cutR r m, lefR r m, lef_pos hr hm, by rw [List.length_append]; omega, by rw [List.append_assoc]; exact e1, e2, ⟨j 1, j 3, j 4, j 5, g', rfl⟩, rfl⟩
theorem pt_runs {n : Nat} (h0 : 0 < n) (hn : n ≤ 67108864) : RunsW (tabH Tryd.prog extY conN hcFd) (.seq (cFst (cBody Tryd.f21)) (.seq (.seq (ptR1 Tryd.f21) (.block 0 (.loop (.seq (ptR2 Tryd.f21) (.seq (ptCd Tryd.f21) (.seq (.block 1 (.seq (ptR3 Tryd.f21) (.block 2 (.loop (.seq (ptT Tryd.f21) (.block 3 (.seq (ptA Tryd.f21) (ptQ Tryd.f21)))))))) (ptR7 Tryd.f21))))))) (ptEn Tryd.f21))) ([.int .i64 (n : Nat)] ++ List.replicate (Tryd.f21.ntmps - [Value.int .i64 (n : Nat)].length) undef, hTR ([], 2 * dead), []) fun e y => (e = none ∨ e = some none) ∧ resS Tryd.prog Tryd.f21 y.1 y.2.1 = some (.tuple #[rowV (plL n), .int .i64 (plW n : Nat)]) ∧ y.2.1 = hTR (rowB (plL n)) := by
  refine RunsW.goes T19_ok (pt_a n _) ok19 fun g => RunsW.seq (RunsW.goes T19_ok (pt_b n _ g) ok19 fun g => RunsW.forLoop (P := fun y => ptI n 0 y) (R := fun _ => False) (ptI n) ?_ (n := 7) ⟨0, rfl, by omega, [], n, h0, by simpa using hn, rfl, rfl, ⟨_, _, _, _, g, rfl⟩, rfl⟩) ?_ ?_
  · rintro z ⟨t, h', s⟩ ⟨i, rfl, hi, L, m, hm, hL, e1, e2, ⟨j1, j3, j4, rr, g, ht⟩, hh⟩
    simp only at ht hh
    subst ht hh
    by_cases h7 : i = 7
    · subst h7
      refine RunsW.goes T19_ok (pt_hn m (7 : Nat) (rowV L) j1 j3 j4 rr (hTR (rowB L)) g) (okOne (by decide)) fun g => ?_
      refine RunsW.seq (P1 := fun e y => e = some (some 0) ∧ ptI n 0 y) (RunsW.ends T19_ok (pt_cf m (7 : Nat) (rowV L) j1 j3 j4 rr (hTR (rowB L)) g) ok19 fun g s' => ⟨rfl, 7, rfl, by omega, L, m, hm, hL, e1, e2, ⟨j1, j3, j4, rr, g, rfl⟩, rfl⟩) (fun y hy => by cases hy.1) fun e y hy => ?_
      obtain ⟨he, hy⟩ := hy
      obtain rfl := Option.some.inj he
      exact ⟨rfl, hy⟩
    · have hlt : i < 7 := by omega
      refine RunsW.goes T19_ok (pt_h m (i : Nat) (rowV L) j1 j3 j4 rr (hTR (rowB L)) g) (okOne (decide_eq_true (by omega))) fun g => ?_
      refine RunsW.goes T19_ok (pt_ct m (i : Nat) (rowV L) j1 j3 j4 rr (hTR (rowB L)) g) ok19 fun g => ?_
      have key : RunsW (tabH Tryd.prog extY conN hcFd) (.seq (.block 1 (.seq (ptR3 Tryd.f21) (.block 2 (.loop (.seq (ptT Tryd.f21) (.block 3 (.seq (ptA Tryd.f21) (ptQ Tryd.f21)))))))) (ptR7 Tryd.f21)) (ptF (m : Nat) j1 (rowV L) j3 j4 rr (i : Nat) ++ tl 19 g, hTR (rowB L), []) fun e y => e = none ∧ ptI n (7 - (i + 1)) y := by
        rcases (show i = 0 ∨ i = 1 ∨ i = 2 ∨ i = 3 ∨ i = 4 ∨ i = 5 ∨ i = 6 by omega) with rfl | rfl | rfl | rfl | rfl | rfl | rfl
        · exact pt_round (r := 4) (w := 12) hlt (by decide) rfl hm hL e1 e2 j1 j3 j4 rr g fun m v j1 j3 j4 rr x g => pt_30 m v j1 j3 j4 rr x g
        · exact pt_round (r := 2) (w := 8) hlt (by decide) rfl hm hL e1 e2 j1 j3 j4 rr g fun m v j1 j3 j4 rr x g => pt_31 m v j1 j3 j4 rr x g
        · exact pt_round (r := 3) (w := 33) hlt (by decide) rfl hm hL e1 e2 j1 j3 j4 rr g fun m v j1 j3 j4 rr x g => pt_32 m v j1 j3 j4 rr x g
        · exact pt_round (r := 5) (w := 65) hlt (by decide) rfl hm hL e1 e2 j1 j3 j4 rr g fun m v j1 j3 j4 rr x g => pt_33 m v j1 j3 j4 rr x g
        · exact pt_round (r := 7) (w := 105) hlt (by decide) rfl hm hL e1 e2 j1 j3 j4 rr g fun m v j1 j3 j4 rr x g => pt_34 m v j1 j3 j4 rr x g
        · exact pt_round (r := 11) (w := 209) hlt (by decide) rfl hm hL e1 e2 j1 j3 j4 rr g fun m v j1 j3 j4 rr x g => pt_35 m v j1 j3 j4 rr x g
        · exact pt_round (r := 13) (w := 273) hlt (by decide) rfl hm hL e1 e2 j1 j3 j4 rr g fun m v j1 j3 j4 rr x g => pt_36 m v j1 j3 j4 rr x g
      refine key.mono fun e y he => ?_
      obtain ⟨rfl, he⟩ := he
      exact ⟨7 - (i + 1), by omega, he⟩
  · rintro ⟨t, h', s⟩ ⟨i, hz, hi, L, m, hm, hL, e1, e2, ⟨j1, j3, j4, rr, g, ht⟩, hh⟩
    have h7 : i = 7 := by omega
    subst h7
    simp only at ht hh
    subst ht hh
    have e1' : L = plL n := by rw [← e1]; exact (List.append_nil L).symm
    have e2' : m = plW n := e2
    subst e1' e2'
    exact RunsW.ends T19_ok (pt_e (plW n : Nat) (7 : Nat) (rowV (plL n)) rr j1 j3 j4 _ g) ok19 fun g s' => ⟨.inr rfl, by generalize plL n = K; cases K <;> rfl, rfl⟩
  · intro e y he
    match e, he with
    | none, he => exact absurd he (by simp)
theorem emb_nil19 {m : Mp} {B : Nat} {h : Hp} {w : World} (E : Emb m B h w) (ht : hasRd h = true) : ∃ s : Nat → Nat, Emb (fun i => m (s i)) w.heap.size (hTR ([], 2 * dead)) w := by
  obtain ⟨bt, hbt⟩ := hasRd_is ht
  have rdst : ∀ v ∈ rdV, still v = true := List.all_eq_true.1 (by kernel_rfl)
  refine ⟨fun _ => bt, E.smallB rfl (fun b y hb => ?_) (fun b y hb hy => ?_) (fun b y hb hy => ?_)⟩ <;> rcases blkTwo hb with ⟨rfl, rfl⟩ | ⟨rfl, rfl⟩
  · exact ⟨by kernel_rfl, rdst⟩
  · exact ⟨dead2_ro, fun v hv => by cases hv⟩
  · rw [show tomb rdT = true from by kernel_rfl] at hy; cases hy
  · rw [dead2_tomb] at hy; cases hy
  · exact ⟨by kernel_rfl, hbt⟩
  · rw [dead2_ab] at hy; cases hy
def plI (n : Int) : List Int := (plL n.toNat).map fun r => ((r : Nat) : Int)
theorem wN_plI {l : List Value} {n : Int} (h : eqI19 l (plI n) = true) : l = wN (plL n.toNat) := by
  rw [eqI19_is h]
  unfold plI wN
  rw [List.map_map]
  rfl
def okPl (n : Int) (d : Bool) : Bool := decide (0 < n ∧ n ≤ 67108864) && (match d with | true => !(plL n.toNat).isEmpty | false => (plL n.toNat).isEmpty)
def gPt : AnsH := fun vals h s => match vals, s with
  | [.int .i64 n], .inr (.inr (.inr (.inl true))) :: .inr (.inl w) :: .inr (.inr (.inr (.inr (.inr (.agg ⟨l⟩))))) :: s' => match hasRd h with
    | true => some (.tuple #[.slice (some ⟨h.n, 0, none⟩) l.length grown, .int .i64 w], h.push l tIn, s', [(eqI19 l (plI n), true), (decide (((plW n.toNat : Nat) : Int) = w), true), (okPl n true, true)])
    | false => none
  | [.int .i64 n], .inr (.inr (.inr (.inl false))) :: .inr (.inl w) :: s' => match hasRd h with
    | true => some (.tuple #[.slice none 0 0, .int .i64 w], h, s', [(decide (((plW n.toNat : Nat) : Int) = w), true), (okPl n false, true)])
    | false => none
  | _, _ => none
theorem okPl_of {n : Int} {d : Bool} (h : okPl n d = true) : (0 < n ∧ n ≤ 67108864) ∧ ∃ k : Nat, n = (k : Int) ∧ n.toNat = k ∧ 0 < k ∧ k ≤ 67108864 ∧ (plL k).isEmpty = !d := by
  unfold okPl at h
  rw [Bool.and_eq_true, decide_eq_true_eq] at h
  obtain ⟨h1, h2⟩ := h
  refine ⟨h1, n.toNat, by omega, rfl, by omega, by omega, ?_⟩
  cases d with
  | true => simpa using h2
  | false => simpa using h2
theorem gPt_ok : AnsHOk 21 gPt := by
  intro vals h s v h' s' lg hg hl m B w E hv
  unfold gPt at hg
  split at hg
  · rename_i n w1 l s2
    split at hg
    · rename_i ht
      cases hg
      have l1 : eqI19 l (plI n) = true := hl _ (List.mem_cons_self ..)
      have l2 : decide (((plW n.toNat : Nat) : Int) = w1) = true := hl (decide (((plW n.toNat : Nat) : Int) = w1), true) (by simp)
      have l3 : okPl n true = true := hl (okPl n true, true) (by simp)
      obtain ⟨_, k, rfl, ek, k0, k1, ke⟩ := okPl_of l3
      have l1' := wN_plI l1
      have l2' := of_decide_eq_true l2
      rw [Int.toNat_natCast] at l1' l2'
      subst l2'
      rw [l1']
      obtain ⟨f, E0⟩ := emb_nil19 E ht
      have hr := pt_runs k0 k1
      cases hp : plL k with
      | nil => rw [hp] at ke; cases ke
      | cons a r =>
        rw [hp] at hr
        have := row_calls1E (T := tabH Tryd.prog extY conN hcFd) Tryd.func21 pt_body (h0 := hTR ([], 2 * dead)) (vals := [.int .i64 (k : Nat)]) (fun v hv => by rw [List.mem_singleton.1 hv]; rfl) (k := 1) (cs := wN (a :: r)) (ty := tIn) (fun u hu => by
          obtain ⟨q, _, rfl⟩ := List.mem_map.1 hu
          rfl) (by kernel_rfl) (v := .tuple #[rowV (a :: r), .int .i64 (plW k : Nat)]) (hr.mono fun e y hy => ⟨hy.1, hy.2.1, [], by rw [hy.2.2, List.append_nil]; rfl⟩) (by kernel_rfl) E (s := f) E0
        have e1 : rn (fun _ => h.n) (.tuple #[rowV (a :: r), .int .i64 (plW k : Nat)]) = .tuple #[.slice (some ⟨h.n, 0, none⟩) (a :: r).length grown, .int .i64 (plW k : Nat)] := by kernel_rfl
        have e2 : [Value.int .i64 (k : Nat)].map (rn f) = [Value.int .i64 (k : Nat)] := rfl
        rw [e1, e2] at this
        rw [wN_len]
        exact this
    · cases hg
  · rename_i n w1 s2
    split at hg
    · rename_i ht
      cases hg
      have l2 : decide (((plW n.toNat : Nat) : Int) = w1) = true := hl _ (List.mem_cons_self ..)
      have l3 : okPl n false = true := hl (okPl n false, true) (by simp)
      obtain ⟨_, k, rfl, ek, k0, k1, ke⟩ := okPl_of l3
      have l2' := of_decide_eq_true l2
      rw [Int.toNat_natCast] at l2'
      subst l2'
      obtain ⟨f, E0⟩ := emb_nil19 E ht
      have hr := pt_runs k0 k1
      cases hp : plL k with
      | cons a r => rw [hp] at ke; cases ke
      | nil =>
        rw [hp] at hr
        exact row_calls0E (T := tabH Tryd.prog extY conN hcFd) Tryd.func21 pt_body (h0 := hTR ([], 2 * dead)) (vals := [.int .i64 (k : Nat)]) (fun v hv => by rw [List.mem_singleton.1 hv]; rfl) (v := .tuple #[rowV [], .int .i64 (plW k : Nat)]) (by rfl) (hr.mono fun e y hy => ⟨hy.1, hy.2.1⟩) E (s := f) E0
    · cases hg
  · cases hg
/-! ### leastPad -/
def lpLp (F : Func) : Code := cIn (cIn (cFst (cSnd (cSnd (cBody F)))))
def lpEn (F : Func) : Code := cSnd (cSnd (cSnd (cBody F)))
theorem lp_body : Tryd.f22.body = some (.seq (cFst (cBody Tryd.f22)) (.seq (cFst (cSnd (cBody Tryd.f22))) (.seq (.block 0 (.loop (lpLp Tryd.f22))) (lpEn Tryd.f22)))) := by kernel_rfl
theorem lp_a (n : Int) (h : Hp) : GoesT (evC (tabH Tryd.prog extY conN hcFd) 100 false (cFst (cBody Tryd.f22)) ([.int .i64 n] ++ List.replicate 11 undef, h, []) ⟨[], [], []⟩) 3 9 none [.int .i64 n, undef, .int .i64 0] h [] := ⟨by kernel_rfl, by kernel_rfl, by kernel_rfl⟩
theorem lp_b (n : Int) (h : Hp) (g : Nat → Value) : GoesT (evC (tabH Tryd.prog extY conN hcFd) 100 false (cFst (cSnd (cBody Tryd.f22))) ([.int .i64 n, undef, .int .i64 0] ++ tl 9 g, h, []) ⟨[], [], []⟩) 4 8 none [.int .i64 n, undef, .int .i64 0, .int .i64 1] h [] := ⟨by kernel_rfl, by kernel_rfl, by kernel_rfl⟩
theorem lp_go (n p : Int) (h : Hp) (g : Nat → Value) : GoesT (evC (tabH Tryd.prog extY conN hcFd) 100 false (lpLp Tryd.f22) ([.int .i64 n, undef, .int .i64 0, .int .i64 p] ++ tl 8 g, h, [cmp true]) ⟨[], [], []⟩) 4 8 none [.int .i64 n, undef, .int .i64 0, .int .i64 (IntKind.i64.wrap (p * 2))] h [(decide (p < IntKind.i64.wrap (IntKind.i64.wrap (2 * n) - 1)), true)] := ⟨by kernel_rfl, by kernel_rfl, by kernel_rfl⟩
theorem lp_out (n p : Int) (h : Hp) (g : Nat → Value) : GoesT (evC (tabH Tryd.prog extY conN hcFd) 100 false (lpLp Tryd.f22) ([.int .i64 n, undef, .int .i64 0, .int .i64 p] ++ tl 8 g, h, [cmp false]) ⟨[], [], []⟩) 4 8 (some (some 0)) [.int .i64 n, undef, .int .i64 0, .int .i64 p] h [(decide (p < IntKind.i64.wrap (IntKind.i64.wrap (2 * n) - 1)), false)] := ⟨by kernel_rfl, by kernel_rfl, by kernel_rfl⟩
theorem lp_end (n p : Int) (h : Hp) (g : Nat → Value) : GoesT (evC (tabH Tryd.prog extY conN hcFd) 100 false (lpEn Tryd.f22) ([.int .i64 n, undef, .int .i64 0, .int .i64 p] ++ tl 8 g, h, []) ⟨[], [], []⟩) 3 9 (some none) [.int .i64 n, undef, .int .i64 p] h [] := ⟨by kernel_rfl, by kernel_rfl, by kernel_rfl⟩
/-- the least power of two that is no less than twice a length less 1 -/
def padK (k : Nat) : Nat := padN (2 * k) 1 (2 * k - 1)
theorem lp_runs {k : Nat} (hk : 0 < k) (hk1 : k ≤ 16777216) (w0 : Hp) : RunsW (tabH Tryd.prog extY conN hcFd) (.seq (cFst (cBody Tryd.f22)) (.seq (cFst (cSnd (cBody Tryd.f22))) (.seq (.block 0 (.loop (lpLp Tryd.f22))) (lpEn Tryd.f22)))) ([.int .i64 (k : Nat)] ++ List.replicate (Tryd.f22.ntmps - [Value.int .i64 (k : Nat)].length) undef, w0, []) fun e y => (e = none ∨ e = some none) ∧ resS Tryd.prog Tryd.f22 y.1 y.2.1 = some (.int .i64 (padK k : Nat)) := by
  have ht : IntKind.i64.wrap (IntKind.i64.wrap (2 * (k : Int)) - 1) = ((2 * k - 1 : Nat) : Int) := by
    rw [wrapI (n := 2 * (k : Int)) (by omega) (by omega), wrapI (by omega) (by omega)]
    omega
  refine RunsW.goes T19_ok (lp_a k w0) ok19 fun g => RunsW.goes T19_ok (lp_b k w0 g) ok19 fun g => ?_
  refine RunsW.seq (P1 := fun e y => match e with | none => (∃ g, y.1 = [.int .i64 (k : Nat), undef, .int .i64 0, .int .i64 (padK k : Nat)] ++ tl 8 g) ∧ y.2.1 = w0 | some none => False | some (some _) => False)
    (RunsW.forLoop (P := fun y => (∃ g, y.1 = [.int .i64 (k : Nat), undef, .int .i64 0, .int .i64 (padK k : Nat)] ++ tl 8 g) ∧ y.2.1 = w0) (R := fun _ => False) (fun z y => ∃ p : Nat, 2 * k ≤ z + p ∧ 0 < p ∧ p < 67108864 ∧ padN z p (2 * k - 1) = padK k ∧ (∃ g, y.1 = [.int .i64 (k : Nat), undef, .int .i64 0, .int .i64 (p : Nat)] ++ tl 8 g) ∧ y.2.1 = w0) ?_ (n := 2 * k) ⟨1, by omega, by omega, by omega, rfl, ⟨g, rfl⟩, rfl⟩) ?_ ?_
  · rintro z ⟨t, h', s⟩ ⟨p, hz, hp0, hp1, he, ⟨g, h1⟩, h2⟩
    simp only at h1 h2
    subst h1 h2
    by_cases c : p < 2 * k - 1
    · cases z with
      | zero => omega
      | succ z =>
        rw [padN_go c] at he
        have hG := lp_go k p h' g
        rw [ht, show IntKind.i64.wrap ((p : Int) * 2) = ((2 * p : Nat) : Int) from by rw [wrapI (by omega) (by omega)]; omega] at hG
        exact RunsW.ends T19_ok hG (okOne (decide_eq_true (by omega))) fun g s' => ⟨z, by omega, 2 * p, by omega, by omega, by omega, he, ⟨g, rfl⟩, rfl⟩
    · rw [padN_stop c] at he
      have hG := lp_out k p h' g
      rw [ht] at hG
      exact RunsW.ends T19_ok hG (okOne (decide_eq_false (by omega))) fun g s' => ⟨rfl, ⟨g, by rw [he]⟩, rfl⟩
  · rintro ⟨t, h', s⟩ ⟨⟨g, h1⟩, h2⟩
    simp only at h1 h2
    subst h1 h2
    exact RunsW.ends T19_ok (lp_end k (padK k : Nat) _ g) ok19 fun g s' => ⟨.inr rfl, rfl⟩
  · intro e y he
    match e, he with
    | none, he => exact absurd he (by simp)
def gLp : AnsH := fun vals h s => match vals, s with
  | [.int .i64 n], .inr (.inl p) :: s' => some (.int .i64 p, h, s', [(decide (((padK n.toNat : Nat) : Int) = p), true), (decide (0 < n ∧ n ≤ 16777216), true)])
  | _, _ => none
theorem gLp_ok : AnsHOk 22 gLp := by
  intro vals h s v h' s' lg hg hl m B w E hv
  unfold gLp at hg
  split at hg
  · rename_i n p s2
    cases hg
    have l1 := of_decide_eq_true (show decide (((padK n.toNat : Nat) : Int) = p) = true from hl _ (List.mem_cons_self ..))
    have l2 := of_decide_eq_true (show decide (0 < n ∧ n ≤ 16777216) = true from hl (decide (0 < n ∧ n ≤ 16777216), true) (by simp))
    obtain ⟨k, rfl⟩ : ∃ k : Nat, n = (k : Int) := ⟨n.toNat, by omega⟩
    rw [Int.toNat_natCast] at l1
    subst l1
    exact row_calls0E (T := tabH Tryd.prog extY conN hcFd) Tryd.func22 lp_body (h0 := ⟨0, []⟩) (vals := [.int .i64 (k : Nat)]) (fun v hv => by rw [List.mem_singleton.1 hv]; rfl) (v := .int .i64 (padK k : Nat)) (by rfl) (lp_runs (by omega) (by omega) _) E (s := fun i => i) (Emb.smallB E rfl (fun b x hb => absurd (Hp.blk_lt hb) (Nat.not_lt_zero _)) (fun b x hb => absurd (Hp.blk_lt hb) (Nat.not_lt_zero _)) (fun b x hb => absurd (Hp.blk_lt hb) (Nat.not_lt_zero _)))
  · cases hg
end Go.Proofs.YtlmccannfocniaaDoor
