/-
  The document's rows of parts of 16 bits (tillerref02): Len, as a call with a number's row or nothing.
-/
import Derived.Test.YtecemjilmlagdaaDoorG17
import Derived.Test.YtecemjilmlagdaaDoorG16
import Derived.Test.YtecemjilmlagdaaDoorG15
namespace Go.Proofs.YtecemjilmlagdaaDoor
open Go.KRun Go.Nt
set_option maxRecDepth 100000

def nA (F : Func) : Code := cFst (cSnd (cBody F))
def nR3 (F : Func) : Code := cFst (cSnd (cSnd (cBody F)))
def nR4 (F : Func) : Code := cFst (cFst (cSnd (cSnd (cSnd (cBody F)))))
def nLp (F : Func) : Code := cIn (cIn (cSnd (cFst (cSnd (cSnd (cSnd (cBody F)))))))
def nEn (F : Func) : Code := cSnd (cSnd (cSnd (cSnd (cBody F))))
def nPr (F : Func) : List Code := [cFst (cBody F), nA F, nR3 F]
theorem ulen_body : Tryd.f29.body = some (seqs (nPr Tryd.f29) (.seq (.seq (nR4 Tryd.f29) (.block 0 (.loop (nLp Tryd.f29)))) (nEn Tryd.f29))) := by kernel_rfl
theorem ulen_body1 : Tryd.f29.body = some (cBody Tryd.f29) := by kernel_rfl
def n16 (n : Nat) : Int := IntKind.i64.wrap (16 * n1 n)
theorem ulen_pre (o n c : Nat) (h : Hp) : GoesT (evL (tabH Tryd.prog extY conN hcV) 100 (nPr Tryd.f29) ([sl 0 o n c] ++ List.replicate 24 undef, h, [cmp false]) ⟨[], [], []⟩) 4 21 none [sl 0 o n c, undef, .int .i64 0, .int .i64 (n16 n)] h [((n : Int) == 0, false)] := ⟨by kernel_rfl, by kernel_rfl, by kernel_rfl⟩
theorem ulen_r4 (o n c : Nat) (x : Int) (l : List Value) (v : Value) (g : Nat → Value) : GoesT (evC (tabH Tryd.prog extY conN hcV) 100 false (nR4 Tryd.f29) ([sl 0 o n c, undef, .int .i64 0, v] ++ tl 21 g, ⟨1, [(l, tR)]⟩, [at_, val (.int .u32 x)]) ⟨[], [], []⟩) 5 20 none [sl 0 o n c, undef, .int .i64 0, v, .int .u32 x] ⟨1, [(l, tR)]⟩ [(cellIs (l[o + (n1 n).toNat * 1]?) (.int .u32 x), true), (decide (0 ≤ n1 n ∧ n1 n < n), true)] := ⟨by kernel_rfl, by kernel_rfl, by kernel_rfl⟩
theorem ulen_zero (p : Option Addr) (n c : Nat) (h : Hp) : GoesT (evC (tabH Tryd.prog extY conN hcV) 100 false (cBody Tryd.f29) ([.slice p n c] ++ List.replicate 24 undef, h, [cmp true]) ⟨[], [], []⟩) 3 22 (some none) [.slice p n c, undef, .int .i64 0] h [((n : Int) == 0, true)] := ⟨by kernel_rfl, by kernel_rfl, by kernel_rfl⟩
theorem ulen_go (a : Value) (n x : Int) (h : Hp) (g : Nat → Value) : GoesT (evC (tabH Tryd.prog extY conN hcV) 100 false (nLp Tryd.f29) ([a, undef, .int .i64 0, .int .i64 n, .int .u32 x] ++ tl 20 g, h, [cmp true]) ⟨[], [], []⟩) 5 20 none [a, undef, .int .i64 0, .int .i64 (IntKind.i64.wrap (n + 1)), .int .u32 (IntKind.u32.wrap (x.tdiv 2))] h [(decide (x > 0), true)] := ⟨by kernel_rfl, by kernel_rfl, by kernel_rfl⟩
theorem ulen_out (a : Value) (n x : Int) (h : Hp) (g : Nat → Value) : GoesT (evC (tabH Tryd.prog extY conN hcV) 100 false (nLp Tryd.f29) ([a, undef, .int .i64 0, .int .i64 n, .int .u32 x] ++ tl 20 g, h, [cmp false]) ⟨[], [], []⟩) 5 20 (some (some 0)) [a, undef, .int .i64 0, .int .i64 n, .int .u32 x] h [(decide (x > 0), false)] := ⟨by kernel_rfl, by kernel_rfl, by kernel_rfl⟩
theorem ulen_end (a : Value) (n x : Int) (h : Hp) (g : Nat → Value) : GoesT (evC (tabH Tryd.prog extY conN hcV) 100 false (nEn Tryd.f29) ([a, undef, .int .i64 0, .int .i64 n, .int .u32 x] ++ tl 20 g, h, []) ⟨[], [], []⟩) 3 22 (some none) [a, undef, .int .i64 n] h [] := ⟨by kernel_rfl, by kernel_rfl, by kernel_rfl⟩
theorem ulen_loop (a : Value) (n x : Nat) (hn : n + 32 < 4611686018427387904) (hx : x < 4294967296) (h : Hp) (g : Nat → Value) :
    Runs (tabH Tryd.prog extY conN hcV) (.block 0 (.loop (nLp Tryd.f29))) ([a, undef, .int .i64 0, .int .i64 (n : Nat), .int .u32 (x : Nat)] ++ tl 20 g, h, []) fun e Y => match e with | none => (∃ g, Y.1 = [a, undef, .int .i64 0, .int .i64 ((n + bl x : Nat) : Int), .int .u32 0] ++ tl 20 g) ∧ Y.2.1 = h | some none => False | some (some _) => False := by
  refine Runs.forLoop (P := fun Y => (∃ g, Y.1 = [a, undef, .int .i64 0, .int .i64 ((n + bl x : Nat) : Int), .int .u32 0] ++ tl 20 g) ∧ Y.2.1 = h) (R := fun _ => False)
    (fun k Y => ∃ j : Nat, k ≤ x ∧ j + bl k = n + bl x ∧ (∃ g, Y.1 = [a, undef, .int .i64 0, .int .i64 (j : Nat), .int .u32 (k : Nat)] ++ tl 20 g) ∧ Y.2.1 = h) ?_ (n := x) ⟨n, Nat.le_refl _, rfl, ⟨g, rfl⟩, rfl⟩
  rintro k ⟨t, h', s⟩ ⟨j, hk, hj, ⟨g, ht⟩, hh⟩
  simp only at ht hh
  subst ht hh
  have hb : bl x ≤ 32 := bl_le_of (by show x < 2 ^ 32; omega)
  by_cases h0 : k = 0
  · subst h0
    refine (goesT_runs (tabH_ok conN_ok hcV_ok) (ulen_out a j 0 h' g) (okOne rfl)).mono fun e z hz => ?_
    obtain ⟨rfl, ⟨g', z1⟩, z2⟩ := hz
    rw [bl_zero] at hj
    exact ⟨rfl, ⟨g', by rw [z1, show (n + bl x) = j from by omega]⟩, z2⟩
  · refine (goesT_runs (tabH_ok conN_ok hcV_ok) (ulen_go a j k h' g) (okOne (decide_eq_true (by omega)))).mono fun e z hz => ?_
    obtain ⟨rfl, ⟨g', z1⟩, z2⟩ := hz
    have e1 := bl_pos h0
    have e2 : IntKind.i64.wrap ((j : Int) + 1) = ((j + 1 : Nat) : Int) := by rw [wrapI (by omega) (by omega)]; omega
    have e3 : IntKind.u32.wrap ((k : Int).tdiv 2) = ((k / 2 : Nat) : Int) := by rw [Int.tdiv_eq_ediv_of_nonneg (by omega), wrap32 (by omega) (by omega)]; omega
    exact ⟨k / 2, by omega, j + 1, by omega, by omega, ⟨g', by rw [z1, e2, e3]⟩, z2⟩
theorem ulen_runs {l : List Value} {o c : Nat} {L : List Int} (hR : Row l o L) (hC : Canon 65536 L) (h0 : 0 < L.length) (hn : L.length < 1073741824) :
    Runs (tabH Tryd.prog extY conN hcV) (seqs (nPr Tryd.f29) (.seq (.seq (nR4 Tryd.f29) (.block 0 (.loop (nLp Tryd.f29)))) (nEn Tryd.f29))) ([sl 0 o L.length c] ++ List.replicate 24 undef, ⟨1, [(l, tR)]⟩, []) fun e z => (e = none ∨ e = some none) ∧ resS Tryd.prog Tryd.f29 z.1 z.2.1 = some (.int .i64 ((bl (vb 65536 L) : Nat) : Int)) := by
  have ek : n1 L.length = ((L.length - 1 : Nat) : Int) := by
    unfold n1
    rw [wrapI (by omega) (by omega)]
    omega
  have e16 : n16 L.length = ((16 * (L.length - 1) : Nat) : Int) := by
    unfold n16
    rw [ek, wrapI (by omega) (by omega)]
    omega
  have htop : dgN L (L.length - 1) ≠ 0 := by
    rcases trimN_top L with h | h
    · rw [hC.2] at h; omega
    · rw [hC.2] at h
      have := at_dg hC.1 (L.length - 1)
      unfold dgN
      omega
  have hd := dgN_lt hC.1 (L.length - 1)
  have hval : bl (vb 65536 L) = 16 * (L.length - 1) + bl (dgN L (L.length - 1)) := by
    have e := vb_take 65536 L (L.length - 1)
    rw [show L.length - 1 + 1 = L.length by omega, List.take_length] at e
    rw [e]
    exact bl_top htop (take_lt hC.1 _)
  refine goesT_list (tabH_ok conN_ok hcV_ok) (ulen_pre o L.length c _) (okOne (beq_eq_false_iff_ne.2 (by omega))) fun g => ?_
  refine Runs.seq (P1 := fun e Y => match e with | none => (∃ g, Y.1 = [sl 0 o L.length c, undef, .int .i64 0, .int .i64 ((bl (vb 65536 L) : Nat) : Int), .int .u32 0] ++ tl 20 g) ∧ Y.2.1 = ⟨1, [(l, tR)]⟩ | some none => False | some (some _) => False) (Runs.seq (P1 := fun e Y => e = none ∧ (∃ g, Y.1 = [sl 0 o L.length c, undef, .int .i64 0, .int .i64 (n16 L.length), .int .u32 (L.getD (L.length - 1) 0)] ++ tl 20 g) ∧ Y.2.1 = ⟨1, [(l, tR)]⟩) (goesT_runs (tabH_ok conN_ok hcV_ok) (ulen_r4 o L.length c (L.getD (L.length - 1) 0) l _ g) (okTwo (by rw [ek, Int.toNat_natCast, Nat.mul_one, hR.cell (by omega)]; simp [cellIs]) (okOne (by rw [ek]; exact decide_eq_true (by omega))))) ?_ (fun e y he => by cases he.1)) ?_ (fun e Y he => by match e, he with | none, he => exact he.elim | some id, he => exact he.elim)
  · rintro ⟨t, h', s⟩ ⟨_, ⟨g', ht⟩, hh⟩
    simp only at ht hh
    subst ht hh
    rw [e16, ← hd.2]
    refine Runs.script ((ulen_loop _ (16 * (L.length - 1)) (dgN L (L.length - 1)) (by omega) (by omega) _ g').mono fun e Y he => ?_)
    match e, he with
    | none, he => rw [hval]; exact he
  · rintro ⟨t, h', s⟩ ⟨⟨g', ht⟩, hh⟩
    simp only at ht hh
    subst ht hh
    refine (goesT_runs (tabH_ok conN_ok hcV_ok) (ulen_end _ _ _ _ g') (fun x hx => by cases hx)).mono fun e z hz => ?_
    obtain ⟨rfl, ⟨g2, z1⟩, z2⟩ := hz
    refine ⟨.inr rfl, ?_⟩
    rw [z1, z2]
    rfl
/-- a number's row: its parts, the last one not 0 -/
def canB (L : List Int) : Bool := dgB L && Nat.beq (trimN L) L.length
theorem canB_of {L : List Int} (h : canB L = true) : Canon 65536 L := by
  unfold canB at h
  simp only [Bool.and_eq_true] at h
  exact ⟨dgB_of h.1, Nat.eq_of_beq_eq_true h.2⟩
theorem canB_mk {L : List Int} (h : Canon 65536 L) : canB L = true := by
  unfold canB
  rw [dgB_mk h.1, h.2, Nat.beq_refl]
  rfl
def gUlen : AnsH := fun vals h s =>
  match vals with
  | [.slice p n c] => some (.int .i64 ((bl (vO h p n) : Nat) : Int), h, s, [(rowP h p n c && canB (rowOf h p n) && Nat.blt n 1073741824, true)])
  | _ => none
theorem gUlen_ok : AnsHOk 29 gUlen := by
  intro vals h s v h' s' lg hg hl m B w E hv
  unfold gUlen at hg
  split at hg
  · rename_i p n c
    cases hg
    have q := hl _ (List.mem_singleton.2 rfl)
    simp only [Bool.and_eq_true] at q
    obtain ⟨⟨q1, q2⟩, q3⟩ := q
    have q2 := canB_of q2
    have q3 := blt_iff.1 q3
    have hlen := rowOf_len q1
    by_cases hn : n = 0
    · subst hn
      have e0 : rowOf h p 0 = [] := List.length_eq_zero_iff.1 hlen
      have ev : vO h p 0 = 0 := by unfold vO; rw [e0]; rfl
      obtain ⟨x, p', a, NA, eA, fA⟩ := nu_of 0 q1
      have hr : Runs (tabH Tryd.prog extY conN hcV) (cBody Tryd.f29) ([.slice p' 0 c] ++ List.replicate 24 undef, ⟨1, [x]⟩, []) fun e z => (e = none ∨ e = some none) ∧ resS Tryd.prog Tryd.f29 z.1 z.2.1 = some (.int .i64 ((bl (vO h p 0) : Nat) : Int)) := by
        refine (goesT_runs (tabH_ok conN_ok hcV_ok) (ulen_zero p' 0 c _) (okOne rfl)).mono fun e z he => ?_
        obtain ⟨rfl, ⟨g, e2⟩, e3⟩ := he
        refine ⟨.inr rfl, ?_⟩
        rw [e2, e3, ev, bl_zero]
        rfl
      have b1 : ∀ {i : Nat} {z : List Value × TypeId}, (⟨1, [x]⟩ : Hp).blk? i = some z → i = 0 ∧ z = x := fun {i z} hz => by
        have : i < 1 := Hp.blk_lt hz
        have hi : i = 0 := by omega
        subst hi
        exact ⟨rfl, (Option.some.inj hz).symm⟩
      have := row_calls0 (T := tabH Tryd.prog extY conN hcV) Tryd.func29 ulen_body1 (h0 := ⟨1, [x]⟩) ⟨rfl, fun b z hz => by obtain ⟨_, rfl⟩ := b1 hz; exact ⟨NA.ros.1, NA.lt0, NA.ros.2⟩⟩ (vals := [.slice p' 0 c]) (fun v hv => by rw [List.mem_singleton.1 hv]; exact NA.lt (by show 0 < 1; omega)) (by rfl) hr.w E (s := fun _ => a) (fun i z hz ht => by obtain ⟨_, rfl⟩ := b1 hz; exact fA ht)
      simp only [List.map_cons, List.map_nil] at this
      rw [eA _ rfl] at this
      exact this
    · rcases rowP_cases q1 with ⟨rfl, rfl, rfl, e0⟩ | ⟨b, o, x, rfl, hx, r1, _, e0⟩
      · exact absurd rfl hn
      · rw [e0] at q2 hlen
        obtain ⟨h1, h2, h3, h4, h5, h6, h7⟩ := rowC_of r1
        have r := ulen_runs (c := c) h1 q2 (by rw [h2]; omega) (by rw [h2]; exact q3)
        rw [h2] at r
        have ev : vO h (some ⟨b, o, none⟩) n = vb 65536 (cutI x.1 o n) := by unfold vO; rw [e0]
        rw [ev]
        exact row_calls0 (T := tabH Tryd.prog extY conN hcV) Tryd.func29 ulen_body (rows1 h7) (vals := [sl 0 o n c]) (fun v hv => by rw [List.mem_singleton.1 hv]; rfl) (by rfl) r.w E (s := fun _ => b) (fitsR1 hx h5 h6 rfl)
  · cases hg
end Go.Proofs.YtecemjilmlagdaaDoor

/-
  The document's Words (tillerref02), as a contract.
-/
namespace Go.Proofs.YtecemjilmlagdaaDoor
open Go.KRun Go.Nt
set_option maxRecDepth 100000
set_option linter.unusedVariables false

def wdP (F : Func) : List Code := [cFst (cBody F), cFst (cSnd (cBody F))]
def wdB (F : Func) : Code := cFst (cSnd (cSnd (cBody F)))
def wdL (F : Func) : Code := cIn (cIn (cSnd (wdB F)))
def wdE (F : Func) : Code := cSnd (cSnd (cSnd (cBody F)))
theorem wd_body : Tryd.f19.body = some (seqs (wdP Tryd.f19) (.seq (.seq (cFst (wdB Tryd.f19)) (.block 0 (.loop (wdL Tryd.f19)))) (wdE Tryd.f19))) := by kernel_rfl
def inW (i : Int) (n : Nat) : Bool × Bool := (decide (0 ≤ i ∧ i < (n : Int)), true)
def ceW (l : List Value) (o : Nat) (i x : Int) : Bool × Bool := (cellIs (l[o + i.toNat * 1]?) (.int .u32 x), true)
def i1W (i : Int) : Int := IntKind.i64.wrap (i + 1)
def i2W (i : Int) : Int := IntKind.i64.wrap (i + 2)
def xyW (x y : Int) : Int := IntKind.u32.wrap (x + IntKind.u32.wrap (65536 * y))
def l2W (l : List Value) (o n : Nat) (i x y : Int) : Log := [ceW l o (i1W i) y, inW (i1W i) n, (decide (i1W i < (n : Int)), true), ceW l o i x, inW i n, (decide (i < (n : Int)), true)]
def l1W (l : List Value) (o n : Nat) (i x : Int) : Log := [(decide (i1W i < (n : Int)), false), ceW l o i x, inW i n, (decide (i < (n : Int)), true)]
theorem wd_pre (v : Value) (h : Hp) : GoesT (evL (tabH Tryd.prog extY conN hcU) 100 (wdP Tryd.f19) ([v] ++ List.replicate 33 undef, h, []) ⟨[], [], []⟩) 4 30 none [v, undef, nilS, nilS] h [] := ⟨by kernel_rfl, by kernel_rfl, by kernel_rfl⟩
theorem wd_r2 (v : Value) (h : Hp) (g : Nat → Value) : GoesT (evC (tabH Tryd.prog extY conN hcU) 100 false (cFst (wdB Tryd.f19)) ([v, undef, nilS, nilS] ++ tl 30 g, h, []) ⟨[], [], []⟩) 6 28 none [v, undef, nilS, nilS, .int .i64 0, g 1] h [] := ⟨by kernel_rfl, by kernel_rfl, by kernel_rfl⟩
theorem wd_nil2 (o n c : Nat) (i x y : Int) (v5 : Value) (l : List Value) (g : Nat → Value) : GoesT (evC (tabH Tryd.prog extY conN hcU) 100 false (wdL Tryd.f19) ([sl 0 o n c, undef, nilS, nilS, .int .i64 i, v5] ++ tl 28 g, ⟨1, [(l, tR)]⟩, [cmp true, at_, val (.int .u32 x), cmp true, at_, val (.int .u32 y)]) ⟨[], [], []⟩) 6 28 none [sl 0 o n c, undef, nilS, sl 2 0 1 grown, .int .i64 (i2W i), .int .u32 (xyW x y)] ⟨3, [([.int .u32 (xyW x y)], tU), ([.int .u32 (xyW x y)], tU), (l, tR)]⟩ (l2W l o n i x y) := ⟨by kernel_rfl, by kernel_rfl, by kernel_rfl⟩
theorem wd_some2 (o n c z : Nat) (i x y : Int) (v5 : Value) (l lo : List Value) (g : Nat → Value) : GoesT (evC (tabH Tryd.prog extY conN hcU) 100 false (wdL Tryd.f19) ([sl 0 o n c, undef, nilS, sl 1 0 z grown, .int .i64 i, v5] ++ tl 28 g, ⟨2, [(lo, tU), (l, tR)]⟩, [cmp true, at_, val (.int .u32 x), cmp true, at_, val (.int .u32 y)] ++ [at_]) ⟨[], [], []⟩) 6 28 none [sl 0 o n c, undef, nilS, sl 3 0 (z + 1) grown, .int .i64 (i2W i), .int .u32 (xyW x y)] ⟨4, [(lo ++ [.int .u32 (xyW x y)], tU), ([.int .u32 (xyW x y)], tU), ([], 2 * dead), (l, tR)]⟩ ((appChk tU (lo, tU) ([.int .u32 (xyW x y)], tU) z 0 1, true) :: l2W l o n i x y) := ⟨by kernel_rfl, by kernel_rfl, by kernel_rfl⟩
theorem wd_nil1 (o n c : Nat) (i x y : Int) (v5 : Value) (l : List Value) (g : Nat → Value) : GoesT (evC (tabH Tryd.prog extY conN hcU) 100 false (wdL Tryd.f19) ([sl 0 o n c, undef, nilS, nilS, .int .i64 i, v5] ++ tl 28 g, ⟨1, [(l, tR)]⟩, [cmp true, at_, val (.int .u32 x), cmp false]) ⟨[], [], []⟩) 6 28 none [sl 0 o n c, undef, nilS, sl 2 0 1 grown, .int .i64 (i2W i), .int .u32 x] ⟨3, [([.int .u32 x], tU), ([.int .u32 x], tU), (l, tR)]⟩ (l1W l o n i x) := ⟨by kernel_rfl, by kernel_rfl, by kernel_rfl⟩
theorem wd_some1 (o n c z : Nat) (i x y : Int) (v5 : Value) (l lo : List Value) (g : Nat → Value) : GoesT (evC (tabH Tryd.prog extY conN hcU) 100 false (wdL Tryd.f19) ([sl 0 o n c, undef, nilS, sl 1 0 z grown, .int .i64 i, v5] ++ tl 28 g, ⟨2, [(lo, tU), (l, tR)]⟩, [cmp true, at_, val (.int .u32 x), cmp false] ++ [at_]) ⟨[], [], []⟩) 6 28 none [sl 0 o n c, undef, nilS, sl 3 0 (z + 1) grown, .int .i64 (i2W i), .int .u32 x] ⟨4, [(lo ++ [.int .u32 x], tU), ([.int .u32 x], tU), ([], 2 * dead), (l, tR)]⟩ ((appChk tU (lo, tU) ([.int .u32 x], tU) z 0 1, true) :: l1W l o n i x) := ⟨by kernel_rfl, by kernel_rfl, by kernel_rfl⟩
theorem wd_out (o n c : Nat) (i : Int) (v v5 : Value) (h : Hp) (g : Nat → Value) : GoesT (evC (tabH Tryd.prog extY conN hcU) 100 false (wdL Tryd.f19) ([sl 0 o n c, undef, nilS, v, .int .i64 i, v5] ++ tl 28 g, h, [cmp false]) ⟨[], [], []⟩) 6 28 (some (some 0)) [sl 0 o n c, undef, nilS, v, .int .i64 i, v5] h [(decide (i < (n : Int)), false)] := ⟨by kernel_rfl, by kernel_rfl, by kernel_rfl⟩
theorem wd_end (o n c : Nat) (i : Int) (v v5 : Value) (h : Hp) (g : Nat → Value) : GoesT (evC (tabH Tryd.prog extY conN hcU) 100 false (wdE Tryd.f19) ([sl 0 o n c, undef, nilS, v, .int .i64 i, v5] ++ tl 28 g, h, []) ⟨[], [], []⟩) 3 31 (some none) [sl 0 o n c, undef, v] h [] := ⟨by kernel_rfl, by kernel_rfl, by kernel_rfl⟩

/-! ### numbers -/
def canW (L : List Int) : Bool := dgB L && Nat.beq (trimN L) L.length
theorem canW_of {L : List Int} (h : canW L = true) : Canon 65536 L := by
  unfold canW at h
  simp only [Bool.and_eq_true] at h
  exact ⟨dgB_of h.1, Nat.eq_of_beq_eq_true h.2⟩
theorem can_low {A : List Int} (hC : Canon 65536 A) {k : Nat} (hk : A.length = k + 1) : 65536 ^ k ≤ vb 65536 A := by
  rcases Nat.lt_or_ge (vb 65536 A) (65536 ^ k) with h | h
  · have h1 := db_len (b := 65536) (by omega) k (vb 65536 A) h
    rw [db_can (by omega) hC] at h1
    omega
  · exact h
theorem db_own {O : List Int} (hd : ∀ x ∈ O, Dg 4294967296 x) {k : Nat} (hk : O.length = k + 1) (h : 4294967296 ^ k ≤ vb 4294967296 O) : O = db 4294967296 (vb 4294967296 O) := by
  have ht := take_trim (b := 4294967296) (by omega) O hd
  have hl := trim_len (b := 4294967296) (by omega) hd
  have h2 : k + 1 ≤ (db 4294967296 (vb 4294967296 O)).length := by
    rcases Nat.lt_or_ge (db 4294967296 (vb 4294967296 O)).length (k + 1) with hlt | hge
    · have h3 := vb_lt (b := 4294967296) (by omega) (db 4294967296 (vb 4294967296 O)) (db_dg (by omega) _)
      rw [vb_db (by omega)] at h3
      have h4 := Nat.pow_le_pow_right (show 0 < 4294967296 by omega) (show (db 4294967296 (vb 4294967296 O)).length ≤ k by omega)
      omega
    · exact hge
  rw [← ht]
  exact (List.take_of_length_le (by omega)).symm
theorem pow2w (i : Nat) : 65536 ^ (2 * i) = 4294967296 ^ i := by rw [Nat.pow_mul]
theorem drop_two {A : List Int} {i : Nat} (h : i + 1 < A.length) : vb 65536 (A.drop i) = (A.getD i 0).toNat + 65536 * (A.getD (i + 1) 0).toNat + 4294967296 * vb 65536 (A.drop (i + 2)) := by
  rw [List.drop_eq_getElem_cons (show i < A.length by omega), List.drop_eq_getElem_cons h]
  simp only [vb]
  simp [List.getD, List.getElem?_eq_getElem h, List.getElem?_eq_getElem (show i < A.length by omega)]
  rw [show i + 1 + 1 = i + 2 from rfl]
  omega
theorem drop_one {A : List Int} {i : Nat} (h : i + 1 = A.length) : vb 65536 (A.drop i) = (A.getD i 0).toNat := by
  rw [List.drop_eq_getElem_cons (show i < A.length by omega), List.drop_of_length_le (by omega)]
  simp [vb, List.getD, List.getElem?_eq_getElem (show i < A.length by omega)]
section
variable {l : List Value} {o c : Nat} {A : List Int}
def wFr (o n c : Nat) (out : Value) (i : Nat) (v5 : Value) : List Value := [sl 0 o n c, undef, nilS, out, .int .i64 ((i : Nat) : Int), v5]
def wSt (o n c : Nat) (l : List Value) (O : List Int) (i : Nat) (Y : Lf) : Prop :=
  (O.length = 0 ∧ (∃ g v5, Y.1 = wFr o n c nilS i v5 ++ tl 28 g) ∧ Y.2.1 = ⟨1, [(l, tR)]⟩) ∨ (0 < O.length ∧ (∃ g v5, Y.1 = wFr o n c (sl 1 0 O.length grown) i v5 ++ tl 28 g) ∧ Y.2.1 = ⟨2, [(wU O, tU), (l, tR)]⟩)
def wInv (o c : Nat) (l : List Value) (A : List Int) (m : Nat) (Y : Lf) : Prop :=
  ∃ (j i : Nat) (O : List Int), O.length = j ∧ i = 2 * j ∧ i ≤ A.length + 1 ∧ m = A.length + 1 - i ∧ (∀ x ∈ O, Dg 4294967296 x) ∧ vb 4294967296 O + 4294967296 ^ j * vb 65536 (A.drop i) = vb 65536 A ∧ wSt o A.length c l O i Y
def wFin (o c : Nat) (l : List Value) (A : List Int) (Y : Lf) : Prop :=
  ∃ (i : Nat) (O : List Int), 2 * O.length = i ∧ i ≤ A.length + 1 ∧ A.length ≤ i ∧ (∀ x ∈ O, Dg 4294967296 x) ∧ vb 4294967296 O = vb 65536 A ∧ wSt o A.length c l O i Y
theorem wd_round (hR : Row l o A) (hs : ∀ v ∈ l, still v = true) (hA : ∀ x ∈ A, Dg 65536 x) (hn : A.length < 1000000) {O : List Int} {i : Nat} (hOi : 2 * O.length = i) (hi : i < A.length) {Y : Lf} (hY : wSt o A.length c l O i Y) :
    RunsW (tabH Tryd.prog extY conN hcU) (wdL Tryd.f19) Y fun ex z => ex = none ∧ (∃ g v5, z.1 = wFr o A.length c (sl 1 0 (O.length + 1) grown) (i + 2) v5 ++ tl 28 g) ∧ z.2.1 = ⟨2, [(wU (O ++ [(((A.getD i 0).toNat + 65536 * (A.getD (i + 1) 0).toNat : Nat) : Int)]), tU), (l, tR)]⟩ := by
  obtain ⟨t, h', s⟩ := Y
  have d1 := at_dg hA i
  have d2 := at_dg hA (i + 1)
  have e1 : i1W i = ((i + 1 : Nat) : Int) := by unfold i1W; rw [wrapI (by omega) (by omega)]; omega
  have e2 : i2W i = ((i + 2 : Nat) : Int) := by unfold i2W; rw [wrapI (by omega) (by omega)]; omega
  have c1 : cellIs (l[o + (i : Int).toNat * 1]?) (.int .u32 (A.getD i 0)) = true := by rw [Int.toNat_natCast, Nat.mul_one, hR.cell hi]; simp [cellIs]
  have b1 : decide (0 ≤ (i : Int) ∧ (i : Int) < ((A.length : Nat) : Int)) = true := decide_eq_true (by omega)
  have b2 : decide ((i : Int) < ((A.length : Nat) : Int)) = true := decide_eq_true (by omega)
  have keep : ∀ {b : Nat} {h : Hp} {w : Int} {v5 : Value} {O' : List Int} {x0 : Lf}, lt 2 v5 = true → rn (keepK 1 b) v5 = v5 → 1 ≤ b → h.blk? 0 = some (l, tR) → h.blk? b = some (wU O', tU) → (RunsW (tabH Tryd.prog extY conN hcU) (wdL Tryd.f19) x0 fun ex z => ex = none ∧ (∃ g, z.1 = [sl 0 o A.length c, undef, nilS, sl b 0 (O.length + 1) grown, .int .i64 ((i + 2 : Nat) : Int), v5] ++ tl 28 g) ∧ z.2.1 = h) →
      RunsW (tabH Tryd.prog extY conN hcU) (wdL Tryd.f19) x0 fun ex z => ex = none ∧ (∃ g v5, z.1 = wFr o A.length c (sl 1 0 (O.length + 1) grown) (i + 2) v5 ++ tl 28 g) ∧ z.2.1 = ⟨2, [(wU O', tU), (l, tR)]⟩ := fun {b h w v5 O' x0} hv hrn hb h0 h1 r => by
    have hkk : keepK 1 b 0 = 0 := rfl
    have hkb : keepK 1 b 1 = b := rfl
    have := r.kept (k := 1) (b := b) (base := [(l, tR)]) (y := (wU O', tU)) (front' := wFr o A.length c (sl 1 0 (O.length + 1) grown) (i + 2) v5) rfl
      (by simp only [wFr, List.map_cons, List.map_nil, hrn]; simp [rn, rn2, rn1, sl, hkk, hkb, nilS, undef]) (fun t z hz => by
        have ht : t = 0 := by have : t < 1 := Hp.blk_lt hz; omega
        subst ht
        have : z = (l, tR) := (Option.some.inj hz).symm
        subst this
        exact ⟨h0, hs⟩) h1 hb (wU_still _) (fun v hv' => by
        simp only [wFr, List.mem_cons, List.not_mem_nil, or_false] at hv'
        rcases hv' with rfl | rfl | rfl | rfl | rfl | rfl
        · rfl
        · rfl
        · rfl
        · rfl
        · rfl
        · exact hv)
    refine this.mono fun ex z hz => ?_
    obtain ⟨rfl, ⟨g, q1⟩, q2⟩ := hz
    exact ⟨rfl, ⟨g, v5, q1⟩, q2⟩
  by_cases h2 : i + 1 < A.length
  · have c2 : cellIs (l[o + (i1W i).toNat * 1]?) (.int .u32 (A.getD (i + 1) 0)) = true := by rw [e1, Int.toNat_natCast, Nat.mul_one, hR.cell h2]; simp [cellIs]
    have b3 : decide (0 ≤ i1W i ∧ i1W i < ((A.length : Nat) : Int)) = true := decide_eq_true (by rw [e1]; omega)
    have b4 : decide (i1W i < ((A.length : Nat) : Int)) = true := decide_eq_true (by rw [e1]; omega)
    have lg : okLog (l2W l o A.length i (A.getD i 0) (A.getD (i + 1) 0)) := okTwo c2 (okTwo b3 (okTwo b4 (okTwo c1 (okTwo b1 (okOne b2)))))
    have ew : xyW (A.getD i 0) (A.getD (i + 1) 0) = (((A.getD i 0).toNat + 65536 * (A.getD (i + 1) 0).toNat : Nat) : Int) := by
      have := d1.1; have := d1.2; have := d2.1; have := d2.2
      unfold xyW
      rw [wrap32 (n := 65536 * A.getD (i + 1) 0) (by omega) (by omega), wrap32 (by omega) (by omega)]
      omega
    rcases hY with ⟨h0, ⟨g, v5, ht⟩, hh⟩ | ⟨h0, ⟨g, v5, ht⟩, hh⟩
    · simp only at ht hh
      subst ht hh
      have hO' : O = [] := List.length_eq_zero_iff.1 h0
      have r := goesT_runsW (tabH_ok conN_ok hcU_ok) (s0 := s) (wd_nil2 o A.length c i (A.getD i 0) (A.getD (i + 1) 0) v5 l g) lg
      rw [ew, e2] at r
      subst hO'
      exact keep (w := 0) (O' := [] ++ [(((A.getD i 0).toNat + 65536 * (A.getD (i + 1) 0).toNat : Nat) : Int)]) rfl rfl (by omega) rfl rfl r
    · simp only at ht hh
      subst ht hh
      have hchk : appChk tU (wU O, tU) ([.int .u32 (xyW (A.getD i 0) (A.getD (i + 1) 0))], tU) O.length 0 1 = true :=
        appChk_of (L := O) (M := [xyW (A.getD i 0) (A.getD (i + 1) 0)]) rfl (show 0 < 1 by omega) (by show O.length + 1 ≤ _; omega)
      have r := goesT_runsW (tabH_ok conN_ok hcU_ok) (s0 := s) (wd_some2 o A.length c O.length i (A.getD i 0) (A.getD (i + 1) 0) v5 l (wU O) g) (okTwo hchk lg)
      rw [ew, e2] at r
      have ea : wU O ++ [.int .u32 (((A.getD i 0).toNat + 65536 * (A.getD (i + 1) 0).toNat : Nat) : Int)] = wU (O ++ [(((A.getD i 0).toNat + 65536 * (A.getD (i + 1) 0).toNat : Nat) : Int)]) := by rw [wU_append]; rfl
      rw [ea] at r
      exact keep (w := 0) rfl rfl (by omega) rfl rfl r
  · have ez : A.getD (i + 1) 0 = 0 := by simp [List.getD, List.getElem?_eq_none (show A.length ≤ i + 1 by omega)]
    have ew : (((A.getD i 0).toNat + 65536 * (A.getD (i + 1) 0).toNat : Nat) : Int) = A.getD i 0 := by
      have := d1.1
      rw [ez]
      omega
    have b4 : decide (i1W i < ((A.length : Nat) : Int)) = false := decide_eq_false (by rw [e1]; omega)
    have lg : okLog (l1W l o A.length i (A.getD i 0)) := okTwo b4 (okTwo c1 (okTwo b1 (okOne b2)))
    rw [ew]
    rcases hY with ⟨h0, ⟨g, v5, ht⟩, hh⟩ | ⟨h0, ⟨g, v5, ht⟩, hh⟩
    · simp only at ht hh
      subst ht hh
      have hO' : O = [] := List.length_eq_zero_iff.1 h0
      have r := goesT_runsW (tabH_ok conN_ok hcU_ok) (s0 := s) (wd_nil1 o A.length c i (A.getD i 0) 0 v5 l g) lg
      rw [e2] at r
      subst hO'
      exact keep (w := 0) (O' := [] ++ [A.getD i 0]) rfl rfl (by omega) rfl rfl r
    · simp only at ht hh
      subst ht hh
      have hchk : appChk tU (wU O, tU) ([.int .u32 (A.getD i 0)], tU) O.length 0 1 = true :=
        appChk_of (L := O) (M := [A.getD i 0]) rfl (show 0 < 1 by omega) (by show O.length + 1 ≤ _; omega)
      have r := goesT_runsW (tabH_ok conN_ok hcU_ok) (s0 := s) (wd_some1 o A.length c O.length i (A.getD i 0) 0 v5 l (wU O) g) (okTwo hchk lg)
      rw [e2] at r
      have ea : wU O ++ [.int .u32 (A.getD i 0)] = wU (O ++ [A.getD i 0]) := by rw [wU_append]; rfl
      rw [ea] at r
      exact keep (w := 0) rfl rfl (by omega) rfl rfl r
theorem wd_loop (hR : Row l o A) (hs : ∀ v ∈ l, still v = true) (hA : ∀ x ∈ A, Dg 65536 x) (hn : A.length < 1000000) (g : Nat → Value) (v5 : Value) :
    RunsW (tabH Tryd.prog extY conN hcU) (.block 0 (.loop (wdL Tryd.f19))) (wFr o A.length c nilS 0 v5 ++ tl 28 g, ⟨1, [(l, tR)]⟩, []) fun e y => match e with | none => wFin o c l A y | some none => False | some (some _) => False := by
  refine RunsW.forLoop (P := wFin o c l A) (R := fun _ => False) (wInv o c l A) ?_ (n := A.length + 1) ⟨0, 0, [], rfl, rfl, by omega, rfl, (fun x hx => by cases hx), by simp [vb], .inl ⟨rfl, ⟨g, v5, rfl⟩, rfl⟩⟩
  rintro m Y ⟨j, i, O, hO, hi, hle, hm, hd, hv, hY⟩
  by_cases hlt : i < A.length
  · refine (wd_round hR hs hA hn (by omega) hlt hY).mono fun e z hz => ?_
    obtain ⟨rfl, z1, z2⟩ := hz
    have d1 := at_dg hA i
    have d2 := at_dg hA (i + 1)
    have hx : (A.getD i 0).toNat + 65536 * (A.getD (i + 1) 0).toNat < 4294967296 := by have := d1.2; have := d2.2; omega
    refine ⟨A.length + 1 - (i + 2), by omega, j + 1, i + 2, O ++ [(((A.getD i 0).toNat + 65536 * (A.getD (i + 1) 0).toNat : Nat) : Int)], by simp [hO], by omega, by omega, rfl, fun x hx' => ?_, ?_, .inr ⟨by simp, ?_, z2⟩⟩
    · rcases List.mem_append.1 hx' with h1 | h1
      · exact hd x h1
      · rw [List.mem_singleton.1 h1]; exact ⟨Int.natCast_nonneg _, by omega⟩
    · rw [vb_snoc, Int.toNat_natCast, hO, ← hv, Nat.pow_succ, Nat.add_assoc, Nat.mul_assoc, ← Nat.mul_add]
      congr 2
      by_cases h2 : i + 1 < A.length
      · rw [drop_two h2]
      · rw [drop_one (i := i) (by omega), List.drop_of_length_le (show A.length ≤ i + 2 by omega)]
        have ez : A.getD (i + 1) 0 = 0 := by simp [List.getD, List.getElem?_eq_none (show A.length ≤ i + 1 by omega)]
        rw [ez]
        simp [vb]
    · obtain ⟨g', v5', q⟩ := z1
      exact ⟨g', v5', by rw [q]; simp⟩
  · have hdrop : vb 65536 (A.drop i) = 0 := by rw [List.drop_of_length_le (by omega)]; rfl
    rw [hdrop, Nat.mul_zero, Nat.add_zero] at hv
    obtain ⟨t, h', s⟩ := Y
    rcases hY with ⟨h0, ⟨g, v5, ht⟩, hh⟩ | ⟨h0, ⟨g, v5, ht⟩, hh⟩
    · simp only at ht hh
      subst ht hh
      refine (goesT_runsW (tabH_ok conN_ok hcU_ok) (wd_out o A.length c i nilS v5 ⟨1, [(l, tR)]⟩ g) (okOne (decide_eq_false (by omega)))).mono fun e z hz => ?_
      obtain ⟨rfl, ⟨g', z1⟩, z2⟩ := hz
      exact ⟨rfl, i, O, by omega, hle, by omega, hd, hv, .inl ⟨h0, ⟨g', v5, z1⟩, z2⟩⟩
    · simp only at ht hh
      subst ht hh
      refine (goesT_runsW (tabH_ok conN_ok hcU_ok) (wd_out o A.length c i (sl 1 0 O.length grown) v5 ⟨2, [(wU O, tU), (l, tR)]⟩ g) (okOne (decide_eq_false (by omega)))).mono fun e z hz => ?_
      obtain ⟨rfl, ⟨g', z1⟩, z2⟩ := hz
      exact ⟨rfl, i, O, by omega, hle, by omega, hd, hv, .inr ⟨h0, ⟨g', v5, z1⟩, z2⟩⟩
def d32 (V : Nat) : List Int := db 4294967296 V
theorem wd_runs (hR : Row l o A) (hs : ∀ v ∈ l, still v = true) (hC : Canon 65536 A) (hn : A.length < 1000000) (hpos : 0 < A.length) :
    RunsW (tabH Tryd.prog extY conN hcU) (seqs (wdP Tryd.f19) (.seq (.seq (cFst (wdB Tryd.f19)) (.block 0 (.loop (wdL Tryd.f19)))) (wdE Tryd.f19))) ([sl 0 o A.length c] ++ List.replicate 33 undef, ⟨1, [(l, tR)]⟩, []) fun e y => (e = none ∨ e = some none) ∧ resS Tryd.prog Tryd.f19 y.1 y.2.1 = some (sl 1 0 (d32 (vb 65536 A)).length grown) ∧ ∃ r, y.2.1.blk? 1 = some (wU (d32 (vb 65536 A)) ++ r, tU) := by
  refine goesT_listW (tabH_ok conN_ok hcU_ok) (wd_pre _ _) (fun x hx => by cases hx) fun g => ?_
  refine seqW3 (goesT_runsW (tabH_ok conN_ok hcU_ok) (wd_r2 _ _ g) (fun x hx => by cases hx)) (fun e y he => by cases he.1) (P2 := fun e y => match e with | none => wFin o c l A y | some none => False | some (some _) => False) ?_ ?_ ?_
  · rintro ⟨t, h', s⟩ ⟨_, ⟨g', ht⟩, hh⟩
    simp only at ht hh
    subst ht hh
    exact RunsW.script (wd_loop hR hs hC.1 hn g' _)
  · intro e y he
    match e, he with
    | none, he => exact he
    | some id, he => exact he
  · rintro ⟨t, h', s⟩ ⟨i, O, hO, hle, hge, hd, hv, hY⟩
    rcases hY with ⟨h0, _, _⟩ | ⟨h0, ⟨g', v5, ht⟩, hh⟩
    · omega
    · simp only at ht hh
      subst ht hh
      have hlow := can_low hC (k := A.length - 1) (by omega)
      have hOwn : O = d32 (vb 65536 A) := by
        rw [← hv]
        refine db_own hd (k := O.length - 1) (by omega) ?_
        rw [hv, ← pow2w]
        exact Nat.le_trans (Nat.pow_le_pow_right (by omega) (by omega)) hlow
      refine (goesT_runsW (tabH_ok conN_ok hcU_ok) (wd_end o A.length c i (sl 1 0 O.length grown) v5 ⟨2, [(wU O, tU), (l, tR)]⟩ g') (fun x hx => by cases hx)).mono fun e y he => ?_
      obtain ⟨rfl, ⟨g2, e1⟩, e2⟩ := he
      refine ⟨.inr rfl, ?_, ?_⟩
      · rw [e1, e2, ← hOwn]
        rfl
      · rw [e2, ← hOwn]
        exact ⟨[], by rw [List.append_nil]; rfl⟩
end
theorem wd_none (p : Option Addr) (n cc : Nat) (h : Hp) : GoesT (evC (tabH Tryd.prog extY conN hcU) 100 false (cBody Tryd.f19) ([.slice p n cc] ++ List.replicate 33 undef, h, [cmp false]) ⟨[], [], []⟩) 3 31 (some none) [.slice p n cc, undef, nilS] h [(decide ((0 : Int) < (n : Int)), false)] := ⟨by kernel_rfl, by kernel_rfl, by kernel_rfl⟩
theorem wd_body1 : Tryd.f19.body = some (cBody Tryd.f19) := by kernel_rfl
def okWd (h : Hp) (p : Option Addr) (n c : Nat) : Bool := rowP h p n c && canB (rowOf h p n) && Nat.blt n 1000000
def gWd : AnsH := fun vals h s =>
  match vals, s with
  | [.slice p n c], .inr (.inr (.inr (.inl d))) :: s' =>
    match d with
    | true => some (sl h.n 0 (d32 (vO h p n)).length grown, h.push (wU (d32 (vO h p n))) tU, s', [(okWd h p n c, true), (decide (0 < n), true)])
    | false => some (nilS, h, s', [(decide (0 < n), false)])
  | _, _ => none
theorem gWd_ok : AnsHOk 19 gWd := by
  intro vals h s v h' s' lg hg hl m B w E hv
  unfold gWd at hg
  split at hg
  · rename_i p n c d s2
    split at hg
    · cases hg
      have l1 := hl _ (List.mem_cons_self)
      have l2 := hl _ (List.mem_cons_of_mem _ (List.mem_singleton.2 rfl))
      simp only [okWd, Bool.and_eq_true, decide_eq_true_eq] at l1 l2
      obtain ⟨⟨q1, q2⟩, q3⟩ := l1
      have q2 := canB_of q2
      have q3 := blt_iff.1 q3
      rcases rowP_cases q1 with ⟨_, h0, _⟩ | ⟨b, o, x, rfl, hx, r1, rs, e0⟩
      · omega
      · rw [e0] at q2
        obtain ⟨h1, h2, h3, h4, h5, h6, h7⟩ := rowC_of r1
        have ev : vO h (some ⟨b, o, none⟩) n = vb 65536 (cutI x.1 o n) := by unfold vO; rw [e0]
        have r := wd_runs (c := c) h1 rs q2 (by rw [h2]; exact q3) (by rw [h2]; exact l2)
        rw [h2, ← ev] at r
        have := row_calls1 (T := tabH Tryd.prog extY conN hcU) Tryd.func19 wd_body (rows1 h7) (vals := [sl 0 o n c]) (fun v hv => by rw [List.mem_singleton.1 hv]; rfl) (k := 1) (cs := wU (d32 (vO h (some ⟨b, o, none⟩) n))) (ty := tU) (wU_lt _) (by kernel_rfl) r (by rfl) E (s := fun _ => b) (fitsR1 hx h5 h6 rfl)
        exact this
    · cases hg
      have l2 := hl _ (List.mem_singleton.2 rfl)
      simp only [decide_eq_false_iff_not] at l2
      have r := goesT_runs (s0 := []) (tabH_ok conN_ok hcU_ok) (wd_none p n c h) (okOne (decide_eq_false (by omega)))
      have key := hcalls_keep (T := tabH Tryd.prog extY conN hcU) Tryd.func19 wd_body1 (vals := [.slice p n c]) (v := nilS) (h := h) (by rfl) (r.mono fun e y he => by
        obtain ⟨rfl, ⟨g, e1⟩, e2⟩ := he
        exact ⟨.inr rfl, by rw [e1, e2]; rfl, e2⟩)
      exact key m B w E hv
  · cases hg
end Go.Proofs.YtecemjilmlagdaaDoor

/-
  The law's own 'is' and 'words', the document's From, with rows or nothing told by their places alone.
-/
namespace Go.Proofs.YtecemjilmlagdaaDoor
open Go.KRun Go.Nt
set_option maxRecDepth 100000
set_option linter.unusedVariables false

/-! ### is -/
theorem is_body : Tryd.f14.body = some (cBody Tryd.f14) := by kernel_rfl
theorem is_nil (p : Option Addr) (n c : Nat) (h : Hp) : GoesT (evC (tabOf Tryd.prog extY conN true) 100 false (cBody Tryd.f14) ([.slice p n c] ++ List.replicate 19 undef, h, [cmp true]) ⟨[], [], []⟩) 3 17 (some none) [.slice p n c, undef, .bool true] h [((n : Int) == 0, true)] := ⟨by kernel_rfl, by kernel_rfl, by kernel_rfl⟩
theorem is_long (p : Option Addr) (n c : Nat) (h : Hp) : GoesT (evC (tabOf Tryd.prog extY conN true) 100 false (cBody Tryd.f14) ([.slice p n c] ++ List.replicate 19 undef, h, [cmp false, cmp false]) ⟨[], [], []⟩) 3 17 (some none) [.slice p n c, undef, .bool false] h [(decide ((n : Int) ≤ 8192), false), ((n : Int) == 0, false)] := ⟨by kernel_rfl, by kernel_rfl, by kernel_rfl⟩
theorem is_last (d : Bool) (o n c : Nat) (x : Int) (l : List Value) : GoesT (evC (tabOf Tryd.prog extY conN true) 100 false (cBody Tryd.f14) ([sl 0 o n c] ++ List.replicate 19 undef, ⟨1, [(l, tR)]⟩, [cmp false, cmp true, at_, val (.int .u32 x), cmp d]) ⟨[], [], []⟩) 3 17 (some none) [sl 0 o n c, undef, .bool d] ⟨1, [(l, tR)]⟩ [(x != 0, d), (cellIs (l[o + (n1 n).toNat * 1]?) (.int .u32 x), true), (decide (0 ≤ n1 n ∧ n1 n < n), true), (decide ((n : Int) ≤ 8192), true), ((n : Int) == 0, false)] := by
  cases d <;> exact ⟨by kernel_rfl, by kernel_rfl, by kernel_rfl⟩
theorem is_runs {l : List Value} {o c : Nat} {L : List Int} (hR : Row l o L) :
    Runs (tabOf Tryd.prog extY conN true) (cBody Tryd.f14) ([sl 0 o L.length c] ++ List.replicate 19 undef, ⟨1, [(l, tR)]⟩, []) fun e y => (e = none ∨ e = some none) ∧ resS Tryd.prog Tryd.f14 y.1 y.2.1 = some (.bool (!badL L)) := by
  unfold badL
  by_cases h2 : 0 < L.length
  · by_cases h1 : 8192 < L.length
    · rw [decide_eq_true h1, Bool.true_or]
      refine (goesT_runs (tabY_ok conN_ok) (is_long _ _ _ _) (okTwo (decide_eq_false (by omega)) (okOne (beq_eq_false_iff_ne.2 (by omega))))).mono fun e y he => ?_
      obtain ⟨rfl, ⟨g, e2⟩, e3⟩ := he
      refine ⟨.inr rfl, ?_⟩
      rw [e2, e3]
      rfl
    · rw [decide_eq_false h1, Bool.false_or, decide_eq_true h2, Bool.true_and]
      have ek : n1 L.length = ((L.length - 1 : Nat) : Int) := by
        unfold n1
        rw [wrapI (by omega) (by omega)]
        omega
      refine (goesT_runs (tabY_ok conN_ok) (is_last (!(L.getD (L.length - 1) 0 == 0)) o L.length c (L.getD (L.length - 1) 0) l) (okTwo rfl (okTwo (by
        rw [ek, Int.toNat_natCast, Nat.mul_one, hR.cell (by omega)]; simp [cellIs]) (okTwo (by rw [ek]; exact decide_eq_true (by omega)) (okTwo (decide_eq_true (by omega)) (okOne (beq_eq_false_iff_ne.2 (by omega)))))))).mono fun e y he => ?_
      obtain ⟨rfl, ⟨g, e2⟩, e3⟩ := he
      refine ⟨.inr rfl, ?_⟩
      rw [e2, e3]
      rfl
  · have h0 : L.length = 0 := by omega
    rw [decide_eq_false (show ¬ 8192 < L.length by omega), decide_eq_false h2]
    refine (goesT_runs (tabY_ok conN_ok) (is_nil _ _ _ _) (okOne (by simp [h0]))).mono fun e y he => ?_
    obtain ⟨rfl, ⟨g, e2⟩, e3⟩ := he
    refine ⟨.inr rfl, ?_⟩
    rw [e2, e3]
    rfl
def gIsU : AnsH := fun vals h s =>
  match vals, s with
  | [.slice p n c], .inr (.inr (.inr (.inl d))) :: s' => some (.bool d, h, s', [(rowX h p n c, true), (!badL (rowOf h p n), d)])
  | _, _ => none
theorem gIsU_ok : AnsHOk 14 gIsU := by
  intro vals h s v h' s' lg hg hl m B w E hv
  unfold gIsU at hg
  split at hg
  · rename_i p n c d s2
    cases hg
    have l1 := hl _ (List.mem_cons_self)
    have l2 := hl _ (List.mem_cons_of_mem _ (List.mem_singleton.2 rfl))
    simp only at l1 l2
    rcases rowX_cases l1 with ⟨rfl, rfl, rfl, e0⟩ | ⟨b, o, x, rfl, hx, r1, e0⟩
    · rw [e0, badL_nil] at l2
      simp only [Bool.not_false] at l2
      subst l2
      have r := goesT_runs (s0 := []) (tabY_ok conN_ok) (is_nil none 0 0 h) (okOne (by rfl))
      exact hcalls_keep (T := tabOf Tryd.prog extY conN true) Tryd.func14 is_body (vals := [.slice none 0 0]) (v := .bool true) (h := h) (by rfl) (r.mono fun e y he => by
        obtain ⟨rfl, ⟨g, e1⟩, e2⟩ := he
        exact ⟨.inr rfl, by rw [e1, e2]; rfl, e2⟩) m B w E hv
    · rw [e0] at l2
      obtain ⟨h1, h2, h3, h4, h5, h6, h7⟩ := row_of r1
      have r := is_runs (c := c) h1
      rw [h2, l2] at r
      have := row_calls (T := tabOf Tryd.prog extY conN true) Tryd.func14 is_body (rows1 h7) (vals := [sl 0 o n c]) (fun v hv => by rw [List.mem_singleton.1 hv]; rfl) (by rfl) r E (s := fun _ => b) (fun i _ => Hp.blk_lt hx) (fitsR1 hx h5 h6 rfl)
      exact this.mono fun e w' he => ⟨m, he.1, he.2⟩
  · cases hg
/-! ### From -/
theorem fr_none (p : Option Addr) (n c : Nat) (h : Hp) : GoesT (evC (tabH Tryd.prog extY conN hcU) 100 false (cBody Tryd.f16) ([.slice p n c] ++ List.replicate 25 undef, h, [cmp false]) ⟨[], [], []⟩) 3 23 (some none) [.slice p n c, undef, nilS] h [(decide ((0 : Int) < (n : Int)), false)] := ⟨by kernel_rfl, by kernel_rfl, by kernel_rfl⟩
theorem fr_body : Tryd.f16.body = some (cBody Tryd.f16) := by kernel_rfl
def v32O (h : Hp) (p : Option Addr) (n : Nat) : Nat := vb 4294967296 (rowOf h p n)
def gFromU : AnsH := fun vals h s =>
  match vals, s with
  | [.slice p n c], .inr (.inr (.inr (.inl d))) :: s' =>
    match d with
    | true => mk16 (v32O h p n) h s' [(rowX h p n c && Nat.ble n 1000000, true), (decide (0 < n), true)]
    | false => some (nilS, h, s', [(decide (0 < n), false)])
  | _, _ => none
theorem rowC_X {h : Hp} {b o n c : Nat} {x : List Value × TypeId} (hx : h.blk? b = some x) (r : rowOk x.2 x.1 o n c = true) : rowC x.2 x.1 o n c = true ∧ ∀ v ∈ x.1, still v = true := by
  unfold rowOk at r
  simp only [Bool.and_eq_true, Bool.not_eq_true'] at r
  obtain ⟨⟨⟨⟨⟨⟨h1, h2⟩, h3⟩, h4⟩, h5⟩, h6⟩, h7⟩ := r
  have h4' := Nat.le_of_ble_eq_true h4
  have h5' : c < 4611686018427387904 := blt_iff.1 h5
  refine ⟨?_, List.all_eq_true.1 h7⟩
  unfold rowC capOk
  rw [h1, h2, h3, h4, h5, h6, h7, blt_iff.2 (show n < 4611686018427387904 by omega)]
  rfl
theorem gFromU_ok : AnsHOk 16 gFromU := by
  intro vals h s v h' s' lg hg hl m B w E hv
  unfold gFromU at hg
  split at hg
  · rename_i p n c d s2
    split at hg
    · unfold mk16 at hg
      cases hg
      have l1 := hl _ (List.mem_cons_self)
      have l2 := hl _ (List.mem_cons_of_mem _ (List.mem_singleton.2 rfl))
      simp only [Bool.and_eq_true, decide_eq_true_eq] at l1 l2
      obtain ⟨l1, l3⟩ := l1
      have l3 := Nat.le_of_ble_eq_true l3
      rcases rowX_cases l1 with ⟨_, h0, _⟩ | ⟨b, o, x, rfl, hx, r1, e0⟩
      · omega
      · obtain ⟨q1, q2⟩ := rowC_X hx r1
        have ev : v32O h (some ⟨b, o, none⟩) n = v32 x.1 o n := by unfold v32O v32; rw [e0]
        rw [ev]
        exact gFrom_ok _ h [cmp true] _ _ [] [(rowC x.2 x.1 o n c && x.1.all still && Nat.ble (2 * n) 1073741824, true), (decide (0 < n), true)] (by simp only [gFrom, hx]) (okCons (by rw [q1, List.all_eq_true.2 q2, Nat.ble_eq_true_of_le (by omega)]; rfl) (okL1 (decide_eq_true l2))) m B w E hv
    · cases hg
      have l2 := hl _ (List.mem_singleton.2 rfl)
      simp only [decide_eq_false_iff_not] at l2
      have r := goesT_runs (s0 := []) (tabH_ok conN_ok hcU_ok) (fr_none p n c h) (okOne (decide_eq_false (by omega)))
      exact hcalls_keep (T := tabH Tryd.prog extY conN hcU) Tryd.func16 fr_body (vals := [.slice p n c]) (v := nilS) (h := h) (by rfl) (r.mono fun e y he => by
        obtain ⟨rfl, ⟨g, e1⟩, e2⟩ := he
        exact ⟨.inr rfl, by rw [e1, e2]; rfl, e2⟩) m B w E hv
  · cases hg
/-! ### words -/
def gWordsU : AnsH := fun vals h s =>
  match vals, s with
  | [.slice p n c, .slice q n' c'], .inr (.inr (.inr (.inl d))) :: s' => some (.bool d, h, s', [(rowP h p n c, true), (rowP h q n' c', true), (decide (rowOf h p n = rowOf h q n'), d)])
  | _, _ => none
theorem gWordsU_ok : AnsHOk 18 gWordsU := by
  intro vals h s v h' s' lg hg hl m B w E hv
  unfold gWordsU at hg
  split at hg
  · rename_i p n c q n' c' d s2
    cases hg
    obtain ⟨l1, l2, l3⟩ := log3 hl
    simp only at l1 l2 l3
    rcases rowP_cases l1 with ⟨rfl, rfl, rfl, e0⟩ | ⟨b, o, x, rfl, hx, r1, rs, e0⟩ <;> rcases rowP_cases l2 with ⟨rfl, rfl, rfl, f0⟩ | ⟨b', o', y, rfl, hy, t1, ts, f0⟩ <;> simp only [e0, f0] at l3
    · have l3 : true = d := by simpa using l3
      subst l3
      exact gWords_ok _ h [] _ _ [] [] rfl (fun x hx => by cases hx) m B w E hv
    · have hl' := (rowC_of t1).2.1
      refine gWords_ok _ h [cmp d] (.bool d) h [] [(decide (0 = n'), d)] rfl (okL1 ?_) m B w E hv
      rw [← l3]
      refine decide_eq_decide.2 ⟨fun h0 => ?_, fun h0 => ?_⟩
      · exact (List.eq_nil_of_length_eq_zero (by omega)).symm
      · rw [← hl', ← h0]; rfl
    · have hl' := (rowC_of r1).2.1
      refine gWords_ok _ h [cmp d] (.bool d) h [] [(decide (n = 0), d)] rfl (okL1 ?_) m B w E hv
      rw [← l3]
      refine decide_eq_decide.2 ⟨fun h0 => ?_, fun h0 => ?_⟩
      · exact List.eq_nil_of_length_eq_zero (by omega)
      · rw [← hl', h0]; rfl
    · obtain ⟨a1, a2, a3, a4, a5, a6, a7⟩ := rowC_of r1
      obtain ⟨b1, b2, b3, b4, b5, b6, b7⟩ := rowC_of t1
      have r := words_runs (c := c) (c' := c') a1 b1 (by rw [a2]; exact a3)
      rw [a2, b2, l3] at r
      have lx := Hp.blk_lt hx
      have ly := Hp.blk_lt hy
      have := row_calls (T := tabOf Tryd.prog extY conN true) Tryd.func18 words_body (rows2 a7 b7) (vals := [sl 0 o n c, sl 1 o' n' c']) (fun v hv => by
        simp only [List.mem_cons, List.not_mem_nil, or_false] at hv
        rcases hv with rfl | rfl <;> rfl) (by rfl) r E (s := pair b b') (fun i _ => by unfold pair; split <;> assumption) (fitsR2 hx a5 a6 hy b5 b6)
      exact this.mono fun e w' he => ⟨m, he.1, he.2⟩
  · cases hg
end Go.Proofs.YtecemjilmlagdaaDoor
