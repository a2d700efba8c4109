/-
  ConV2, ConV3, ConV4, ConV5, FiH, ConV6
-/
import Derived.Test.YtmgcnijpoklhkaaDoorG11
namespace Go.Proofs.YtmgcnijpoklhkaaDoor
open Go.KRun Go.Nt
set_option maxRecDepth 100000
def hcU : Hc := altH 35 gUtrim hcN
theorem hcU_ok : HcOk hcU := altH_ok Tryd.func35 rfl gUtrim_ok hcN_ok
def fPre (F : Func) : List Code := [cFst (cBody F), cFst (cSnd (cBody F))]
def fR2 (F : Func) : Code := cFst (cFst (cSnd (cSnd (cBody F))))
def fLoop (F : Func) : Code := cIn (cIn (cSnd (cFst (cSnd (cSnd (cBody F))))))
def fEnd (F : Func) : Code := cSnd (cSnd (cSnd (cBody F)))
theorem from_body : Tryd.f36.body = some (seqs (fPre Tryd.f36) (.seq (.seq (fR2 Tryd.f36) (.block 0 (.loop (fLoop Tryd.f36)))) (fEnd Tryd.f36))) := by kernel_rfl
def ux (x : Int) : List Value := [.int .u32 (x.tmod 65536), .int .u32 (IntKind.u32.wrap (x.tdiv 65536))]
theorem from_pre (v : Value) (h : Hp) : GoesT (evL (tabH Tryd.prog extY conN hcU) 100 (fPre Tryd.f36) ([v] ++ List.replicate 25 undef, h, []) ⟨[], [], []⟩) 4 22 none [v, undef, nilS, nilS] h [] := ⟨by kernel_rfl, by kernel_rfl, by kernel_rfl⟩
theorem from_r2 (v : Value) (h : Hp) (g : Nat → Value) : GoesT (evC (tabH Tryd.prog extY conN hcU) 100 false (fR2 Tryd.f36) ([v, undef, nilS, nilS] ++ tl 22 g, h, []) ⟨[], [], []⟩) 5 21 none [v, undef, nilS, nilS, .int .i64 0] h [] := ⟨by kernel_rfl, by kernel_rfl, by kernel_rfl⟩
def lAt (l : List Value) (o n : Nat) (i x : Int) : Log := [(cellIs (l[o + i.toNat * 1]?) (.int .u32 x), true), (decide (0 ≤ i ∧ i < n), true), (decide ((65536 : Int) = 0), false), (cellIs (l[o + i.toNat * 1]?) (.int .u32 x), true), (decide (0 ≤ i ∧ i < n), true), (decide (i < n), true)]
theorem from_nil (o n c : Nat) (i x : Int) (l : List Value) (g : Nat → Value) : GoesT (evC (tabH Tryd.prog extY conN hcU) 100 false (fLoop Tryd.f36) ([sl 0 o n c, undef, nilS, nilS, .int .i64 i] ++ tl 21 g, ⟨1, [(l, tR)]⟩, [cmp true, at_, val (.int .u32 x), cmp true, at_, val (.int .u32 x)]) ⟨[], [], []⟩) 5 21 none [sl 0 o n c, undef, nilS, sl 2 0 2 grown, .int .i64 (IntKind.i64.wrap (i + 1))] ⟨3, [(ux x, tU), (ux x, tU), (l, tR)]⟩ (lAt l o n i x) := ⟨by kernel_rfl, by kernel_rfl, by kernel_rfl⟩
theorem from_some (o n c k : Nat) (i x : Int) (l lo : List Value) (g : Nat → Value) : GoesT (evC (tabH Tryd.prog extY conN hcU) 100 false (fLoop Tryd.f36) ([sl 0 o n c, undef, nilS, sl 1 0 k grown, .int .i64 i] ++ tl 21 g, ⟨2, [(lo, tU), (l, tR)]⟩, [cmp true, at_, val (.int .u32 x), cmp true, at_, val (.int .u32 x), at_]) ⟨[], [], []⟩) 5 21 none [sl 0 o n c, undef, nilS, sl 3 0 (k + 2) grown, .int .i64 (IntKind.i64.wrap (i + 1))] ⟨4, [(lo ++ ux x, tU), (ux x, tU), ([], 2 * dead), (l, tR)]⟩ ((appChk tU (lo, tU) (ux x, tU) k 0 2, true) :: lAt l o n i x) := ⟨by kernel_rfl, by kernel_rfl, by kernel_rfl⟩
theorem from_out (p : Option Addr) (v : Value) (n c : Nat) (i : Int) (h : Hp) (g : Nat → Value) : GoesT (evC (tabH Tryd.prog extY conN hcU) 100 false (fLoop Tryd.f36) ([.slice p n c, undef, nilS, v, .int .i64 i] ++ tl 21 g, h, [cmp false]) ⟨[], [], []⟩) 5 21 (some (some 0)) [.slice p n c, undef, nilS, v, .int .i64 i] h [(decide (i < n), false)] := ⟨by kernel_rfl, by kernel_rfl, by kernel_rfl⟩
theorem from_end (v : Value) (k : Nat) (i : Int) (x : List Value × TypeId) (lo : List Value) (g : Nat → Value) : GoesT (evC (tabH Tryd.prog extY conN hcU) 100 false (fEnd Tryd.f36) ([v, undef, nilS, sl 1 0 k grown, .int .i64 i] ++ tl 21 g, ⟨2, [(lo, tU), x]⟩, []) ⟨[], [], []⟩) 5 21 (some none) [v, undef, sl 1 0 (trimN (cutI lo 0 k)) (trimN (cutI lo 0 k)), sl 1 0 k grown, .int .i64 i] ⟨2, [(lo, tU), x]⟩ [(rowC tU lo 0 k grown, true)] := ⟨by kernel_rfl, by kernel_rfl, by kernel_rfl⟩
theorem ux_eq {x : Int} (h : 0 ≤ x ∧ x < 4294967296) : ux x = wU (fl [x]) := by
  unfold ux wU fl fl
  rw [Int.tmod_eq_emod_of_nonneg h.1, Int.tdiv_eq_ediv_of_nonneg h.1]
  have e : IntKind.u32.wrap (x / 65536) = x / 65536 := by
    simp [IntKind.wrap, IntKind.bits, IntKind.signed]; omega
  rw [e]
  rfl
theorem wU_still (L : List Int) : ∀ v ∈ wU L, still v = true := fun v hv => by
  unfold wU at hv
  obtain ⟨x, _, rfl⟩ := List.mem_map.1 hv
  rfl
theorem wU_one (L : List Int) : (wU L).all one = true := List.all_eq_true.2 fun v hv => by
  unfold wU at hv
  obtain ⟨x, _, rfl⟩ := List.mem_map.1 hv
  rfl
theorem wU_append (L M : List Int) : wU (L ++ M) = wU L ++ wU M := by simp [wU]
theorem wU_len (L : List Int) : (wU L).length = L.length := by simp [wU]
theorem cut_wU (L : List Int) : cutI (wU L) 0 L.length = L := by
  unfold cutI cutV
  rw [List.drop_zero, ← wU_len, List.take_length]
  unfold wU
  rw [List.map_map]
  exact List.map_id' _
theorem rowC_wU {L : List Int} (h : ∀ x ∈ L, 0 ≤ x ∧ x < 4294967296) (hl : L.length < 4611686018427387904) {c : Nat} (hc : capOk 0 L.length c = true) : rowC tU (wU L) 0 L.length c = true := by
  unfold rowC
  have e1 : tomb tU = false := by kernel_rfl
  have e2 : Nat.beq (rt tU) tU = true := by kernel_rfl
  have e3 : Nat.ble (0 + L.length) (wU L).length = true := Nat.ble_eq_true_of_le (by rw [wU_len]; omega)
  have e4 : Nat.blt L.length 4611686018427387904 = true := blt_iff.2 hl
  have e5 : ((cutV (wU L) 0 L.length).all isU) = true := by
    unfold cutV
    rw [List.drop_zero, ← wU_len, List.take_length]
    refine List.all_eq_true.2 fun v hv => ?_
    unfold wU at hv
    obtain ⟨x, hx, rfl⟩ := List.mem_map.1 hv
    exact decide_eq_true (h x hx)
  have e6 : ((wU L).all still) = true := List.all_eq_true.2 fun v hv => by
    unfold wU at hv
    obtain ⟨x, _, rfl⟩ := List.mem_map.1 hv
    rfl
  rw [e1, e2, e3, e4, hc, e5, e6]
  rfl
theorem appChk_of {L M : List Int} {k : Nat} (hk : k = L.length) (hM : 0 < M.length) (hb : L.length + M.length ≤ 1073741824) : appChk tU (wU L, tU) (wU M, tU) k 0 M.length = true := by
  subst hk
  unfold appChk
  simp only [Bool.and_eq_true, Bool.not_eq_true', wU_len]
  refine ⟨⟨⟨⟨⟨⟨⟨⟨Nat.beq_refl _, Nat.ble_eq_true_of_le hb⟩, by kernel_rfl⟩, by kernel_rfl⟩, by kernel_rfl⟩, by kernel_rfl⟩, Nat.ble_eq_true_of_le (by omega)⟩, blt_iff.2 hM⟩, ?_⟩
  rw [List.drop_zero, ← wU_len, List.take_length]
  exact wU_one M
theorem capG (n : Nat) : capOk 0 n grown = true := by unfold capOk; rw [show Nat.beq grown grown = true from by kernel_rfl, show Nat.beq 0 0 = true from rfl]; simp
theorem getD_get {L : List Int} {k : Nat} (h : k < L.length) : L.getD k 0 = L[k] := by simp [List.getD, List.getElem?_eq_getElem h]
theorem take_succ' {L : List Int} {k : Nat} (h : k < L.length) : L.take (k + 1) = L.take k ++ [L.getD k 0] := by
  rw [getD_get h, List.take_add_one, List.getElem?_eq_getElem h]
  rfl
/-- the rounds of From -/
def fInv (l : List Value) (o c : Nat) (L : List Int) (k : Nat) (y : Lf) : Prop :=
  ∃ i : Nat, k = L.length - i ∧ i ≤ L.length ∧ ((i = 0 ∧ (∃ g, y.1 = [sl 0 o L.length c, undef, nilS, nilS, .int .i64 0] ++ tl 21 g) ∧ y.2.1 = ⟨1, [(l, tR)]⟩) ∨
    (0 < i ∧ (∃ g, y.1 = [sl 0 o L.length c, undef, nilS, sl 1 0 (2 * i) grown, .int .i64 (i : Nat)] ++ tl 21 g) ∧ y.2.1 = ⟨2, [(wU (fl (L.take i)), tU), (l, tR)]⟩))
def fOut (l : List Value) (o c : Nat) (L : List Int) (y : Lf) : Prop :=
  (L.length = 0 ∧ (∃ g, y.1 = [sl 0 o L.length c, undef, nilS, nilS, .int .i64 0] ++ tl 21 g) ∧ y.2.1 = ⟨1, [(l, tR)]⟩) ∨
    (0 < L.length ∧ (∃ g, y.1 = [sl 0 o L.length c, undef, nilS, sl 1 0 (2 * L.length) grown, .int .i64 (L.length : Nat)] ++ tl 21 g) ∧ y.2.1 = ⟨2, [(wU (fl L), tU), (l, tR)]⟩)
theorem lt_words {L : List Int} {k : Nat} (h : ∀ x ∈ L, 0 ≤ x ∧ x < 4294967296) (hk : k < L.length) : 0 ≤ L.getD k 0 ∧ L.getD k 0 < 4294967296 := by
  rw [getD_get hk]
  exact h _ (List.getElem_mem hk)
theorem from_loop {l : List Value} {o c : Nat} {L : List Int} (hR : Row l o L) (hs : ∀ v ∈ l, still v = true) (hL : 2 * L.length ≤ 1073741824) (g : Nat → Value) :
    RunsW (tabH Tryd.prog extY conN hcU) (.block 0 (.loop (fLoop Tryd.f36))) ([sl 0 o L.length c, undef, nilS, nilS, .int .i64 0] ++ tl 21 g, ⟨1, [(l, tR)]⟩, []) fun e y => match e with | none => fOut l o c L y | some none => False | some (some _) => False := by
  refine RunsW.forLoop (P := fOut l o c L) (R := fun _ => False) (fInv l o c L) ?_ (n := L.length) ⟨0, by omega, by omega, .inl ⟨rfl, ⟨g, rfl⟩, rfl⟩⟩
  rintro n ⟨t, h', s⟩ ⟨i, hn, hi, hI⟩
  by_cases hlt : i < L.length
  · have hc := hR.cell (k := i) hlt
    have hx := lt_words hR.rng hlt
    have ei : IntKind.i64.wrap ((i : Int) + 1) = ((i + 1 : Nat) : Int) := by rw [wrapI (by omega) (by omega)]; omega
    have hlog : okLog (lAt l o L.length i (L.getD i 0)) := by
      have q1 : cellIs (l[o + (i : Int).toNat * 1]?) (.int .u32 (L.getD i 0)) = true := by rw [Int.toNat_natCast, Nat.mul_one, hc]; simp [cellIs]
      have q2 : decide (0 ≤ (i : Int) ∧ (i : Int) < (L.length : Nat)) = true := decide_eq_true (by omega)
      have q3 : decide ((i : Int) < (L.length : Nat)) = true := decide_eq_true (by omega)
      exact okTwo q1 (okTwo q2 (okTwo rfl (okTwo q1 (okTwo q2 (okOne q3)))))
    have hne : ∀ z : Lf, (∃ g, z.1 = [sl 0 o L.length c, undef, nilS, sl 1 0 (2 * (i + 1)) grown, .int .i64 ((i + 1 : Nat) : Int)] ++ tl 21 g) ∧ z.2.1 = ⟨2, [(wU (fl (L.take (i + 1))), tU), (l, tR)]⟩ → ∃ n', n' < n ∧ fInv l o c L n' z := fun z hz =>
      ⟨L.length - (i + 1), by omega, i + 1, rfl, by omega, .inr ⟨by omega, hz.1, hz.2⟩⟩
    rcases hI with ⟨rfl, ⟨g, ht⟩, hh⟩ | ⟨hpos, ⟨g, ht⟩, hh⟩
    · simp only at ht hh
      subst ht hh
      have r := goesT_runsW (tabH_ok conN_ok hcU_ok) (s0 := s) (from_nil o L.length c 0 (L.getD 0 0) l g) hlog
      have r2 := r.two (front' := [sl 0 o L.length c, undef, nilS, sl 1 0 2 grown, .int .i64 (IntKind.i64.wrap (0 + 1))]) (b := 2) (x := (l, tR)) (y := (ux (L.getD 0 0), tU)) (by kernel_rfl) (by rfl) (by rfl) (by omega) hs (by rw [ux_eq hx]; exact wU_still _) (fun v hv => by
        simp only [List.mem_cons, List.not_mem_nil, or_false] at hv
        rcases hv with rfl | rfl | rfl | rfl | rfl <;> rfl)
      refine r2.mono fun e z hz => ?_
      obtain ⟨rfl, ⟨g', e1⟩, e2⟩ := hz
      refine hne z ⟨⟨g', by rw [e1]; rfl⟩, ?_⟩
      rw [e2, ux_eq hx, take_succ' hlt]
      rfl
    · simp only at ht hh
      subst ht hh
      have hlen : (fl (L.take i)).length = 2 * i := by rw [fl_len, List.length_take]; omega
      have hchk : appChk tU (wU (fl (L.take i)), tU) (ux (L.getD i 0), tU) (2 * i) 0 2 = true := by
        rw [ux_eq hx]
        exact appChk_of hlen.symm (M := fl [L.getD i 0]) (show 0 < 2 by omega) (by rw [hlen]; show 2 * i + 2 ≤ 1073741824; omega)
      have r := goesT_runsW (tabH_ok conN_ok hcU_ok) (s0 := s) (from_some o L.length c (2 * i) i (L.getD i 0) l (wU (fl (L.take i))) g) (okTwo hchk hlog)
      have r2 := r.two (front' := [sl 0 o L.length c, undef, nilS, sl 1 0 (2 * i + 2) grown, .int .i64 (IntKind.i64.wrap ((i : Int) + 1))]) (b := 3) (x := (l, tR)) (y := (wU (fl (L.take i)) ++ ux (L.getD i 0), tU)) (by kernel_rfl) (by rfl) (by rfl) (by omega) hs (by
        rw [ux_eq hx, ← wU_append]; exact wU_still _) (fun v hv => by
        simp only [List.mem_cons, List.not_mem_nil, or_false] at hv
        rcases hv with rfl | rfl | rfl | rfl | rfl <;> rfl)
      refine r2.mono fun e z hz => ?_
      obtain ⟨rfl, ⟨g', e1⟩, e2⟩ := hz
      refine hne z ⟨⟨g', by rw [e1, ei]; rfl⟩, ?_⟩
      rw [e2, ux_eq hx, ← wU_append, ← fl_append, ← take_succ' hlt]
  · have hil : i = L.length := by omega
    subst hil
    rcases hI with ⟨h0, ⟨g, ht⟩, hh⟩ | ⟨hpos, ⟨g, ht⟩, hh⟩
    · simp only at ht hh
      subst ht hh
      refine (goesT_runsW (tabH_ok conN_ok hcU_ok) (from_out _ _ _ _ _ _ g) (okOne (decide_eq_false (by omega)))).mono fun e z hz => ?_
      obtain ⟨rfl, e1, e2⟩ := hz
      exact ⟨rfl, .inl ⟨h0, e1, e2⟩⟩
    · simp only at ht hh
      subst ht hh
      refine (goesT_runsW (tabH_ok conN_ok hcU_ok) (from_out _ _ _ _ _ _ g) (okOne (decide_eq_false (by omega)))).mono fun e z hz => ?_
      obtain ⟨rfl, e1, e2⟩ := hz
      refine ⟨rfl, .inr ⟨hpos, e1, ?_⟩⟩
      rw [e2, List.take_length]
theorem seqW3 {T : Tab} {a b c : Code} {x : Lf} {P1 P2 P : Ex → Lf → Prop} (h1 : RunsW T a x P1) (n1 : ∀ e y, P1 (some e) y → False) (h2 : ∀ y, P1 none y → RunsW T b y P2) (n2 : ∀ e y, P2 (some e) y → False) (h3 : ∀ y, P2 none y → RunsW T c y P) : RunsW T (.seq (.seq a b) c) x P :=
  RunsW.seq (P1 := P2) (RunsW.seq (P1 := P1) h1 h2 (fun e y he => (n1 e y he).elim)) h3 (fun e y he => (n2 e y he).elim)
/-- a row's number, of words of 32 bits -/
def v32 (l : List Value) (o n : Nat) : Nat := vb 4294967296 (cutI l o n)
def d16 (V : Nat) : List Int := db 65536 V
theorem from_runs {l : List Value} {o c : Nat} {L : List Int} (hR : Row l o L) (hs : ∀ v ∈ l, still v = true) (hL : 2 * L.length ≤ 1073741824) (h0 : 0 < L.length) :
    RunsW (tabH Tryd.prog extY conN hcU) (seqs (fPre Tryd.f36) (.seq (.seq (fR2 Tryd.f36) (.block 0 (.loop (fLoop Tryd.f36)))) (fEnd Tryd.f36))) ([sl 0 o L.length c] ++ List.replicate 25 undef, ⟨1, [(l, tR)]⟩, []) fun e y => (e = none ∨ e = some none) ∧ resS Tryd.prog Tryd.f36 y.1 y.2.1 = some (sl 1 0 (d16 (vb 4294967296 L)).length (d16 (vb 4294967296 L)).length) ∧ ∃ r, y.2.1.blk? 1 = some (wU (d16 (vb 4294967296 L)) ++ r, tU) := by
  refine goesT_listW (tabH_ok conN_ok hcU_ok) (from_pre _ _) (fun x hx => by cases hx) fun g => ?_
  refine seqW3 (goesT_runsW (tabH_ok conN_ok hcU_ok) (from_r2 _ _ g) (fun x hx => by cases hx)) (fun e y he => by cases he.1) (P2 := fun e y => match e with | none => fOut l o c L y | some none => False | some (some _) => False) ?_ ?_ ?_
  · rintro ⟨t, h', s⟩ ⟨_, ⟨g', ht⟩, hh⟩
    simp only at ht hh
    subst ht hh
    exact RunsW.script (from_loop hR hs hL g')
  · intro e y he
    match e, he with
    | none, he => exact he
    | some id, he => exact he
  · rintro ⟨t, h', s⟩ hy
    rcases hy with ⟨e0, _⟩ | ⟨_, ⟨g', ht⟩, hh⟩
    · omega
    · simp only at ht hh
      subst ht hh
      have hlen : (fl L).length = 2 * L.length := fl_len L
      have hd := fl_dg hR.rng
      have hrng : ∀ x ∈ fl L, 0 ≤ x ∧ x < 4294967296 := fun x hx => ⟨(hd x hx).1, by have := (hd x hx).2; omega⟩
      have hrow : rowC tU (wU (fl L)) 0 (2 * L.length) grown = true := by
        rw [← hlen]
        exact rowC_wU hrng (by omega) (capG _)
      refine (goesT_runsW (tabH_ok conN_ok hcU_ok) (from_end _ (2 * L.length) _ (l, tR) (wU (fl L)) g') (okOne hrow)).mono fun e y he => ?_
      obtain ⟨rfl, ⟨g2, e1⟩, e2⟩ := he
      have et : trimN (cutI (wU (fl L)) 0 (2 * L.length)) = (d16 (vb 4294967296 L)).length := by
        rw [← hlen, cut_wU, trim_len (by omega) hd, fl_val hR.rng]
        rfl
      refine ⟨.inr rfl, ?_, ?_⟩
      · rw [e1, e2, et]
        rfl
      · rw [e2]
        refine ⟨wU ((fl L).drop (trimN (fl L))), ?_⟩
        have e3 : wU (d16 (vb 4294967296 L)) ++ wU ((fl L).drop (trimN (fl L))) = wU (fl L) := by
          unfold d16
          rw [← fl_val hR.rng, ← take_trim (by omega) _ hd, ← wU_append, List.take_append_drop]
        rw [e3]
        rfl
theorem from_nilF : Fits (reckon (tabOf Tryd.prog extY conN true) 100 36 [nilS] []) nilS [] := ⟨by kernel_rfl, by kernel_rfl, by kernel_rfl, by kernel_rfl⟩
/-- what From answers of a row: a number's parts; of no words nothing -/
def gFrom : AnsH := fun vals h s =>
  match vals, s with
  | [.slice none 0 0], s => some (nilS, h, s, [])
  | [.slice (some ⟨b, o, none⟩) n c], .inr (.inr (.inr (.inl true))) :: s' =>
    match h.blk? b with
    | some x => some (sl h.n 0 (d16 (v32 x.1 o n)).length (d16 (v32 x.1 o n)).length, h.push (wU (d16 (v32 x.1 o n))) tU, s', [(rowC x.2 x.1 o n c && x.1.all still && Nat.ble (2 * n) 1073741824, true), (decide (0 < n), true)])
    | none => none
  | _, _ => none
theorem wU_lt (L : List Int) : ∀ u ∈ wU L, lt1 0 u = true := fun v hv => by
  unfold wU at hv
  obtain ⟨x, _, rfl⟩ := List.mem_map.1 hv
  rfl
theorem gFrom_ok : AnsHOk 36 gFrom := by
  intro vals h s v h' s' lg hg hl m B w E hv
  unfold gFrom at hg
  split at hg
  · cases hg
    refine (fits_calls (tabY_ok conN_ok) from_nilF (fun x hx => by cases hx) (by rfl) (by rfl) w).mono fun e w' he => ?_
    obtain ⟨E', hb⟩ := clean_emb E he.2
    exact ⟨m, he.1, ⟨Agree.refl _ _, E', hb, Nat.le_refl _, rfl⟩⟩
  · rename_i b o n c s2
    split at hg
    · rename_i x hx
      cases hg
      have q := hl _ (List.mem_cons_self)
      have q2 := hl _ (List.mem_cons_of_mem _ (List.mem_singleton.2 rfl))
      simp only [Bool.and_eq_true, decide_eq_true_eq] at q q2
      obtain ⟨⟨q1, q3⟩, q4⟩ := q
      have q4 := Nat.le_of_ble_eq_true q4
      obtain ⟨h1, h2, h3, h4, h5, h6, h7⟩ := rowC_of q1
      have r := from_runs (c := c) h1 (List.all_eq_true.1 q3) (by rw [h2]; exact q4) (by rw [h2]; exact q2)
      rw [h2] at r
      have := row_calls1 (T := tabH Tryd.prog extY conN hcU) Tryd.func36 from_body (rows1 h7) (vals := [sl 0 o n c]) (fun v hv => by rw [List.mem_singleton.1 hv]; rfl) (k := 1) (cs := wU (d16 (vb 4294967296 (cutI x.1 o n)))) (ty := tU) (wU_lt _) (by kernel_rfl) r (by rfl) E (s := fun _ => b) (fitsR1 hx h5 h6 rfl)
      exact this
    · cases hg
  · cases hg
/-- the words of a row or of nothing -/
def rowOf (h : Hp) (p : Option Addr) (n : Nat) : List Int :=
  match p with
  | none => []
  | some a =>
    match h.blk? a.block with
    | some x => cutI x.1 a.off n
    | none => []
/-- it is one -/
def rowP (h : Hp) (p : Option Addr) (n c : Nat) : Bool :=
  match p with
  | none => Nat.beq n 0 && Nat.beq c 0
  | some a =>
    match a.spot, h.blk? a.block with
    | none, some x => rowC x.2 x.1 a.off n c && x.1.all still
    | _, _ => false
/-- the part at a place, 0 outside -/
def atN (L : List Int) (i : Int) : Int := if 0 ≤ i then L.getD i.toNat 0 else 0
theorem rowP_cases {h : Hp} {p : Option Addr} {n c : Nat} (hr : rowP h p n c = true) : (p = none ∧ n = 0 ∧ c = 0 ∧ rowOf h p n = []) ∨ ∃ b o x, p = some ⟨b, o, none⟩ ∧ h.blk? b = some x ∧ rowC x.2 x.1 o n c = true ∧ (∀ v ∈ x.1, still v = true) ∧ rowOf h p n = cutI x.1 o n := by
  unfold rowP at hr
  split at hr
  · simp only [Bool.and_eq_true] at hr
    exact .inl ⟨rfl, Nat.eq_of_beq_eq_true hr.1, Nat.eq_of_beq_eq_true hr.2, rfl⟩
  · rename_i a
    split at hr
    · rename_i x hs hx
      simp only [Bool.and_eq_true] at hr
      obtain ⟨b, o, sp⟩ := a
      simp only at hs hx
      subst hs
      exact .inr ⟨b, o, x, rfl, hx, hr.1, List.all_eq_true.1 hr.2, by simp [rowOf, hx]⟩
    · cases hr
theorem at_body : Tryd.f34.body = some (cBody Tryd.f34) := by kernel_rfl
theorem at_in (o n c : Nat) (i x : Int) (l : List Value) : GoesT (evC (tabOf Tryd.prog extY conN true) 100 false (cBody Tryd.f34) ([sl 0 o n c, .int .i64 i] ++ List.replicate 15 undef, ⟨1, [(l, tR)]⟩, [cmp true, cmp true, at_, val (.int .u32 x)]) ⟨[], [], []⟩) 5 12 (some none) [sl 0 o n c, .int .i64 i, undef, undef, .int .u32 x] ⟨1, [(l, tR)]⟩ [(cellIs (l[o + i.toNat * 1]?) (.int .u32 x), true), (decide (0 ≤ i ∧ i < n), true), (decide (i < n), true), (decide (i ≥ 0), true)] := ⟨by kernel_rfl, by kernel_rfl, by kernel_rfl⟩
theorem at_over (p : Option Addr) (n c : Nat) (i : Int) (h : Hp) : GoesT (evC (tabOf Tryd.prog extY conN true) 100 false (cBody Tryd.f34) ([.slice p n c, .int .i64 i] ++ List.replicate 15 undef, h, [cmp true, cmp false]) ⟨[], [], []⟩) 5 12 (some none) [.slice p n c, .int .i64 i, undef, undef, .int .u32 0] h [(decide (i < n), false), (decide (i ≥ 0), true)] := ⟨by kernel_rfl, by kernel_rfl, by kernel_rfl⟩
theorem at_under (p : Option Addr) (n c : Nat) (i : Int) (h : Hp) : GoesT (evC (tabOf Tryd.prog extY conN true) 100 false (cBody Tryd.f34) ([.slice p n c, .int .i64 i] ++ List.replicate 15 undef, h, [cmp false]) ⟨[], [], []⟩) 5 12 (some none) [.slice p n c, .int .i64 i, undef, undef, .int .u32 0] h [(decide (i ≥ 0), false)] := ⟨by kernel_rfl, by kernel_rfl, by kernel_rfl⟩
theorem at_none {p : Option Addr} {n c : Nat} {i : Int} {h : Hp} (hi : i < 0 ∨ (n : Int) ≤ i) : Runs (tabOf Tryd.prog extY conN true) (cBody Tryd.f34) ([.slice p n c, .int .i64 i] ++ List.replicate 15 undef, h, []) fun e y => (e = none ∨ e = some none) ∧ resS Tryd.prog Tryd.f34 y.1 y.2.1 = some (.int .u32 0) := by
  by_cases h0 : i < 0
  · refine (goesT_runs (tabY_ok conN_ok) (at_under p n c i h) (okOne (decide_eq_false (by omega)))).mono fun e y he => ?_
    obtain ⟨rfl, ⟨g, e2⟩, e3⟩ := he
    refine ⟨.inr rfl, ?_⟩
    rw [e2, e3]
    rfl
  · refine (goesT_runs (tabY_ok conN_ok) (at_over p n c i h) (okTwo (decide_eq_false (by omega)) (okOne (decide_eq_true (by omega))))).mono fun e y he => ?_
    obtain ⟨rfl, ⟨g, e2⟩, e3⟩ := he
    refine ⟨.inr rfl, ?_⟩
    rw [e2, e3]
    rfl
theorem at_runs {l : List Value} {o c : Nat} {L : List Int} (i : Int) (hR : Row l o L) :
    Runs (tabOf Tryd.prog extY conN true) (cBody Tryd.f34) ([sl 0 o L.length c, .int .i64 i] ++ List.replicate 15 undef, ⟨1, [(l, tR)]⟩, []) fun e y => (e = none ∨ e = some none) ∧ resS Tryd.prog Tryd.f34 y.1 y.2.1 = some (.int .u32 (atN L i)) := by
  by_cases hi : i < 0 ∨ (L.length : Int) ≤ i
  · have e0 : atN L i = 0 := by
      unfold atN
      split
      · have : L.length ≤ i.toNat := by omega
        simp [List.getD, List.getElem?_eq_none this]
      · rfl
    rw [e0]
    exact at_none hi
  · have h0 : 0 ≤ i := by omega
    have hlt : i.toNat < L.length := by omega
    have e0 : atN L i = L.getD i.toNat 0 := by unfold atN; rw [if_pos h0]
    rw [e0]
    have hc := hR.cell hlt
    refine (goesT_runs (tabY_ok conN_ok) (at_in o L.length c i (L.getD i.toNat 0) l) (okTwo (by rw [Nat.mul_one, hc]; simp [cellIs]) (okTwo (decide_eq_true (by omega)) (okTwo (decide_eq_true (by omega)) (okOne (decide_eq_true (by omega))))))).mono fun e y he => ?_
    obtain ⟨rfl, ⟨g, e2⟩, e3⟩ := he
    refine ⟨.inr rfl, ?_⟩
    rw [e2, e3]
    rfl
def gAt : AnsH := fun vals h s =>
  match vals with
  | [.slice p n c, .int .i64 i] => some (.int .u32 (atN (rowOf h p n) i), h, s, [(rowP h p n c, true)])
  | _ => none
theorem gAt_ok : AnsHOk 34 gAt := by
  intro vals h s v h' s' lg hg hl m B w E hv
  unfold gAt at hg
  split at hg
  · rename_i p n c i
    cases hg
    have q := hl _ (List.mem_singleton.2 rfl)
    simp only at q
    rcases rowP_cases q with ⟨rfl, rfl, rfl, e0⟩ | ⟨b, o, x, rfl, hx, q1, _, e0⟩
    · rw [e0]
      have hz : atN [] i = 0 := by unfold atN; split <;> simp
      rw [hz]
      have hi : i < 0 ∨ ((0 : Nat) : Int) ≤ i := by omega
      refine (calls_of_runs (T := tabOf Tryd.prog extY conN true) Tryd.func34 at_body (vals := [nilS, .int .i64 i]) (v := .int .u32 0) (by rfl) (by rfl) (at_none (p := none) (n := 0) (c := 0) (i := i) (h := ⟨0, []⟩) hi) w).mono fun e w' he => ?_
      obtain ⟨E', hb⟩ := clean_emb E he.2
      exact ⟨m, he.1, ⟨Agree.refl _ _, E', hb, Nat.le_refl _, rfl⟩⟩
    · rw [e0]
      obtain ⟨h1, h2, h3, h4, h5, h6, h7⟩ := rowC_of q1
      have hlt := Hp.blk_lt hx
      have r := at_runs (c := c) i h1
      rw [h2] at r
      have := row_calls (T := tabOf Tryd.prog extY conN true) Tryd.func34 at_body (rows1 h7) (vals := [sl 0 o n c, .int .i64 i]) (fun v hv => by
        simp only [List.mem_cons, List.not_mem_nil, or_false] at hv
        rcases hv with rfl | rfl <;> rfl) (by rfl) r E (s := fun _ => b) (fun i _ => hlt) (fitsR1 hx h5 h6 rfl)
      exact this.mono fun e w' he => ⟨m, he.1, he.2⟩
  · cases hg
def hcV : Hc := altH 34 gAt hcU
theorem hcV_ok : HcOk hcV := altH_ok Tryd.func34 rfl gAt_ok hcU_ok
/-- a row or nothing, in block i of a small memory -/
structure Nu (i : Nat) (x : List Value × TypeId) (p : Option Addr) (n c : Nat) (A : List Int) : Prop where
  row : ∀ h : Hp, h.blk? i = some x → rowP h p n c = true ∧ rowOf h p n = A
  pos : p = none ∨ ∃ o, p = some ⟨i, o, none⟩
  st : ∀ v ∈ x.1, still v = true
  lt0 : ∀ v ∈ x.1, still v = true
  ros : ro x.2 = true ∧ ab x.2 = false
theorem Nu.rn {i : Nat} {x : List Value × TypeId} {p : Option Addr} {n c : Nat} {A : List Int} (h : Nu i x p n c A) {f : Nat → Nat} (hf : f i = i) : KRun.rn f (.slice p n c) = .slice p n c := by
  rcases h.pos with rfl | ⟨o, rfl⟩
  · rfl
  · show Value.slice (some ⟨f i, o, none⟩) n c = _
    rw [hf]
theorem Nu.lt {i : Nat} {x : List Value × TypeId} {p : Option Addr} {n c : Nat} {A : List Int} (h : Nu i x p n c A) {k : Nat} (hk : i < k) : KRun.lt k (.slice p n c) = true := by
  rcases h.pos with rfl | ⟨o, rfl⟩
  · rfl
  · exact blt_iff.2 hk
/-- a caller's row in the smallest memory -/
theorem nu_of {h : Hp} {p : Option Addr} {n c : Nat} (i : Nat) (hr : rowP h p n c = true) : ∃ x p' b, Nu i x p' n c (rowOf h p n) ∧ (∀ s : Nat → Nat, s i = b → rn s (.slice p' n c) = .slice p n c) ∧ (tomb x.2 = false → ∃ y r, h.blk? b = some y ∧ tomb y.2 = false ∧ rt y.2 = rt x.2 ∧ y.1 = x.1 ++ r) := by
  rcases rowP_cases hr with ⟨rfl, rfl, rfl, e0⟩ | ⟨b, o, x, rfl, hx, q1, q2, e0⟩
  · refine ⟨([], 2 * dead), none, 0, ⟨fun h' _ => ⟨rfl, by rw [e0]; rfl⟩, .inl rfl, (fun v hv => by cases hv), (fun v hv => by cases hv), (by kernel_rfl), (by kernel_rfl)⟩, fun s _ => rfl, fun ht => ?_⟩
    rw [show tomb (2 * dead) = true from by kernel_rfl] at ht
    cases ht
  · obtain ⟨h1, h2, h3, h4, h5, h6, h7⟩ := rowC_of q1
    refine ⟨(x.1, tR), some ⟨i, o, none⟩, b, ⟨fun h' hb => ⟨?_, ?_⟩, .inr ⟨o, rfl⟩, q2, h7, tR_ro, tR_ab⟩, fun s hs => ?_, fun _ => ⟨x, [], hx, h5, by rw [h6]; exact tR_rt.symm, by simp⟩⟩
    · simp only [rowP, hb, Bool.and_eq_true]
      refine ⟨?_, List.all_eq_true.2 q2⟩
      unfold rowC at q1 ⊢
      simp only [Bool.and_eq_true, Bool.not_eq_true'] at q1 ⊢
      obtain ⟨⟨⟨⟨⟨⟨_, _⟩, p3⟩, p4⟩, p5⟩, p6⟩, p7⟩ := q1
      exact ⟨⟨⟨⟨⟨⟨tR_tomb, by kernel_rfl⟩, p3⟩, p4⟩, p5⟩, p6⟩, p7⟩
    · rw [e0]
      simp [rowOf, hb]
    · show Value.slice (some ⟨s i, o, none⟩) n c = _
      rw [hs]
/-- digits to the base 65536 -/
def dgB (L : List Int) : Bool := L.all fun x => decide (0 ≤ x ∧ x < 65536)
theorem dgB_of {L : List Int} (h : dgB L = true) : ∀ x ∈ L, Dg 65536 x := fun x hx => of_decide_eq_true (List.all_eq_true.1 h x hx)
theorem dgB_mk {L : List Int} (h : ∀ x ∈ L, Dg 65536 x) : dgB L = true := List.all_eq_true.2 fun x hx => decide_eq_true (h x hx)
theorem rowOf_len {h : Hp} {p : Option Addr} {n c : Nat} (hr : rowP h p n c = true) : (rowOf h p n).length = n := by
  rcases rowP_cases hr with ⟨rfl, rfl, rfl, e0⟩ | ⟨b, o, x, rfl, hx, q1, q2, e0⟩
  · rw [e0]; rfl
  · rw [e0]; exact (rowC_of q1).2.1
theorem at_dg {L : List Int} (h : ∀ x ∈ L, Dg 65536 x) (i : Nat) : Dg 65536 (L.getD i 0) := by
  by_cases hi : i < L.length
  · rw [getD_get hi]; exact h _ (List.getElem_mem hi)
  · rw [show L.getD i 0 = 0 from by simp [List.getD, List.getElem?_eq_none (show L.length ≤ i by omega)]]
    exact ⟨by omega, by omega⟩
theorem atN_nat (L : List Int) (i : Nat) : atN L (i : Int) = L.getD i 0 := by unfold atN; rw [if_pos (by omega), Int.toNat_natCast]
/-! ### Add -/
def aPreV (F : Func) : List Code := [cFst (cBody F), cFst (cSnd (cBody F)), cFst (cSnd (cSnd (cBody F)))]
def aR3 (F : Func) : Code := cFst (cFst (cSnd (cSnd (cSnd (cBody F)))))
def aLoop (F : Func) : Code := cIn (cIn (cSnd (cFst (cSnd (cSnd (cSnd (cBody F)))))))
def aEnd (F : Func) : Code := cSnd (cSnd (cSnd (cSnd (cBody F))))
def hu3 (lo : List Value) (y x : List Value × TypeId) : Hp := ⟨3, [(lo, tU), y, x]⟩
def hp2 (y x : List Value × TypeId) : Hp := ⟨2, [y, x]⟩
def rP (h : Hp) (p : Option Addr) (n c : Nat) : Bool × Bool := (rowP h p n c, true)
theorem wrap32 {n : Int} (h0 : 0 ≤ n) (h1 : n < 4294967296) : IntKind.u32.wrap n = n := by simp [IntKind.wrap, IntKind.bits, IntKind.signed]; omega
/-- a digit's number -/
def dgN (L : List Int) (i : Nat) : Nat := (L.getD i 0).toNat
theorem dgN_lt {L : List Int} (h : ∀ x ∈ L, Dg 65536 x) (i : Nat) : dgN L i < 65536 ∧ ((dgN L i : Nat) : Int) = L.getD i 0 := by
  have := at_dg h i
  unfold dgN
  omega
theorem dgN_out {L : List Int} {i : Nat} (h : L.length ≤ i) : dgN L i = 0 := by unfold dgN; simp [List.getD, List.getElem?_eq_none h]
theorem tmod_nat (a : Nat) : ((a : Int)).tmod 65536 = ((a % 65536 : Nat) : Int) := by rw [Int.tmod_eq_emod_of_nonneg (by omega)]; omega
theorem tdiv_nat {a : Nat} (h : a < 4294967296) : IntKind.u32.wrap ((a : Int).tdiv 65536) = ((a / 65536 : Nat) : Int) := by
  rw [Int.tdiv_eq_ediv_of_nonneg (by omega), wrap32 (by omega) (by omega)]
  omega
theorem okW {p : Bool × Bool} {l : Log} (h : p.1 = p.2) (hl : okLog l) : okLog (p :: l) := okTwo h hl
section
variable {x y : List Value × TypeId} {p q : Option Addr} {n c n' c' : Nat} {A B : List Int}
theorem kept_base (NA : Nu 0 x p n c A) (NB : Nu 1 y q n' c' B) {h : Hp} (h0 : h.blk? 0 = some x) (h1 : h.blk? 1 = some y) : ∀ i z, (⟨2, [y, x]⟩ : Hp).blk? i = some z → h.blk? i = some z ∧ ∀ v ∈ z.1, still v = true := fun i z hz => by
  rcases blkTwo hz with ⟨rfl, rfl⟩ | ⟨rfl, rfl⟩
  · exact ⟨h0, NA.st⟩
  · exact ⟨h1, NB.st⟩
end
theorem rows_hp2 {x y : List Value × TypeId} {p q : Option Addr} {n c n' c' : Nat} {A B : List Int} (NA : Nu 0 x p n c A) (NB : Nu 1 y q n' c' B) : (hp2 y x).rows := by
  refine ⟨rfl, fun b z hz => ?_⟩
  rcases blkTwo hz with ⟨rfl, rfl⟩ | ⟨rfl, rfl⟩
  · exact ⟨NA.ros.1, NA.lt0, NA.ros.2⟩
  · exact ⟨NB.ros.1, NB.lt0, NB.ros.2⟩
theorem fits_hp2 {x y : List Value × TypeId} {h : Hp} {a b : Nat} (hx : tomb x.2 = false → ∃ z r, h.blk? a = some z ∧ tomb z.2 = false ∧ rt z.2 = rt x.2 ∧ z.1 = x.1 ++ r) (hy : tomb y.2 = false → ∃ z r, h.blk? b = some z ∧ tomb z.2 = false ∧ rt z.2 = rt y.2 ∧ z.1 = y.1 ++ r) : (hp2 y x).fits (pair a b) h := by
  intro i z hz ht
  rcases blkTwo hz with ⟨rfl, rfl⟩ | ⟨rfl, rfl⟩
  · exact hx ht
  · exact hy ht
/-- the two rows of a call, and what is asked of them -/
def two16 (h : Hp) (p q : Option Addr) (n c n' c' : Nat) : Bool := rowP h p n c && rowP h q n' c' && dgB (rowOf h p n) && dgB (rowOf h q n') && Nat.blt (max n n' + 2) 1073741824
theorem two16_of {h : Hp} {p q : Option Addr} {n c n' c' : Nat} (hr : two16 h p q n c n' c' = true) : rowP h p n c = true ∧ rowP h q n' c' = true ∧ (∀ x ∈ rowOf h p n, Dg 65536 x) ∧ (∀ x ∈ rowOf h q n', Dg 65536 x) ∧ max n n' + 2 < 1073741824 := by
  unfold two16 at hr
  simp only [Bool.and_eq_true] at hr
  obtain ⟨⟨⟨⟨h1, h2⟩, h3⟩, h4⟩, h5⟩ := hr
  exact ⟨h1, h2, dgB_of h3, dgB_of h4, blt_iff.1 h5⟩
def vO (h : Hp) (p : Option Addr) (n : Nat) : Nat := vb 65536 (rowOf h p n)
/-- a number that is made: its row in a block of its own -/
theorem d16_dg (A : Nat) : ∀ x ∈ d16 A, Dg 65536 x := db_dg (by omega) A
def mk16 (V : Nat) (h : Hp) (s : List Dec) (lg : Log) : Option (Value × Hp × List Dec × Log) := some (sl h.n 0 (d16 V).length (d16 V).length, h.push (wU (d16 V)) tU, s, lg)
end Go.Proofs.YtmgcnijpoklhkaaDoor
namespace Go.Proofs.YtmgcnijpoklhkaaDoor
open Go.KRun Go.Wd Go.Nt
set_option maxRecDepth 100000
def hcO : Hc := altH 36 gFrom hcN
theorem hcO_ok : HcOk hcO := altH_ok Tryd.func36 rfl gFrom_ok hcN_ok
/-- the halves of a word -/
def lo4 (z : Int) : Int := IntKind.u32.wrap (z.tmod 4294967296)
def hi4 (z : Int) : Int := IntKind.u32.wrap (IntKind.u64.wrap (z.tdiv 4294967296))
def c8L (x : W4) : List Int := [lo4 x.a, hi4 x.a, lo4 x.b, hi4 x.b, lo4 x.c, hi4 x.c, lo4 x.d, hi4 x.d]
def c2 (z : Int) : List Value × TypeId := ([.int .u32 (lo4 z), .int .u32 (hi4 z)], tU)
def tbF : List Value × TypeId := ([], 2 * dead)
def ofT (x : W4) : Nat := v32 (wU (c8L x)) 0 8
def ofHpG (A : List Value × TypeId) (x : W4) : Hp := ⟨10, [A, (wU (c8L x), tU), c2 x.d, tbF, c2 x.c, tbF, c2 x.b, tbF, c2 x.a, ([.int .u64 x.a, .int .u64 x.b, .int .u64 x.c, .int .u64 x.d], 23)]⟩
def ofHp (x : W4) : Hp := ofHpG (wU (d16 (ofT x)), tU) x
theorem ofHp_blk (A : List Value × TypeId) (x : W4) : (ofHpG A x).blk? 9 = some A := rfl
theorem of_body (x : W4) : GoesT (evC (tabH Tryd.prog extY conN hcO) 600 false (cBody Tryd.f12) ([vW x] ++ List.replicate 23 undef, ⟨0, []⟩, [at_, at_, at_, at_, at_, at_, at_, at_, at_, at_, at_, at_, cmp false, cmp true]) ⟨[], [], []⟩) 3 21 (some none) [vW x, .pointer (some ⟨0, 0, none⟩), sl 9 0 (d16 (ofT x)).length (d16 (ofT x)).length] (ofHp x) [(rowC tU (wU (c8L x)) 0 8 grown && (wU (c8L x)).all still && Nat.ble (2 * 8) 1073741824, true), (true, true), (false, false), (true, true), (true, true), (true, true), (true, true), (true, true), (true, true), (true, true), (true, true), (true, true), (true, true), (true, true), (true, true)] := ⟨by kernel_rfl, by kernel_rfl, by kernel_rfl⟩
theorem of_res (x : W4) (h : Hp) (g : Nat → Value) : resS Tryd.prog Tryd.f12 ([vW x, .pointer (some ⟨0, 0, none⟩), sl 9 0 (d16 (ofT x)).length (d16 (ofT x)).length] ++ tl 21 g) h = some (sl 9 0 (d16 (ofT x)).length (d16 (ofT x)).length) := by
  generalize (d16 (ofT x)).length = L
  rfl
theorem of_cbody : Tryd.f12.body = some (cBody Tryd.f12) := by kernel_rfl
theorem lo4_eq {z : Int} (h : 0 ≤ z ∧ z < 18446744073709551616) : lo4 z = z % 4294967296 := by
  unfold lo4
  rw [Int.tmod_eq_emod_of_nonneg h.1]
  simp [IntKind.wrap, IntKind.bits, IntKind.signed]
theorem hi4_eq {z : Int} (h : 0 ≤ z ∧ z < 18446744073709551616) : hi4 z = z / 4294967296 := by
  unfold hi4
  rw [Int.tdiv_eq_ediv_of_nonneg h.1]
  simp [IntKind.wrap, IntKind.bits, IntKind.signed]
  omega
theorem c8_rng {x : W4} (h : x.ok) : ∀ z ∈ c8L x, 0 ≤ z ∧ z < 4294967296 := by
  obtain ⟨h1, h2, h3, h4⟩ := h
  intro z hz
  unfold c8L at hz
  rw [lo4_eq h1, lo4_eq h2, lo4_eq h3, lo4_eq h4, hi4_eq h1, hi4_eq h2, hi4_eq h3, hi4_eq h4] at hz
  simp only [List.mem_cons, List.not_mem_nil, or_false] at hz
  rcases hz with rfl | rfl | rfl | rfl | rfl | rfl | rfl | rfl <;> omega
theorem halves {z : Int} (h : 0 ≤ z ∧ z < 18446744073709551616) : (lo4 z).toNat + 4294967296 * (hi4 z).toNat = z.toNat := by
  rw [lo4_eq h, hi4_eq h]
  omega
theorem ofT_is {x : W4} (h : x.ok) : ofT x = x.nat := by
  have hl : (c8L x).length = 8 := rfl
  have e : cutI (wU (c8L x)) 0 8 = c8L x := by rw [← hl]; exact cut_wU (c8L x)
  have hv : x.nat = x.a.toNat + 18446744073709551616 * x.b.toNat + 340282366920938463463374607431768211456 * x.c.toNat + 6277101735386680763835789423207666416102355444464034512896 * x.d.toNat := by
    obtain ⟨h1, h2, h3, h4⟩ := h
    unfold W4.nat W4.val
    omega
  unfold ofT v32
  rw [e, hv]
  obtain ⟨h1, h2, h3, h4⟩ := h
  rw [← halves h1, ← halves h2, ← halves h3, ← halves h4]
  unfold c8L
  simp only [vb]
  omega
theorem c8_row {x : W4} (h : x.ok) : (rowC tU (wU (c8L x)) 0 8 grown && (wU (c8L x)).all still && Nat.ble (2 * 8) 1073741824) = true := by
  have e1 : (wU (c8L x)).all still = true := List.all_eq_true.2 (wU_still _)
  have e2 : (cutV (wU (c8L x)) 0 8).all isU = true := by
    rw [List.all_eq_true]
    intro v hv
    have hv' : v ∈ wU (c8L x) := List.mem_of_mem_drop (List.mem_of_mem_take hv)
    unfold wU at hv'
    obtain ⟨z, hz, rfl⟩ := List.mem_map.1 hv'
    exact decide_eq_true (c8_rng h z hz)
  unfold rowC
  rw [e1, e2]
  rfl
theorem okTs {l : Log} (h : (l.all fun p => p.1 == p.2) = true) : okLog l := fun p hp => by simpa using List.all_eq_true.1 h p hp
def gOf5 : AnsH := fun vals h s =>
  match vals with
  | [v] => match w4 v with
    | some x => mk16 x.nat h s [(decide x.ok, true)]
    | none => none
  | _ => none
theorem gOf5_ok : AnsHOk 12 gOf5 := by
  intro vals h s v h' s' lg hg hl m B w E hv
  unfold gOf5 at hg
  split at hg
  · split at hg
    · rename_i u x hx
      unfold mk16 at hg
      cases hg
      have l1 := of_decide_eq_true (hl _ (List.mem_singleton.2 rfl))
      rw [w4_spec hx]
      have eT := ofT_is l1
      have r : Runs (tabH Tryd.prog extY conN hcO) (cBody Tryd.f12) ([vW x] ++ List.replicate 23 undef, ⟨0, []⟩, []) fun e z => (e = none ∨ e = some none) ∧ resS Tryd.prog Tryd.f12 z.1 z.2.1 = some (sl 9 0 (d16 x.nat).length (d16 x.nat).length) ∧ ∃ r, z.2.1.blk? 9 = some (wU (d16 x.nat) ++ r, tU) := by
        have g := of_body x
        have hb := ofHp_blk (wU (d16 (ofT x)), tU) x
        have hr := of_res x (ofHp x)
        change (ofHp x).blk? 9 = _ at hb
        refine (goesT_runs (tabH_ok conN_ok hcO_ok) g (okCons (c8_row l1) (okTs (by decide)))).mono fun e z he => ?_
        obtain ⟨rfl, ⟨g, e1⟩, e2⟩ := he
        refine ⟨.inr rfl, ?_, [], ?_⟩
        · rw [e1, e2, ← eT]
          exact hr g
        · rw [e2, List.append_nil, ← eT]
          exact hb
      generalize hL : (d16 x.nat).length = L at r ⊢
      have hA : ∀ u ∈ wU (d16 x.nat), lt1 0 u = true := wU_lt _
      generalize wU (d16 x.nat) = A at r hA ⊢
      have := row_calls1 (T := tabH Tryd.prog extY conN hcO) Tryd.func12 of_cbody (h0 := ⟨0, []⟩) ⟨rfl, fun b x hx => by have : b < 0 := Hp.blk_lt hx; omega⟩ (vals := [vW x]) (fun v hv => by rw [List.mem_singleton.1 hv]; rfl) (k := 9) (cs := A) (ty := tU) hA (by kernel_rfl) r.w (by rfl) E (s := fun i => i) (fun i x hx _ => by have : i < 0 := Hp.blk_lt hx; omega)
      have er : [vW x].map (rn fun i => i) = [vW x] := by simp [vW, rn, rn2, rn1]
      have e2 : rn (fun _ => h.n) (sl 9 0 L L) = sl h.n 0 L L := by simp [rn, rn2, rn1, sl]
      rw [er, e2] at this
      exact this
    · cases hg
  · cases hg
end Go.Proofs.YtmgcnijpoklhkaaDoor
namespace Go.Proofs.YtmgcnijpoklhkaaDoor
open Go.KRun Go.Nt
set_option maxRecDepth 100000
theorem usub_body : Tryd.f50.body = some (seqs (aPreV Tryd.f50) (.seq (.seq (aR3 Tryd.f50) (.block 0 (.loop (aLoop Tryd.f50)))) (aEnd Tryd.f50))) := by kernel_rfl
theorem usub_body1 : Tryd.f50.body = some (cBody Tryd.f50) := by kernel_rfl
theorem usub_pre (a b : Value) (h : Hp) : GoesT (evL (tabH Tryd.prog extY conN hcV) 100 (aPreV Tryd.f50) ([a, b] ++ List.replicate 33 undef, h, []) ⟨[], [], []⟩) 7 28 none [a, b, undef, undef, nilS, nilS, .int .u32 0] h [] := ⟨by kernel_rfl, by kernel_rfl, by kernel_rfl⟩
theorem usub_r3 (a b : Value) (h : Hp) (g : Nat → Value) : GoesT (evC (tabH Tryd.prog extY conN hcV) 100 false (aR3 Tryd.f50) ([a, b, undef, undef, nilS, nilS, .int .u32 0] ++ tl 28 g, h, []) ⟨[], [], []⟩) 8 27 none [a, b, undef, undef, nilS, nilS, .int .u32 0, .int .i64 0] h [] := ⟨by kernel_rfl, by kernel_rfl, by kernel_rfl⟩
def df (A B : List Int) (k i : Int) : Int := IntKind.u32.wrap (IntKind.u32.wrap (IntKind.u32.wrap (65536 + atN A i) - atN B i) - k)
theorem usub_nil (p q : Option Addr) (n c n' c' : Nat) (k i : Int) (x y : List Value × TypeId) (g : Nat → Value) : GoesT (evC (tabH Tryd.prog extY conN hcV) 100 false (aLoop Tryd.f50) ([.slice p n c, .slice q n' c', undef, undef, nilS, nilS, .int .u32 k, .int .i64 i] ++ tl 27 g, hp2 y x, [cmp true, cmp true]) ⟨[], [], []⟩) 8 27 none [.slice p n c, .slice q n' c', undef, undef, nilS, sl 3 0 1 grown, .int .u32 (IntKind.u32.wrap (1 - IntKind.u32.wrap ((df (rowOf (hp2 y x) p n) (rowOf (hp2 y x) q n') k i).tdiv 65536))), .int .i64 (IntKind.i64.wrap (i + 1))] ⟨4, [([.int .u32 ((df (rowOf (hp2 y x) p n) (rowOf (hp2 y x) q n') k i).tmod 65536)], tU), ([.int .u32 ((df (rowOf (hp2 y x) p n) (rowOf (hp2 y x) q n') k i).tmod 65536)], tU), y, x]⟩ [(decide ((65536 : Int) = 0), false), rP (hp2 y x) q n' c', rP (hp2 y x) p n c, (decide (i < n), true)] := ⟨by kernel_rfl, by kernel_rfl, by kernel_rfl⟩
theorem usub_some (p q : Option Addr) (n c n' c' z : Nat) (k i : Int) (x y : List Value × TypeId) (lo : List Value) (g : Nat → Value) : GoesT (evC (tabH Tryd.prog extY conN hcV) 100 false (aLoop Tryd.f50) ([.slice p n c, .slice q n' c', undef, undef, nilS, sl 2 0 z grown, .int .u32 k, .int .i64 i] ++ tl 27 g, hu3 lo y x, [cmp true, cmp true, at_]) ⟨[], [], []⟩) 8 27 none [.slice p n c, .slice q n' c', undef, undef, nilS, sl 4 0 (z + 1) grown, .int .u32 (IntKind.u32.wrap (1 - IntKind.u32.wrap ((df (rowOf (hu3 lo y x) p n) (rowOf (hu3 lo y x) q n') k i).tdiv 65536))), .int .i64 (IntKind.i64.wrap (i + 1))] ⟨5, [(lo ++ [.int .u32 ((df (rowOf (hu3 lo y x) p n) (rowOf (hu3 lo y x) q n') k i).tmod 65536)], tU), ([.int .u32 ((df (rowOf (hu3 lo y x) p n) (rowOf (hu3 lo y x) q n') k i).tmod 65536)], tU), ([], 2 * dead), y, x]⟩ [(appChk tU (lo, tU) ([.int .u32 ((df (rowOf (hu3 lo y x) p n) (rowOf (hu3 lo y x) q n') k i).tmod 65536)], tU) z 0 1, true), (decide ((65536 : Int) = 0), false), rP (hu3 lo y x) q n' c', rP (hu3 lo y x) p n c, (decide (i < n), true)] := ⟨by kernel_rfl, by kernel_rfl, by kernel_rfl⟩
theorem usub_out (p q : Option Addr) (n c n' c' : Nat) (v : Value) (k i : Int) (h : Hp) (g : Nat → Value) : GoesT (evC (tabH Tryd.prog extY conN hcV) 100 false (aLoop Tryd.f50) ([.slice p n c, .slice q n' c', undef, undef, nilS, v, .int .u32 k, .int .i64 i] ++ tl 27 g, h, [cmp false]) ⟨[], [], []⟩) 8 27 (some (some 0)) [.slice p n c, .slice q n' c', undef, undef, nilS, v, .int .u32 k, .int .i64 i] h [(decide (i < n), false)] := ⟨by kernel_rfl, by kernel_rfl, by kernel_rfl⟩
theorem usub_end (a b : Value) (z : Nat) (k i : Int) (x y : List Value × TypeId) (lo : List Value) (g : Nat → Value) : GoesT (evC (tabH Tryd.prog extY conN hcV) 100 false (aEnd Tryd.f50) ([a, b, undef, undef, nilS, sl 2 0 z grown, .int .u32 k, .int .i64 i] ++ tl 27 g, hu3 lo y x, []) ⟨[], [], []⟩) 5 30 (some none) [a, b, undef, undef, sl 2 0 (trimN (cutI lo 0 z)) (trimN (cutI lo 0 z))] (hu3 lo y x) [(rowC tU lo 0 z grown, true)] := ⟨by kernel_rfl, by kernel_rfl, by kernel_rfl⟩
theorem usub_empty (p q : Option Addr) (n c n' c' : Nat) (h : Hp) : GoesT (evC (tabH Tryd.prog extY conN hcV) 100 false (cBody Tryd.f50) ([.slice p n c, .slice q n' c'] ++ List.replicate 33 undef, h, [cmp false]) ⟨[], [], []⟩) 5 30 (some none) [.slice p n c, .slice q n' c', undef, undef, nilS] h [(decide ((0 : Int) < n), false)] := ⟨by kernel_rfl, by kernel_rfl, by kernel_rfl⟩
/-- a digit of a difference, and what is borrowed -/
def dfN (A B : List Int) (k i : Nat) : Nat := 65536 + dgN A i - dgN B i - k
theorem df_eq {A B : List Int} (hA : ∀ x ∈ A, Dg 65536 x) (hB : ∀ x ∈ B, Dg 65536 x) {k : Nat} (hk : k ≤ 1) (i : Nat) : df A B k i = ((dfN A B k i : Nat) : Int) ∧ dfN A B k i < 131072 ∧ dfN A B k i + dgN B i + k = 65536 + dgN A i := by
  have h1 := dgN_lt hA i
  have h2 := dgN_lt hB i
  unfold df dfN
  rw [atN_nat, atN_nat, ← h1.2, ← h2.2, wrap32 (n := 65536 + _) (by omega) (by omega), wrap32 (n := 65536 + _ - _) (by omega) (by omega), wrap32 (by omega) (by omega)]
  omega
theorem bor_eq {d : Nat} (h : d < 131072) : IntKind.u32.wrap (1 - IntKind.u32.wrap ((d : Int).tdiv 65536)) = ((1 - d / 65536 : Nat) : Int) := by
  rw [tdiv_nat (by omega), wrap32 (by omega) (by omega)]
  omega
section
variable {x y : List Value × TypeId} {p q : Option Addr} {n c n' c' : Nat} {A B : List Int}
/-- one round of Sub -/
theorem usub_round (NA : Nu 0 x p n c A) (NB : Nu 1 y q n' c' B) (hA : ∀ x ∈ A, Dg 65536 x) (hB : ∀ x ∈ B, Dg 65536 x) {k i : Nat} {O : List Int} (hk : k ≤ 1) (hi : i < 1073741823) (hO : O.length = i) (hgo : i < n) {Y : Lf}
    (hY : (i = 0 ∧ k = 0 ∧ (∃ g, Y.1 = [.slice p n c, .slice q n' c', undef, undef, nilS, nilS, .int .u32 (k : Nat), .int .i64 (i : Nat)] ++ tl 27 g) ∧ Y.2.1 = hp2 y x) ∨ (0 < i ∧ (∃ g, Y.1 = [.slice p n c, .slice q n' c', undef, undef, nilS, sl 2 0 i grown, .int .u32 (k : Nat), .int .i64 (i : Nat)] ++ tl 27 g) ∧ Y.2.1 = hu3 (wU O) y x)) :
    RunsW (tabH Tryd.prog extY conN hcV) (aLoop Tryd.f50) Y fun e z => e = none ∧ (∃ g, z.1 = [.slice p n c, .slice q n' c', undef, undef, nilS, sl 2 0 (i + 1) grown, .int .u32 ((1 - dfN A B k i / 65536 : Nat) : Int), .int .i64 ((i + 1 : Nat) : Int)] ++ tl 27 g) ∧ z.2.1 = hu3 (wU (O ++ [((dfN A B k i % 65536 : Nat) : Int)])) y x := by
  obtain ⟨t, h', s⟩ := Y
  obtain ⟨es, hlt, _⟩ := df_eq hA hB hk i
  have e1 : (df A B k i).tmod 65536 = ((dfN A B k i % 65536 : Nat) : Int) := by rw [es, tmod_nat]
  have e2 : IntKind.u32.wrap (1 - IntKind.u32.wrap ((df A B k i).tdiv 65536)) = ((1 - dfN A B k i / 65536 : Nat) : Int) := by rw [es, bor_eq hlt]
  have e3 : IntKind.i64.wrap ((i : Int) + 1) = ((i + 1 : Nat) : Int) := by rw [wrapI (by omega) (by omega)]; omega
  have hl : decide ((i : Int) < (n : Nat)) = true := decide_eq_true (by omega)
  rcases hY with ⟨h0, k0, ⟨g, ht⟩, hh⟩ | ⟨h0, ⟨g, ht⟩, hh⟩
  · simp only at ht hh
    subst ht hh
    have r0 := NA.row (hp2 y x) rfl
    have r1 := NB.row (hp2 y x) rfl
    have fin := goesT_runsW (tabH_ok conN_ok hcV_ok) (s0 := s) (usub_nil p q n c n' c' k i x y g) (okW rfl (okW r1.1 (okW r0.1 (okOne hl))))
    have hO' : O = [] := List.length_eq_zero_iff.1 (by omega)
    rw [r0.2, r1.2, e1, e2, e3] at fin
    have := fin.kept (k := 2) (b := 3) (base := [y, x]) (y := ([.int .u32 ((dfN A B k i % 65536 : Nat) : Int)], tU)) (front' := [.slice p n c, .slice q n' c', undef, undef, nilS, sl 2 0 1 grown, .int .u32 ((1 - dfN A B k i / 65536 : Nat) : Int), .int .i64 ((i + 1 : Nat) : Int)]) rfl
      (by simp only [List.map_cons, List.map_nil, NA.rn (f := keepK 2 3) rfl, NB.rn (f := keepK 2 3) rfl]; kernel_rfl) (kept_base NA NB rfl rfl) rfl (by omega) (fun v hv => by rw [List.mem_singleton.1 hv]; rfl) (fun v hv => by
        simp only [List.mem_cons, List.not_mem_nil, or_false] at hv
        rcases hv with rfl | rfl | rfl | rfl | rfl | rfl | rfl | rfl
        · exact NA.lt (by omega)
        · exact NB.lt (by omega)
        all_goals rfl)
    refine this.mono fun e z hz => ?_
    obtain ⟨rfl, ⟨g', q1⟩, q2⟩ := hz
    subst hO' h0
    exact ⟨rfl, ⟨g', q1⟩, q2⟩
  · simp only at ht hh
    subst ht hh
    have r0 := NA.row (hu3 (wU O) y x) rfl
    have r1 := NB.row (hu3 (wU O) y x) rfl
    have hchk : appChk tU (wU O, tU) ([.int .u32 ((df A B k i).tmod 65536)], tU) i 0 1 = true :=
      appChk_of (L := O) (M := [(df A B k i).tmod 65536]) hO.symm (show 0 < 1 by omega) (by show O.length + 1 ≤ _; omega)
    have fin := goesT_runsW (tabH_ok conN_ok hcV_ok) (s0 := s) (usub_some p q n c n' c' i k i x y (wU O) g) (by rw [r0.2, r1.2]; exact okW hchk (okW rfl (okW r1.1 (okW r0.1 (okOne hl)))))
    rw [r0.2, r1.2, e1, e2, e3] at fin
    have ew : wU O ++ [.int .u32 ((dfN A B k i % 65536 : Nat) : Int)] = wU (O ++ [((dfN A B k i % 65536 : Nat) : Int)]) := by rw [wU_append]; rfl
    rw [ew] at fin
    exact fin.kept (k := 2) (b := 4) (base := [y, x]) (y := (wU (O ++ [((dfN A B k i % 65536 : Nat) : Int)]), tU)) (front' := [.slice p n c, .slice q n' c', undef, undef, nilS, sl 2 0 (i + 1) grown, .int .u32 ((1 - dfN A B k i / 65536 : Nat) : Int), .int .i64 ((i + 1 : Nat) : Int)]) rfl
      (by simp only [List.map_cons, List.map_nil, NA.rn (f := keepK 2 4) rfl, NB.rn (f := keepK 2 4) rfl]; kernel_rfl) (kept_base NA NB rfl rfl) rfl (by omega) (wU_still _) (fun v hv => by
        simp only [List.mem_cons, List.not_mem_nil, or_false] at hv
        rcases hv with rfl | rfl | rfl | rfl | rfl | rfl | rfl | rfl
        · exact NA.lt (by omega)
        · exact NB.lt (by omega)
        all_goals rfl)
def sSt (x y : List Value × TypeId) (p q : Option Addr) (n c n' c' : Nat) (O : List Int) (i k : Nat) (Y : Lf) : Prop :=
  (i = 0 ∧ k = 0 ∧ (∃ g, Y.1 = [.slice p n c, .slice q n' c', undef, undef, nilS, nilS, .int .u32 (k : Nat), .int .i64 (i : Nat)] ++ tl 27 g) ∧ Y.2.1 = hp2 y x) ∨ (0 < i ∧ (∃ g, Y.1 = [.slice p n c, .slice q n' c', undef, undef, nilS, sl 2 0 i grown, .int .u32 (k : Nat), .int .i64 (i : Nat)] ++ tl 27 g) ∧ Y.2.1 = hu3 (wU O) y x)
def sInv (x y : List Value × TypeId) (p q : Option Addr) (n c n' c' : Nat) (A B : List Int) (m : Nat) (Y : Lf) : Prop :=
  ∃ (i k : Nat) (O : List Int), O.length = i ∧ m = n - i ∧ i ≤ n ∧ k ≤ 1 ∧ (∀ x ∈ O, Dg 65536 x) ∧ vb 65536 O + vb 65536 (B.take i) = vb 65536 (A.take i) + 65536 ^ O.length * k ∧ sSt x y p q n c n' c' O i k Y
def sFin (x y : List Value × TypeId) (p q : Option Addr) (n c n' c' : Nat) (A B : List Int) (Y : Lf) : Prop :=
  ∃ (k : Nat) (O : List Int), O.length = n ∧ (∀ x ∈ O, Dg 65536 x) ∧ vb 65536 O + vb 65536 (B.take n) = vb 65536 A + 65536 ^ n * k ∧ sSt x y p q n c n' c' O n k Y
theorem usub_loop (NA : Nu 0 x p n c A) (NB : Nu 1 y q n' c' B) (lA : A.length = n) (hA : ∀ x ∈ A, Dg 65536 x) (hB : ∀ x ∈ B, Dg 65536 x) (hn : n < 1073741823) (g : Nat → Value) :
    RunsW (tabH Tryd.prog extY conN hcV) (.block 0 (.loop (aLoop Tryd.f50))) ([.slice p n c, .slice q n' c', undef, undef, nilS, nilS, .int .u32 0, .int .i64 0] ++ tl 27 g, hp2 y x, []) fun e Y => match e with | none => sFin x y p q n c n' c' A B Y | some none => False | some (some _) => False := by
  refine RunsW.forLoop (P := sFin x y p q n c n' c' A B) (R := fun _ => False) (sInv x y p q n c n' c' A B) ?_ (n := n) ⟨0, 0, [], rfl, by omega, by omega, by omega, (fun x hx => by cases hx), by simp [vb], .inl ⟨rfl, rfl, ⟨g, rfl⟩, rfl⟩⟩
  rintro m Y ⟨i, k, O, hO, hm, hi, hk, hOd, hval, hY⟩
  by_cases hgo : i < n
  · have r := usub_round NA NB hA hB hk (by omega) hO hgo hY
    refine r.mono fun e z hz => ?_
    obtain ⟨rfl, z1, z2⟩ := hz
    obtain ⟨_, hlt, hsum⟩ := df_eq hA hB hk i
    refine ⟨n - (i + 1), by omega, i + 1, 1 - dfN A B k i / 65536, O ++ [((dfN A B k i % 65536 : Nat) : Int)], by simp [hO], rfl, by omega, by omega, fun x hx => ?_, ?_, .inr ⟨by omega, z1, z2⟩⟩
    · rcases List.mem_append.1 hx with hx | hx
      · exact hOd x hx
      · rw [List.mem_singleton.1 hx]
        exact ⟨by omega, by omega⟩
    · have ha : vb 65536 (A.take (i + 1)) = vb 65536 (A.take i) + 65536 ^ i * dgN A i := vb_take 65536 A i
      have hb : vb 65536 (B.take (i + 1)) = vb 65536 (B.take i) + 65536 ^ i * dgN B i := vb_take 65536 B i
      rw [ha, hb, vb_snoc, Int.toNat_natCast, List.length_append, hO, List.length_singleton, Nat.pow_succ, Nat.mul_assoc]
      rw [hO] at hval
      generalize 65536 ^ i = P at *
      have hq : dfN A B k i / 65536 ≤ 1 := by omega
      have e : dfN A B k i % 65536 + dgN B i + k = dgN A i + 65536 * (1 - dfN A B k i / 65536) := by omega
      have e' : P * (dfN A B k i % 65536) + P * dgN B i + P * k = P * dgN A i + P * (65536 * (1 - dfN A B k i / 65536)) := by rw [← Nat.mul_add, ← Nat.mul_add, ← Nat.mul_add, e]
      omega
  · have hin : i = n := by omega
    subst hin
    have hv : vb 65536 O + vb 65536 (B.take i) = vb 65536 A + 65536 ^ i * k := by
      rw [List.take_of_length_le (show A.length ≤ i by omega), hO] at hval
      exact hval
    have out : ∀ (v : Value) (h : Hp) (g : Nat → Value) (s : List Dec), RunsW (tabH Tryd.prog extY conN hcV) (aLoop Tryd.f50) ([.slice p i c, .slice q n' c', undef, undef, nilS, v, .int .u32 (k : Nat), .int .i64 (i : Nat)] ++ tl 27 g, h, s) fun e z => e = some (some 0) ∧ (∃ g, z.1 = [.slice p i c, .slice q n' c', undef, undef, nilS, v, .int .u32 (k : Nat), .int .i64 (i : Nat)] ++ tl 27 g) ∧ z.2.1 = h := fun v h g s =>
      goesT_runsW (tabH_ok conN_ok hcV_ok) (usub_out p q i c n' c' v k i h g) (okOne (decide_eq_false (by omega)))
    obtain ⟨t, h', s⟩ := Y
    rcases hY with ⟨h0, k0, ⟨g, ht⟩, hh⟩ | ⟨h0, ⟨g, ht⟩, hh⟩
    · simp only at ht hh
      subst ht hh
      refine (out nilS _ g s).mono fun e z hz => ?_
      obtain ⟨rfl, z1, z2⟩ := hz
      exact ⟨rfl, k, O, hO, hOd, hv, .inl ⟨h0, k0, z1, z2⟩⟩
    · simp only at ht hh
      subst ht hh
      refine (out (sl 2 0 i grown) _ g s).mono fun e z hz => ?_
      obtain ⟨rfl, z1, z2⟩ := hz
      exact ⟨rfl, k, O, hO, hOd, hv, .inr ⟨h0, z1, z2⟩⟩
theorem usub_runs (NA : Nu 0 x p n c A) (NB : Nu 1 y q n' c' B) (lA : A.length = n) (hA : ∀ x ∈ A, Dg 65536 x) (hB : ∀ x ∈ B, Dg 65536 x) (hn : n < 1073741823) (h0 : 0 < n) (hle : vb 65536 B ≤ vb 65536 A) {V : Nat} (hV : V = vb 65536 A - vb 65536 B) :
    RunsW (tabH Tryd.prog extY conN hcV) (seqs (aPreV Tryd.f50) (.seq (.seq (aR3 Tryd.f50) (.block 0 (.loop (aLoop Tryd.f50)))) (aEnd Tryd.f50))) ([.slice p n c, .slice q n' c'] ++ List.replicate 33 undef, hp2 y x, []) fun e z => (e = none ∨ e = some none) ∧ resS Tryd.prog Tryd.f50 z.1 z.2.1 = some (sl 2 0 (d16 V).length (d16 V).length) ∧ ∃ r, z.2.1.blk? 2 = some (wU (d16 V) ++ r, tU) := by
  refine goesT_listW (tabH_ok conN_ok hcV_ok) (usub_pre _ _ _) (fun x hx => by cases hx) fun g => ?_
  refine seqW3 (goesT_runsW (tabH_ok conN_ok hcV_ok) (usub_r3 _ _ _ g) (fun x hx => by cases hx)) (fun e y he => by cases he.1) (P2 := fun e Y => match e with | none => sFin x y p q n c n' c' A B Y | some none => False | some (some _) => False) ?_ ?_ ?_
  · rintro ⟨t, h', s⟩ ⟨_, ⟨g', ht⟩, hh⟩
    simp only at ht hh
    subst ht hh
    exact RunsW.script (usub_loop NA NB lA hA hB hn g')
  · intro e y he
    match e, he with
    | none, he => exact he
    | some id, he => exact he
  · rintro ⟨t, h', s⟩ ⟨k, O, hO, hOd, hval, hY⟩
    have hv : vb 65536 O = vb 65536 A - vb 65536 B := by
      have l1 := vb_lt (by omega) A hA
      have l2 := vb_lt (by omega) O hOd
      have hsp : vb 65536 B = vb 65536 (B.take n) + 65536 ^ (B.take n).length * vb 65536 (B.drop n) := by rw [← vb_append, List.take_append_drop]
      rw [lA] at l1
      rw [hO] at l2
      have hpos : 0 < 65536 ^ n := Nat.pow_pos (by omega)
      have hz : 65536 ^ (B.take n).length * vb 65536 (B.drop n) = 0 := by
        by_cases hb : B.length ≤ n
        · rw [List.drop_eq_nil_of_le hb]; simp [vb]
        · have hl : (B.take n).length = n := by rw [List.length_take]; omega
          rw [hl] at hsp ⊢
          rcases Nat.eq_zero_or_pos (vb 65536 (B.drop n)) with h | h
          · rw [h]; rfl
          · have := Nat.le_mul_of_pos_right (65536 ^ n) h
            omega
      have hk : k = 0 := by
        rcases Nat.eq_zero_or_pos k with h | h
        · exact h
        · have := Nat.le_mul_of_pos_right (65536 ^ n) h
          omega
      subst hk
      omega
    rcases hY with ⟨e0, _⟩ | ⟨_, ⟨g', ht⟩, hh⟩
    · omega
    · simp only at ht hh
      subst ht hh
      have hrow : rowC tU (wU O) 0 n grown = true := by
        rw [← hO]
        exact rowC_wU (fun x hx => ⟨(hOd x hx).1, by have := (hOd x hx).2; omega⟩) (by omega) (capG _)
      refine (goesT_runsW (tabH_ok conN_ok hcV_ok) (usub_end _ _ n k n x y (wU O) g') (okOne hrow)).mono fun e z he => ?_
      obtain ⟨rfl, ⟨g2, e1⟩, e2⟩ := he
      have et : trimN (cutI (wU O) 0 n) = (d16 V).length := by
        rw [← hO, cut_wU, trim_len (by omega) hOd, hv, ← hV]
        rfl
      refine ⟨.inr rfl, ?_, ?_⟩
      · rw [e1, e2, et]
        rfl
      · rw [e2]
        refine ⟨wU (O.drop (trimN O)), ?_⟩
        have e3 : wU (d16 V) ++ wU (O.drop (trimN O)) = wU O := by
          unfold d16
          rw [hV, ← hv, ← take_trim (by omega) _ hOd, ← wU_append, List.take_append_drop]
        rw [e3]
        rfl
end
def gUsub : AnsH := fun vals h s =>
  match vals, s with
  | [.slice p n c, .slice q n' c'], .inr (.inr (.inr (.inl d))) :: s' =>
    match d with
    | true => mk16 (vO h p n - vO h q n') h s' [(two16 h p q n c n' c' && Nat.ble (vO h q n') (vO h p n), true), (decide (0 < n), true)]
    | false => some (nilS, h, s', [(two16 h p q n c n' c', true), (decide (0 < n), false)])
  | _, _ => none
theorem gUsub_ok : AnsHOk 50 gUsub := by
  intro vals h s v h' s' lg hg hl m B w E hv
  unfold gUsub at hg
  split at hg
  · rename_i p n c q n' c' d s2
    split at hg
    · unfold mk16 at hg
      cases hg
      have q1 := hl _ (List.mem_cons_self)
      have q2 := hl _ (List.mem_cons_of_mem _ (List.mem_singleton.2 rfl))
      simp only [decide_eq_true_eq, Bool.and_eq_true] at q1 q2
      obtain ⟨q1, q3⟩ := q1
      have q3 := Nat.le_of_ble_eq_true q3
      obtain ⟨r1, r2, d1, d2, hn⟩ := two16_of q1
      obtain ⟨x, p', a, NA, eA, fA⟩ := nu_of 0 r1
      obtain ⟨y, q', b, NB, eB, fB⟩ := nu_of 1 r2
      have r := usub_runs NA NB (rowOf_len r1) d1 d2 (by omega) q2 q3 rfl
      have := row_calls1 (T := tabH Tryd.prog extY conN hcV) Tryd.func50 usub_body (rows_hp2 NA NB) (vals := [.slice p' n c, .slice q' n' c']) (fun v hv => by
        simp only [List.mem_cons, List.not_mem_nil, or_false] at hv
        rcases hv with rfl | rfl
        · exact NA.lt (by show 0 < 2; omega)
        · exact NB.lt (by show 1 < 2; omega)) (k := 2) (cs := wU (d16 (vO h p n - vO h q n'))) (ty := tU) (wU_lt _) (by kernel_rfl) r (by rfl) E (s := pair a b) (fits_hp2 fA fB)
      simp only [List.map_cons, List.map_nil] at this
      rw [eA _ rfl, eB _ rfl] at this
      exact this
    · cases hg
      have q1 := hl _ (List.mem_cons_self)
      have q2 := hl _ (List.mem_cons_of_mem _ (List.mem_singleton.2 rfl))
      simp only [decide_eq_false_iff_not] at q1 q2
      obtain ⟨r1, r2, d1, d2, hn⟩ := two16_of q1
      obtain ⟨x, p', a, NA, eA, fA⟩ := nu_of 0 r1
      obtain ⟨y, q', b, NB, eB, fB⟩ := nu_of 1 r2
      have hr : Runs (tabH Tryd.prog extY conN hcV) (cBody Tryd.f50) ([.slice p' n c, .slice q' n' c'] ++ List.replicate 33 undef, hp2 y x, []) fun e z => (e = none ∨ e = some none) ∧ resS Tryd.prog Tryd.f50 z.1 z.2.1 = some nilS := by
        refine (goesT_runs (tabH_ok conN_ok hcV_ok) (usub_empty p' q' n c n' c' _) (okOne (decide_eq_false (by omega)))).mono fun e z he => ?_
        obtain ⟨rfl, ⟨g, e2⟩, e3⟩ := he
        refine ⟨.inr rfl, ?_⟩
        rw [e2, e3]
        rfl
      have := row_calls0 (T := tabH Tryd.prog extY conN hcV) Tryd.func50 usub_body1 (rows_hp2 NA NB) (vals := [.slice p' n c, .slice q' n' c']) (fun v hv => by
        simp only [List.mem_cons, List.not_mem_nil, or_false] at hv
        rcases hv with rfl | rfl
        · exact NA.lt (by show 0 < 2; omega)
        · exact NB.lt (by show 1 < 2; omega)) (v := nilS) (by rfl) hr.w E (s := pair a b) (fits_hp2 fA fB)
      simp only [List.map_cons, List.map_nil] at this
      rw [eA _ rfl, eB _ rfl] at this
      exact this
  · cases hg
end Go.Proofs.YtmgcnijpoklhkaaDoor
