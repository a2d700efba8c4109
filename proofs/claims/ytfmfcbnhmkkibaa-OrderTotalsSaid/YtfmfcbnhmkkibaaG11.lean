/-
  The document's rows of parts of 16 bits (tillerref02): From, as a call with a row.
-/
import Derived.Test.YtfmfcbnhmkkibaaG10
namespace Go.Proofs.Ytfmfcbnhmkkibaa
open Go.KRun Go.Nt
set_option maxRecDepth 100000

def hcU : Hc := altH 48 gUtrim hcN
theorem hcU_ok : HcOk hcU := altH_ok Try.func48 rfl gUtrim_ok hcN_ok
def fPre (F : Func) : List Code := [cFst (cBody F), cFst (cSnd (cBody F))]
def fR2 (F : Func) : Code := cFst (cFst (cSnd (cSnd (cBody F))))
def fLoop (F : Func) : Code := cIn (cIn (cSnd (cFst (cSnd (cSnd (cBody F))))))
def fEnd (F : Func) : Code := cSnd (cSnd (cSnd (cBody F)))
def ux (x : Int) : List Value := [.int .u32 (x.tmod 65536), .int .u32 (IntKind.u32.wrap (x.tdiv 65536))]
def lAt (l : List Value) (o n : Nat) (i x : Int) : Log := [(cellIs (l[o + i.toNat * 1]?) (.int .u32 x), true), (decide (0 ≤ i ∧ i < n), true), (decide ((65536 : Int) = 0), false), (cellIs (l[o + i.toNat * 1]?) (.int .u32 x), true), (decide (0 ≤ i ∧ i < n), true), (decide (i < n), true)]
theorem ux_eq {x : Int} (h : 0 ≤ x ∧ x < 4294967296) : ux x = wU (fl [x]) := by
  unfold ux wU fl fl
  rw [Int.tmod_eq_emod_of_nonneg h.1, Int.tdiv_eq_ediv_of_nonneg h.1]
  have e : IntKind.u32.wrap (x / 65536) = x / 65536 := by
    simp [IntKind.wrap, IntKind.bits, IntKind.signed]; omega
  rw [e]
  rfl
theorem wU_still (L : List Int) : ∀ v ∈ wU L, still v = true := fun v hv => by
  unfold wU at hv
  obtain ⟨x, _, rfl⟩ := List.mem_map.1 hv
  rfl
theorem wU_one (L : List Int) : (wU L).all one = true := List.all_eq_true.2 fun v hv => by
  unfold wU at hv
  obtain ⟨x, _, rfl⟩ := List.mem_map.1 hv
  rfl
theorem wU_append (L M : List Int) : wU (L ++ M) = wU L ++ wU M := by simp [wU]
theorem wU_len (L : List Int) : (wU L).length = L.length := by simp [wU]
theorem cut_wU (L : List Int) : cutI (wU L) 0 L.length = L := by
  unfold cutI cutV
  rw [List.drop_zero, ← wU_len, List.take_length]
  unfold wU
  rw [List.map_map]
  exact List.map_id' _
theorem rowC_wU {L : List Int} (h : ∀ x ∈ L, 0 ≤ x ∧ x < 4294967296) (hl : L.length < 4611686018427387904) {c : Nat} (hc : capOk 0 L.length c = true) : rowC tU (wU L) 0 L.length c = true := by
  unfold rowC
  have e1 : tomb tU = false := by kernel_rfl
  have e2 : Nat.beq (rt tU) tU = true := by kernel_rfl
  have e3 : Nat.ble (0 + L.length) (wU L).length = true := Nat.ble_eq_true_of_le (by rw [wU_len]; omega)
  have e4 : Nat.blt L.length 4611686018427387904 = true := blt_iff.2 hl
  have e5 : ((cutV (wU L) 0 L.length).all isU) = true := by
    unfold cutV
    rw [List.drop_zero, ← wU_len, List.take_length]
    refine List.all_eq_true.2 fun v hv => ?_
    unfold wU at hv
    obtain ⟨x, hx, rfl⟩ := List.mem_map.1 hv
    exact decide_eq_true (h x hx)
  have e6 : ((wU L).all still) = true := List.all_eq_true.2 fun v hv => by
    unfold wU at hv
    obtain ⟨x, _, rfl⟩ := List.mem_map.1 hv
    rfl
  rw [e1, e2, e3, e4, hc, e5, e6]
  rfl
theorem appChk_of {L M : List Int} {k : Nat} (hk : k = L.length) (hM : 0 < M.length) (hb : L.length + M.length ≤ 1073741824) : appChk tU (wU L, tU) (wU M, tU) k 0 M.length = true := by
  subst hk
  unfold appChk
  simp only [Bool.and_eq_true, Bool.not_eq_true', wU_len]
  refine ⟨⟨⟨⟨⟨⟨⟨⟨Nat.beq_refl _, Nat.ble_eq_true_of_le hb⟩, by kernel_rfl⟩, by kernel_rfl⟩, by kernel_rfl⟩, by kernel_rfl⟩, Nat.ble_eq_true_of_le (by omega)⟩, blt_iff.2 hM⟩, ?_⟩
  rw [List.drop_zero, ← wU_len, List.take_length]
  exact wU_one M
theorem capG (n : Nat) : capOk 0 n grown = true := by unfold capOk; rw [show Nat.beq grown grown = true from by kernel_rfl, show Nat.beq 0 0 = true from rfl]; simp
theorem getD_get {L : List Int} {k : Nat} (h : k < L.length) : L.getD k 0 = L[k] := by simp [List.getD, List.getElem?_eq_getElem h]
theorem take_succ' {L : List Int} {k : Nat} (h : k < L.length) : L.take (k + 1) = L.take k ++ [L.getD k 0] := by
  rw [getD_get h, List.take_add_one, List.getElem?_eq_getElem h]
  rfl
/-- the rounds of From -/
def fInv (l : List Value) (o c : Nat) (L : List Int) (k : Nat) (y : Lf) : Prop :=
  ∃ i : Nat, k = L.length - i ∧ i ≤ L.length ∧ ((i = 0 ∧ (∃ g, y.1 = [sl 0 o L.length c, undef, nilS, nilS, .int .i64 0] ++ tl 21 g) ∧ y.2.1 = ⟨1, [(l, tR)]⟩) ∨
    (0 < i ∧ (∃ g, y.1 = [sl 0 o L.length c, undef, nilS, sl 1 0 (2 * i) grown, .int .i64 (i : Nat)] ++ tl 21 g) ∧ y.2.1 = ⟨2, [(wU (fl (L.take i)), tU), (l, tR)]⟩))
def fOut (l : List Value) (o c : Nat) (L : List Int) (y : Lf) : Prop :=
  (L.length = 0 ∧ (∃ g, y.1 = [sl 0 o L.length c, undef, nilS, nilS, .int .i64 0] ++ tl 21 g) ∧ y.2.1 = ⟨1, [(l, tR)]⟩) ∨
    (0 < L.length ∧ (∃ g, y.1 = [sl 0 o L.length c, undef, nilS, sl 1 0 (2 * L.length) grown, .int .i64 (L.length : Nat)] ++ tl 21 g) ∧ y.2.1 = ⟨2, [(wU (fl L), tU), (l, tR)]⟩)
theorem lt_words {L : List Int} {k : Nat} (h : ∀ x ∈ L, 0 ≤ x ∧ x < 4294967296) (hk : k < L.length) : 0 ≤ L.getD k 0 ∧ L.getD k 0 < 4294967296 := by
  rw [getD_get hk]
  exact h _ (List.getElem_mem hk)
theorem seqW3 {T : Tab} {a b c : Code} {x : Lf} {P1 P2 P : Ex → Lf → Prop} (h1 : RunsW T a x P1) (n1 : ∀ e y, P1 (some e) y → False) (h2 : ∀ y, P1 none y → RunsW T b y P2) (n2 : ∀ e y, P2 (some e) y → False) (h3 : ∀ y, P2 none y → RunsW T c y P) : RunsW T (.seq (.seq a b) c) x P :=
  RunsW.seq (P1 := P2) (RunsW.seq (P1 := P1) h1 h2 (fun e y he => (n1 e y he).elim)) h3 (fun e y he => (n2 e y he).elim)
/-- a row's number, of words of 32 bits -/
def v32 (l : List Value) (o n : Nat) : Nat := vb 4294967296 (cutI l o n)
def d16 (V : Nat) : List Int := db 65536 V
theorem wU_lt (L : List Int) : ∀ u ∈ wU L, lt1 0 u = true := fun v hv => by
  unfold wU at hv
  obtain ⟨x, _, rfl⟩ := List.mem_map.1 hv
  rfl
end Go.Proofs.Ytfmfcbnhmkkibaa

/-
  The document's rows of parts of 16 bits (tillerref02): a row or nothing, told by its place; at, as a call.
-/
namespace Go.Proofs.Ytfmfcbnhmkkibaa
open Go.KRun Go.Nt
set_option maxRecDepth 100000

/-- the words of a row or of nothing -/
def rowOf (h : Hp) (p : Option Addr) (n : Nat) : List Int :=
  match p with
  | none => []
  | some a =>
    match h.blk? a.block with
    | some x => cutI x.1 a.off n
    | none => []
/-- it is one -/
def rowP (h : Hp) (p : Option Addr) (n c : Nat) : Bool :=
  match p with
  | none => Nat.beq n 0 && Nat.beq c 0
  | some a =>
    match a.spot, h.blk? a.block with
    | none, some x => rowC x.2 x.1 a.off n c && x.1.all still
    | _, _ => false
/-- the part at a place, 0 outside -/
def atN (L : List Int) (i : Int) : Int := if 0 ≤ i then L.getD i.toNat 0 else 0
theorem rowP_cases {h : Hp} {p : Option Addr} {n c : Nat} (hr : rowP h p n c = true) : (p = none ∧ n = 0 ∧ c = 0 ∧ rowOf h p n = []) ∨ ∃ b o x, p = some ⟨b, o, none⟩ ∧ h.blk? b = some x ∧ rowC x.2 x.1 o n c = true ∧ (∀ v ∈ x.1, still v = true) ∧ rowOf h p n = cutI x.1 o n := by
  unfold rowP at hr
  split at hr
  · simp only [Bool.and_eq_true] at hr
    exact .inl ⟨rfl, Nat.eq_of_beq_eq_true hr.1, Nat.eq_of_beq_eq_true hr.2, rfl⟩
  · rename_i a
    split at hr
    · rename_i x hs hx
      simp only [Bool.and_eq_true] at hr
      obtain ⟨b, o, sp⟩ := a
      simp only at hs hx
      subst hs
      exact .inr ⟨b, o, x, rfl, hx, hr.1, List.all_eq_true.1 hr.2, by simp [rowOf, hx]⟩
    · cases hr
theorem at_body : Try.f47.body = some (cBody Try.f47) := by kernel_rfl
theorem at_in (o n c : Nat) (i x : Int) (l : List Value) : GoesT (evC (tabOf Try.prog extY conN true) 100 false (cBody Try.f47) ([sl 0 o n c, .int .i64 i] ++ List.replicate 15 undef, ⟨1, [(l, tR)]⟩, [cmp true, cmp true, at_, val (.int .u32 x)]) ⟨[], [], []⟩) 5 12 (some none) [sl 0 o n c, .int .i64 i, undef, undef, .int .u32 x] ⟨1, [(l, tR)]⟩ [(cellIs (l[o + i.toNat * 1]?) (.int .u32 x), true), (decide (0 ≤ i ∧ i < n), true), (decide (i < n), true), (decide (i ≥ 0), true)] := ⟨by kernel_rfl, by kernel_rfl, by kernel_rfl⟩
theorem at_over (p : Option Addr) (n c : Nat) (i : Int) (h : Hp) : GoesT (evC (tabOf Try.prog extY conN true) 100 false (cBody Try.f47) ([.slice p n c, .int .i64 i] ++ List.replicate 15 undef, h, [cmp true, cmp false]) ⟨[], [], []⟩) 5 12 (some none) [.slice p n c, .int .i64 i, undef, undef, .int .u32 0] h [(decide (i < n), false), (decide (i ≥ 0), true)] := ⟨by kernel_rfl, by kernel_rfl, by kernel_rfl⟩
theorem at_under (p : Option Addr) (n c : Nat) (i : Int) (h : Hp) : GoesT (evC (tabOf Try.prog extY conN true) 100 false (cBody Try.f47) ([.slice p n c, .int .i64 i] ++ List.replicate 15 undef, h, [cmp false]) ⟨[], [], []⟩) 5 12 (some none) [.slice p n c, .int .i64 i, undef, undef, .int .u32 0] h [(decide (i ≥ 0), false)] := ⟨by kernel_rfl, by kernel_rfl, by kernel_rfl⟩
theorem at_none {p : Option Addr} {n c : Nat} {i : Int} {h : Hp} (hi : i < 0 ∨ (n : Int) ≤ i) : Runs (tabOf Try.prog extY conN true) (cBody Try.f47) ([.slice p n c, .int .i64 i] ++ List.replicate 15 undef, h, []) fun e y => (e = none ∨ e = some none) ∧ resS Try.prog Try.f47 y.1 y.2.1 = some (.int .u32 0) := by
  by_cases h0 : i < 0
  · refine (goesT_runs (tabY_ok conN_ok) (at_under p n c i h) (okOne (decide_eq_false (by omega)))).mono fun e y he => ?_
    obtain ⟨rfl, ⟨g, e2⟩, e3⟩ := he
    refine ⟨.inr rfl, ?_⟩
    rw [e2, e3]
    rfl
  · refine (goesT_runs (tabY_ok conN_ok) (at_over p n c i h) (okTwo (decide_eq_false (by omega)) (okOne (decide_eq_true (by omega))))).mono fun e y he => ?_
    obtain ⟨rfl, ⟨g, e2⟩, e3⟩ := he
    refine ⟨.inr rfl, ?_⟩
    rw [e2, e3]
    rfl
theorem at_runs {l : List Value} {o c : Nat} {L : List Int} (i : Int) (hR : Row l o L) :
    Runs (tabOf Try.prog extY conN true) (cBody Try.f47) ([sl 0 o L.length c, .int .i64 i] ++ List.replicate 15 undef, ⟨1, [(l, tR)]⟩, []) fun e y => (e = none ∨ e = some none) ∧ resS Try.prog Try.f47 y.1 y.2.1 = some (.int .u32 (atN L i)) := by
  by_cases hi : i < 0 ∨ (L.length : Int) ≤ i
  · have e0 : atN L i = 0 := by
      unfold atN
      split
      · have : L.length ≤ i.toNat := by omega
        simp [List.getD, List.getElem?_eq_none this]
      · rfl
    rw [e0]
    exact at_none hi
  · have h0 : 0 ≤ i := by omega
    have hlt : i.toNat < L.length := by omega
    have e0 : atN L i = L.getD i.toNat 0 := by unfold atN; rw [if_pos h0]
    rw [e0]
    have hc := hR.cell hlt
    refine (goesT_runs (tabY_ok conN_ok) (at_in o L.length c i (L.getD i.toNat 0) l) (okTwo (by rw [Nat.mul_one, hc]; simp [cellIs]) (okTwo (decide_eq_true (by omega)) (okTwo (decide_eq_true (by omega)) (okOne (decide_eq_true (by omega))))))).mono fun e y he => ?_
    obtain ⟨rfl, ⟨g, e2⟩, e3⟩ := he
    refine ⟨.inr rfl, ?_⟩
    rw [e2, e3]
    rfl
def gAt : AnsH := fun vals h s =>
  match vals with
  | [.slice p n c, .int .i64 i] => some (.int .u32 (atN (rowOf h p n) i), h, s, [(rowP h p n c, true)])
  | _ => none
theorem gAt_ok : AnsHOk 47 gAt := by
  intro vals h s v h' s' lg hg hl m B w E hv
  unfold gAt at hg
  split at hg
  · rename_i p n c i
    cases hg
    have q := hl _ (List.mem_singleton.2 rfl)
    simp only at q
    rcases rowP_cases q with ⟨rfl, rfl, rfl, e0⟩ | ⟨b, o, x, rfl, hx, q1, _, e0⟩
    · rw [e0]
      have hz : atN [] i = 0 := by unfold atN; split <;> simp
      rw [hz]
      have hi : i < 0 ∨ ((0 : Nat) : Int) ≤ i := by omega
      refine (calls_of_runs (T := tabOf Try.prog extY conN true) Try.func47 at_body (vals := [nilS, .int .i64 i]) (v := .int .u32 0) (by rfl) (by rfl) (at_none (p := none) (n := 0) (c := 0) (i := i) (h := ⟨0, []⟩) hi) w).mono fun e w' he => ?_
      obtain ⟨E', hb⟩ := clean_emb E he.2
      exact ⟨m, he.1, ⟨Agree.refl _ _, E', hb, Nat.le_refl _, rfl⟩⟩
    · rw [e0]
      obtain ⟨h1, h2, h3, h4, h5, h6, h7⟩ := rowC_of q1
      have hlt := Hp.blk_lt hx
      have r := at_runs (c := c) i h1
      rw [h2] at r
      have := row_calls (T := tabOf Try.prog extY conN true) Try.func47 at_body (rows1 h7) (vals := [sl 0 o n c, .int .i64 i]) (fun v hv => by
        simp only [List.mem_cons, List.not_mem_nil, or_false] at hv
        rcases hv with rfl | rfl <;> rfl) (by rfl) r E (s := fun _ => b) (fun i _ => hlt) (fitsR1 hx h5 h6 rfl)
      exact this.mono fun e w' he => ⟨m, he.1, he.2⟩
  · cases hg
def hcV : Hc := altH 47 gAt hcU
theorem hcV_ok : HcOk hcV := altH_ok Try.func47 rfl gAt_ok hcU_ok
end Go.Proofs.Ytfmfcbnhmkkibaa

/-
  The document's rows of parts of 16 bits (tillerref02): a caller's row in the smallest memory; Add, as a call with rows or nothing.
-/
namespace Go.Proofs.Ytfmfcbnhmkkibaa
open Go.KRun Go.Nt
set_option maxRecDepth 100000

/-- a row or nothing, in block i of a small memory -/
structure Nu (i : Nat) (x : List Value × TypeId) (p : Option Addr) (n c : Nat) (A : List Int) : Prop where
  row : ∀ h : Hp, h.blk? i = some x → rowP h p n c = true ∧ rowOf h p n = A
  pos : p = none ∨ ∃ o, p = some ⟨i, o, none⟩
  st : ∀ v ∈ x.1, still v = true
  lt0 : ∀ v ∈ x.1, still v = true
  ros : ro x.2 = true ∧ ab x.2 = false
theorem Nu.rn {i : Nat} {x : List Value × TypeId} {p : Option Addr} {n c : Nat} {A : List Int} (h : Nu i x p n c A) {f : Nat → Nat} (hf : f i = i) : KRun.rn f (.slice p n c) = .slice p n c := by
  rcases h.pos with rfl | ⟨o, rfl⟩
  · rfl
  · show Value.slice (some ⟨f i, o, none⟩) n c = _
    rw [hf]
theorem Nu.lt {i : Nat} {x : List Value × TypeId} {p : Option Addr} {n c : Nat} {A : List Int} (h : Nu i x p n c A) {k : Nat} (hk : i < k) : KRun.lt k (.slice p n c) = true := by
  rcases h.pos with rfl | ⟨o, rfl⟩
  · rfl
  · exact blt_iff.2 hk
/-- a caller's row in the smallest memory -/
theorem nu_of {h : Hp} {p : Option Addr} {n c : Nat} (i : Nat) (hr : rowP h p n c = true) : ∃ x p' b, Nu i x p' n c (rowOf h p n) ∧ (∀ s : Nat → Nat, s i = b → rn s (.slice p' n c) = .slice p n c) ∧ (tomb x.2 = false → ∃ y r, h.blk? b = some y ∧ tomb y.2 = false ∧ rt y.2 = rt x.2 ∧ y.1 = x.1 ++ r) := by
  rcases rowP_cases hr with ⟨rfl, rfl, rfl, e0⟩ | ⟨b, o, x, rfl, hx, q1, q2, e0⟩
  · refine ⟨([], 2 * dead), none, 0, ⟨fun h' _ => ⟨rfl, by rw [e0]; rfl⟩, .inl rfl, (fun v hv => by cases hv), (fun v hv => by cases hv), (by kernel_rfl), (by kernel_rfl)⟩, fun s _ => rfl, fun ht => ?_⟩
    rw [show tomb (2 * dead) = true from by kernel_rfl] at ht
    cases ht
  · obtain ⟨h1, h2, h3, h4, h5, h6, h7⟩ := rowC_of q1
    refine ⟨(x.1, tR), some ⟨i, o, none⟩, b, ⟨fun h' hb => ⟨?_, ?_⟩, .inr ⟨o, rfl⟩, q2, h7, tR_ro, tR_ab⟩, fun s hs => ?_, fun _ => ⟨x, [], hx, h5, by rw [h6]; exact tR_rt.symm, by simp⟩⟩
    · simp only [rowP, hb, Bool.and_eq_true]
      refine ⟨?_, List.all_eq_true.2 q2⟩
      unfold rowC at q1 ⊢
      simp only [Bool.and_eq_true, Bool.not_eq_true'] at q1 ⊢
      obtain ⟨⟨⟨⟨⟨⟨_, _⟩, p3⟩, p4⟩, p5⟩, p6⟩, p7⟩ := q1
      exact ⟨⟨⟨⟨⟨⟨tR_tomb, by kernel_rfl⟩, p3⟩, p4⟩, p5⟩, p6⟩, p7⟩
    · rw [e0]
      simp [rowOf, hb]
    · show Value.slice (some ⟨s i, o, none⟩) n c = _
      rw [hs]
/-- digits to the base 65536 -/
def dgB (L : List Int) : Bool := L.all fun x => decide (0 ≤ x ∧ x < 65536)
theorem dgB_of {L : List Int} (h : dgB L = true) : ∀ x ∈ L, Dg 65536 x := fun x hx => of_decide_eq_true (List.all_eq_true.1 h x hx)
theorem dgB_mk {L : List Int} (h : ∀ x ∈ L, Dg 65536 x) : dgB L = true := List.all_eq_true.2 fun x hx => decide_eq_true (h x hx)
theorem rowOf_len {h : Hp} {p : Option Addr} {n c : Nat} (hr : rowP h p n c = true) : (rowOf h p n).length = n := by
  rcases rowP_cases hr with ⟨rfl, rfl, rfl, e0⟩ | ⟨b, o, x, rfl, hx, q1, q2, e0⟩
  · rw [e0]; rfl
  · rw [e0]; exact (rowC_of q1).2.1
theorem at_dg {L : List Int} (h : ∀ x ∈ L, Dg 65536 x) (i : Nat) : Dg 65536 (L.getD i 0) := by
  by_cases hi : i < L.length
  · rw [getD_get hi]; exact h _ (List.getElem_mem hi)
  · rw [show L.getD i 0 = 0 from by simp [List.getD, List.getElem?_eq_none (show L.length ≤ i by omega)]]
    exact ⟨by omega, by omega⟩
theorem atN_nat (L : List Int) (i : Nat) : atN L (i : Int) = L.getD i 0 := by unfold atN; rw [if_pos (by omega), Int.toNat_natCast]

/-! ### Add -/
def aPreV (F : Func) : List Code := [cFst (cBody F), cFst (cSnd (cBody F)), cFst (cSnd (cSnd (cBody F)))]
def aR3 (F : Func) : Code := cFst (cFst (cSnd (cSnd (cSnd (cBody F)))))
def aLoop (F : Func) : Code := cIn (cIn (cSnd (cFst (cSnd (cSnd (cSnd (cBody F)))))))
def aEnd (F : Func) : Code := cSnd (cSnd (cSnd (cSnd (cBody F))))
def sm (A B : List Int) (k i : Int) : Int := IntKind.u32.wrap (IntKind.u32.wrap (k + atN A i) + atN B i)
def hu3 (lo : List Value) (y x : List Value × TypeId) : Hp := ⟨3, [(lo, tU), y, x]⟩
def hp2 (y x : List Value × TypeId) : Hp := ⟨2, [y, x]⟩
/-- how the condition of Add's loop comes to be true: the first row, the second, the carry -/
def aScr (w : Nat) : List Dec := match w with | 0 => [cmp true] | 1 => [cmp false, cmp true] | _ => [cmp false, cmp false, cmp true]
def aLog (w : Nat) (n n' : Nat) (k i : Int) : Log := match w with | 0 => [(decide (i < n), true)] | 1 => [(decide (i < n'), true), (decide (i < n), false)] | _ => [(decide (k > 0), true), (decide (i < n'), false), (decide (i < n), false)]
def rP (h : Hp) (p : Option Addr) (n c : Nat) : Bool × Bool := (rowP h p n c, true)
end Go.Proofs.Ytfmfcbnhmkkibaa
