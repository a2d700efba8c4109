/-
  ConV1, NumW, ConV2, ConV3, ConV4
-/
import Derived.Test.YtdlpffgekmidnaaDoorG11
namespace Go.Proofs.YtdlpffgekmidnaaDoor
open Go.KRun Go.Nt
set_option maxRecDepth 100000
def uPre (F : Func) : List Code := [cFst (cBody F), cFst (cSnd (cBody F))]
def uLoop (F : Func) : Code := cIn (cIn (cFst (cSnd (cSnd (cBody F)))))
def uEnd (F : Func) : Code := cSnd (cSnd (cSnd (cBody F)))
theorem utrim_body : Tryd.f35.body = some (seqs (uPre Tryd.f35) (.seq (.block 0 (.loop (uLoop Tryd.f35))) (uEnd Tryd.f35))) := by kernel_rfl
theorem utr_pre (p : Option Addr) (n c : Nat) (h : Hp) : GoesT (evL (tabOf Tryd.prog extY conN true) 100 (uPre Tryd.f35) ([.slice p n c] ++ List.replicate 21 undef, h, []) ⟨[], [], []⟩) 4 18 none [.slice p n c, undef, nilS, .int .i64 n] h [] := ⟨by kernel_rfl, by kernel_rfl, by kernel_rfl⟩
def i1 (k : Int) : Int := IntKind.i64.wrap (k - 1)
theorem utr_go (o n c : Nat) (k x : Int) (l : List Value) (j1 j2 : Value) (g : Nat → Value) : GoesT (evC (tabOf Tryd.prog extY conN true) 100 false (uLoop Tryd.f35) ([sl 0 o n c, j1, j2, .int .i64 k] ++ tl 18 g, ⟨1, [(l, tR)]⟩, [cmp true, at_, val (.int .u32 x), cmp true]) ⟨[], [], []⟩) 4 18 none [sl 0 o n c, j1, j2, .int .i64 (i1 k)] ⟨1, [(l, tR)]⟩
    [(x == 0, true), (cellIs (l[o + (i1 k).toNat * 1]?) (.int .u32 x), true), (decide (0 ≤ i1 k ∧ i1 k < n), true), (decide (k > 0), true)] := ⟨by kernel_rfl, by kernel_rfl, by kernel_rfl⟩
theorem utr_out1 (o n c : Nat) (k x : Int) (l : List Value) (j1 j2 : Value) (g : Nat → Value) : GoesT (evC (tabOf Tryd.prog extY conN true) 100 false (uLoop Tryd.f35) ([sl 0 o n c, j1, j2, .int .i64 k] ++ tl 18 g, ⟨1, [(l, tR)]⟩, [cmp true, at_, val (.int .u32 x), cmp false]) ⟨[], [], []⟩) 4 18 (some (some 0)) [sl 0 o n c, j1, j2, .int .i64 k] ⟨1, [(l, tR)]⟩
    [(x == 0, false), (cellIs (l[o + (i1 k).toNat * 1]?) (.int .u32 x), true), (decide (0 ≤ i1 k ∧ i1 k < n), true), (decide (k > 0), true)] := ⟨by kernel_rfl, by kernel_rfl, by kernel_rfl⟩
theorem utr_out0 (v : Value) (k : Int) (h : Hp) (j1 j2 : Value) (g : Nat → Value) : GoesT (evC (tabOf Tryd.prog extY conN true) 100 false (uLoop Tryd.f35) ([v, j1, j2, .int .i64 k] ++ tl 18 g, h, [cmp false]) ⟨[], [], []⟩) 4 18 (some (some 0)) [v, j1, j2, .int .i64 k] h [(decide (k > 0), false)] := ⟨by kernel_rfl, by kernel_rfl, by kernel_rfl⟩
theorem utr_end (o n c k : Nat) (l : List Value) (j1 j2 : Value) (g : Nat → Value) : GoesT (evC (tabOf Tryd.prog extY conN true) 100 false (uEnd Tryd.f35) ([sl 0 o n c, j1, j2, .int .i64 k] ++ tl 18 g, ⟨1, [(l, tR)]⟩, [num 0]) ⟨[], [], []⟩) 4 18 (some none) [sl 0 o n c, j1, sl 0 o k k, .int .i64 k] ⟨1, [(l, tR)]⟩
    [(smallC c, true), (okPart 0 k k c, true), (decide ((k : Int) = 0 ∧ (0 : Int) ≠ 0), false)] := ⟨by kernel_rfl, by kernel_rfl, by kernel_rfl⟩
theorem utr_endg (n k : Nat) (l : List Value) (j1 j2 : Value) (g : Nat → Value) : GoesT (evC (tabOf Tryd.prog extY conN true) 100 false (uEnd Tryd.f35) ([sl 0 0 n grown, j1, j2, .int .i64 k] ++ tl 18 g, ⟨1, [(l, tR)]⟩, [at_]) ⟨[], [], []⟩) 4 18 (some none) [sl 0 0 n grown, j1, sl 0 0 k k, .int .i64 k] ⟨1, [(l, tR)]⟩
    [(okPart 0 k k n, true), (decide ((k : Int) = 0 ∧ (0 : Int) ≠ 0), false), (!(tomb tR) && Nat.ble n l.length, true)] := ⟨by kernel_rfl, by kernel_rfl, by kernel_rfl⟩
/-- a capacity that is known, or the whole block's -/
def capOk (o n c : Nat) : Bool := (smallC c && Nat.ble n c) || (Nat.beq c grown && Nat.beq o 0)
theorem utrim_runs {l : List Value} {o c : Nat} {L : List Int} (hR : Row l o L) (hL : L.length < 4611686018427387904) (hc : capOk o L.length c = true) :
    Runs (tabOf Tryd.prog extY conN true) (seqs (uPre Tryd.f35) (.seq (.block 0 (.loop (uLoop Tryd.f35))) (uEnd Tryd.f35))) ([sl 0 o L.length c] ++ List.replicate 21 undef, ⟨1, [(l, tR)]⟩, []) fun e y => (e = none ∨ e = some none) ∧ resS Tryd.prog Tryd.f35 y.1 y.2.1 = some (sl 0 o (trimN L) (trimN L)) := by
  refine goesT_list (tabY_ok conN_ok) (utr_pre _ _ _ _) (fun x hx => by cases hx) fun g => ?_
  refine Runs.seq (P1 := fun e y => e = none ∧ (∃ g, y.1 = [sl 0 o L.length c, undef, nilS, .int .i64 (trimN L : Nat)] ++ tl 18 g) ∧ y.2.1 = ⟨1, [(l, tR)]⟩) ?_ ?_ (fun e y he => by cases he.1)
  · refine (Runs.forLoop (P := fun y => (∃ g, y.1 = [sl 0 o L.length c, undef, nilS, .int .i64 (trimN L : Nat)] ++ tl 18 g) ∧ y.2.1 = ⟨1, [(l, tR)]⟩) (R := fun _ => False) (fun n y => (∃ g, y.1 = [sl 0 o L.length c, undef, nilS, .int .i64 (n : Nat)] ++ tl 18 g) ∧ y.2.1 = ⟨1, [(l, tR)]⟩ ∧ n ≤ L.length ∧ ∀ i, n ≤ i → L.getD i 0 = 0) ?_ (n := L.length) ⟨⟨g, rfl⟩, rfl, Nat.le_refl _, fun i hi => by simp [List.getD, List.getElem?_eq_none hi]⟩).mono fun e y he => ?_
    · rintro n ⟨t, h', s⟩ ⟨⟨g, ht⟩, hh, hle, hz⟩
      simp only at ht hh
      subst ht hh
      cases n with
      | zero =>
        refine (goesT_runs (tabY_ok conN_ok) (utr_out0 _ _ _ undef nilS g) (okOne (by rfl))).mono fun e y he => ?_
        obtain ⟨rfl, ⟨g', h2⟩, h3⟩ := he
        have e0 : trimN L = 0 := trimN_uniq hz (.inl rfl)
        exact ⟨rfl, ⟨g', by rw [h2, e0]⟩, h3⟩
      | succ k =>
        have ek : i1 ((k + 1 : Nat) : Int) = (k : Int) := by
          unfold i1
          rw [wrapI (by omega) (by omega)]
          omega
        have hcell := hR.cell (k := k) (by omega)
        have hce : cellIs (l[o + (i1 ((k + 1 : Nat) : Int)).toNat * 1]?) (.int .u32 (L.getD k 0)) = true := by
          rw [ek, Int.toNat_natCast, Nat.mul_one, hcell]
          simp [cellIs]
        have hix : decide (0 ≤ i1 ((k + 1 : Nat) : Int) ∧ i1 ((k + 1 : Nat) : Int) < (L.length : Int)) = true := by rw [ek]; exact decide_eq_true (by omega)
        have hgt : decide (((k + 1 : Nat) : Int) > 0) = true := decide_eq_true (by omega)
        by_cases hx : L.getD k 0 = 0
        · refine (goesT_runs (tabY_ok conN_ok) (utr_go o L.length c ((k + 1 : Nat) : Int) (L.getD k 0) l undef nilS g) (okTwo (by rw [hx]; rfl) (okTwo hce (okTwo hix (okOne hgt))))).mono fun e y he => ?_
          obtain ⟨rfl, ⟨g', h2⟩, h3⟩ := he
          rw [ek] at h2
          refine ⟨k, by omega, ⟨g', h2⟩, h3, by omega, fun i hi => ?_⟩
          rcases Nat.lt_or_ge k i with h | h
          · exact hz i h
          · have : i = k := by omega
            rw [this]; exact hx
        · refine (goesT_runs (tabY_ok conN_ok) (utr_out1 o L.length c ((k + 1 : Nat) : Int) (L.getD k 0) l undef nilS g) (okTwo (by simpa using hx) (okTwo hce (okTwo hix (okOne hgt))))).mono fun e y he => ?_
          obtain ⟨rfl, ⟨g', h2⟩, h3⟩ := he
          have e0 : trimN L = k + 1 := trimN_uniq hz (.inr (by simpa using hx))
          exact ⟨rfl, ⟨g', by rw [h2, e0]⟩, h3⟩
    · match e, he with
      | none, he => exact ⟨rfl, he⟩
  · rintro ⟨t, h', s⟩ ⟨_, ⟨g', ht⟩, hh⟩
    simp only at ht hh
    subst ht hh
    have hle := trimN_le L
    have hp : okPart 0 (trimN L : Nat) (trimN L : Nat) (L.length : Nat) = true := by unfold okPart; exact decide_eq_true (by omega)
    unfold capOk at hc
    simp only [Bool.or_eq_true, Bool.and_eq_true] at hc
    rcases hc with ⟨h1, h2⟩ | ⟨h1, h2⟩
    · have h2 := Nat.le_of_ble_eq_true h2
      have h1' : c < 4611686018427387904 := blt_iff.1 h1
      refine (goesT_runs (tabY_ok conN_ok) (utr_end o L.length c (trimN L) l undef nilS g') (okTwo h1 (okTwo (by unfold okPart; exact decide_eq_true (by omega)) (okOne (decide_eq_false (by omega)))))).mono fun e y he => ?_
      obtain ⟨rfl, ⟨g2, h2⟩, h3⟩ := he
      refine ⟨.inr rfl, ?_⟩
      rw [h2, h3]
      rfl
    · have h1 := Nat.eq_of_beq_eq_true h1
      have h2 := Nat.eq_of_beq_eq_true h2
      subst h1 h2
      have hlen := hR.len
      refine (goesT_runs (tabY_ok conN_ok) (utr_endg L.length (trimN L) l undef nilS g') (okTwo hp (okTwo (decide_eq_false (by omega)) (okOne (by
        rw [tR_tomb, Nat.ble_eq_true_of_le (by omega)]; rfl))))).mono fun e y he => ?_
      obtain ⟨rfl, ⟨g2, h2⟩, h3⟩ := he
      refine ⟨.inr rfl, ?_⟩
      rw [h2, h3]
      rfl
/-- a row of words, its capacity known or the whole block's -/
def rowC (ty : TypeId) (l : List Value) (o n c : Nat) : Bool := !(tomb ty) && Nat.beq (rt ty) tU && Nat.ble (o + n) l.length && Nat.blt n 4611686018427387904 && capOk o n c && (cutV l o n).all isU && l.all still
theorem rowC_of {ty : TypeId} {l : List Value} {o n c : Nat} (h : rowC ty l o n c = true) : Row l o (cutI l o n) ∧ (cutI l o n).length = n ∧ n < 4611686018427387904 ∧ capOk o n c = true ∧ tomb ty = false ∧ rt ty = tU ∧ ∀ v ∈ l, still v = true := by
  unfold rowC at h
  simp only [Bool.and_eq_true, Bool.not_eq_true'] at h
  obtain ⟨⟨⟨⟨⟨⟨h1, h2⟩, h3⟩, h4⟩, h5⟩, h6⟩, h7⟩ := h
  have h2 := Nat.eq_of_beq_eq_true h2
  have h3 := Nat.le_of_ble_eq_true h3
  have h4 := blt_iff.1 h4
  have hlen : (cutI l o n).length = n := by unfold cutI cutV; simp; omega
  refine ⟨⟨by rw [hlen]; exact h3, by rw [hlen]; exact cutV_words h6, fun x hx => ?_⟩, hlen, h4, h5, h1, h2, List.all_eq_true.1 h7⟩
  unfold cutI at hx
  obtain ⟨v, hv, rfl⟩ := List.mem_map.1 hx
  have := isU_spec (List.all_eq_true.1 h6 v hv)
  exact ⟨this.2.1, this.2.2⟩
theorem utrim_nil : Fits (reckon (tabOf Tryd.prog extY conN true) 100 35 [nilS] []) nilS [] := ⟨by kernel_rfl, by kernel_rfl, by kernel_rfl, by kernel_rfl⟩
def gUtrim : AnsH := fun vals h s =>
  match vals with
  | [.slice none 0 0] => some (nilS, h, s, [])
  | [.slice (some ⟨b, o, none⟩) n c] =>
    match h.blk? b with
    | some x => some (sl b o (trimN (cutI x.1 o n)) (trimN (cutI x.1 o n)), h, s, [(rowC x.2 x.1 o n c, true)])
    | none => none
  | _ => none
theorem gUtrim_ok : AnsHOk 35 gUtrim := by
  intro vals h s v h' s' lg hg hl m B w E hv
  unfold gUtrim at hg
  split at hg
  · cases hg
    refine (fits_calls (tabY_ok conN_ok) utrim_nil (fun x hx => by cases hx) (by rfl) (by rfl) w).mono fun e w' he => ?_
    obtain ⟨E', hb⟩ := clean_emb E he.2
    exact ⟨m, he.1, ⟨Agree.refl _ _, E', hb, Nat.le_refl _, rfl⟩⟩
  · rename_i b o n c
    split at hg
    · rename_i x hx
      cases hg
      obtain ⟨h1, h2, h3, h4, h5, h6, h7⟩ := rowC_of (hl _ (List.mem_singleton.2 rfl))
      have hlt := Hp.blk_lt hx
      have r := utrim_runs (c := c) h1 (by rw [h2]; exact h3) (by rw [h2]; exact h4)
      rw [h2] at r
      have := row_calls (T := tabOf Tryd.prog extY conN true) Tryd.func35 utrim_body (rows1 h7) (vals := [sl 0 o n c]) (fun v hv => by rw [List.mem_singleton.1 hv]; rfl) (by rfl) r E (s := fun _ => b) (fun i _ => hlt) (fitsR1 hx h5 h6 rfl)
      exact this.mono fun e w' he => ⟨m, he.1, he.2⟩
    · cases hg
  · cases hg
end Go.Proofs.YtdlpffgekmidnaaDoor
namespace Go.Nt
/-- each word's two parts -/
def fl : List Int → List Int
  | [] => []
  | x :: l => x % 65536 :: x / 65536 :: fl l
theorem fl_len : ∀ L : List Int, (fl L).length = 2 * L.length
  | [] => rfl
  | x :: l => by simp [fl, fl_len l]; omega
theorem fl_append : ∀ L M : List Int, fl (L ++ M) = fl L ++ fl M
  | [], M => rfl
  | x :: l, M => by simp [fl, fl_append l M]
theorem fl_dg : ∀ {L : List Int}, (∀ x ∈ L, 0 ≤ x ∧ x < 4294967296) → ∀ y ∈ fl L, Dg 65536 y
  | [], _, y, hy => by cases hy
  | x :: l, h, y, hy => by
    have hx := h x (List.mem_cons_self)
    simp only [fl, List.mem_cons] at hy
    rcases hy with rfl | rfl | hy
    · exact ⟨by omega, by omega⟩
    · exact ⟨by omega, by omega⟩
    · exact fl_dg (fun z hz => h z (List.mem_cons_of_mem _ hz)) y hy
theorem fl_val : ∀ {L : List Int}, (∀ x ∈ L, 0 ≤ x ∧ x < 4294967296) → vb 65536 (fl L) = vb 4294967296 L
  | [], _ => rfl
  | x :: l, h => by
    have hx := h x (List.mem_cons_self)
    simp only [fl, vb, fl_val (fun z hz => h z (List.mem_cons_of_mem _ hz))]
    omega
theorem vb_one (b : Nat) (x : Int) : vb b [x] = x.toNat := by simp [vb]
theorem vb_take (b : Nat) (L : List Int) (i : Nat) : vb b (L.take (i + 1)) = vb b (L.take i) + b ^ i * (L.getD i 0).toNat := by
  by_cases h : i < L.length
  · have e : L.take (i + 1) = L.take i ++ [L.getD i 0] := by
      rw [List.take_add_one, List.getElem?_eq_getElem h]
      simp [List.getD, List.getElem?_eq_getElem h]
    rw [e, vb_append, vb_one, List.length_take]
    rw [show min i L.length = i from by omega]
  · rw [List.take_of_length_le (by omega), List.take_of_length_le (by omega)]
    simp [List.getD, List.getElem?_eq_none (show L.length ≤ i by omega)]
theorem vb_snoc (b : Nat) (O : List Int) (x : Int) : vb b (O ++ [x]) = vb b O + b ^ O.length * x.toNat := by rw [vb_append, vb_one]
/-- one digit more of a sum: what is carried is told by the base's power -/
theorem sum_stepB {b : Nat} {O : List Int} {X Y : Nat} {k a c : Nat} (h : vb b O + b ^ O.length * k = X + Y) :
    vb b (O ++ [(((k + a + c) % b : Nat) : Int)]) + b ^ (O.length + 1) * ((k + a + c) / b) = (X + b ^ O.length * a) + (Y + b ^ O.length * c) := by
  rw [vb_snoc, Int.toNat_natCast, Nat.pow_succ, Nat.mul_assoc]
  have e := Nat.mod_add_div (k + a + c) b
  generalize hP : b ^ O.length = P at *
  have e1 : P * ((k + a + c) % b) + P * (b * ((k + a + c) / b)) = P * (k + a + c) := by rw [← Nat.mul_add, e]
  have e2 : P * (k + a + c) = P * k + P * a + P * c := by rw [Nat.mul_add, Nat.mul_add]
  omega
end Go.Nt
namespace Go.Proofs.YtdlpffgekmidnaaDoor
open Go.KRun Go.Nt
set_option maxRecDepth 100000
def hcU : Hc := altH 35 gUtrim hcN
theorem hcU_ok : HcOk hcU := altH_ok Tryd.func35 rfl gUtrim_ok hcN_ok
def fPre (F : Func) : List Code := [cFst (cBody F), cFst (cSnd (cBody F))]
def fR2 (F : Func) : Code := cFst (cFst (cSnd (cSnd (cBody F))))
def fLoop (F : Func) : Code := cIn (cIn (cSnd (cFst (cSnd (cSnd (cBody F))))))
def fEnd (F : Func) : Code := cSnd (cSnd (cSnd (cBody F)))
theorem from_body : Tryd.f36.body = some (seqs (fPre Tryd.f36) (.seq (.seq (fR2 Tryd.f36) (.block 0 (.loop (fLoop Tryd.f36)))) (fEnd Tryd.f36))) := by kernel_rfl
def ux (x : Int) : List Value := [.int .u32 (x.tmod 65536), .int .u32 (IntKind.u32.wrap (x.tdiv 65536))]
theorem from_pre (v : Value) (h : Hp) : GoesT (evL (tabH Tryd.prog extY conN hcU) 100 (fPre Tryd.f36) ([v] ++ List.replicate 25 undef, h, []) ⟨[], [], []⟩) 4 22 none [v, undef, nilS, nilS] h [] := ⟨by kernel_rfl, by kernel_rfl, by kernel_rfl⟩
theorem from_r2 (v : Value) (h : Hp) (g : Nat → Value) : GoesT (evC (tabH Tryd.prog extY conN hcU) 100 false (fR2 Tryd.f36) ([v, undef, nilS, nilS] ++ tl 22 g, h, []) ⟨[], [], []⟩) 5 21 none [v, undef, nilS, nilS, .int .i64 0] h [] := ⟨by kernel_rfl, by kernel_rfl, by kernel_rfl⟩
def lAt (l : List Value) (o n : Nat) (i x : Int) : Log := [(cellIs (l[o + i.toNat * 1]?) (.int .u32 x), true), (decide (0 ≤ i ∧ i < n), true), (decide ((65536 : Int) = 0), false), (cellIs (l[o + i.toNat * 1]?) (.int .u32 x), true), (decide (0 ≤ i ∧ i < n), true), (decide (i < n), true)]
theorem from_nil (o n c : Nat) (i x : Int) (l : List Value) (g : Nat → Value) : GoesT (evC (tabH Tryd.prog extY conN hcU) 100 false (fLoop Tryd.f36) ([sl 0 o n c, undef, nilS, nilS, .int .i64 i] ++ tl 21 g, ⟨1, [(l, tR)]⟩, [cmp true, at_, val (.int .u32 x), cmp true, at_, val (.int .u32 x)]) ⟨[], [], []⟩) 5 21 none [sl 0 o n c, undef, nilS, sl 2 0 2 grown, .int .i64 (IntKind.i64.wrap (i + 1))] ⟨3, [(ux x, tU), (ux x, tU), (l, tR)]⟩ (lAt l o n i x) := ⟨by kernel_rfl, by kernel_rfl, by kernel_rfl⟩
theorem from_some (o n c k : Nat) (i x : Int) (l lo : List Value) (g : Nat → Value) : GoesT (evC (tabH Tryd.prog extY conN hcU) 100 false (fLoop Tryd.f36) ([sl 0 o n c, undef, nilS, sl 1 0 k grown, .int .i64 i] ++ tl 21 g, ⟨2, [(lo, tU), (l, tR)]⟩, [cmp true, at_, val (.int .u32 x), cmp true, at_, val (.int .u32 x), at_]) ⟨[], [], []⟩) 5 21 none [sl 0 o n c, undef, nilS, sl 3 0 (k + 2) grown, .int .i64 (IntKind.i64.wrap (i + 1))] ⟨4, [(lo ++ ux x, tU), (ux x, tU), ([], 2 * dead), (l, tR)]⟩ ((appChk tU (lo, tU) (ux x, tU) k 0 2, true) :: lAt l o n i x) := ⟨by kernel_rfl, by kernel_rfl, by kernel_rfl⟩
theorem from_out (p : Option Addr) (v : Value) (n c : Nat) (i : Int) (h : Hp) (g : Nat → Value) : GoesT (evC (tabH Tryd.prog extY conN hcU) 100 false (fLoop Tryd.f36) ([.slice p n c, undef, nilS, v, .int .i64 i] ++ tl 21 g, h, [cmp false]) ⟨[], [], []⟩) 5 21 (some (some 0)) [.slice p n c, undef, nilS, v, .int .i64 i] h [(decide (i < n), false)] := ⟨by kernel_rfl, by kernel_rfl, by kernel_rfl⟩
theorem from_end (v : Value) (k : Nat) (i : Int) (x : List Value × TypeId) (lo : List Value) (g : Nat → Value) : GoesT (evC (tabH Tryd.prog extY conN hcU) 100 false (fEnd Tryd.f36) ([v, undef, nilS, sl 1 0 k grown, .int .i64 i] ++ tl 21 g, ⟨2, [(lo, tU), x]⟩, []) ⟨[], [], []⟩) 5 21 (some none) [v, undef, sl 1 0 (trimN (cutI lo 0 k)) (trimN (cutI lo 0 k)), sl 1 0 k grown, .int .i64 i] ⟨2, [(lo, tU), x]⟩ [(rowC tU lo 0 k grown, true)] := ⟨by kernel_rfl, by kernel_rfl, by kernel_rfl⟩
theorem ux_eq {x : Int} (h : 0 ≤ x ∧ x < 4294967296) : ux x = wU (fl [x]) := by
  unfold ux wU fl fl
  rw [Int.tmod_eq_emod_of_nonneg h.1, Int.tdiv_eq_ediv_of_nonneg h.1]
  have e : IntKind.u32.wrap (x / 65536) = x / 65536 := by
    simp [IntKind.wrap, IntKind.bits, IntKind.signed]; omega
  rw [e]
  rfl
theorem wU_still (L : List Int) : ∀ v ∈ wU L, still v = true := fun v hv => by
  unfold wU at hv
  obtain ⟨x, _, rfl⟩ := List.mem_map.1 hv
  rfl
theorem wU_one (L : List Int) : (wU L).all one = true := List.all_eq_true.2 fun v hv => by
  unfold wU at hv
  obtain ⟨x, _, rfl⟩ := List.mem_map.1 hv
  rfl
theorem wU_append (L M : List Int) : wU (L ++ M) = wU L ++ wU M := by simp [wU]
theorem wU_len (L : List Int) : (wU L).length = L.length := by simp [wU]
theorem cut_wU (L : List Int) : cutI (wU L) 0 L.length = L := by
  unfold cutI cutV
  rw [List.drop_zero, ← wU_len, List.take_length]
  unfold wU
  rw [List.map_map]
  exact List.map_id' _
theorem rowC_wU {L : List Int} (h : ∀ x ∈ L, 0 ≤ x ∧ x < 4294967296) (hl : L.length < 4611686018427387904) {c : Nat} (hc : capOk 0 L.length c = true) : rowC tU (wU L) 0 L.length c = true := by
  unfold rowC
  have e1 : tomb tU = false := by kernel_rfl
  have e2 : Nat.beq (rt tU) tU = true := by kernel_rfl
  have e3 : Nat.ble (0 + L.length) (wU L).length = true := Nat.ble_eq_true_of_le (by rw [wU_len]; omega)
  have e4 : Nat.blt L.length 4611686018427387904 = true := blt_iff.2 hl
  have e5 : ((cutV (wU L) 0 L.length).all isU) = true := by
    unfold cutV
    rw [List.drop_zero, ← wU_len, List.take_length]
    refine List.all_eq_true.2 fun v hv => ?_
    unfold wU at hv
    obtain ⟨x, hx, rfl⟩ := List.mem_map.1 hv
    exact decide_eq_true (h x hx)
  have e6 : ((wU L).all still) = true := List.all_eq_true.2 fun v hv => by
    unfold wU at hv
    obtain ⟨x, _, rfl⟩ := List.mem_map.1 hv
    rfl
  rw [e1, e2, e3, e4, hc, e5, e6]
  rfl
theorem appChk_of {L M : List Int} {k : Nat} (hk : k = L.length) (hM : 0 < M.length) (hb : L.length + M.length ≤ 1073741824) : appChk tU (wU L, tU) (wU M, tU) k 0 M.length = true := by
  subst hk
  unfold appChk
  simp only [Bool.and_eq_true, Bool.not_eq_true', wU_len]
  refine ⟨⟨⟨⟨⟨⟨⟨⟨Nat.beq_refl _, Nat.ble_eq_true_of_le hb⟩, by kernel_rfl⟩, by kernel_rfl⟩, by kernel_rfl⟩, by kernel_rfl⟩, Nat.ble_eq_true_of_le (by omega)⟩, blt_iff.2 hM⟩, ?_⟩
  rw [List.drop_zero, ← wU_len, List.take_length]
  exact wU_one M
theorem capG (n : Nat) : capOk 0 n grown = true := by unfold capOk; rw [show Nat.beq grown grown = true from by kernel_rfl, show Nat.beq 0 0 = true from rfl]; simp
theorem getD_get {L : List Int} {k : Nat} (h : k < L.length) : L.getD k 0 = L[k] := by simp [List.getD, List.getElem?_eq_getElem h]
theorem take_succ' {L : List Int} {k : Nat} (h : k < L.length) : L.take (k + 1) = L.take k ++ [L.getD k 0] := by
  rw [getD_get h, List.take_add_one, List.getElem?_eq_getElem h]
  rfl
/-- the rounds of From -/
def fInv (l : List Value) (o c : Nat) (L : List Int) (k : Nat) (y : Lf) : Prop :=
  ∃ i : Nat, k = L.length - i ∧ i ≤ L.length ∧ ((i = 0 ∧ (∃ g, y.1 = [sl 0 o L.length c, undef, nilS, nilS, .int .i64 0] ++ tl 21 g) ∧ y.2.1 = ⟨1, [(l, tR)]⟩) ∨
    (0 < i ∧ (∃ g, y.1 = [sl 0 o L.length c, undef, nilS, sl 1 0 (2 * i) grown, .int .i64 (i : Nat)] ++ tl 21 g) ∧ y.2.1 = ⟨2, [(wU (fl (L.take i)), tU), (l, tR)]⟩))
def fOut (l : List Value) (o c : Nat) (L : List Int) (y : Lf) : Prop :=
  (L.length = 0 ∧ (∃ g, y.1 = [sl 0 o L.length c, undef, nilS, nilS, .int .i64 0] ++ tl 21 g) ∧ y.2.1 = ⟨1, [(l, tR)]⟩) ∨
    (0 < L.length ∧ (∃ g, y.1 = [sl 0 o L.length c, undef, nilS, sl 1 0 (2 * L.length) grown, .int .i64 (L.length : Nat)] ++ tl 21 g) ∧ y.2.1 = ⟨2, [(wU (fl L), tU), (l, tR)]⟩)
theorem lt_words {L : List Int} {k : Nat} (h : ∀ x ∈ L, 0 ≤ x ∧ x < 4294967296) (hk : k < L.length) : 0 ≤ L.getD k 0 ∧ L.getD k 0 < 4294967296 := by
  rw [getD_get hk]
  exact h _ (List.getElem_mem hk)
theorem from_loop {l : List Value} {o c : Nat} {L : List Int} (hR : Row l o L) (hs : ∀ v ∈ l, still v = true) (hL : 2 * L.length ≤ 1073741824) (g : Nat → Value) :
    RunsW (tabH Tryd.prog extY conN hcU) (.block 0 (.loop (fLoop Tryd.f36))) ([sl 0 o L.length c, undef, nilS, nilS, .int .i64 0] ++ tl 21 g, ⟨1, [(l, tR)]⟩, []) fun e y => match e with | none => fOut l o c L y | some none => False | some (some _) => False := by
  refine RunsW.forLoop (P := fOut l o c L) (R := fun _ => False) (fInv l o c L) ?_ (n := L.length) ⟨0, by omega, by omega, .inl ⟨rfl, ⟨g, rfl⟩, rfl⟩⟩
  rintro n ⟨t, h', s⟩ ⟨i, hn, hi, hI⟩
  by_cases hlt : i < L.length
  · have hc := hR.cell (k := i) hlt
    have hx := lt_words hR.rng hlt
    have ei : IntKind.i64.wrap ((i : Int) + 1) = ((i + 1 : Nat) : Int) := by rw [wrapI (by omega) (by omega)]; omega
    have hlog : okLog (lAt l o L.length i (L.getD i 0)) := by
      have q1 : cellIs (l[o + (i : Int).toNat * 1]?) (.int .u32 (L.getD i 0)) = true := by rw [Int.toNat_natCast, Nat.mul_one, hc]; simp [cellIs]
      have q2 : decide (0 ≤ (i : Int) ∧ (i : Int) < (L.length : Nat)) = true := decide_eq_true (by omega)
      have q3 : decide ((i : Int) < (L.length : Nat)) = true := decide_eq_true (by omega)
      exact okTwo q1 (okTwo q2 (okTwo rfl (okTwo q1 (okTwo q2 (okOne q3)))))
    have hne : ∀ z : Lf, (∃ g, z.1 = [sl 0 o L.length c, undef, nilS, sl 1 0 (2 * (i + 1)) grown, .int .i64 ((i + 1 : Nat) : Int)] ++ tl 21 g) ∧ z.2.1 = ⟨2, [(wU (fl (L.take (i + 1))), tU), (l, tR)]⟩ → ∃ n', n' < n ∧ fInv l o c L n' z := fun z hz =>
      ⟨L.length - (i + 1), by omega, i + 1, rfl, by omega, .inr ⟨by omega, hz.1, hz.2⟩⟩
    rcases hI with ⟨rfl, ⟨g, ht⟩, hh⟩ | ⟨hpos, ⟨g, ht⟩, hh⟩
    · simp only at ht hh
      subst ht hh
      have r := goesT_runsW (tabH_ok conN_ok hcU_ok) (s0 := s) (from_nil o L.length c 0 (L.getD 0 0) l g) hlog
      have r2 := r.two (front' := [sl 0 o L.length c, undef, nilS, sl 1 0 2 grown, .int .i64 (IntKind.i64.wrap (0 + 1))]) (b := 2) (x := (l, tR)) (y := (ux (L.getD 0 0), tU)) (by kernel_rfl) (by rfl) (by rfl) (by omega) hs (by rw [ux_eq hx]; exact wU_still _) (fun v hv => by
        simp only [List.mem_cons, List.not_mem_nil, or_false] at hv
        rcases hv with rfl | rfl | rfl | rfl | rfl <;> rfl)
      refine r2.mono fun e z hz => ?_
      obtain ⟨rfl, ⟨g', e1⟩, e2⟩ := hz
      refine hne z ⟨⟨g', by rw [e1]; rfl⟩, ?_⟩
      rw [e2, ux_eq hx, take_succ' hlt]
      rfl
    · simp only at ht hh
      subst ht hh
      have hlen : (fl (L.take i)).length = 2 * i := by rw [fl_len, List.length_take]; omega
      have hchk : appChk tU (wU (fl (L.take i)), tU) (ux (L.getD i 0), tU) (2 * i) 0 2 = true := by
        rw [ux_eq hx]
        exact appChk_of hlen.symm (M := fl [L.getD i 0]) (show 0 < 2 by omega) (by rw [hlen]; show 2 * i + 2 ≤ 1073741824; omega)
      have r := goesT_runsW (tabH_ok conN_ok hcU_ok) (s0 := s) (from_some o L.length c (2 * i) i (L.getD i 0) l (wU (fl (L.take i))) g) (okTwo hchk hlog)
      have r2 := r.two (front' := [sl 0 o L.length c, undef, nilS, sl 1 0 (2 * i + 2) grown, .int .i64 (IntKind.i64.wrap ((i : Int) + 1))]) (b := 3) (x := (l, tR)) (y := (wU (fl (L.take i)) ++ ux (L.getD i 0), tU)) (by kernel_rfl) (by rfl) (by rfl) (by omega) hs (by
        rw [ux_eq hx, ← wU_append]; exact wU_still _) (fun v hv => by
        simp only [List.mem_cons, List.not_mem_nil, or_false] at hv
        rcases hv with rfl | rfl | rfl | rfl | rfl <;> rfl)
      refine r2.mono fun e z hz => ?_
      obtain ⟨rfl, ⟨g', e1⟩, e2⟩ := hz
      refine hne z ⟨⟨g', by rw [e1, ei]; rfl⟩, ?_⟩
      rw [e2, ux_eq hx, ← wU_append, ← fl_append, ← take_succ' hlt]
  · have hil : i = L.length := by omega
    subst hil
    rcases hI with ⟨h0, ⟨g, ht⟩, hh⟩ | ⟨hpos, ⟨g, ht⟩, hh⟩
    · simp only at ht hh
      subst ht hh
      refine (goesT_runsW (tabH_ok conN_ok hcU_ok) (from_out _ _ _ _ _ _ g) (okOne (decide_eq_false (by omega)))).mono fun e z hz => ?_
      obtain ⟨rfl, e1, e2⟩ := hz
      exact ⟨rfl, .inl ⟨h0, e1, e2⟩⟩
    · simp only at ht hh
      subst ht hh
      refine (goesT_runsW (tabH_ok conN_ok hcU_ok) (from_out _ _ _ _ _ _ g) (okOne (decide_eq_false (by omega)))).mono fun e z hz => ?_
      obtain ⟨rfl, e1, e2⟩ := hz
      refine ⟨rfl, .inr ⟨hpos, e1, ?_⟩⟩
      rw [e2, List.take_length]
theorem seqW3 {T : Tab} {a b c : Code} {x : Lf} {P1 P2 P : Ex → Lf → Prop} (h1 : RunsW T a x P1) (n1 : ∀ e y, P1 (some e) y → False) (h2 : ∀ y, P1 none y → RunsW T b y P2) (n2 : ∀ e y, P2 (some e) y → False) (h3 : ∀ y, P2 none y → RunsW T c y P) : RunsW T (.seq (.seq a b) c) x P :=
  RunsW.seq (P1 := P2) (RunsW.seq (P1 := P1) h1 h2 (fun e y he => (n1 e y he).elim)) h3 (fun e y he => (n2 e y he).elim)
/-- a row's number, of words of 32 bits -/
def v32 (l : List Value) (o n : Nat) : Nat := vb 4294967296 (cutI l o n)
def d16 (V : Nat) : List Int := db 65536 V
theorem from_runs {l : List Value} {o c : Nat} {L : List Int} (hR : Row l o L) (hs : ∀ v ∈ l, still v = true) (hL : 2 * L.length ≤ 1073741824) (h0 : 0 < L.length) :
    RunsW (tabH Tryd.prog extY conN hcU) (seqs (fPre Tryd.f36) (.seq (.seq (fR2 Tryd.f36) (.block 0 (.loop (fLoop Tryd.f36)))) (fEnd Tryd.f36))) ([sl 0 o L.length c] ++ List.replicate 25 undef, ⟨1, [(l, tR)]⟩, []) fun e y => (e = none ∨ e = some none) ∧ resS Tryd.prog Tryd.f36 y.1 y.2.1 = some (sl 1 0 (d16 (vb 4294967296 L)).length (d16 (vb 4294967296 L)).length) ∧ ∃ r, y.2.1.blk? 1 = some (wU (d16 (vb 4294967296 L)) ++ r, tU) := by
  refine goesT_listW (tabH_ok conN_ok hcU_ok) (from_pre _ _) (fun x hx => by cases hx) fun g => ?_
  refine seqW3 (goesT_runsW (tabH_ok conN_ok hcU_ok) (from_r2 _ _ g) (fun x hx => by cases hx)) (fun e y he => by cases he.1) (P2 := fun e y => match e with | none => fOut l o c L y | some none => False | some (some _) => False) ?_ ?_ ?_
  · rintro ⟨t, h', s⟩ ⟨_, ⟨g', ht⟩, hh⟩
    simp only at ht hh
    subst ht hh
    exact RunsW.script (from_loop hR hs hL g')
  · intro e y he
    match e, he with
    | none, he => exact he
    | some id, he => exact he
  · rintro ⟨t, h', s⟩ hy
    rcases hy with ⟨e0, _⟩ | ⟨_, ⟨g', ht⟩, hh⟩
    · omega
    · simp only at ht hh
      subst ht hh
      have hlen : (fl L).length = 2 * L.length := fl_len L
      have hd := fl_dg hR.rng
      have hrng : ∀ x ∈ fl L, 0 ≤ x ∧ x < 4294967296 := fun x hx => ⟨(hd x hx).1, by have := (hd x hx).2; omega⟩
      have hrow : rowC tU (wU (fl L)) 0 (2 * L.length) grown = true := by
        rw [← hlen]
        exact rowC_wU hrng (by omega) (capG _)
      refine (goesT_runsW (tabH_ok conN_ok hcU_ok) (from_end _ (2 * L.length) _ (l, tR) (wU (fl L)) g') (okOne hrow)).mono fun e y he => ?_
      obtain ⟨rfl, ⟨g2, e1⟩, e2⟩ := he
      have et : trimN (cutI (wU (fl L)) 0 (2 * L.length)) = (d16 (vb 4294967296 L)).length := by
        rw [← hlen, cut_wU, trim_len (by omega) hd, fl_val hR.rng]
        rfl
      refine ⟨.inr rfl, ?_, ?_⟩
      · rw [e1, e2, et]
        rfl
      · rw [e2]
        refine ⟨wU ((fl L).drop (trimN (fl L))), ?_⟩
        have e3 : wU (d16 (vb 4294967296 L)) ++ wU ((fl L).drop (trimN (fl L))) = wU (fl L) := by
          unfold d16
          rw [← fl_val hR.rng, ← take_trim (by omega) _ hd, ← wU_append, List.take_append_drop]
        rw [e3]
        rfl
theorem from_nilF : Fits (reckon (tabOf Tryd.prog extY conN true) 100 36 [nilS] []) nilS [] := ⟨by kernel_rfl, by kernel_rfl, by kernel_rfl, by kernel_rfl⟩
/-- what From answers of a row: a number's parts; of no words nothing -/
def gFrom : AnsH := fun vals h s =>
  match vals, s with
  | [.slice none 0 0], s => some (nilS, h, s, [])
  | [.slice (some ⟨b, o, none⟩) n c], .inr (.inr (.inr (.inl true))) :: s' =>
    match h.blk? b with
    | some x => some (sl h.n 0 (d16 (v32 x.1 o n)).length (d16 (v32 x.1 o n)).length, h.push (wU (d16 (v32 x.1 o n))) tU, s', [(rowC x.2 x.1 o n c && x.1.all still && Nat.ble (2 * n) 1073741824, true), (decide (0 < n), true)])
    | none => none
  | _, _ => none
theorem wU_lt (L : List Int) : ∀ u ∈ wU L, lt1 0 u = true := fun v hv => by
  unfold wU at hv
  obtain ⟨x, _, rfl⟩ := List.mem_map.1 hv
  rfl
theorem gFrom_ok : AnsHOk 36 gFrom := by
  intro vals h s v h' s' lg hg hl m B w E hv
  unfold gFrom at hg
  split at hg
  · cases hg
    refine (fits_calls (tabY_ok conN_ok) from_nilF (fun x hx => by cases hx) (by rfl) (by rfl) w).mono fun e w' he => ?_
    obtain ⟨E', hb⟩ := clean_emb E he.2
    exact ⟨m, he.1, ⟨Agree.refl _ _, E', hb, Nat.le_refl _, rfl⟩⟩
  · rename_i b o n c s2
    split at hg
    · rename_i x hx
      cases hg
      have q := hl _ (List.mem_cons_self)
      have q2 := hl _ (List.mem_cons_of_mem _ (List.mem_singleton.2 rfl))
      simp only [Bool.and_eq_true, decide_eq_true_eq] at q q2
      obtain ⟨⟨q1, q3⟩, q4⟩ := q
      have q4 := Nat.le_of_ble_eq_true q4
      obtain ⟨h1, h2, h3, h4, h5, h6, h7⟩ := rowC_of q1
      have r := from_runs (c := c) h1 (List.all_eq_true.1 q3) (by rw [h2]; exact q4) (by rw [h2]; exact q2)
      rw [h2] at r
      have := row_calls1 (T := tabH Tryd.prog extY conN hcU) Tryd.func36 from_body (rows1 h7) (vals := [sl 0 o n c]) (fun v hv => by rw [List.mem_singleton.1 hv]; rfl) (k := 1) (cs := wU (d16 (vb 4294967296 (cutI x.1 o n)))) (ty := tU) (wU_lt _) (by kernel_rfl) r (by rfl) E (s := fun _ => b) (fitsR1 hx h5 h6 rfl)
      exact this
    · cases hg
  · cases hg
/-- the words of a row or of nothing -/
def rowOf (h : Hp) (p : Option Addr) (n : Nat) : List Int :=
  match p with
  | none => []
  | some a =>
    match h.blk? a.block with
    | some x => cutI x.1 a.off n
    | none => []
/-- it is one -/
def rowP (h : Hp) (p : Option Addr) (n c : Nat) : Bool :=
  match p with
  | none => Nat.beq n 0 && Nat.beq c 0
  | some a =>
    match a.spot, h.blk? a.block with
    | none, some x => rowC x.2 x.1 a.off n c && x.1.all still
    | _, _ => false
/-- the part at a place, 0 outside -/
def atN (L : List Int) (i : Int) : Int := if 0 ≤ i then L.getD i.toNat 0 else 0
theorem rowP_cases {h : Hp} {p : Option Addr} {n c : Nat} (hr : rowP h p n c = true) : (p = none ∧ n = 0 ∧ c = 0 ∧ rowOf h p n = []) ∨ ∃ b o x, p = some ⟨b, o, none⟩ ∧ h.blk? b = some x ∧ rowC x.2 x.1 o n c = true ∧ (∀ v ∈ x.1, still v = true) ∧ rowOf h p n = cutI x.1 o n := by
  unfold rowP at hr
  split at hr
  · simp only [Bool.and_eq_true] at hr
    exact .inl ⟨rfl, Nat.eq_of_beq_eq_true hr.1, Nat.eq_of_beq_eq_true hr.2, rfl⟩
  · rename_i a
    split at hr
    · rename_i x hs hx
      simp only [Bool.and_eq_true] at hr
      obtain ⟨b, o, sp⟩ := a
      simp only at hs hx
      subst hs
      exact .inr ⟨b, o, x, rfl, hx, hr.1, List.all_eq_true.1 hr.2, by simp [rowOf, hx]⟩
    · cases hr
theorem at_body : Tryd.f34.body = some (cBody Tryd.f34) := by kernel_rfl
theorem at_in (o n c : Nat) (i x : Int) (l : List Value) : GoesT (evC (tabOf Tryd.prog extY conN true) 100 false (cBody Tryd.f34) ([sl 0 o n c, .int .i64 i] ++ List.replicate 15 undef, ⟨1, [(l, tR)]⟩, [cmp true, cmp true, at_, val (.int .u32 x)]) ⟨[], [], []⟩) 5 12 (some none) [sl 0 o n c, .int .i64 i, undef, undef, .int .u32 x] ⟨1, [(l, tR)]⟩ [(cellIs (l[o + i.toNat * 1]?) (.int .u32 x), true), (decide (0 ≤ i ∧ i < n), true), (decide (i < n), true), (decide (i ≥ 0), true)] := ⟨by kernel_rfl, by kernel_rfl, by kernel_rfl⟩
theorem at_over (p : Option Addr) (n c : Nat) (i : Int) (h : Hp) : GoesT (evC (tabOf Tryd.prog extY conN true) 100 false (cBody Tryd.f34) ([.slice p n c, .int .i64 i] ++ List.replicate 15 undef, h, [cmp true, cmp false]) ⟨[], [], []⟩) 5 12 (some none) [.slice p n c, .int .i64 i, undef, undef, .int .u32 0] h [(decide (i < n), false), (decide (i ≥ 0), true)] := ⟨by kernel_rfl, by kernel_rfl, by kernel_rfl⟩
theorem at_under (p : Option Addr) (n c : Nat) (i : Int) (h : Hp) : GoesT (evC (tabOf Tryd.prog extY conN true) 100 false (cBody Tryd.f34) ([.slice p n c, .int .i64 i] ++ List.replicate 15 undef, h, [cmp false]) ⟨[], [], []⟩) 5 12 (some none) [.slice p n c, .int .i64 i, undef, undef, .int .u32 0] h [(decide (i ≥ 0), false)] := ⟨by kernel_rfl, by kernel_rfl, by kernel_rfl⟩
theorem at_none {p : Option Addr} {n c : Nat} {i : Int} {h : Hp} (hi : i < 0 ∨ (n : Int) ≤ i) : Runs (tabOf Tryd.prog extY conN true) (cBody Tryd.f34) ([.slice p n c, .int .i64 i] ++ List.replicate 15 undef, h, []) fun e y => (e = none ∨ e = some none) ∧ resS Tryd.prog Tryd.f34 y.1 y.2.1 = some (.int .u32 0) := by
  by_cases h0 : i < 0
  · refine (goesT_runs (tabY_ok conN_ok) (at_under p n c i h) (okOne (decide_eq_false (by omega)))).mono fun e y he => ?_
    obtain ⟨rfl, ⟨g, e2⟩, e3⟩ := he
    refine ⟨.inr rfl, ?_⟩
    rw [e2, e3]
    rfl
  · refine (goesT_runs (tabY_ok conN_ok) (at_over p n c i h) (okTwo (decide_eq_false (by omega)) (okOne (decide_eq_true (by omega))))).mono fun e y he => ?_
    obtain ⟨rfl, ⟨g, e2⟩, e3⟩ := he
    refine ⟨.inr rfl, ?_⟩
    rw [e2, e3]
    rfl
theorem at_runs {l : List Value} {o c : Nat} {L : List Int} (i : Int) (hR : Row l o L) :
    Runs (tabOf Tryd.prog extY conN true) (cBody Tryd.f34) ([sl 0 o L.length c, .int .i64 i] ++ List.replicate 15 undef, ⟨1, [(l, tR)]⟩, []) fun e y => (e = none ∨ e = some none) ∧ resS Tryd.prog Tryd.f34 y.1 y.2.1 = some (.int .u32 (atN L i)) := by
  by_cases hi : i < 0 ∨ (L.length : Int) ≤ i
  · have e0 : atN L i = 0 := by
      unfold atN
      split
      · have : L.length ≤ i.toNat := by omega
        simp [List.getD, List.getElem?_eq_none this]
      · rfl
    rw [e0]
    exact at_none hi
  · have h0 : 0 ≤ i := by omega
    have hlt : i.toNat < L.length := by omega
    have e0 : atN L i = L.getD i.toNat 0 := by unfold atN; rw [if_pos h0]
    rw [e0]
    have hc := hR.cell hlt
    refine (goesT_runs (tabY_ok conN_ok) (at_in o L.length c i (L.getD i.toNat 0) l) (okTwo (by rw [Nat.mul_one, hc]; simp [cellIs]) (okTwo (decide_eq_true (by omega)) (okTwo (decide_eq_true (by omega)) (okOne (decide_eq_true (by omega))))))).mono fun e y he => ?_
    obtain ⟨rfl, ⟨g, e2⟩, e3⟩ := he
    refine ⟨.inr rfl, ?_⟩
    rw [e2, e3]
    rfl
def gAt : AnsH := fun vals h s =>
  match vals with
  | [.slice p n c, .int .i64 i] => some (.int .u32 (atN (rowOf h p n) i), h, s, [(rowP h p n c, true)])
  | _ => none
theorem gAt_ok : AnsHOk 34 gAt := by
  intro vals h s v h' s' lg hg hl m B w E hv
  unfold gAt at hg
  split at hg
  · rename_i p n c i
    cases hg
    have q := hl _ (List.mem_singleton.2 rfl)
    simp only at q
    rcases rowP_cases q with ⟨rfl, rfl, rfl, e0⟩ | ⟨b, o, x, rfl, hx, q1, _, e0⟩
    · rw [e0]
      have hz : atN [] i = 0 := by unfold atN; split <;> simp
      rw [hz]
      have hi : i < 0 ∨ ((0 : Nat) : Int) ≤ i := by omega
      refine (calls_of_runs (T := tabOf Tryd.prog extY conN true) Tryd.func34 at_body (vals := [nilS, .int .i64 i]) (v := .int .u32 0) (by rfl) (by rfl) (at_none (p := none) (n := 0) (c := 0) (i := i) (h := ⟨0, []⟩) hi) w).mono fun e w' he => ?_
      obtain ⟨E', hb⟩ := clean_emb E he.2
      exact ⟨m, he.1, ⟨Agree.refl _ _, E', hb, Nat.le_refl _, rfl⟩⟩
    · rw [e0]
      obtain ⟨h1, h2, h3, h4, h5, h6, h7⟩ := rowC_of q1
      have hlt := Hp.blk_lt hx
      have r := at_runs (c := c) i h1
      rw [h2] at r
      have := row_calls (T := tabOf Tryd.prog extY conN true) Tryd.func34 at_body (rows1 h7) (vals := [sl 0 o n c, .int .i64 i]) (fun v hv => by
        simp only [List.mem_cons, List.not_mem_nil, or_false] at hv
        rcases hv with rfl | rfl <;> rfl) (by rfl) r E (s := fun _ => b) (fun i _ => hlt) (fitsR1 hx h5 h6 rfl)
      exact this.mono fun e w' he => ⟨m, he.1, he.2⟩
  · cases hg
def hcV : Hc := altH 34 gAt hcU
theorem hcV_ok : HcOk hcV := altH_ok Tryd.func34 rfl gAt_ok hcU_ok
/-- a row or nothing, in block i of a small memory -/
structure Nu (i : Nat) (x : List Value × TypeId) (p : Option Addr) (n c : Nat) (A : List Int) : Prop where
  row : ∀ h : Hp, h.blk? i = some x → rowP h p n c = true ∧ rowOf h p n = A
  pos : p = none ∨ ∃ o, p = some ⟨i, o, none⟩
  st : ∀ v ∈ x.1, still v = true
  lt0 : ∀ v ∈ x.1, still v = true
  ros : ro x.2 = true ∧ ab x.2 = false
theorem Nu.rn {i : Nat} {x : List Value × TypeId} {p : Option Addr} {n c : Nat} {A : List Int} (h : Nu i x p n c A) {f : Nat → Nat} (hf : f i = i) : KRun.rn f (.slice p n c) = .slice p n c := by
  rcases h.pos with rfl | ⟨o, rfl⟩
  · rfl
  · show Value.slice (some ⟨f i, o, none⟩) n c = _
    rw [hf]
theorem Nu.lt {i : Nat} {x : List Value × TypeId} {p : Option Addr} {n c : Nat} {A : List Int} (h : Nu i x p n c A) {k : Nat} (hk : i < k) : KRun.lt k (.slice p n c) = true := by
  rcases h.pos with rfl | ⟨o, rfl⟩
  · rfl
  · exact blt_iff.2 hk
/-- a caller's row in the smallest memory -/
theorem nu_of {h : Hp} {p : Option Addr} {n c : Nat} (i : Nat) (hr : rowP h p n c = true) : ∃ x p' b, Nu i x p' n c (rowOf h p n) ∧ (∀ s : Nat → Nat, s i = b → rn s (.slice p' n c) = .slice p n c) ∧ (tomb x.2 = false → ∃ y r, h.blk? b = some y ∧ tomb y.2 = false ∧ rt y.2 = rt x.2 ∧ y.1 = x.1 ++ r) := by
  rcases rowP_cases hr with ⟨rfl, rfl, rfl, e0⟩ | ⟨b, o, x, rfl, hx, q1, q2, e0⟩
  · refine ⟨([], 2 * dead), none, 0, ⟨fun h' _ => ⟨rfl, by rw [e0]; rfl⟩, .inl rfl, (fun v hv => by cases hv), (fun v hv => by cases hv), (by kernel_rfl), (by kernel_rfl)⟩, fun s _ => rfl, fun ht => ?_⟩
    rw [show tomb (2 * dead) = true from by kernel_rfl] at ht
    cases ht
  · obtain ⟨h1, h2, h3, h4, h5, h6, h7⟩ := rowC_of q1
    refine ⟨(x.1, tR), some ⟨i, o, none⟩, b, ⟨fun h' hb => ⟨?_, ?_⟩, .inr ⟨o, rfl⟩, q2, h7, tR_ro, tR_ab⟩, fun s hs => ?_, fun _ => ⟨x, [], hx, h5, by rw [h6]; exact tR_rt.symm, by simp⟩⟩
    · simp only [rowP, hb, Bool.and_eq_true]
      refine ⟨?_, List.all_eq_true.2 q2⟩
      unfold rowC at q1 ⊢
      simp only [Bool.and_eq_true, Bool.not_eq_true'] at q1 ⊢
      obtain ⟨⟨⟨⟨⟨⟨_, _⟩, p3⟩, p4⟩, p5⟩, p6⟩, p7⟩ := q1
      exact ⟨⟨⟨⟨⟨⟨tR_tomb, by kernel_rfl⟩, p3⟩, p4⟩, p5⟩, p6⟩, p7⟩
    · rw [e0]
      simp [rowOf, hb]
    · show Value.slice (some ⟨s i, o, none⟩) n c = _
      rw [hs]
/-- digits to the base 65536 -/
def dgB (L : List Int) : Bool := L.all fun x => decide (0 ≤ x ∧ x < 65536)
theorem dgB_of {L : List Int} (h : dgB L = true) : ∀ x ∈ L, Dg 65536 x := fun x hx => of_decide_eq_true (List.all_eq_true.1 h x hx)
theorem dgB_mk {L : List Int} (h : ∀ x ∈ L, Dg 65536 x) : dgB L = true := List.all_eq_true.2 fun x hx => decide_eq_true (h x hx)
theorem rowOf_len {h : Hp} {p : Option Addr} {n c : Nat} (hr : rowP h p n c = true) : (rowOf h p n).length = n := by
  rcases rowP_cases hr with ⟨rfl, rfl, rfl, e0⟩ | ⟨b, o, x, rfl, hx, q1, q2, e0⟩
  · rw [e0]; rfl
  · rw [e0]; exact (rowC_of q1).2.1
theorem at_dg {L : List Int} (h : ∀ x ∈ L, Dg 65536 x) (i : Nat) : Dg 65536 (L.getD i 0) := by
  by_cases hi : i < L.length
  · rw [getD_get hi]; exact h _ (List.getElem_mem hi)
  · rw [show L.getD i 0 = 0 from by simp [List.getD, List.getElem?_eq_none (show L.length ≤ i by omega)]]
    exact ⟨by omega, by omega⟩
theorem atN_nat (L : List Int) (i : Nat) : atN L (i : Int) = L.getD i 0 := by unfold atN; rw [if_pos (by omega), Int.toNat_natCast]
/-! ### Add -/
def aPreV (F : Func) : List Code := [cFst (cBody F), cFst (cSnd (cBody F)), cFst (cSnd (cSnd (cBody F)))]
def aR3 (F : Func) : Code := cFst (cFst (cSnd (cSnd (cSnd (cBody F)))))
def aLoop (F : Func) : Code := cIn (cIn (cSnd (cFst (cSnd (cSnd (cSnd (cBody F)))))))
def aEnd (F : Func) : Code := cSnd (cSnd (cSnd (cSnd (cBody F))))
theorem uadd_body : Tryd.f43.body = some (seqs (aPreV Tryd.f43) (.seq (.seq (aR3 Tryd.f43) (.block 0 (.loop (aLoop Tryd.f43)))) (aEnd Tryd.f43))) := by kernel_rfl
theorem uadd_pre (a b : Value) (h : Hp) : GoesT (evL (tabH Tryd.prog extY conN hcV) 100 (aPreV Tryd.f43) ([a, b] ++ List.replicate 40 undef, h, []) ⟨[], [], []⟩) 7 35 none [a, b, undef, undef, nilS, nilS, .int .u32 0] h [] := ⟨by kernel_rfl, by kernel_rfl, by kernel_rfl⟩
theorem uadd_r3 (a b : Value) (h : Hp) (g : Nat → Value) : GoesT (evC (tabH Tryd.prog extY conN hcV) 100 false (aR3 Tryd.f43) ([a, b, undef, undef, nilS, nilS, .int .u32 0] ++ tl 35 g, h, []) ⟨[], [], []⟩) 8 34 none [a, b, undef, undef, nilS, nilS, .int .u32 0, .int .i64 0] h [] := ⟨by kernel_rfl, by kernel_rfl, by kernel_rfl⟩
def sm (A B : List Int) (k i : Int) : Int := IntKind.u32.wrap (IntKind.u32.wrap (k + atN A i) + atN B i)
def hu3 (lo : List Value) (y x : List Value × TypeId) : Hp := ⟨3, [(lo, tU), y, x]⟩
def hp2 (y x : List Value × TypeId) : Hp := ⟨2, [y, x]⟩
/-- how the condition of Add's loop comes to be true: the first row, the second, the carry -/
def aScr (w : Nat) : List Dec := match w with | 0 => [cmp true] | 1 => [cmp false, cmp true] | _ => [cmp false, cmp false, cmp true]
def aLog (w : Nat) (n n' : Nat) (k i : Int) : Log := match w with | 0 => [(decide (i < n), true)] | 1 => [(decide (i < n'), true), (decide (i < n), false)] | _ => [(decide (k > 0), true), (decide (i < n'), false), (decide (i < n), false)]
def rP (h : Hp) (p : Option Addr) (n c : Nat) : Bool × Bool := (rowP h p n c, true)
theorem uadd_nil0 (p q : Option Addr) (n c n' c' : Nat) (k i : Int) (x y : List Value × TypeId) (g : Nat → Value) : GoesT (evC (tabH Tryd.prog extY conN hcV) 100 false (aLoop Tryd.f43) ([.slice p n c, .slice q n' c', undef, undef, nilS, nilS, .int .u32 k, .int .i64 i] ++ tl 34 g, hp2 y x, aScr 0 ++ [cmp true]) ⟨[], [], []⟩) 8 34 none [.slice p n c, .slice q n' c', undef, undef, nilS, sl 3 0 1 grown, .int .u32 (IntKind.u32.wrap ((sm (rowOf (hp2 y x) p n) (rowOf (hp2 y x) q n') k i).tdiv 65536)), .int .i64 (IntKind.i64.wrap (i + 1))] ⟨4, [([.int .u32 ((sm (rowOf (hp2 y x) p n) (rowOf (hp2 y x) q n') k i).tmod 65536)], tU), ([.int .u32 ((sm (rowOf (hp2 y x) p n) (rowOf (hp2 y x) q n') k i).tmod 65536)], tU), y, x]⟩ ((decide ((65536 : Int) = 0), false) :: rP (hp2 y x) q n' c' :: rP (hp2 y x) p n c :: aLog 0 n n' k i) := ⟨by kernel_rfl, by kernel_rfl, by kernel_rfl⟩
theorem uadd_nil1 (p q : Option Addr) (n c n' c' : Nat) (k i : Int) (x y : List Value × TypeId) (g : Nat → Value) : GoesT (evC (tabH Tryd.prog extY conN hcV) 100 false (aLoop Tryd.f43) ([.slice p n c, .slice q n' c', undef, undef, nilS, nilS, .int .u32 k, .int .i64 i] ++ tl 34 g, hp2 y x, aScr 1 ++ [cmp true]) ⟨[], [], []⟩) 8 34 none [.slice p n c, .slice q n' c', undef, undef, nilS, sl 3 0 1 grown, .int .u32 (IntKind.u32.wrap ((sm (rowOf (hp2 y x) p n) (rowOf (hp2 y x) q n') k i).tdiv 65536)), .int .i64 (IntKind.i64.wrap (i + 1))] ⟨4, [([.int .u32 ((sm (rowOf (hp2 y x) p n) (rowOf (hp2 y x) q n') k i).tmod 65536)], tU), ([.int .u32 ((sm (rowOf (hp2 y x) p n) (rowOf (hp2 y x) q n') k i).tmod 65536)], tU), y, x]⟩ ((decide ((65536 : Int) = 0), false) :: rP (hp2 y x) q n' c' :: rP (hp2 y x) p n c :: aLog 1 n n' k i) := ⟨by kernel_rfl, by kernel_rfl, by kernel_rfl⟩
theorem uadd_some0 (p q : Option Addr) (n c n' c' z : Nat) (k i : Int) (x y : List Value × TypeId) (lo : List Value) (g : Nat → Value) : GoesT (evC (tabH Tryd.prog extY conN hcV) 100 false (aLoop Tryd.f43) ([.slice p n c, .slice q n' c', undef, undef, nilS, sl 2 0 z grown, .int .u32 k, .int .i64 i] ++ tl 34 g, hu3 lo y x, aScr 0 ++ [cmp true, at_]) ⟨[], [], []⟩) 8 34 none [.slice p n c, .slice q n' c', undef, undef, nilS, sl 4 0 (z + 1) grown, .int .u32 (IntKind.u32.wrap ((sm (rowOf (hu3 lo y x) p n) (rowOf (hu3 lo y x) q n') k i).tdiv 65536)), .int .i64 (IntKind.i64.wrap (i + 1))] ⟨5, [(lo ++ [.int .u32 ((sm (rowOf (hu3 lo y x) p n) (rowOf (hu3 lo y x) q n') k i).tmod 65536)], tU), ([.int .u32 ((sm (rowOf (hu3 lo y x) p n) (rowOf (hu3 lo y x) q n') k i).tmod 65536)], tU), ([], 2 * dead), y, x]⟩ ((appChk tU (lo, tU) ([.int .u32 ((sm (rowOf (hu3 lo y x) p n) (rowOf (hu3 lo y x) q n') k i).tmod 65536)], tU) z 0 1, true) :: (decide ((65536 : Int) = 0), false) :: rP (hu3 lo y x) q n' c' :: rP (hu3 lo y x) p n c :: aLog 0 n n' k i) := ⟨by kernel_rfl, by kernel_rfl, by kernel_rfl⟩
theorem uadd_some1 (p q : Option Addr) (n c n' c' z : Nat) (k i : Int) (x y : List Value × TypeId) (lo : List Value) (g : Nat → Value) : GoesT (evC (tabH Tryd.prog extY conN hcV) 100 false (aLoop Tryd.f43) ([.slice p n c, .slice q n' c', undef, undef, nilS, sl 2 0 z grown, .int .u32 k, .int .i64 i] ++ tl 34 g, hu3 lo y x, aScr 1 ++ [cmp true, at_]) ⟨[], [], []⟩) 8 34 none [.slice p n c, .slice q n' c', undef, undef, nilS, sl 4 0 (z + 1) grown, .int .u32 (IntKind.u32.wrap ((sm (rowOf (hu3 lo y x) p n) (rowOf (hu3 lo y x) q n') k i).tdiv 65536)), .int .i64 (IntKind.i64.wrap (i + 1))] ⟨5, [(lo ++ [.int .u32 ((sm (rowOf (hu3 lo y x) p n) (rowOf (hu3 lo y x) q n') k i).tmod 65536)], tU), ([.int .u32 ((sm (rowOf (hu3 lo y x) p n) (rowOf (hu3 lo y x) q n') k i).tmod 65536)], tU), ([], 2 * dead), y, x]⟩ ((appChk tU (lo, tU) ([.int .u32 ((sm (rowOf (hu3 lo y x) p n) (rowOf (hu3 lo y x) q n') k i).tmod 65536)], tU) z 0 1, true) :: (decide ((65536 : Int) = 0), false) :: rP (hu3 lo y x) q n' c' :: rP (hu3 lo y x) p n c :: aLog 1 n n' k i) := ⟨by kernel_rfl, by kernel_rfl, by kernel_rfl⟩
theorem uadd_some2 (p q : Option Addr) (n c n' c' z : Nat) (k i : Int) (x y : List Value × TypeId) (lo : List Value) (g : Nat → Value) : GoesT (evC (tabH Tryd.prog extY conN hcV) 100 false (aLoop Tryd.f43) ([.slice p n c, .slice q n' c', undef, undef, nilS, sl 2 0 z grown, .int .u32 k, .int .i64 i] ++ tl 34 g, hu3 lo y x, aScr 2 ++ [cmp true, at_]) ⟨[], [], []⟩) 8 34 none [.slice p n c, .slice q n' c', undef, undef, nilS, sl 4 0 (z + 1) grown, .int .u32 (IntKind.u32.wrap ((sm (rowOf (hu3 lo y x) p n) (rowOf (hu3 lo y x) q n') k i).tdiv 65536)), .int .i64 (IntKind.i64.wrap (i + 1))] ⟨5, [(lo ++ [.int .u32 ((sm (rowOf (hu3 lo y x) p n) (rowOf (hu3 lo y x) q n') k i).tmod 65536)], tU), ([.int .u32 ((sm (rowOf (hu3 lo y x) p n) (rowOf (hu3 lo y x) q n') k i).tmod 65536)], tU), ([], 2 * dead), y, x]⟩ ((appChk tU (lo, tU) ([.int .u32 ((sm (rowOf (hu3 lo y x) p n) (rowOf (hu3 lo y x) q n') k i).tmod 65536)], tU) z 0 1, true) :: (decide ((65536 : Int) = 0), false) :: rP (hu3 lo y x) q n' c' :: rP (hu3 lo y x) p n c :: aLog 2 n n' k i) := ⟨by kernel_rfl, by kernel_rfl, by kernel_rfl⟩
theorem uadd_out (p q : Option Addr) (n c n' c' : Nat) (v : Value) (k i : Int) (h : Hp) (g : Nat → Value) : GoesT (evC (tabH Tryd.prog extY conN hcV) 100 false (aLoop Tryd.f43) ([.slice p n c, .slice q n' c', undef, undef, nilS, v, .int .u32 k, .int .i64 i] ++ tl 34 g, h, [cmp false, cmp false, cmp false]) ⟨[], [], []⟩) 8 34 (some (some 0)) [.slice p n c, .slice q n' c', undef, undef, nilS, v, .int .u32 k, .int .i64 i] h [(decide (k > 0), false), (decide (i < n'), false), (decide (i < n), false)] := ⟨by kernel_rfl, by kernel_rfl, by kernel_rfl⟩
theorem uadd_end (a b : Value) (z : Nat) (k i : Int) (x y : List Value × TypeId) (lo : List Value) (g : Nat → Value) : GoesT (evC (tabH Tryd.prog extY conN hcV) 100 false (aEnd Tryd.f43) ([a, b, undef, undef, nilS, sl 2 0 z grown, .int .u32 k, .int .i64 i] ++ tl 34 g, hu3 lo y x, []) ⟨[], [], []⟩) 5 37 (some none) [a, b, undef, undef, sl 2 0 (trimN (cutI lo 0 z)) (trimN (cutI lo 0 z))] (hu3 lo y x) [(rowC tU lo 0 z grown, true)] := ⟨by kernel_rfl, by kernel_rfl, by kernel_rfl⟩
theorem uadd_empty (p q : Option Addr) (n c n' c' : Nat) (h : Hp) : GoesT (evC (tabH Tryd.prog extY conN hcV) 100 false (cBody Tryd.f43) ([.slice p n c, .slice q n' c'] ++ List.replicate 40 undef, h, [cmp false, cmp false, cmp false]) ⟨[], [], []⟩) 5 37 (some none) [.slice p n c, .slice q n' c', undef, undef, nilS] h [(decide ((0 : Int) > 0), false), (decide ((0 : Int) < n'), false), (decide ((0 : Int) < n), false)] := ⟨by kernel_rfl, by kernel_rfl, by kernel_rfl⟩
end Go.Proofs.YtdlpffgekmidnaaDoor
