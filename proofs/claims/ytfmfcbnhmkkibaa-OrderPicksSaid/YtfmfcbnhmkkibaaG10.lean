/-
  PLAIN ARITHMETIC: the digits of a number to a base, the lowest first, the last one not 0; the number of digits.
-/
import Derived.Test.YtfmfcbnhmkkibaaG08
import Derived.Test.YtfmfcbnhmkkibaaG09
namespace Go.Nt

/-- a number's value, of digits to a base -/
def vb (b : Nat) : List Int → Nat
  | [] => 0
  | x :: l => x.toNat + b * vb b l
/-- a number's digits -/
def db (b V : Nat) : List Int := if _h : V = 0 ∨ b < 2 then [] else ((V % b : Nat) : Int) :: db b (V / b)
  termination_by V
  decreasing_by exact Nat.div_lt_self (by omega) (by omega)
/-- digits to a base -/
abbrev Dg (b : Nat) (x : Int) : Prop := 0 ≤ x ∧ x < b
theorem db_zero (b : Nat) : db b 0 = [] := by rw [db]; simp
theorem db_pos {b V : Nat} (hb : 2 ≤ b) (hV : V ≠ 0) : db b V = ((V % b : Nat) : Int) :: db b (V / b) := by
  rw [db]
  rw [dif_neg (by omega)]
theorem vb_db {b : Nat} (hb : 2 ≤ b) (V : Nat) : vb b (db b V) = V := by
  induction V using Nat.strongRecOn with
  | ind V ih =>
    by_cases hV : V = 0
    · subst hV; rw [db_zero]; rfl
    · rw [db_pos hb hV]
      simp only [vb]
      rw [ih (V / b) (Nat.div_lt_self (by omega) (by omega)), Int.toNat_natCast]
      exact Nat.mod_add_div V b
theorem db_dg {b : Nat} (hb : 2 ≤ b) (V : Nat) : ∀ x ∈ db b V, Dg b x := by
  induction V using Nat.strongRecOn with
  | ind V ih =>
    by_cases hV : V = 0
    · subst hV; rw [db_zero]; intro x hx; cases hx
    · rw [db_pos hb hV]
      intro x hx
      rcases List.mem_cons.1 hx with rfl | hx
      · have := Nat.mod_lt V (show b > 0 by omega)
        exact ⟨by omega, by omega⟩
      · exact ih (V / b) (Nat.div_lt_self (by omega) (by omega)) x hx
theorem db_nil {b V : Nat} (hb : 2 ≤ b) : db b V = [] ↔ V = 0 := by
  constructor
  · intro h
    by_cases hV : V = 0
    · exact hV
    · rw [db_pos hb hV] at h; cases h
  · rintro rfl; exact db_zero b
/-- digits without noughts at the end are the number's -/
theorem take_trim {b : Nat} (hb : 2 ≤ b) : ∀ (L : List Int), (∀ x ∈ L, Dg b x) → L.take (trimN L) = db b (vb b L)
  | [], _ => by simp [vb, db_zero]
  | x :: r, h => by
    have ih := take_trim hb r (fun y hy => h y (List.mem_cons_of_mem _ hy))
    have hx := h x (List.mem_cons_self)
    have hxn : ((x.toNat : Nat) : Int) = x := Int.toNat_of_nonneg hx.1
    have hlt : x.toNat < b := by omega
    have e1 : (x.toNat + b * vb b r) % b = x.toNat := by rw [Nat.add_mul_mod_self_left, Nat.mod_eq_of_lt hlt]
    have e2 : (x.toNat + b * vb b r) / b = vb b r := by rw [Nat.add_mul_div_left _ _ (by omega), Nat.div_eq_of_lt hlt, Nat.zero_add]
    unfold trimN
    by_cases h0 : trimN r = 0
    · rw [if_pos h0]
      rw [h0, List.take_zero] at ih
      have hv : vb b r = 0 := (db_nil hb).1 ih.symm
      by_cases hx0 : x = 0
      · rw [if_pos hx0]
        simp only [List.take_zero, vb, hv, hx0]
        simp [db_zero]
      · rw [if_neg hx0]
        have hx1 : x.toNat ≠ 0 := by omega
        show [x] = _
        simp only [vb]
        rw [db_pos hb (by rw [hv]; omega), e1, e2, hv, db_zero, hxn]
    · rw [if_neg h0]
      have hv : vb b r ≠ 0 := fun hv => by
        rw [hv, db_zero] at ih
        have hl := congrArg List.length ih
        have := trimN_le r
        simp at hl
        rcases hl with hl | hl
        · exact h0 hl
        · subst hl; exact h0 rfl
      have hpos : 0 < b * vb b r := Nat.mul_pos (by omega) (by omega)
      show x :: r.take (trimN r) = _
      simp only [vb]
      rw [db_pos hb (by omega), e1, e2, hxn, ih]
theorem trim_len {b : Nat} (hb : 2 ≤ b) {L : List Int} (h : ∀ x ∈ L, Dg b x) : trimN L = (db b (vb b L)).length := by
  rw [← take_trim hb L h]
  have := trimN_le L
  simp
  omega
/-- a number's digits are those of it -/
def Canon (b : Nat) (L : List Int) : Prop := (∀ x ∈ L, Dg b x) ∧ trimN L = L.length
theorem can_db {b : Nat} (hb : 2 ≤ b) (V : Nat) : Canon b (db b V) := by
  have h := db_dg hb V
  refine ⟨h, ?_⟩
  have := trim_len hb h
  rw [vb_db hb] at this
  exact this
theorem db_can {b : Nat} (hb : 2 ≤ b) {L : List Int} (h : Canon b L) : db b (vb b L) = L := by
  rw [← take_trim hb L h.1, h.2, List.take_length]
theorem db_len {b : Nat} (hb : 2 ≤ b) : ∀ (k V : Nat), V < b ^ k → (db b V).length ≤ k
  | 0, V, h => by
    have : V = 0 := by simpa using h
    subst this; rw [db_zero]; exact Nat.le_refl _
  | k + 1, V, h => by
    by_cases hV : V = 0
    · subst hV; rw [db_zero]; exact Nat.zero_le _
    · rw [db_pos hb hV]
      have : V / b < b ^ k := Nat.div_lt_of_lt_mul (by rw [Nat.pow_succ] at h; rw [Nat.mul_comm]; exact h)
      have := db_len hb k (V / b) this
      simp
      omega
theorem vb_lt {b : Nat} (hb : 2 ≤ b) : ∀ (L : List Int), (∀ x ∈ L, Dg b x) → vb b L < b ^ L.length
  | [], _ => by simp [vb]
  | x :: r, h => by
    have ih := vb_lt hb r (fun y hy => h y (List.mem_cons_of_mem _ hy))
    have hx := h x (List.mem_cons_self)
    have hlt : x.toNat < b := by omega
    simp only [vb, List.length_cons, Nat.pow_succ]
    calc x.toNat + b * vb b r < b + b * vb b r := by omega
      _ = b * (vb b r + 1) := by rw [Nat.mul_add, Nat.mul_one, Nat.add_comm]
      _ ≤ b * b ^ r.length := Nat.mul_le_mul_left _ ih
      _ = b ^ r.length * b := Nat.mul_comm _ _
theorem vb_append (b : Nat) : ∀ (L M : List Int), vb b (L ++ M) = vb b L + b ^ L.length * vb b M
  | [], M => by simp [vb]
  | x :: r, M => by
    simp only [List.cons_append, vb, vb_append b r M, List.length_cons, Nat.pow_succ]
    rw [Nat.mul_add, ← Nat.mul_assoc, Nat.mul_comm b (b ^ r.length)]
    omega
end Go.Nt

/-
  The document's rows of parts of 16 bits (tillerref02): trim, as a call with a row.
-/
namespace Go.Proofs.Ytfmfcbnhmkkibaa
open Go.KRun Go.Nt
set_option maxRecDepth 100000

def uPre (F : Func) : List Code := [cFst (cBody F), cFst (cSnd (cBody F))]
def uLoop (F : Func) : Code := cIn (cIn (cFst (cSnd (cSnd (cBody F)))))
def uEnd (F : Func) : Code := cSnd (cSnd (cSnd (cBody F)))
theorem utrim_body : Try.f48.body = some (seqs (uPre Try.f48) (.seq (.block 0 (.loop (uLoop Try.f48))) (uEnd Try.f48))) := by kernel_rfl
theorem utr_pre (p : Option Addr) (n c : Nat) (h : Hp) : GoesT (evL (tabOf Try.prog extY conN true) 100 (uPre Try.f48) ([.slice p n c] ++ List.replicate 21 undef, h, []) ⟨[], [], []⟩) 4 18 none [.slice p n c, undef, nilS, .int .i64 n] h [] := ⟨by kernel_rfl, by kernel_rfl, by kernel_rfl⟩
def i1 (k : Int) : Int := IntKind.i64.wrap (k - 1)
theorem utr_go (o n c : Nat) (k x : Int) (l : List Value) (j1 j2 : Value) (g : Nat → Value) : GoesT (evC (tabOf Try.prog extY conN true) 100 false (uLoop Try.f48) ([sl 0 o n c, j1, j2, .int .i64 k] ++ tl 18 g, ⟨1, [(l, tR)]⟩, [cmp true, at_, val (.int .u32 x), cmp true]) ⟨[], [], []⟩) 4 18 none [sl 0 o n c, j1, j2, .int .i64 (i1 k)] ⟨1, [(l, tR)]⟩
    [(x == 0, true), (cellIs (l[o + (i1 k).toNat * 1]?) (.int .u32 x), true), (decide (0 ≤ i1 k ∧ i1 k < n), true), (decide (k > 0), true)] := ⟨by kernel_rfl, by kernel_rfl, by kernel_rfl⟩
theorem utr_out1 (o n c : Nat) (k x : Int) (l : List Value) (j1 j2 : Value) (g : Nat → Value) : GoesT (evC (tabOf Try.prog extY conN true) 100 false (uLoop Try.f48) ([sl 0 o n c, j1, j2, .int .i64 k] ++ tl 18 g, ⟨1, [(l, tR)]⟩, [cmp true, at_, val (.int .u32 x), cmp false]) ⟨[], [], []⟩) 4 18 (some (some 0)) [sl 0 o n c, j1, j2, .int .i64 k] ⟨1, [(l, tR)]⟩
    [(x == 0, false), (cellIs (l[o + (i1 k).toNat * 1]?) (.int .u32 x), true), (decide (0 ≤ i1 k ∧ i1 k < n), true), (decide (k > 0), true)] := ⟨by kernel_rfl, by kernel_rfl, by kernel_rfl⟩
theorem utr_out0 (v : Value) (k : Int) (h : Hp) (j1 j2 : Value) (g : Nat → Value) : GoesT (evC (tabOf Try.prog extY conN true) 100 false (uLoop Try.f48) ([v, j1, j2, .int .i64 k] ++ tl 18 g, h, [cmp false]) ⟨[], [], []⟩) 4 18 (some (some 0)) [v, j1, j2, .int .i64 k] h [(decide (k > 0), false)] := ⟨by kernel_rfl, by kernel_rfl, by kernel_rfl⟩
theorem utr_end (o n c k : Nat) (l : List Value) (j1 j2 : Value) (g : Nat → Value) : GoesT (evC (tabOf Try.prog extY conN true) 100 false (uEnd Try.f48) ([sl 0 o n c, j1, j2, .int .i64 k] ++ tl 18 g, ⟨1, [(l, tR)]⟩, [num 0]) ⟨[], [], []⟩) 4 18 (some none) [sl 0 o n c, j1, sl 0 o k k, .int .i64 k] ⟨1, [(l, tR)]⟩
    [(smallC c, true), (okPart 0 k k c, true), (decide ((k : Int) = 0 ∧ (0 : Int) ≠ 0), false)] := ⟨by kernel_rfl, by kernel_rfl, by kernel_rfl⟩
theorem utr_endg (n k : Nat) (l : List Value) (j1 j2 : Value) (g : Nat → Value) : GoesT (evC (tabOf Try.prog extY conN true) 100 false (uEnd Try.f48) ([sl 0 0 n grown, j1, j2, .int .i64 k] ++ tl 18 g, ⟨1, [(l, tR)]⟩, [at_]) ⟨[], [], []⟩) 4 18 (some none) [sl 0 0 n grown, j1, sl 0 0 k k, .int .i64 k] ⟨1, [(l, tR)]⟩
    [(okPart 0 k k n, true), (decide ((k : Int) = 0 ∧ (0 : Int) ≠ 0), false), (!(tomb tR) && Nat.ble n l.length, true)] := ⟨by kernel_rfl, by kernel_rfl, by kernel_rfl⟩
/-- a capacity that is known, or the whole block's -/
def capOk (o n c : Nat) : Bool := (smallC c && Nat.ble n c) || (Nat.beq c grown && Nat.beq o 0)
theorem utrim_runs {l : List Value} {o c : Nat} {L : List Int} (hR : Row l o L) (hL : L.length < 4611686018427387904) (hc : capOk o L.length c = true) :
    Runs (tabOf Try.prog extY conN true) (seqs (uPre Try.f48) (.seq (.block 0 (.loop (uLoop Try.f48))) (uEnd Try.f48))) ([sl 0 o L.length c] ++ List.replicate 21 undef, ⟨1, [(l, tR)]⟩, []) fun e y => (e = none ∨ e = some none) ∧ resS Try.prog Try.f48 y.1 y.2.1 = some (sl 0 o (trimN L) (trimN L)) := by
  refine goesT_list (tabY_ok conN_ok) (utr_pre _ _ _ _) (fun x hx => by cases hx) fun g => ?_
  refine Runs.seq (P1 := fun e y => e = none ∧ (∃ g, y.1 = [sl 0 o L.length c, undef, nilS, .int .i64 (trimN L : Nat)] ++ tl 18 g) ∧ y.2.1 = ⟨1, [(l, tR)]⟩) ?_ ?_ (fun e y he => by cases he.1)
  · refine (Runs.forLoop (P := fun y => (∃ g, y.1 = [sl 0 o L.length c, undef, nilS, .int .i64 (trimN L : Nat)] ++ tl 18 g) ∧ y.2.1 = ⟨1, [(l, tR)]⟩) (R := fun _ => False) (fun n y => (∃ g, y.1 = [sl 0 o L.length c, undef, nilS, .int .i64 (n : Nat)] ++ tl 18 g) ∧ y.2.1 = ⟨1, [(l, tR)]⟩ ∧ n ≤ L.length ∧ ∀ i, n ≤ i → L.getD i 0 = 0) ?_ (n := L.length) ⟨⟨g, rfl⟩, rfl, Nat.le_refl _, fun i hi => by simp [List.getD, List.getElem?_eq_none hi]⟩).mono fun e y he => ?_
    · rintro n ⟨t, h', s⟩ ⟨⟨g, ht⟩, hh, hle, hz⟩
      simp only at ht hh
      subst ht hh
      cases n with
      | zero =>
        refine (goesT_runs (tabY_ok conN_ok) (utr_out0 _ _ _ undef nilS g) (okOne (by rfl))).mono fun e y he => ?_
        obtain ⟨rfl, ⟨g', h2⟩, h3⟩ := he
        have e0 : trimN L = 0 := trimN_uniq hz (.inl rfl)
        exact ⟨rfl, ⟨g', by rw [h2, e0]⟩, h3⟩
      | succ k =>
        have ek : i1 ((k + 1 : Nat) : Int) = (k : Int) := by
          unfold i1
          rw [wrapI (by omega) (by omega)]
          omega
        have hcell := hR.cell (k := k) (by omega)
        have hce : cellIs (l[o + (i1 ((k + 1 : Nat) : Int)).toNat * 1]?) (.int .u32 (L.getD k 0)) = true := by
          rw [ek, Int.toNat_natCast, Nat.mul_one, hcell]
          simp [cellIs]
        have hix : decide (0 ≤ i1 ((k + 1 : Nat) : Int) ∧ i1 ((k + 1 : Nat) : Int) < (L.length : Int)) = true := by rw [ek]; exact decide_eq_true (by omega)
        have hgt : decide (((k + 1 : Nat) : Int) > 0) = true := decide_eq_true (by omega)
        by_cases hx : L.getD k 0 = 0
        · refine (goesT_runs (tabY_ok conN_ok) (utr_go o L.length c ((k + 1 : Nat) : Int) (L.getD k 0) l undef nilS g) (okTwo (by rw [hx]; rfl) (okTwo hce (okTwo hix (okOne hgt))))).mono fun e y he => ?_
          obtain ⟨rfl, ⟨g', h2⟩, h3⟩ := he
          rw [ek] at h2
          refine ⟨k, by omega, ⟨g', h2⟩, h3, by omega, fun i hi => ?_⟩
          rcases Nat.lt_or_ge k i with h | h
          · exact hz i h
          · have : i = k := by omega
            rw [this]; exact hx
        · refine (goesT_runs (tabY_ok conN_ok) (utr_out1 o L.length c ((k + 1 : Nat) : Int) (L.getD k 0) l undef nilS g) (okTwo (by simpa using hx) (okTwo hce (okTwo hix (okOne hgt))))).mono fun e y he => ?_
          obtain ⟨rfl, ⟨g', h2⟩, h3⟩ := he
          have e0 : trimN L = k + 1 := trimN_uniq hz (.inr (by simpa using hx))
          exact ⟨rfl, ⟨g', by rw [h2, e0]⟩, h3⟩
    · match e, he with
      | none, he => exact ⟨rfl, he⟩
  · rintro ⟨t, h', s⟩ ⟨_, ⟨g', ht⟩, hh⟩
    simp only at ht hh
    subst ht hh
    have hle := trimN_le L
    have hp : okPart 0 (trimN L : Nat) (trimN L : Nat) (L.length : Nat) = true := by unfold okPart; exact decide_eq_true (by omega)
    unfold capOk at hc
    simp only [Bool.or_eq_true, Bool.and_eq_true] at hc
    rcases hc with ⟨h1, h2⟩ | ⟨h1, h2⟩
    · have h2 := Nat.le_of_ble_eq_true h2
      have h1' : c < 4611686018427387904 := blt_iff.1 h1
      refine (goesT_runs (tabY_ok conN_ok) (utr_end o L.length c (trimN L) l undef nilS g') (okTwo h1 (okTwo (by unfold okPart; exact decide_eq_true (by omega)) (okOne (decide_eq_false (by omega)))))).mono fun e y he => ?_
      obtain ⟨rfl, ⟨g2, h2⟩, h3⟩ := he
      refine ⟨.inr rfl, ?_⟩
      rw [h2, h3]
      rfl
    · have h1 := Nat.eq_of_beq_eq_true h1
      have h2 := Nat.eq_of_beq_eq_true h2
      subst h1 h2
      have hlen := hR.len
      refine (goesT_runs (tabY_ok conN_ok) (utr_endg L.length (trimN L) l undef nilS g') (okTwo hp (okTwo (decide_eq_false (by omega)) (okOne (by
        rw [tR_tomb, Nat.ble_eq_true_of_le (by omega)]; rfl))))).mono fun e y he => ?_
      obtain ⟨rfl, ⟨g2, h2⟩, h3⟩ := he
      refine ⟨.inr rfl, ?_⟩
      rw [h2, h3]
      rfl
/-- a row of words, its capacity known or the whole block's -/
def rowC (ty : TypeId) (l : List Value) (o n c : Nat) : Bool := !(tomb ty) && Nat.beq (rt ty) tU && Nat.ble (o + n) l.length && Nat.blt n 4611686018427387904 && capOk o n c && (cutV l o n).all isU && l.all still
theorem rowC_of {ty : TypeId} {l : List Value} {o n c : Nat} (h : rowC ty l o n c = true) : Row l o (cutI l o n) ∧ (cutI l o n).length = n ∧ n < 4611686018427387904 ∧ capOk o n c = true ∧ tomb ty = false ∧ rt ty = tU ∧ ∀ v ∈ l, still v = true := by
  unfold rowC at h
  simp only [Bool.and_eq_true, Bool.not_eq_true'] at h
  obtain ⟨⟨⟨⟨⟨⟨h1, h2⟩, h3⟩, h4⟩, h5⟩, h6⟩, h7⟩ := h
  have h2 := Nat.eq_of_beq_eq_true h2
  have h3 := Nat.le_of_ble_eq_true h3
  have h4 := blt_iff.1 h4
  have hlen : (cutI l o n).length = n := by unfold cutI cutV; simp; omega
  refine ⟨⟨by rw [hlen]; exact h3, by rw [hlen]; exact cutV_words h6, fun x hx => ?_⟩, hlen, h4, h5, h1, h2, List.all_eq_true.1 h7⟩
  unfold cutI at hx
  obtain ⟨v, hv, rfl⟩ := List.mem_map.1 hx
  have := isU_spec (List.all_eq_true.1 h6 v hv)
  exact ⟨this.2.1, this.2.2⟩
theorem utrim_nil : Fits (reckon (tabOf Try.prog extY conN true) 100 48 [nilS] []) nilS [] := ⟨by kernel_rfl, by kernel_rfl, by kernel_rfl, by kernel_rfl⟩
def gUtrim : AnsH := fun vals h s =>
  match vals with
  | [.slice none 0 0] => some (nilS, h, s, [])
  | [.slice (some ⟨b, o, none⟩) n c] =>
    match h.blk? b with
    | some x => some (sl b o (trimN (cutI x.1 o n)) (trimN (cutI x.1 o n)), h, s, [(rowC x.2 x.1 o n c, true)])
    | none => none
  | _ => none
theorem gUtrim_ok : AnsHOk 48 gUtrim := by
  intro vals h s v h' s' lg hg hl m B w E hv
  unfold gUtrim at hg
  split at hg
  · cases hg
    refine (fits_calls (tabY_ok conN_ok) utrim_nil (fun x hx => by cases hx) (by rfl) (by rfl) w).mono fun e w' he => ?_
    obtain ⟨E', hb⟩ := clean_emb E he.2
    exact ⟨m, he.1, ⟨Agree.refl _ _, E', hb, Nat.le_refl _, rfl⟩⟩
  · rename_i b o n c
    split at hg
    · rename_i x hx
      cases hg
      obtain ⟨h1, h2, h3, h4, h5, h6, h7⟩ := rowC_of (hl _ (List.mem_singleton.2 rfl))
      have hlt := Hp.blk_lt hx
      have r := utrim_runs (c := c) h1 (by rw [h2]; exact h3) (by rw [h2]; exact h4)
      rw [h2] at r
      have := row_calls (T := tabOf Try.prog extY conN true) Try.func48 utrim_body (rows1 h7) (vals := [sl 0 o n c]) (fun v hv => by rw [List.mem_singleton.1 hv]; rfl) (by rfl) r E (s := fun _ => b) (fun i _ => hlt) (fitsR1 hx h5 h6 rfl)
      exact this.mono fun e w' he => ⟨m, he.1, he.2⟩
    · cases hg
  · cases hg
end Go.Proofs.Ytfmfcbnhmkkibaa

/-
  PLAIN ARITHMETIC: words of 32 bits as parts of 16.
-/
namespace Go.Nt

/-- each word's two parts -/
def fl : List Int → List Int
  | [] => []
  | x :: l => x % 65536 :: x / 65536 :: fl l
theorem fl_len : ∀ L : List Int, (fl L).length = 2 * L.length
  | [] => rfl
  | x :: l => by simp [fl, fl_len l]; omega
theorem fl_append : ∀ L M : List Int, fl (L ++ M) = fl L ++ fl M
  | [], M => rfl
  | x :: l, M => by simp [fl, fl_append l M]
theorem fl_dg : ∀ {L : List Int}, (∀ x ∈ L, 0 ≤ x ∧ x < 4294967296) → ∀ y ∈ fl L, Dg 65536 y
  | [], _, y, hy => by cases hy
  | x :: l, h, y, hy => by
    have hx := h x (List.mem_cons_self)
    simp only [fl, List.mem_cons] at hy
    rcases hy with rfl | rfl | hy
    · exact ⟨by omega, by omega⟩
    · exact ⟨by omega, by omega⟩
    · exact fl_dg (fun z hz => h z (List.mem_cons_of_mem _ hz)) y hy
theorem fl_val : ∀ {L : List Int}, (∀ x ∈ L, 0 ≤ x ∧ x < 4294967296) → vb 65536 (fl L) = vb 4294967296 L
  | [], _ => rfl
  | x :: l, h => by
    have hx := h x (List.mem_cons_self)
    simp only [fl, vb, fl_val (fun z hz => h z (List.mem_cons_of_mem _ hz))]
    omega
theorem vb_one (b : Nat) (x : Int) : vb b [x] = x.toNat := by simp [vb]
theorem vb_take (b : Nat) (L : List Int) (i : Nat) : vb b (L.take (i + 1)) = vb b (L.take i) + b ^ i * (L.getD i 0).toNat := by
  by_cases h : i < L.length
  · have e : L.take (i + 1) = L.take i ++ [L.getD i 0] := by
      rw [List.take_add_one, List.getElem?_eq_getElem h]
      simp [List.getD, List.getElem?_eq_getElem h]
    rw [e, vb_append, vb_one, List.length_take]
    rw [show min i L.length = i from by omega]
  · rw [List.take_of_length_le (by omega), List.take_of_length_le (by omega)]
    simp [List.getD, List.getElem?_eq_none (show L.length ≤ i by omega)]
theorem vb_snoc (b : Nat) (O : List Int) (x : Int) : vb b (O ++ [x]) = vb b O + b ^ O.length * x.toNat := by rw [vb_append, vb_one]
/-- one digit more of a sum: what is carried is told by the base's power -/
theorem sum_stepB {b : Nat} {O : List Int} {X Y : Nat} {k a c : Nat} (h : vb b O + b ^ O.length * k = X + Y) :
    vb b (O ++ [(((k + a + c) % b : Nat) : Int)]) + b ^ (O.length + 1) * ((k + a + c) / b) = (X + b ^ O.length * a) + (Y + b ^ O.length * c) := by
  rw [vb_snoc, Int.toNat_natCast, Nat.pow_succ, Nat.mul_assoc]
  have e := Nat.mod_add_div (k + a + c) b
  generalize hP : b ^ O.length = P at *
  have e1 : P * ((k + a + c) % b) + P * (b * ((k + a + c) / b)) = P * (k + a + c) := by rw [← Nat.mul_add, e]
  have e2 : P * (k + a + c) = P * k + P * a + P * c := by rw [Nat.mul_add, Nat.mul_add]
  omega
end Go.Nt
