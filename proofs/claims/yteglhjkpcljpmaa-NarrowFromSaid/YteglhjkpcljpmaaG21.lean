/-
  What is known of calls that reach memory ('AnsH'), as a table for the reckoner; small helps for logs.
-/
import Derived.Test.YteglhjkpcljpmaaG20
import Derived.Test.YteglhjkpcljpmaaG04
import Derived.Test.YteglhjkpcljpmaaG10
namespace Go.Proofs.Yteglhjkpcljpmaa
open Go.KRun
set_option maxRecDepth 100000

theorem okOne {p : Bool × Bool} (h : p.1 = p.2) : okLog [p] := fun x hx => by rw [List.mem_singleton.1 hx]; exact h
theorem okTwo {p : Bool × Bool} {l : Log} (h : p.1 = p.2) (hl : okLog l) : okLog (p :: l) := fun x hx => by
  rcases List.mem_cons.1 hx with rfl | hx
  · exact h
  · exact hl x hx
theorem wrapI {n : Int} (h0 : -9223372036854775808 ≤ n) (h1 : n ≤ 9223372036854775807) : IntKind.i64.wrap n = n := by
  simp [IntKind.wrap, IntKind.bits, IntKind.signed]; omega
/-! ### what is known of calls with rows -/
abbrev Hc := Nat → List Value → Hp → List Dec → Option (Value × Hp × List Dec × Log)
abbrev AnsH := List Value → Hp → List Dec → Option (Value × Hp × List Dec × Log)
def AnsHOk (f : Nat) (g : AnsH) : Prop := ∀ vals h s v h' s' lg, g vals h s = some (v, h', s', lg) → okLog lg → ∀ m B w, Emb m B h w → (∀ v ∈ vals, lt h.n v = true) → Calls Try.prog f (vals.map (mv m)).toArray w fun e w' => ∃ m', e = .returned (mv m' v) ∧ Came m B h w v h' m' w'
structure HcOk (hc : Hc) : Prop where
  fn : ∀ f vals h s r, hc f vals h s = some r → ∃ F, Try.prog.funcs[f]? = some F ∧ F.body.isSome = true
  calls : ∀ f, AnsHOk f (hc f)
def hcN : Hc := fun _ _ _ _ => none
theorem hcN_ok : HcOk hcN := ⟨fun _ _ _ _ _ h => (by cases h), fun _ _ _ _ _ _ _ _ h => (by cases h)⟩
def altH (f : Nat) (g : AnsH) (hc : Hc) : Hc := fun f' vals h s => if Nat.beq f' f = true then g vals h s else hc f' vals h s
theorem altH_ok {f : Nat} {F : Func} (hF : Try.prog.funcs[f]? = some F) (hb : F.body.isSome = true) {g : AnsH} (hg : AnsHOk f g) {hc : Hc} (h : HcOk hc) : HcOk (altH f g hc) where
  fn := fun f' vals h' s r hr => by
    unfold altH at hr
    split at hr
    · rename_i e
      rw [Nat.eq_of_beq_eq_true e]
      exact ⟨F, hF, hb⟩
    · exact h.fn _ _ _ _ _ hr
  calls := fun f' vals h' s v h'' s' lg hr => by
    unfold altH at hr
    split at hr
    · rename_i e
      rw [Nat.eq_of_beq_eq_true e]
      exact hg _ _ _ _ _ _ _ hr
    · exact h.calls f' _ _ _ _ _ _ _ hr
def tabH (P : Program) (ext : Nat → List Value → Option (Value × Log)) (con : Con) (hc : Hc) : Tab := { P := P, fn := fun f => P.funcs[f]?, ext := ext, con := con, sym := true, hc := hc }
theorem tabH_ok {con : Con} (h : ConOk con) {hc : Hc} (hh : HcOk hc) : TabOk (tabH Try.prog extY con hc) where
  mixed := mixed
  ext := extY_ok
  con := fun f vals s v s' lg hc hl => ⟨by obtain ⟨F, h1, h2⟩ := h.fn f vals s v s' lg hc; exact ⟨F, (fns_ok f F h1).1, (fns_ok f F h1).2, h2⟩, h.calls f vals s v s' lg hc hl⟩
  fn := fns_ok
  hc := fun f vals h0 s v h' s' lg hr hl => ⟨by obtain ⟨F, h1, h2⟩ := hh.fn f vals h0 s _ hr; exact ⟨F, (fns_ok f F h1).1, (fns_ok f F h1).2, h2⟩, hh.calls f vals h0 s v h' s' lg hr hl⟩
end Go.Proofs.Yteglhjkpcljpmaa

/-
  nat.trim, as a call with a row.
-/
namespace Go.Proofs.Yteglhjkpcljpmaa
open Go.KRun Go.Nt
set_option maxRecDepth 100000

/-- words of 32 bits; the type of such a row's block, only read -/
def wU (L : List Int) : List Value := L.map (Value.int .u32)
def tU : TypeId := 23
def tR : TypeId := 23 + dead
theorem tR_ro : ro tR = true := by kernel_rfl
theorem tR_ab : ab tR = false := by kernel_rfl
theorem tR_tomb : tomb tR = false := by kernel_rfl
theorem tR_rt : rt tR = tU := by kernel_rfl
def sl (b o n c : Nat) : Value := .slice (some ⟨b, o, none⟩) n c
def nilS : Value := .slice none 0 0
def nPre (F : Func) : List Code := [cFst (cBody F)]
def nLoop (F : Func) : Code := cIn (cIn (cFst (cSnd (cBody F))))
def nEnd (F : Func) : Code := cSnd (cSnd (cBody F))
def n1 (n : Nat) : Int := IntKind.i64.wrap ((n : Int) - 1)
/-! ### rows of words in a memory -/
def intOf : Value → Int
  | .int _ n => n
  | _ => 0
def isU : Value → Bool
  | .int .u32 n => decide (0 ≤ n ∧ n < 4294967296)
  | _ => false
theorem isU_spec {v : Value} (h : isU v = true) : v = .int .u32 (intOf v) ∧ 0 ≤ intOf v ∧ intOf v < 4294967296 := by
  unfold isU at h
  split at h
  · simp only [decide_eq_true_eq] at h
    exact ⟨rfl, h.1, h.2⟩
  · cases h
def cutV (l : List Value) (o n : Nat) : List Value := (l.drop o).take n
def cutI (l : List Value) (o n : Nat) : List Int := (cutV l o n).map intOf
/-- a row of words, its capacity known -/
def rowOk (ty : TypeId) (l : List Value) (o n c : Nat) : Bool := !(tomb ty) && Nat.beq (rt ty) tU && Nat.ble (o + n) l.length && Nat.ble n c && smallC c && (cutV l o n).all isU && l.all still
theorem cutV_words {l : List Value} {o n : Nat} (h : ((cutV l o n).all isU) = true) : cutV l o n = wU (cutI l o n) := by
  unfold wU cutI
  rw [List.map_map]
  refine (List.map_id' _).symm.trans (List.map_congr_left fun v hv => ?_)
  exact (isU_spec (List.all_eq_true.1 h v hv)).1
/-- what is needed of a row in the smallest memory -/
structure Row (l : List Value) (o : Nat) (L : List Int) : Prop where
  len : o + L.length ≤ l.length
  cut : cutV l o L.length = wU L
  rng : ∀ x ∈ L, 0 ≤ x ∧ x < 4294967296
theorem Row.cell {l : List Value} {o : Nat} {L : List Int} (h : Row l o L) {k : Nat} (hk : k < L.length) : l[o + k]? = some (.int .u32 (L.getD k 0)) := by
  have e : (cutV l o L.length)[k]? = (wU L)[k]? := by rw [h.cut]
  unfold cutV wU at e
  rw [List.getElem?_take, if_pos hk, List.getElem?_drop, List.getElem?_map] at e
  rw [e, List.getElem?_eq_getElem hk]
  simp [List.getD, List.getElem?_eq_getElem hk]
theorem row_of {ty : TypeId} {l : List Value} {o n c : Nat} (h : rowOk ty l o n c = true) : Row l o (cutI l o n) ∧ (cutI l o n).length = n ∧ n ≤ c ∧ smallC c = true ∧ tomb ty = false ∧ rt ty = tU ∧ ∀ v ∈ l, still v = true := by
  unfold rowOk at h
  simp only [Bool.and_eq_true, Bool.not_eq_true'] at h
  obtain ⟨⟨⟨⟨⟨⟨h1, h2⟩, h3⟩, h4⟩, h5⟩, h6⟩, h7⟩ := h
  have h2 := Nat.eq_of_beq_eq_true h2
  have h3 := Nat.le_of_ble_eq_true h3
  have h4 := Nat.le_of_ble_eq_true h4
  have hlen : (cutI l o n).length = n := by unfold cutI cutV; simp; omega
  refine ⟨⟨by rw [hlen]; exact h3, by rw [hlen]; exact cutV_words h6, fun x hx => ?_⟩, hlen, h4, h5, h1, h2, List.all_eq_true.1 h7⟩
  unfold cutI at hx
  obtain ⟨v, hv, rfl⟩ := List.mem_map.1 hx
  have := isU_spec (List.all_eq_true.1 h6 v hv)
  exact ⟨this.2.1, this.2.2⟩
/-- one row, the smallest memory -/
theorem rows1 {l : List Value} (h : ∀ v ∈ l, still v = true) : (⟨1, [(l, tR)]⟩ : Hp).rows := by
  refine ⟨rfl, fun b x hb => ?_⟩
  have hb0 : b = 0 := by have : b < 1 := Hp.blk_lt hb; omega
  subst hb0
  have : x = (l, tR) := (Option.some.inj hb).symm
  rw [this]
  exact ⟨tR_ro, h, tR_ab⟩
theorem fitsR1 {l : List Value} {h : Hp} {b : Nat} {x : List Value × TypeId} (hb : h.blk? b = some x) (h1 : tomb x.2 = false) (h2 : rt x.2 = tU) (e : x.1 = l) : (⟨1, [(l, tR)]⟩ : Hp).fits (fun _ => b) h := by
  intro i y hi _
  have hb0 : i = 0 := by have : i < 1 := Hp.blk_lt hi; omega
  subst hb0
  have : y = (l, tR) := (Option.some.inj hi).symm
  rw [this]
  exact ⟨x, [], hb, h1, by rw [h2]; exact tR_rt.symm, by rw [e, List.append_nil]⟩
/-- two rows -/
def h2 (la lb : List Value) : Hp := ⟨2, [(lb, tR), (la, tR)]⟩
def pair (a b i : Nat) : Nat := if Nat.beq i 0 = true then a else b
theorem blk2 {la lb : List Value} {i : Nat} {x : List Value × TypeId} (h : (h2 la lb).blk? i = some x) : (i = 0 ∧ x = (la, tR)) ∨ (i = 1 ∧ x = (lb, tR)) := by
  have : i < 2 := Hp.blk_lt h
  have : i = 0 ∨ i = 1 := by omega
  rcases this with rfl | rfl
  · exact .inl ⟨rfl, (Option.some.inj h).symm⟩
  · exact .inr ⟨rfl, (Option.some.inj h).symm⟩
theorem rows2 {la lb : List Value} (ha : ∀ v ∈ la, still v = true) (hb : ∀ v ∈ lb, still v = true) : (h2 la lb).rows := by
  refine ⟨rfl, fun b x hx => ?_⟩
  rcases blk2 hx with ⟨_, e⟩ | ⟨_, e⟩ <;> rw [e]
  · exact ⟨tR_ro, ha, tR_ab⟩
  · exact ⟨tR_ro, hb, tR_ab⟩
theorem fitsR2 {h : Hp} {a b : Nat} {x y : List Value × TypeId} (hx : h.blk? a = some x) (x1 : tomb x.2 = false) (x2 : rt x.2 = tU) (hy : h.blk? b = some y) (y1 : tomb y.2 = false) (y2 : rt y.2 = tU) : (h2 x.1 y.1).fits (pair a b) h := by
  intro i z hz _
  rcases blk2 hz with ⟨rfl, e⟩ | ⟨rfl, e⟩ <;> rw [e]
  · exact ⟨x, [], hx, x1, by rw [x2]; exact tR_rt.symm, by rw [List.append_nil]⟩
  · exact ⟨y, [], hy, y1, by rw [y2]; exact tR_rt.symm, by rw [List.append_nil]⟩
/-- a row of which nothing is known -/
def hT : Hp := ⟨1, [([], 2 * dead)]⟩
theorem blkT {i : Nat} {x : List Value × TypeId} (h : hT.blk? i = some x) : x = ([], 2 * dead) := by
  have h1 : i < 1 := Hp.blk_lt h
  have h2 : i = 0 := by omega
  subst h2
  exact (Option.some.inj h).symm
theorem tombT : tomb (2 * dead) = true := by kernel_rfl
theorem roT : ro (2 * dead) = true := by kernel_rfl
theorem rowsT : hT.rows := ⟨rfl, fun b x hx => by rw [blkT hx]; exact ⟨roT, (fun v hv => by cases hv), by kernel_rfl⟩⟩
theorem fitsRT (s : Nat → Nat) (h : Hp) : hT.fits s h := fun i x hx ht => by rw [blkT hx, tombT] at ht; cases ht
end Go.Proofs.Yteglhjkpcljpmaa

/-
  A RUN THAT THE KERNEL RECKONS, XIV: pieces of code told by the first temporaries and by some further on.
-/
namespace Go.KRun
open Go.RowKit

/-- temporaries: the first, some of which nothing is known, some that are, the rest -/
def ml (front : List Value) (b : Nat) (g : Nat → Value) (mid : List Value) (n : Nat) (g' : Nat → Value) : List Value := front ++ (tl b g ++ (mid ++ tl n g'))
def GoesM (r : Option (Ex × Lf × Lg)) (a b c n : Nat) (e : Ex) (front mid : List Value) (h : Hp) (cs : Log) : Prop :=
  r.map (fun r => (r.1, r.2.1.1.take a, ((r.2.1.1.drop a).take b).length, ((r.2.1.1.drop a).drop b).take c, (((r.2.1.1.drop a).drop b).drop c).length, r.2.1.2.1, r.2.2.cs)) = some (e, front, b, mid, n, h, cs) ∧
    r.map (fun r => r.2.2.es.map Prod.fst) = r.map (fun r => r.2.2.es.map Prod.snd) ∧ r.map (fun r => r.2.2.bs.map Prod.fst) = r.map (fun r => r.2.2.bs.map Prod.snd)
theorem goesM_some {r : Option (Ex × Lf × Lg)} {a b c n : Nat} {e : Ex} {front mid : List Value} {h : Hp} {cs : Log} (hG : GoesM r a b c n e front mid h cs) (hcs : okLog cs) : ∃ g g' s L, r = some (e, (ml front b g mid n g', h, s), L) ∧ L.ok := by
  obtain ⟨h1, h5, h6⟩ := hG
  cases r with
  | none => cases h1
  | some r =>
    simp only [Option.map_some, Option.some.injEq, Prod.mk.injEq] at h1 h5 h6
    obtain ⟨e', ⟨t', h', s'⟩, L⟩ := r
    simp only at h1 h5 h6
    obtain ⟨h1, h2, h3, h4, h7, h8, h9⟩ := h1
    subst h1 h8
    obtain ⟨g, hg⟩ := tl_of h3
    obtain ⟨g', hg'⟩ := tl_of h7
    refine ⟨g, g', s', L, ?_, by rw [h9]; exact hcs, all_eq _ h5, all_eq _ h6⟩
    unfold ml
    rw [← h2, ← hg, ← h4, ← hg', List.take_append_drop, List.take_append_drop, List.take_append_drop]
theorem goesM_runs {T : Tab} (hT : TabOk T) {N : Nat} {c : Code} {t : List Value} {h h' : Hp} {s s0 : List Dec} {a b k n : Nat} {e : Ex} {front mid : List Value} {cs : Log} (hG : GoesM (evC T N false c (t, h, s) ⟨[], [], []⟩) a b k n e front mid h' cs) (hcs : okLog cs) :
    Runs T c (t, h, s0) fun e' y => e' = e ∧ (∃ g g', y.1 = ml front b g mid n g') ∧ y.2.1 = h' := by
  obtain ⟨g, g', s', L, hr, hL⟩ := goesM_some hG hcs
  refine Runs.script ((Runs.ev hT hr hL).mono fun e2 y he => ?_)
  obtain ⟨rfl, rfl⟩ := he
  exact ⟨rfl, ⟨g, g', rfl⟩, rfl⟩
end Go.KRun
