/-
  nat.trim, as a call with a row.
-/
import Derived.Test.YtbjgkhbhabdjgaaDoorG06
import Derived.Test.YtbjgkhbhabdjgaaDoorG08
namespace Go.Proofs.YtbjgkhbhabdjgaaDoor
open Go.KRun Go.Nt
set_option maxRecDepth 100000

/-- words of 32 bits; the type of such a row's block, only read -/
def wU (L : List Int) : List Value := L.map (Value.int .u32)
def tU : TypeId := 44
def tR : TypeId := 44 + dead
theorem tR_ro : ro tR = true := by kernel_rfl
theorem tR_ab : ab tR = false := by kernel_rfl
theorem tR_tomb : tomb tR = false := by kernel_rfl
theorem tR_rt : rt tR = tU := by kernel_rfl
def sl (b o n c : Nat) : Value := .slice (some ⟨b, o, none⟩) n c
def nilS : Value := .slice none 0 0
def nPre (F : Func) : List Code := [cFst (cBody F)]
def nLoop (F : Func) : Code := cIn (cIn (cFst (cSnd (cBody F))))
def nEnd (F : Func) : Code := cSnd (cSnd (cBody F))
theorem trim_body : Tryd.f41.body = some (seqs (nPre Tryd.f41) (.seq (.block 0 (.loop (nLoop Tryd.f41))) (nEnd Tryd.f41))) := by kernel_rfl
theorem trim_pre (v : Value) (h : Hp) : GoesT (evL (tabOf Tryd.prog extY conN true) 100 (nPre Tryd.f41) ([v] ++ List.replicate 20 undef, h, []) ⟨[], [], []⟩) 3 18 none [v, undef, nilS] h [] := ⟨by kernel_rfl, by kernel_rfl, by kernel_rfl⟩
def n1 (n : Nat) : Int := IntKind.i64.wrap ((n : Int) - 1)
theorem trim_go (o n c : Nat) (x : Int) (l : List Value) (j1 j2 : Value) (g : Nat → Value) : GoesE (evC (tabOf Tryd.prog extY conN true) 100 false (nLoop Tryd.f41) ([sl 0 o n c, j1, j2] ++ tl 18 g, ⟨1, [(l, tR)]⟩, [cmp true, at_, val (.int .u32 x), cmp true, num 0]) ⟨[], [], []⟩) 3 18 none
    [sl 0 o (n1 n).toNat c, j1, j2] ⟨1, [(l, tR)]⟩ [(smallC c, true), (okPart 0 (n1 n) c c, true), (decide ((c : Int) = 0 ∧ (0 : Int) ≠ 0), false), (x == 0, true), (cellIs (l[o + (n1 n).toNat * 1]?) (.int .u32 x), true), (decide (0 ≤ n1 n ∧ n1 n < n), true), (decide ((n : Int) > 0), true)] := by unfold GoesE; kernel_rfl
theorem trim_out0 (j1 j2 : Value) (p : Option Addr) (n c : Nat) (h : Hp) (g : Nat → Value) : GoesE (evC (tabOf Tryd.prog extY conN true) 100 false (nLoop Tryd.f41) ([.slice p n c, j1, j2] ++ tl 18 g, h, [cmp false]) ⟨[], [], []⟩) 3 18 (some (some 0))
    [.slice p n c, j1, j2] h [(decide ((n : Int) > 0), false)] := by unfold GoesE; kernel_rfl
theorem trim_out1 (o n c : Nat) (x : Int) (l : List Value) (j1 j2 : Value) (g : Nat → Value) : GoesE (evC (tabOf Tryd.prog extY conN true) 100 false (nLoop Tryd.f41) ([sl 0 o n c, j1, j2] ++ tl 18 g, ⟨1, [(l, tR)]⟩, [cmp true, at_, val (.int .u32 x), cmp false]) ⟨[], [], []⟩) 3 18 (some (some 0))
    [sl 0 o n c, j1, j2] ⟨1, [(l, tR)]⟩ [(x == 0, false), (cellIs (l[o + (n1 n).toNat * 1]?) (.int .u32 x), true), (decide (0 ≤ n1 n ∧ n1 n < n), true), (decide ((n : Int) > 0), true)] := by unfold GoesE; kernel_rfl
theorem trim_end (v j1 j2 : Value) (h : Hp) (g : Nat → Value) : GoesT (evC (tabOf Tryd.prog extY conN true) 100 false (nEnd Tryd.f41) ([v, j1, j2] ++ tl 18 g, h, []) ⟨[], [], []⟩) 3 18 (some none) [v, j1, v] h [] := ⟨by kernel_rfl, by kernel_rfl, by kernel_rfl⟩
/-! ### rows of words in a memory -/
def intOf : Value → Int
  | .int _ n => n
  | _ => 0
def isU : Value → Bool
  | .int .u32 n => decide (0 ≤ n ∧ n < 4294967296)
  | _ => false
theorem isU_spec {v : Value} (h : isU v = true) : v = .int .u32 (intOf v) ∧ 0 ≤ intOf v ∧ intOf v < 4294967296 := by
  unfold isU at h
  split at h
  · simp only [decide_eq_true_eq] at h
    exact ⟨rfl, h.1, h.2⟩
  · cases h
def cutV (l : List Value) (o n : Nat) : List Value := (l.drop o).take n
def cutI (l : List Value) (o n : Nat) : List Int := (cutV l o n).map intOf
/-- a row of words, its capacity known -/
def rowOk (ty : TypeId) (l : List Value) (o n c : Nat) : Bool := !(tomb ty) && Nat.beq (rt ty) tU && Nat.ble (o + n) l.length && Nat.ble n c && smallC c && (cutV l o n).all isU && l.all still
theorem cutV_words {l : List Value} {o n : Nat} (h : ((cutV l o n).all isU) = true) : cutV l o n = wU (cutI l o n) := by
  unfold wU cutI
  rw [List.map_map]
  refine (List.map_id' _).symm.trans (List.map_congr_left fun v hv => ?_)
  exact (isU_spec (List.all_eq_true.1 h v hv)).1
/-- what is needed of a row in the smallest memory -/
structure Row (l : List Value) (o : Nat) (L : List Int) : Prop where
  len : o + L.length ≤ l.length
  cut : cutV l o L.length = wU L
  rng : ∀ x ∈ L, 0 ≤ x ∧ x < 4294967296
theorem Row.cell {l : List Value} {o : Nat} {L : List Int} (h : Row l o L) {k : Nat} (hk : k < L.length) : l[o + k]? = some (.int .u32 (L.getD k 0)) := by
  have e : (cutV l o L.length)[k]? = (wU L)[k]? := by rw [h.cut]
  unfold cutV wU at e
  rw [List.getElem?_take, if_pos hk, List.getElem?_drop, List.getElem?_map] at e
  rw [e, List.getElem?_eq_getElem hk]
  simp [List.getD, List.getElem?_eq_getElem hk]
theorem row_of {ty : TypeId} {l : List Value} {o n c : Nat} (h : rowOk ty l o n c = true) : Row l o (cutI l o n) ∧ (cutI l o n).length = n ∧ n ≤ c ∧ smallC c = true ∧ tomb ty = false ∧ rt ty = tU ∧ ∀ v ∈ l, still v = true := by
  unfold rowOk at h
  simp only [Bool.and_eq_true, Bool.not_eq_true'] at h
  obtain ⟨⟨⟨⟨⟨⟨h1, h2⟩, h3⟩, h4⟩, h5⟩, h6⟩, h7⟩ := h
  have h2 := Nat.eq_of_beq_eq_true h2
  have h3 := Nat.le_of_ble_eq_true h3
  have h4 := Nat.le_of_ble_eq_true h4
  have hlen : (cutI l o n).length = n := by unfold cutI cutV; simp; omega
  refine ⟨⟨by rw [hlen]; exact h3, by rw [hlen]; exact cutV_words h6, fun x hx => ?_⟩, hlen, h4, h5, h1, h2, List.all_eq_true.1 h7⟩
  unfold cutI at hx
  obtain ⟨v, hv, rfl⟩ := List.mem_map.1 hx
  have := isU_spec (List.all_eq_true.1 h6 v hv)
  exact ⟨this.2.1, this.2.2⟩
/-! ### trim -/
theorem trim_runs {l : List Value} {o c : Nat} {L : List Int} (hR : Row l o L) (hc : smallC c = true) (hn : L.length ≤ c) :
    Runs (tabOf Tryd.prog extY conN true) (seqs (nPre Tryd.f41) (.seq (.block 0 (.loop (nLoop Tryd.f41))) (nEnd Tryd.f41))) ([sl 0 o L.length c] ++ List.replicate 20 undef, ⟨1, [(l, tR)]⟩, []) fun e y => (e = none ∨ e = some none) ∧ resS Tryd.prog Tryd.f41 y.1 y.2.1 = some (sl 0 o (trimN L) c) := by
  have hc' : c < 4611686018427387904 := blt_iff.1 hc
  refine goesT_list (tabY_ok conN_ok) (trim_pre _ _) (fun x hx => by cases hx) fun g => ?_
  refine Runs.seq (P1 := fun e y => e = none ∧ (∃ g, y.1 = [sl 0 o (trimN L) c, undef, nilS] ++ tl 18 g) ∧ y.2.1 = ⟨1, [(l, tR)]⟩) ?_ ?_ (fun e y he => by cases he.1)
  · refine (Runs.forLoop (P := fun y => (∃ g, y.1 = [sl 0 o (trimN L) c, undef, nilS] ++ tl 18 g) ∧ y.2.1 = ⟨1, [(l, tR)]⟩) (R := fun _ => False) (fun n y => (∃ g, y.1 = [sl 0 o n c, undef, nilS] ++ tl 18 g) ∧ y.2.1 = ⟨1, [(l, tR)]⟩ ∧ n ≤ L.length ∧ ∀ i, n ≤ i → L.getD i 0 = 0) ?_ (n := L.length) ⟨⟨g, rfl⟩, rfl, Nat.le_refl _, fun i hi => by simp [List.getD, List.getElem?_eq_none hi]⟩).mono fun e y he => ?_
    · rintro n ⟨t, h', s⟩ ⟨⟨g, ht⟩, hh, hle, hz⟩
      simp only at ht hh
      subst ht hh
      cases n with
      | zero =>
        refine (goesT_runs (tabY_ok conN_ok) (trim_out0 undef nilS (some ⟨0, o, none⟩) 0 c _ g).t (okOne (by rfl))).mono fun e y he => ?_
        obtain ⟨rfl, ⟨g', h2⟩, h3⟩ := he
        have e0 : trimN L = 0 := trimN_uniq hz (.inl rfl)
        exact ⟨rfl, ⟨g', by rw [h2, e0]; rfl⟩, h3⟩
      | succ k =>
        have ek : n1 (k + 1) = (k : Int) := by
          unfold n1
          rw [wrapI (by omega) (by omega)]
          omega
        have hcell := hR.cell (k := k) (by omega)
        have hce : cellIs (l[o + (n1 (k + 1)).toNat * 1]?) (.int .u32 (L.getD k 0)) = true := by
          rw [ek, Int.toNat_natCast, Nat.mul_one, hcell]
          simp [cellIs]
        have hix : decide (0 ≤ n1 (k + 1) ∧ n1 (k + 1) < ((k + 1 : Nat) : Int)) = true := by rw [ek]; exact decide_eq_true (by omega)
        have hgt : decide (((k + 1 : Nat) : Int) > 0) = true := decide_eq_true (by omega)
        by_cases hx : L.getD k 0 = 0
        · refine (goesT_runs (tabY_ok conN_ok) (trim_go o (k + 1) c (L.getD k 0) l undef nilS g).t (okTwo hc (okTwo (by
            unfold okPart
            rw [ek]
            exact decide_eq_true (by omega)) (okTwo (decide_eq_false (by omega)) (okTwo (by rw [hx]; rfl) (okTwo hce (okTwo hix (okOne hgt)))))))).mono fun e y he => ?_
          obtain ⟨rfl, ⟨g', h2⟩, h3⟩ := he
          rw [ek, Int.toNat_natCast] at h2
          refine ⟨k, by omega, ⟨g', h2⟩, h3, by omega, fun i hi => ?_⟩
          rcases Nat.lt_or_ge k i with h | h
          · exact hz i h
          · have : i = k := by omega
            rw [this]; exact hx
        · refine (goesT_runs (tabY_ok conN_ok) (trim_out1 o (k + 1) c (L.getD k 0) l undef nilS g).t (okTwo (by simpa using hx) (okTwo hce (okTwo hix (okOne hgt))))).mono fun e y he => ?_
          obtain ⟨rfl, ⟨g', h2⟩, h3⟩ := he
          have e0 : trimN L = k + 1 := trimN_uniq hz (.inr (by simpa using hx))
          exact ⟨rfl, ⟨g', by rw [h2, e0]⟩, h3⟩
    · match e, he with
      | none, he => exact ⟨rfl, he⟩
  · rintro ⟨t, h', s⟩ ⟨_, ⟨g', ht⟩, hh⟩
    simp only at ht hh
    subst ht hh
    refine (goesT_runs (tabY_ok conN_ok) (trim_end _ undef nilS _ g') (fun x hx => by cases hx)).mono fun e y he => ?_
    obtain ⟨rfl, ⟨g2, h2⟩, h3⟩ := he
    refine ⟨.inr rfl, ?_⟩
    rw [h2, h3]
    rfl
/-- one row, the smallest memory -/
theorem rows1 {l : List Value} (h : ∀ v ∈ l, still v = true) : (⟨1, [(l, tR)]⟩ : Hp).rows := by
  refine ⟨rfl, fun b x hb => ?_⟩
  have hb0 : b = 0 := by have : b < 1 := Hp.blk_lt hb; omega
  subst hb0
  have : x = (l, tR) := (Option.some.inj hb).symm
  rw [this]
  exact ⟨tR_ro, h, tR_ab⟩
theorem fitsR1 {l : List Value} {h : Hp} {b : Nat} {x : List Value × TypeId} (hb : h.blk? b = some x) (h1 : tomb x.2 = false) (h2 : rt x.2 = tU) (e : x.1 = l) : (⟨1, [(l, tR)]⟩ : Hp).fits (fun _ => b) h := by
  intro i y hi _
  have hb0 : i = 0 := by have : i < 1 := Hp.blk_lt hi; omega
  subst hb0
  have : y = (l, tR) := (Option.some.inj hi).symm
  rw [this]
  exact ⟨x, [], hb, h1, by rw [h2]; exact tR_rt.symm, by rw [e, List.append_nil]⟩
def gTrim : AnsH := fun vals h s =>
  match vals with
  | [.slice none 0 0] => some (nilS, h, s, [])
  | [.slice (some ⟨b, o, none⟩) n c] =>
    match h.blk? b with
    | some x => some (sl b o (trimN (cutI x.1 o n)) c, h, s, [(rowOk x.2 x.1 o n c, true)])
    | none => none
  | _ => none
theorem trim_nil : Fits (reckon (tabOf Tryd.prog extY conN true) 100 41 [nilS] []) nilS [] := ⟨by kernel_rfl, by kernel_rfl, by kernel_rfl, by kernel_rfl⟩
theorem gTrim_ok : AnsHOk 41 gTrim := by
  intro vals h s v h' s' lg hg hl m B w E hv
  unfold gTrim at hg
  split at hg
  · cases hg
    refine (fits_calls (tabY_ok conN_ok) trim_nil (fun x hx => by cases hx) (by rfl) (by rfl) w).mono fun e w' he => ?_
    obtain ⟨E', hb⟩ := clean_emb E he.2
    exact ⟨m, he.1, ⟨Agree.refl _ _, E', hb, Nat.le_refl _, rfl⟩⟩
  · rename_i b o n c
    split at hg
    · rename_i x hx
      cases hg
      obtain ⟨h1, h2, h3, h4, h5, h6, h7⟩ := row_of (hl _ (List.mem_singleton.2 rfl))
      have hlt := Hp.blk_lt hx
      have r := trim_runs h1 h4 (by rw [h2]; exact h3)
      rw [h2] at r
      have := row_calls (T := tabOf Tryd.prog extY conN true) Tryd.func41 trim_body (rows1 h7) (vals := [sl 0 o n c]) (fun v hv => by rw [List.mem_singleton.1 hv]; rfl) (by rfl) r E (s := fun _ => b) (fun i _ => hlt) (fitsR1 hx h5 h6 rfl)
      exact this.mono fun e w' he => ⟨m, he.1, he.2⟩
    · cases hg
  · cases hg
/-- two rows -/
def h2 (la lb : List Value) : Hp := ⟨2, [(lb, tR), (la, tR)]⟩
def pair (a b i : Nat) : Nat := if Nat.beq i 0 = true then a else b
theorem blk2 {la lb : List Value} {i : Nat} {x : List Value × TypeId} (h : (h2 la lb).blk? i = some x) : (i = 0 ∧ x = (la, tR)) ∨ (i = 1 ∧ x = (lb, tR)) := by
  have : i < 2 := Hp.blk_lt h
  have : i = 0 ∨ i = 1 := by omega
  rcases this with rfl | rfl
  · exact .inl ⟨rfl, (Option.some.inj h).symm⟩
  · exact .inr ⟨rfl, (Option.some.inj h).symm⟩
theorem rows2 {la lb : List Value} (ha : ∀ v ∈ la, still v = true) (hb : ∀ v ∈ lb, still v = true) : (h2 la lb).rows := by
  refine ⟨rfl, fun b x hx => ?_⟩
  rcases blk2 hx with ⟨_, e⟩ | ⟨_, e⟩ <;> rw [e]
  · exact ⟨tR_ro, ha, tR_ab⟩
  · exact ⟨tR_ro, hb, tR_ab⟩
theorem fitsR2 {h : Hp} {a b : Nat} {x y : List Value × TypeId} (hx : h.blk? a = some x) (x1 : tomb x.2 = false) (x2 : rt x.2 = tU) (hy : h.blk? b = some y) (y1 : tomb y.2 = false) (y2 : rt y.2 = tU) : (h2 x.1 y.1).fits (pair a b) h := by
  intro i z hz _
  rcases blk2 hz with ⟨rfl, e⟩ | ⟨rfl, e⟩ <;> rw [e]
  · exact ⟨x, [], hx, x1, by rw [x2]; exact tR_rt.symm, by rw [List.append_nil]⟩
  · exact ⟨y, [], hy, y1, by rw [y2]; exact tR_rt.symm, by rw [List.append_nil]⟩
/-- a row of which nothing is known -/
def hT : Hp := ⟨1, [([], 2 * dead)]⟩
theorem blkT {i : Nat} {x : List Value × TypeId} (h : hT.blk? i = some x) : x = ([], 2 * dead) := by
  have h1 : i < 1 := Hp.blk_lt h
  have h2 : i = 0 := by omega
  subst h2
  exact (Option.some.inj h).symm
theorem tombT : tomb (2 * dead) = true := by kernel_rfl
theorem roT : ro (2 * dead) = true := by kernel_rfl
theorem rowsT : hT.rows := ⟨rfl, fun b x hx => by rw [blkT hx]; exact ⟨roT, (fun v hv => by cases hv), by kernel_rfl⟩⟩
theorem fitsRT (s : Nat → Nat) (h : Hp) : hT.fits s h := fun i x hx ht => by rw [blkT hx, tombT] at ht; cases ht
end Go.Proofs.YtbjgkhbhabdjgaaDoor

/-
  tillerlaw02.words, as a call with two rows.
-/
namespace Go.Proofs.YtbjgkhbhabdjgaaDoor
open Go.KRun Go.Nt
set_option maxRecDepth 100000

def i6' (n : Int) : Value := .int .i64 n
def oA (F : Func) : Code := cFst (cSnd (cBody F))
def oR (F : Func) : Code := cFst (cFst (cSnd (cSnd (cBody F))))
def oLoop (F : Func) : Code := cIn (cIn (cSnd (cFst (cSnd (cSnd (cBody F))))))
def oEnd (F : Func) : Code := cSnd (cSnd (cSnd (cBody F)))
theorem words_body : Tryd.f18.body = some (seqs (nPre Tryd.f18) (.seq (oA Tryd.f18) (.seq (.seq (oR Tryd.f18) (.block 0 (.loop (oLoop Tryd.f18)))) (oEnd Tryd.f18)))) := by kernel_rfl
theorem words_pre (v w : Value) (h : Hp) : GoesT (evL (tabOf Tryd.prog extY conN true) 100 (nPre Tryd.f18) ([v, w] ++ List.replicate 24 undef, h, []) ⟨[], [], []⟩) 6 20 none [v, w, undef, undef, .bool false, undef] h [] := ⟨by kernel_rfl, by kernel_rfl, by kernel_rfl⟩
theorem words_ne (p q : Option Addr) (n c k d : Nat) (j2 j3 j4 j5 : Value) (h : Hp) (g : Nat → Value) : GoesE (evC (tabOf Tryd.prog extY conN true) 100 false (oA Tryd.f18) ([.slice p n c, .slice q k d, j2, j3, j4, j5] ++ tl 20 g, h, [cmp true]) ⟨[], [], []⟩) 6 20 (some none)
    [.slice p n c, .slice q k d, j2, j3, .bool false, j5] h [((n : Int) != k, true)] := by unfold GoesE; kernel_rfl
theorem words_eq (p q : Option Addr) (n c k d : Nat) (j2 j3 j4 j5 : Value) (h : Hp) (g : Nat → Value) : GoesE (evC (tabOf Tryd.prog extY conN true) 100 false (oA Tryd.f18) ([.slice p n c, .slice q k d, j2, j3, j4, j5] ++ tl 20 g, h, [cmp false]) ⟨[], [], []⟩) 6 20 none
    [.slice p n c, .slice q k d, j2, j3, j4, j5] h [((n : Int) != k, false)] := by unfold GoesE; kernel_rfl
theorem words_r (v w j2 j3 j4 j5 : Value) (h : Hp) (g : Nat → Value) : GoesE (evC (tabOf Tryd.prog extY conN true) 100 false (oR Tryd.f18) ([v, w, j2, j3, j4, j5] ++ tl 20 g, h, []) ⟨[], [], []⟩) 6 20 none
    [v, w, j2, j3, j4, i6' 0] h [] := by unfold GoesE; kernel_rfl
theorem words_out (p : Option Addr) (n c : Nat) (i : Int) (w j2 j3 j4 : Value) (h : Hp) (g : Nat → Value) : GoesE (evC (tabOf Tryd.prog extY conN true) 100 false (oLoop Tryd.f18) ([.slice p n c, w, j2, j3, j4, i6' i] ++ tl 20 g, h, [cmp false]) ⟨[], [], []⟩) 6 20 (some (some 0))
    [.slice p n c, w, j2, j3, j4, i6' i] h [(decide (i < n), false)] := by unfold GoesE; kernel_rfl
theorem words_go (o n c o' n' c' : Nat) (i x y : Int) (la lb : List Value) (j2 j3 j4 : Value) (g : Nat → Value) : GoesT (evC (tabOf Tryd.prog extY conN true) 100 false (oLoop Tryd.f18) ([sl 0 o n c, sl 1 o' n' c', j2, j3, j4, i6' i] ++ tl 20 g, h2 la lb, [cmp true, at_, val (.int .u32 x), at_, val (.int .u32 y), cmp false]) ⟨[], [], []⟩) 6 20 none
    [sl 0 o n c, sl 1 o' n' c', j2, j3, j4, i6' (IntKind.i64.wrap (i + 1))] (h2 la lb) [(x != y, false), (cellIs (lb[o' + i.toNat * 1]?) (.int .u32 y), true), (decide (0 ≤ i ∧ i < n'), true), (cellIs (la[o + i.toNat * 1]?) (.int .u32 x), true), (decide (0 ≤ i ∧ i < n), true), (decide (i < n), true)] := ⟨by kernel_rfl, by kernel_rfl, by kernel_rfl⟩
theorem words_no (o n c o' n' c' : Nat) (i x y : Int) (la lb : List Value) (j2 j3 j4 : Value) (g : Nat → Value) : GoesT (evC (tabOf Tryd.prog extY conN true) 100 false (oLoop Tryd.f18) ([sl 0 o n c, sl 1 o' n' c', j2, j3, j4, i6' i] ++ tl 20 g, h2 la lb, [cmp true, at_, val (.int .u32 x), at_, val (.int .u32 y), cmp true]) ⟨[], [], []⟩) 6 20 (some none)
    [sl 0 o n c, sl 1 o' n' c', j2, j3, .bool false, i6' i] (h2 la lb) [(x != y, true), (cellIs (lb[o' + i.toNat * 1]?) (.int .u32 y), true), (decide (0 ≤ i ∧ i < n'), true), (cellIs (la[o + i.toNat * 1]?) (.int .u32 x), true), (decide (0 ≤ i ∧ i < n), true), (decide (i < n), true)] := ⟨by kernel_rfl, by kernel_rfl, by kernel_rfl⟩
theorem words_end (v w j2 j3 j4 j5 : Value) (h : Hp) (g : Nat → Value) : GoesE (evC (tabOf Tryd.prog extY conN true) 100 false (oEnd Tryd.f18) ([v, w, j2, j3, j4, j5] ++ tl 20 g, h, []) ⟨[], [], []⟩) 6 20 (some none)
    [v, w, j2, j3, .bool true, j5] h [] := by unfold GoesE; kernel_rfl
/-- a row that is empty: nothing is read -/
theorem words_runs0 (p q : Option Addr) (n c k d : Nat) (h : Hp) (h0 : n = 0 ∨ k = 0) :
    Runs (tabOf Tryd.prog extY conN true) (seqs (nPre Tryd.f18) (.seq (oA Tryd.f18) (.seq (.seq (oR Tryd.f18) (.block 0 (.loop (oLoop Tryd.f18)))) (oEnd Tryd.f18)))) ([.slice p n c, .slice q k d] ++ List.replicate 24 undef, h, []) fun e y => (e = none ∨ e = some none) ∧ resS Tryd.prog Tryd.f18 y.1 y.2.1 = some (.bool (decide (n = k))) := by
  refine goesT_list (tabY_ok conN_ok) (words_pre _ _ _) (fun x hx => by cases hx) fun g => ?_
  by_cases hn : n = k
  · have n0 : n = 0 := by omega
    refine Runs.seq (goesT_runs (tabY_ok conN_ok) (words_eq p q n c k d undef undef (.bool false) undef h g).t (okOne (by simp [hn]))) ?_ (fun e y he => by cases he.1)
    rintro ⟨t, h', s⟩ ⟨_, ⟨g1, ht⟩, hh⟩
    simp only at ht hh
    subst ht hh
    refine Runs.seq (P1 := fun e y => e = none ∧ (∃ g i, y.1 = [.slice p n c, .slice q k d, undef, undef, .bool false, i6' i] ++ tl 20 g) ∧ y.2.1 = h') ?_ ?_ (fun e y he => by cases he.1)
    · refine Runs.seq (goesT_runs (tabY_ok conN_ok) (words_r _ _ undef undef (.bool false) undef h' g1).t (fun x hx => by cases hx)) ?_ (fun e y he => by cases he.1)
      rintro ⟨t, h'', s⟩ ⟨_, ⟨g2, ht⟩, hh⟩
      simp only at ht hh
      subst ht hh
      refine (Runs.forLoop (P := fun y => (∃ g i, y.1 = [.slice p n c, .slice q k d, undef, undef, .bool false, i6' i] ++ tl 20 g) ∧ y.2.1 = h'') (R := fun _ => False) (fun _ y => ∃ g, y.1 = [.slice p n c, .slice q k d, undef, undef, .bool false, i6' 0] ++ tl 20 g ∧ y.2.1 = h'') ?_ (n := 0) ⟨g2, rfl, rfl⟩).mono fun e y he => ?_
      · rintro _ ⟨t, h3, s⟩ ⟨g, ht, hh⟩
        simp only at ht hh
        subst ht hh
        refine (goesT_runs (tabY_ok conN_ok) (words_out p n c 0 _ undef undef (.bool false) h3 g).t (okOne (decide_eq_false (by omega)))).mono fun e y he => ?_
        obtain ⟨rfl, ⟨g', e2⟩, e3⟩ := he
        exact ⟨rfl, ⟨g', 0, e2⟩, e3⟩
      · match e, he with
        | none, he => exact ⟨rfl, he⟩
    · rintro ⟨t, h'', s⟩ ⟨_, ⟨g2, i, ht⟩, hh⟩
      simp only at ht hh
      subst ht hh
      refine (goesT_runs (tabY_ok conN_ok) (words_end _ _ undef undef (.bool false) _ h'' g2).t (fun x hx => by cases hx)).mono fun e y he => ?_
      obtain ⟨rfl, ⟨g3, e2⟩, e3⟩ := he
      refine ⟨.inr rfl, ?_⟩
      rw [e2, e3, decide_eq_true hn]
      rfl
  · refine Runs.seq (goesT_runs (tabY_ok conN_ok) (words_ne p q n c k d undef undef (.bool false) undef h g).t (okOne (by simp; omega))) (fun y he => by cases he.1) (fun e y he => ?_)
    obtain ⟨h1, ⟨g3, e2⟩, e3⟩ := he
    refine ⟨.inr h1, ?_⟩
    rw [e2, e3, decide_eq_false hn]
    rfl
theorem getD_ext {L M : List Int} (hl : L.length = M.length) (h : ∀ i, i < L.length → L.getD i 0 = M.getD i 0) : L = M := by
  refine List.ext_getElem hl fun i h1 h2 => ?_
  have := h i h1
  simpa [List.getD, List.getElem?_eq_getElem h1, List.getElem?_eq_getElem h2] using this
theorem words_runs {la lb : List Value} {o o' c c' : Nat} {La Lb : List Int} (Ra : Row la o La) (Rb : Row lb o' Lb) (hc : La.length < 4611686018427387904) :
    Runs (tabOf Tryd.prog extY conN true) (seqs (nPre Tryd.f18) (.seq (oA Tryd.f18) (.seq (.seq (oR Tryd.f18) (.block 0 (.loop (oLoop Tryd.f18)))) (oEnd Tryd.f18)))) ([sl 0 o La.length c, sl 1 o' Lb.length c'] ++ List.replicate 24 undef, h2 la lb, []) fun e y => (e = none ∨ e = some none) ∧ resS Tryd.prog Tryd.f18 y.1 y.2.1 = some (.bool (decide (La = Lb))) := by
  refine goesT_list (tabY_ok conN_ok) (words_pre _ _ _) (fun x hx => by cases hx) fun g => ?_
  by_cases hn : La.length = Lb.length
  · refine Runs.seq (goesT_runs (tabY_ok conN_ok) (words_eq _ _ La.length c Lb.length c' undef undef (.bool false) undef (h2 la lb) g).t (okOne (by simp [hn]))) ?_ (fun e y he => by cases he.1)
    rintro ⟨t, h', s⟩ ⟨_, ⟨g1, ht⟩, hh⟩
    simp only at ht hh
    subst ht hh
    refine Runs.seq (P1 := fun e y => (e = none ∧ (∃ g i, y.1 = [sl 0 o La.length c, sl 1 o' Lb.length c', undef, undef, .bool false, i6' i] ++ tl 20 g) ∧ y.2.1 = h2 la lb ∧ La = Lb) ∨ (e = some none ∧ (∃ g i, y.1 = [sl 0 o La.length c, sl 1 o' Lb.length c', undef, undef, .bool false, i6' i] ++ tl 20 g) ∧ y.2.1 = h2 la lb ∧ La ≠ Lb)) ?_ ?_ ?_
    · refine Runs.seq (goesT_runs (tabY_ok conN_ok) (words_r _ _ undef undef (.bool false) undef _ g1).t (fun x hx => by cases hx)) ?_ (fun e y he => by cases he.1)
      rintro ⟨t, h'', s⟩ ⟨_, ⟨g2, ht⟩, hh⟩
      simp only at ht hh
      subst ht hh
      refine (Runs.forLoop (P := fun y => (∃ g i, y.1 = [sl 0 o La.length c, sl 1 o' Lb.length c', undef, undef, .bool false, i6' i] ++ tl 20 g) ∧ y.2.1 = h2 la lb ∧ La = Lb) (R := fun y => (∃ g i, y.1 = [sl 0 o La.length c, sl 1 o' Lb.length c', undef, undef, .bool false, i6' i] ++ tl 20 g) ∧ y.2.1 = h2 la lb ∧ La ≠ Lb)
        (fun r y => ∃ (k : Nat) (g : Nat → Value), k + r = La.length ∧ y.1 = [sl 0 o La.length c, sl 1 o' Lb.length c', undef, undef, .bool false, i6' k] ++ tl 20 g ∧ y.2.1 = h2 la lb ∧ ∀ i, i < k → La.getD i 0 = Lb.getD i 0) ?_ (n := La.length) ⟨0, g2, by omega, rfl, rfl, fun i hi => by omega⟩).mono fun e y he => ?_
      · rintro r ⟨t, h3, s⟩ ⟨k, g, hk, ht, hh, hpre⟩
        simp only at ht hh
        subst ht hh
        cases r with
        | zero =>
          refine (goesT_runs (tabY_ok conN_ok) (words_out _ La.length c k _ undef undef (.bool false) _ g).t (okOne (decide_eq_false (by omega)))).mono fun e y he => ?_
          obtain ⟨rfl, ⟨g', e2⟩, e3⟩ := he
          exact ⟨rfl, ⟨g', k, e2⟩, e3, getD_ext hn fun i hi => hpre i (by omega)⟩
        | succ r =>
          have ca := Ra.cell (k := k) (by omega)
          have cb := Rb.cell (k := k) (by omega)
          have ha : cellIs (la[o + ((k : Int)).toNat * 1]?) (.int .u32 (La.getD k 0)) = true := by
            rw [Int.toNat_natCast, Nat.mul_one, ca]; simp [cellIs]
          have hb : cellIs (lb[o' + ((k : Int)).toNat * 1]?) (.int .u32 (Lb.getD k 0)) = true := by
            rw [Int.toNat_natCast, Nat.mul_one, cb]; simp [cellIs]
          by_cases hx : La.getD k 0 = Lb.getD k 0
          · refine (goesT_runs (tabY_ok conN_ok) (words_go o La.length c o' Lb.length c' k (La.getD k 0) (Lb.getD k 0) la lb undef undef (.bool false) g) (okTwo (by show (La.getD k 0 != Lb.getD k 0) = false; rw [hx]; exact bne_self_eq_false _) (okTwo hb (okTwo (decide_eq_true (by omega)) (okTwo ha (okTwo (decide_eq_true (by omega)) (okOne (decide_eq_true (by omega))))))))).mono fun e y he => ?_
            obtain ⟨rfl, ⟨g', e2⟩, e3⟩ := he
            refine ⟨r, by omega, k + 1, g', by omega, ?_, e3, fun i hi => ?_⟩
            · rw [e2, wrapI (by omega) (by omega)]; rfl
            · rcases Nat.lt_or_ge i k with h | h
              · exact hpre i h
              · have : i = k := by omega
                rw [this]; exact hx
          · refine (goesT_runs (tabY_ok conN_ok) (words_no o La.length c o' Lb.length c' k (La.getD k 0) (Lb.getD k 0) la lb undef undef (.bool false) g) (okTwo (by simpa using hx) (okTwo hb (okTwo (decide_eq_true (by omega)) (okTwo ha (okTwo (decide_eq_true (by omega)) (okOne (decide_eq_true (by omega))))))))).mono fun e y he => ?_
            obtain ⟨rfl, ⟨g', e2⟩, e3⟩ := he
            exact ⟨⟨g', k, e2⟩, e3, fun h => hx (by rw [h])⟩
      · match e, he with
        | none, he => exact .inl ⟨rfl, he⟩
        | some none, he => exact .inr ⟨rfl, he⟩
    · rintro ⟨t, h'', s⟩ (⟨_, ⟨g2, i, ht⟩, hh, heq⟩ | ⟨h, _⟩)
      · simp only at ht hh
        subst ht hh
        refine (goesT_runs (tabY_ok conN_ok) (words_end _ _ undef undef (.bool false) _ _ g2).t (fun x hx => by cases hx)).mono fun e y he => ?_
        obtain ⟨rfl, ⟨g3, e2⟩, e3⟩ := he
        refine ⟨.inr rfl, ?_⟩
        rw [e2, e3, decide_eq_true heq]
        rfl
      · cases h
    · rintro e y (⟨h, _⟩ | ⟨h1, ⟨g3, i, e2⟩, e3, hne⟩)
      · cases h
      · refine ⟨.inr h1, ?_⟩
        rw [e2, e3, decide_eq_false hne]
        rfl
  · refine Runs.seq (goesT_runs (tabY_ok conN_ok) (words_ne _ _ La.length c Lb.length c' undef undef (.bool false) undef (h2 la lb) g).t (okOne (by simp; omega))) (fun y he => by cases he.1) (fun e y he => ?_)
    obtain ⟨h1, ⟨g3, e2⟩, e3⟩ := he
    refine ⟨.inr h1, ?_⟩
    rw [e2, e3, decide_eq_false (fun h => hn (by rw [h]))]
    rfl
def gWords : AnsH := fun vals h s =>
  match vals with
  | [.slice (some ⟨b, o, none⟩) n c, .slice (some ⟨b', o', none⟩) n' c'] =>
    match h.blk? b, h.blk? b', s with
    | some x, some y, .inr (.inr (.inr (.inl d))) :: s' => some (.bool d, h, s', [(rowOk x.2 x.1 o n c, true), (rowOk y.2 y.1 o' n' c', true), (decide (cutI x.1 o n = cutI y.1 o' n'), d)])
    | _, _, _ => none
  | [.slice none 0 0, .slice none 0 0] => some (.bool true, h, s, [])
  | [.slice none 0 0, .slice (some _) k _] =>
    match s with
    | .inr (.inr (.inr (.inl d))) :: s' => some (.bool d, h, s', [(decide (0 = k), d)])
    | _ => none
  | [.slice (some _) n _, .slice none 0 0] =>
    match s with
    | .inr (.inr (.inr (.inl d))) :: s' => some (.bool d, h, s', [(decide (n = 0), d)])
    | _ => none
  | _ => none
theorem gWords_ok : AnsHOk 18 gWords := by
  intro vals h s v h' s' lg hg hl m B w E hv
  unfold gWords at hg
  split at hg
  · rename_i b o n c b' o' n' c'
    split at hg
    · rename_i x y d s2 hx hy
      cases hg
      obtain ⟨a1, a2, a3, a4, a5, a6, a7⟩ := row_of (hl _ (List.mem_cons_self))
      obtain ⟨b1, b2, b3, b4, b5, b6, b7⟩ := row_of (hl _ (List.mem_cons_of_mem _ List.mem_cons_self))
      have hd := hl _ (List.mem_cons_of_mem _ (List.mem_cons_of_mem _ (List.mem_singleton.2 rfl)))
      simp only at hd
      have hsm : n < 4611686018427387904 := by have := blt_iff.1 a4; unfold dead at this; omega
      have r := words_runs (c := c) (c' := c') a1 b1 (by rw [a2]; exact hsm)
      rw [a2, b2, hd] at r
      have lx := Hp.blk_lt hx
      have ly := Hp.blk_lt hy
      have := row_calls (T := tabOf Tryd.prog extY conN true) Tryd.func18 words_body (rows2 a7 b7) (vals := [sl 0 o n c, sl 1 o' n' c']) (fun v hv => by
        simp only [List.mem_cons, List.not_mem_nil, or_false] at hv
        rcases hv with rfl | rfl <;> rfl) (by rfl) r E (s := pair b b') (fun i _ => by unfold pair; split <;> assumption) (fitsR2 hx a5 a6 hy b5 b6)
      exact this.mono fun e w' he => ⟨m, he.1, he.2⟩
    · cases hg
  · cases hg
    have r := words_runs0 none none 0 0 0 0 ⟨0, []⟩ (.inl rfl)
    refine (calls_of_runs (T := tabOf Tryd.prog extY conN true) Tryd.func18 words_body (vals := [nilS, nilS]) (by rfl) (by rfl) r w).mono fun e w' he => ?_
    obtain ⟨E', hb⟩ := clean_emb E he.2
    exact ⟨m, he.1, ⟨Agree.refl _ _, E', hb, Nat.le_refl _, rfl⟩⟩
  · rename_i a k c
    split at hg
    · rename_i d s2
      cases hg
      have hd := hl _ (List.mem_singleton.2 rfl)
      simp only at hd
      have r := words_runs0 none (some { a with block := 0 }) 0 0 k c hT (.inl rfl)
      rw [hd] at r
      have hlt : a.block < h.n := by
        have := hv (.slice (some a) k c) (by simp)
        exact blt_iff.1 this
      have := row_calls (T := tabOf Tryd.prog extY conN true) Tryd.func18 words_body rowsT (vals := [nilS, .slice (some { a with block := 0 }) k c]) (fun v hv => by
        simp only [List.mem_cons, List.not_mem_nil, or_false] at hv
        rcases hv with rfl | rfl <;> rfl) (by rfl) r E (s := fun _ => a.block) (fun i _ => hlt) (fitsRT _ _)
      exact this.mono fun e w' he => ⟨m, he.1, he.2⟩
    · cases hg
  · rename_i a n c
    split at hg
    · rename_i d s2
      cases hg
      have hd := hl _ (List.mem_singleton.2 rfl)
      simp only at hd
      have r := words_runs0 (some { a with block := 0 }) none n c 0 0 hT (.inr rfl)
      rw [hd] at r
      have hlt : a.block < h.n := by
        have := hv (.slice (some a) n c) (by simp)
        exact blt_iff.1 this
      have := row_calls (T := tabOf Tryd.prog extY conN true) Tryd.func18 words_body rowsT (vals := [.slice (some { a with block := 0 }) n c, nilS]) (fun v hv => by
        simp only [List.mem_cons, List.not_mem_nil, or_false] at hv
        rcases hv with rfl | rfl <;> rfl) (by rfl) r E (s := fun _ => a.block) (fun i _ => hlt) (fitsRT _ _)
      exact this.mono fun e w' he => ⟨m, he.1, he.2⟩
    · cases hg
  · cases hg
end Go.Proofs.YtbjgkhbhabdjgaaDoor

/-
  nat.compare, as a call with two rows.
-/
namespace Go.Proofs.YtbjgkhbhabdjgaaDoor
open Go.KRun Go.Nt
set_option maxRecDepth 100000

def sideI (d : Bool) : Int := match d with | true => -1 | false => 1
theorem side_fits (d : Bool) : Fits (reckon (tabOf Tryd.prog extY conN true) 100 60 [.bool d] []) (i6' (sideI d)) [] := by
  cases d <;> exact ⟨by kernel_rfl, by kernel_rfl, by kernel_rfl, by kernel_rfl⟩
def gSide : Ans := fun vals s =>
  match vals with
  | [.bool d] => some (i6' (sideI d), s, [])
  | _ => none
theorem gSide_ok : AnsOk 60 gSide := by
  intro vals s v s' lg h hl w
  unfold gSide at h
  split at h
  · cases h
    exact fits_calls (tabY_ok conN_ok) (side_fits _) (fun x hx => by cases hx) (by rfl) (by rfl) w
  · cases h
def conSd : Con := alt 60 gSide conN
theorem conSd_ok : ConOk conSd := alt_ok Tryd.func60 rfl gSide_ok conN_ok
theorem cmp_body : Tryd.f39.body = some (seqs (nPre Tryd.f39) (.seq (oA Tryd.f39) (.seq (.seq (oR Tryd.f39) (.block 0 (.loop (oLoop Tryd.f39)))) (oEnd Tryd.f39)))) := by kernel_rfl
theorem cmp_pre (v w : Value) (h : Hp) : GoesT (evL (tabOf Tryd.prog extY conSd true) 100 (nPre Tryd.f39) ([v, w] ++ List.replicate 41 undef, h, []) ⟨[], [], []⟩) 6 37 none [v, w, undef, undef, i6' 0, undef] h [] := ⟨by kernel_rfl, by kernel_rfl, by kernel_rfl⟩
theorem cmp_lt (p q : Option Addr) (n c k d : Nat) (j2 j3 j4 j5 : Value) (h : Hp) (g : Nat → Value) : GoesE (evC (tabOf Tryd.prog extY conSd true) 100 false (oA Tryd.f39) ([.slice p n c, .slice q k d, j2, j3, j4, j5] ++ tl 37 g, h, [cmp true, cmp true]) ⟨[], [], []⟩) 6 37 (some none)
    [.slice p n c, .slice q k d, j2, j3, i6' (-1), j5] h [(decide ((n : Int) < k), true), ((n : Int) != k, true)] := by unfold GoesE; kernel_rfl
theorem cmp_gt (p q : Option Addr) (n c k d : Nat) (j2 j3 j4 j5 : Value) (h : Hp) (g : Nat → Value) : GoesE (evC (tabOf Tryd.prog extY conSd true) 100 false (oA Tryd.f39) ([.slice p n c, .slice q k d, j2, j3, j4, j5] ++ tl 37 g, h, [cmp true, cmp false]) ⟨[], [], []⟩) 6 37 (some none)
    [.slice p n c, .slice q k d, j2, j3, i6' 1, j5] h [(decide ((n : Int) < k), false), ((n : Int) != k, true)] := by unfold GoesE; kernel_rfl
theorem cmp_eq (p q : Option Addr) (n c k d : Nat) (j2 j3 j4 j5 : Value) (h : Hp) (g : Nat → Value) : GoesE (evC (tabOf Tryd.prog extY conSd true) 100 false (oA Tryd.f39) ([.slice p n c, .slice q k d, j2, j3, j4, j5] ++ tl 37 g, h, [cmp false]) ⟨[], [], []⟩) 6 37 none
    [.slice p n c, .slice q k d, j2, j3, j4, j5] h [((n : Int) != k, false)] := by unfold GoesE; kernel_rfl
theorem cmp_r (p : Option Addr) (n c : Nat) (w j2 j3 j4 j5 : Value) (h : Hp) (g : Nat → Value) : GoesE (evC (tabOf Tryd.prog extY conSd true) 100 false (oR Tryd.f39) ([.slice p n c, w, j2, j3, j4, j5] ++ tl 37 g, h, []) ⟨[], [], []⟩) 6 37 none
    [.slice p n c, w, j2, j3, j4, i6' (n1 n)] h [] := by unfold GoesE; kernel_rfl
theorem cmp_out (v w j2 j3 j4 : Value) (i : Int) (h : Hp) (g : Nat → Value) : GoesE (evC (tabOf Tryd.prog extY conSd true) 100 false (oLoop Tryd.f39) ([v, w, j2, j3, j4, i6' i] ++ tl 37 g, h, [cmp false]) ⟨[], [], []⟩) 6 37 (some (some 0))
    [v, w, j2, j3, j4, i6' i] h [(decide (i ≥ 0), false)] := by unfold GoesE; kernel_rfl
theorem cmp_go (o n c o' n' c' : Nat) (i x y : Int) (la lb : List Value) (j2 j3 j4 : Value) (g : Nat → Value) : GoesT (evC (tabOf Tryd.prog extY conSd true) 100 false (oLoop Tryd.f39) ([sl 0 o n c, sl 1 o' n' c', j2, j3, j4, i6' i] ++ tl 37 g, h2 la lb, [cmp true, at_, val (.int .u32 x), at_, val (.int .u32 y), cmp false]) ⟨[], [], []⟩) 6 37 none
    [sl 0 o n c, sl 1 o' n' c', j2, j3, j4, i6' (IntKind.i64.wrap (i - 1))] (h2 la lb) [(x != y, false), (cellIs (lb[o' + i.toNat * 1]?) (.int .u32 y), true), (decide (0 ≤ i ∧ i < n'), true), (cellIs (la[o + i.toNat * 1]?) (.int .u32 x), true), (decide (0 ≤ i ∧ i < n), true), (decide (i ≥ 0), true)] := ⟨by kernel_rfl, by kernel_rfl, by kernel_rfl⟩
theorem cmp_no (d : Bool) (o n c o' n' c' : Nat) (i x y : Int) (la lb : List Value) (j2 j3 j4 : Value) (g : Nat → Value) : GoesT (evC (tabOf Tryd.prog extY conSd true) 100 false (oLoop Tryd.f39) ([sl 0 o n c, sl 1 o' n' c', j2, j3, j4, i6' i] ++ tl 37 g, h2 la lb, [cmp true, at_, val (.int .u32 x), at_, val (.int .u32 y), cmp true, at_, val (.int .u32 x), at_, val (.int .u32 y), cmp d]) ⟨[], [], []⟩) 6 37 (some none)
    [sl 0 o n c, sl 1 o' n' c', j2, j3, i6' (sideI d), i6' i] (h2 la lb) [(decide (x < y), d), (cellIs (lb[o' + i.toNat * 1]?) (.int .u32 y), true), (decide (0 ≤ i ∧ i < n'), true), (cellIs (la[o + i.toNat * 1]?) (.int .u32 x), true), (decide (0 ≤ i ∧ i < n), true), (x != y, true), (cellIs (lb[o' + i.toNat * 1]?) (.int .u32 y), true), (decide (0 ≤ i ∧ i < n'), true), (cellIs (la[o + i.toNat * 1]?) (.int .u32 x), true), (decide (0 ≤ i ∧ i < n), true), (decide (i ≥ 0), true)] := by
  cases d <;> exact ⟨by kernel_rfl, by kernel_rfl, by kernel_rfl⟩
theorem cmp_end (v w j2 j3 j4 j5 : Value) (h : Hp) (g : Nat → Value) : GoesE (evC (tabOf Tryd.prog extY conSd true) 100 false (oEnd Tryd.f39) ([v, w, j2, j3, j4, j5] ++ tl 37 g, h, []) ⟨[], [], []⟩) 6 37 (some none)
    [v, w, j2, j3, i6' 0, j5] h [] := by unfold GoesE; kernel_rfl
def cmpC (F : Func) : Code := seqs (nPre F) (.seq (oA F) (.seq (.seq (oR F) (.block 0 (.loop (oLoop F)))) (oEnd F)))
/-- rows of two lengths: nothing is read -/
theorem cmp_runs1 (p q : Option Addr) (n c k d : Nat) (h : Hp) (hn : n ≠ k) :
    Runs (tabOf Tryd.prog extY conSd true) (cmpC Tryd.f39) ([.slice p n c, .slice q k d] ++ List.replicate 41 undef, h, []) fun e y => (e = none ∨ e = some none) ∧ resS Tryd.prog Tryd.f39 y.1 y.2.1 = some (i6' (if n < k then -1 else 1)) := by
  refine goesT_list (tabY_ok conSd_ok) (cmp_pre _ _ _) (fun x hx => by cases hx) fun g => ?_
  by_cases hl : n < k
  · refine Runs.seq (goesT_runs (tabY_ok conSd_ok) (cmp_lt p q n c k d undef undef (i6' 0) undef h g).t (okTwo (decide_eq_true (by omega)) (okOne (by simp; omega)))) (fun y he => by cases he.1) (fun e y he => ?_)
    obtain ⟨h1, ⟨g3, e2⟩, e3⟩ := he
    refine ⟨.inr h1, ?_⟩
    rw [e2, e3, if_pos hl]
    rfl
  · refine Runs.seq (goesT_runs (tabY_ok conSd_ok) (cmp_gt p q n c k d undef undef (i6' 0) undef h g).t (okTwo (decide_eq_false (by omega)) (okOne (by simp; omega)))) (fun y he => by cases he.1) (fun e y he => ?_)
    obtain ⟨h1, ⟨g3, e2⟩, e3⟩ := he
    refine ⟨.inr h1, ?_⟩
    rw [e2, e3, if_neg hl]
    rfl
/-- two rows that are empty -/
theorem cmp_runs0 (p q : Option Addr) (c d : Nat) (h : Hp) :
    Runs (tabOf Tryd.prog extY conSd true) (cmpC Tryd.f39) ([.slice p 0 c, .slice q 0 d] ++ List.replicate 41 undef, h, []) fun e y => (e = none ∨ e = some none) ∧ resS Tryd.prog Tryd.f39 y.1 y.2.1 = some (i6' 0) := by
  refine goesT_list (tabY_ok conSd_ok) (cmp_pre _ _ _) (fun x hx => by cases hx) fun g => ?_
  refine Runs.seq (goesT_runs (tabY_ok conSd_ok) (cmp_eq p q 0 c 0 d undef undef (i6' 0) undef h g).t (okOne (by rfl))) ?_ (fun e y he => by cases he.1)
  rintro ⟨t, h', s⟩ ⟨_, ⟨g1, ht⟩, hh⟩
  simp only at ht hh
  subst ht hh
  refine Runs.seq (P1 := fun e y => e = none ∧ (∃ g i, y.1 = [.slice p 0 c, .slice q 0 d, undef, undef, i6' 0, i6' i] ++ tl 37 g) ∧ y.2.1 = h') ?_ ?_ (fun e y he => by cases he.1)
  · refine Runs.seq (goesT_runs (tabY_ok conSd_ok) (cmp_r p 0 c _ undef undef (i6' 0) undef h' g1).t (fun x hx => by cases hx)) ?_ (fun e y he => by cases he.1)
    rintro ⟨t, h'', s⟩ ⟨_, ⟨g2, ht⟩, hh⟩
    simp only at ht hh
    subst ht hh
    refine (Runs.forLoop (P := fun y => (∃ g i, y.1 = [.slice p 0 c, .slice q 0 d, undef, undef, i6' 0, i6' i] ++ tl 37 g) ∧ y.2.1 = h'') (R := fun _ => False) (fun _ y => ∃ g, y.1 = [.slice p 0 c, .slice q 0 d, undef, undef, i6' 0, i6' (n1 0)] ++ tl 37 g ∧ y.2.1 = h'') ?_ (n := 0) ⟨g2, rfl, rfl⟩).mono fun e y he => ?_
    · rintro _ ⟨t, h3, s⟩ ⟨g, ht, hh⟩
      simp only at ht hh
      subst ht hh
      refine (goesT_runs (tabY_ok conSd_ok) (cmp_out _ _ undef undef (i6' 0) (n1 0) h3 g).t (okOne (by rfl))).mono fun e y he => ?_
      obtain ⟨rfl, ⟨g', e2⟩, e3⟩ := he
      exact ⟨rfl, ⟨g', _, e2⟩, e3⟩
    · match e, he with
      | none, he => exact ⟨rfl, he⟩
  · rintro ⟨t, h'', s⟩ ⟨_, ⟨g2, i, ht⟩, hh⟩
    simp only at ht hh
    subst ht hh
    refine (goesT_runs (tabY_ok conSd_ok) (cmp_end _ _ undef undef (i6' 0) _ h'' g2).t (fun x hx => by cases hx)).mono fun e y he => ?_
    obtain ⟨rfl, ⟨g3, e2⟩, e3⟩ := he
    refine ⟨.inr rfl, ?_⟩
    rw [e2, e3]
    rfl
theorem cmp_runs {la lb : List Value} {o o' c c' : Nat} {La Lb : List Int} (Ra : Row la o La) (Rb : Row lb o' Lb) (hc : La.length < 4611686018427387904) :
    Runs (tabOf Tryd.prog extY conSd true) (cmpC Tryd.f39) ([sl 0 o La.length c, sl 1 o' Lb.length c'] ++ List.replicate 41 undef, h2 la lb, []) fun e y => (e = none ∨ e = some none) ∧ resS Tryd.prog Tryd.f39 y.1 y.2.1 = some (i6' (cmpL La Lb)) := by
  by_cases hn : La.length = Lb.length
  · unfold cmpL
    rw [if_pos hn]
    refine goesT_list (tabY_ok conSd_ok) (cmp_pre _ _ _) (fun x hx => by cases hx) fun g => ?_
    refine Runs.seq (goesT_runs (tabY_ok conSd_ok) (cmp_eq _ _ La.length c Lb.length c' undef undef (i6' 0) undef (h2 la lb) g).t (okOne (by simp [hn]))) ?_ (fun e y he => by cases he.1)
    rintro ⟨t, h', s⟩ ⟨_, ⟨g1, ht⟩, hh⟩
    simp only at ht hh
    subst ht hh
    refine Runs.seq (P1 := fun e y => (e = none ∧ (∃ g i, y.1 = [sl 0 o La.length c, sl 1 o' Lb.length c', undef, undef, i6' 0, i6' i] ++ tl 37 g) ∧ y.2.1 = h2 la lb ∧ topCmp La Lb La.length = 0) ∨ (e = some none ∧ (∃ g i, y.1 = [sl 0 o La.length c, sl 1 o' Lb.length c', undef, undef, i6' (topCmp La Lb La.length), i6' i] ++ tl 37 g) ∧ y.2.1 = h2 la lb)) ?_ ?_ ?_
    · refine Runs.seq (goesT_runs (tabY_ok conSd_ok) (cmp_r _ La.length c _ undef undef (i6' 0) undef _ g1).t (fun x hx => by cases hx)) ?_ (fun e y he => by cases he.1)
      rintro ⟨t, h'', s⟩ ⟨_, ⟨g2, ht⟩, hh⟩
      simp only at ht hh
      subst ht hh
      refine (Runs.forLoop (P := fun y => (∃ g i, y.1 = [sl 0 o La.length c, sl 1 o' Lb.length c', undef, undef, i6' 0, i6' i] ++ tl 37 g) ∧ y.2.1 = h2 la lb ∧ topCmp La Lb La.length = 0) (R := fun y => (∃ g i, y.1 = [sl 0 o La.length c, sl 1 o' Lb.length c', undef, undef, i6' (topCmp La Lb La.length), i6' i] ++ tl 37 g) ∧ y.2.1 = h2 la lb)
        (fun r y => ∃ (g : Nat → Value), r ≤ La.length ∧ y.1 = [sl 0 o La.length c, sl 1 o' Lb.length c', undef, undef, i6' 0, i6' ((r : Int) - 1)] ++ tl 37 g ∧ y.2.1 = h2 la lb ∧ topCmp La Lb La.length = topCmp La Lb r) ?_ (n := La.length) ⟨g2, Nat.le_refl _, by unfold n1; rw [wrapI (by omega) (by omega)]; rfl, rfl, rfl⟩).mono fun e y he => ?_
      · rintro r ⟨t, h3, s⟩ ⟨g, hk, ht, hh, htop⟩
        simp only at ht hh
        subst ht hh
        cases r with
        | zero =>
          refine (goesT_runs (tabY_ok conSd_ok) (cmp_out _ _ undef undef (i6' 0) _ _ g).t (okOne (by rfl))).mono fun e y he => ?_
          obtain ⟨rfl, ⟨g', e2⟩, e3⟩ := he
          exact ⟨rfl, ⟨g', _, e2⟩, e3, htop⟩
        | succ k =>
          have ek : ((k + 1 : Nat) : Int) - 1 = (k : Int) := by omega
          rw [ek]
          have ca := Ra.cell (k := k) (by omega)
          have cb := Rb.cell (k := k) (by omega)
          have ha : cellIs (la[o + ((k : Int)).toNat * 1]?) (.int .u32 (La.getD k 0)) = true := by
            rw [Int.toNat_natCast, Nat.mul_one, ca]; simp [cellIs]
          have hb : cellIs (lb[o' + ((k : Int)).toNat * 1]?) (.int .u32 (Lb.getD k 0)) = true := by
            rw [Int.toNat_natCast, Nat.mul_one, cb]; simp [cellIs]
          have q1 : decide (0 ≤ (k : Int) ∧ (k : Int) < (La.length : Nat)) = true := decide_eq_true (by omega)
          have q2 : decide (0 ≤ (k : Int) ∧ (k : Int) < (Lb.length : Nat)) = true := decide_eq_true (by omega)
          have q3 : decide ((k : Int) ≥ 0) = true := decide_eq_true (by omega)
          by_cases hx : La.getD k 0 = Lb.getD k 0
          · refine (goesT_runs (tabY_ok conSd_ok) (cmp_go o La.length c o' Lb.length c' k (La.getD k 0) (Lb.getD k 0) la lb undef undef (i6' 0) g) (okTwo (by show (La.getD k 0 != Lb.getD k 0) = false; rw [hx]; exact bne_self_eq_false _) (okTwo hb (okTwo q2 (okTwo ha (okTwo q1 (okOne q3))))))).mono fun e y he => ?_
            obtain ⟨rfl, ⟨g', e2⟩, e3⟩ := he
            refine ⟨k, by omega, g', by omega, ?_, e3, ?_⟩
            · rw [e2, wrapI (by omega) (by omega)]
            · rw [htop]
              simp only [topCmp]
              rw [if_pos hx]
          · have hne : (La.getD k 0 != Lb.getD k 0) = true := by simpa using hx
            refine (goesT_runs (tabY_ok conSd_ok) (cmp_no (decide (La.getD k 0 < Lb.getD k 0)) o La.length c o' Lb.length c' k (La.getD k 0) (Lb.getD k 0) la lb undef undef (i6' 0) g) (okTwo rfl (okTwo hb (okTwo q2 (okTwo ha (okTwo q1 (okTwo hne (okTwo hb (okTwo q2 (okTwo ha (okTwo q1 (okOne q3)))))))))))).mono fun e y he => ?_
            obtain ⟨rfl, ⟨g', e2⟩, e3⟩ := he
            refine ⟨⟨g', k, ?_⟩, e3⟩
            rw [e2, htop]
            simp only [topCmp]
            rw [if_neg hx]
            by_cases hlt : La.getD k 0 < Lb.getD k 0
            · rw [if_pos hlt, decide_eq_true hlt]; rfl
            · rw [if_neg hlt, decide_eq_false hlt]; rfl
      · match e, he with
        | none, he => exact .inl ⟨rfl, he⟩
        | some none, he => exact .inr ⟨rfl, he⟩
    · rintro ⟨t, h'', s⟩ (⟨_, ⟨g2, i, ht⟩, hh, heq⟩ | ⟨h, _⟩)
      · simp only at ht hh
        subst ht hh
        refine (goesT_runs (tabY_ok conSd_ok) (cmp_end _ _ undef undef (i6' 0) _ _ g2).t (fun x hx => by cases hx)).mono fun e y he => ?_
        obtain ⟨rfl, ⟨g3, e2⟩, e3⟩ := he
        refine ⟨.inr rfl, ?_⟩
        rw [e2, e3, heq]
        rfl
      · cases h
    · rintro e y (⟨h, _⟩ | ⟨h1, ⟨g3, i, e2⟩, e3⟩)
      · cases h
      · refine ⟨.inr h1, ?_⟩
        rw [e2, e3]
        rfl
  · unfold cmpL
    rw [if_neg hn]
    exact cmp_runs1 _ _ _ _ _ _ _ hn
/-- where one row is none at all -/
def cmp0 (n k : Nat) : Int := if n = k then 0 else if n < k then -1 else 1
theorem cmp_runsN (p q : Option Addr) (n c k d : Nat) (h : Hp) (h0 : n = 0 ∨ k = 0) :
    Runs (tabOf Tryd.prog extY conSd true) (cmpC Tryd.f39) ([.slice p n c, .slice q k d] ++ List.replicate 41 undef, h, []) fun e y => (e = none ∨ e = some none) ∧ resS Tryd.prog Tryd.f39 y.1 y.2.1 = some (i6' (cmp0 n k)) := by
  unfold cmp0
  by_cases hn : n = k
  · rw [if_pos hn]
    have e1 : n = 0 := by omega
    have e2 : k = 0 := by omega
    subst e1 e2
    exact cmp_runs0 p q c d h
  · rw [if_neg hn]
    exact cmp_runs1 p q n c k d h hn
def gCmp : AnsH := fun vals h s =>
  match vals with
  | [.slice (some ⟨b, o, none⟩) n c, .slice (some ⟨b', o', none⟩) n' c'] =>
    match h.blk? b, h.blk? b' with
    | some x, some y => some (i6' (cmpL (cutI x.1 o n) (cutI y.1 o' n')), h, s, [(rowOk x.2 x.1 o n c, true), (rowOk y.2 y.1 o' n' c', true)])
    | _, _ => none
  | [.slice none 0 0, .slice none 0 0] => some (i6' 0, h, s, [])
  | [.slice none 0 0, .slice (some _) k _] => some (i6' (cmp0 0 k), h, s, [])
  | [.slice (some _) n _, .slice none 0 0] => some (i6' (cmp0 n 0), h, s, [])
  | _ => none
theorem gCmp_ok : AnsHOk 39 gCmp := by
  intro vals h s v h' s' lg hg hl m B w E hv
  unfold gCmp at hg
  split at hg
  · rename_i b o n c b' o' n' c'
    split at hg
    · rename_i x y hx hy
      cases hg
      obtain ⟨a1, a2, a3, a4, a5, a6, a7⟩ := row_of (hl _ (List.mem_cons_self))
      obtain ⟨b1, b2, b3, b4, b5, b6, b7⟩ := row_of (hl _ (List.mem_cons_of_mem _ (List.mem_singleton.2 rfl)))
      have hsm : n < 4611686018427387904 := by have := blt_iff.1 a4; unfold dead at this; omega
      have r := cmp_runs (c := c) (c' := c') a1 b1 (by rw [a2]; exact hsm)
      rw [a2, b2] at r
      have lx := Hp.blk_lt hx
      have ly := Hp.blk_lt hy
      have := row_calls (T := tabOf Tryd.prog extY conSd true) Tryd.func39 cmp_body (rows2 a7 b7) (vals := [sl 0 o n c, sl 1 o' n' c']) (fun v hv => by
        simp only [List.mem_cons, List.not_mem_nil, or_false] at hv
        rcases hv with rfl | rfl <;> rfl) (by rfl) r E (s := pair b b') (fun i _ => by unfold pair; split <;> assumption) (fitsR2 hx a5 a6 hy b5 b6)
      exact this.mono fun e w' he => ⟨m, he.1, he.2⟩
    · cases hg
  · cases hg
    have r := cmp_runsN none none 0 0 0 0 ⟨0, []⟩ (.inl rfl)
    refine (calls_of_runs (T := tabOf Tryd.prog extY conSd true) Tryd.func39 cmp_body (vals := [nilS, nilS]) (by rfl) (by rfl) r w).mono fun e w' he => ?_
    obtain ⟨E', hb⟩ := clean_emb E he.2
    exact ⟨m, he.1, ⟨Agree.refl _ _, E', hb, Nat.le_refl _, rfl⟩⟩
  · rename_i a k c
    cases hg
    have r := cmp_runsN none (some { a with block := 0 }) 0 0 k c hT (.inl rfl)
    have hlt : a.block < h.n := by
      have := hv (.slice (some a) k c) (by simp)
      exact blt_iff.1 this
    have := row_calls (T := tabOf Tryd.prog extY conSd true) Tryd.func39 cmp_body rowsT (vals := [nilS, .slice (some { a with block := 0 }) k c]) (fun v hv => by
      simp only [List.mem_cons, List.not_mem_nil, or_false] at hv
      rcases hv with rfl | rfl <;> rfl) (by rfl) r E (s := fun _ => a.block) (fun i _ => hlt) (fitsRT _ _)
    exact this.mono fun e w' he => ⟨m, he.1, he.2⟩
  · rename_i a n c
    cases hg
    have r := cmp_runsN (some { a with block := 0 }) none n c 0 0 hT (.inr rfl)
    have hlt : a.block < h.n := by
      have := hv (.slice (some a) n c) (by simp)
      exact blt_iff.1 this
    have := row_calls (T := tabOf Tryd.prog extY conSd true) Tryd.func39 cmp_body rowsT (vals := [.slice (some { a with block := 0 }) n c, nilS]) (fun v hv => by
      simp only [List.mem_cons, List.not_mem_nil, or_false] at hv
      rcases hv with rfl | rfl <;> rfl) (by rfl) r E (s := fun _ => a.block) (fun i _ => hlt) (fitsRT _ _)
    exact this.mono fun e w' he => ⟨m, he.1, he.2⟩
  · cases hg
end Go.Proofs.YtbjgkhbhabdjgaaDoor
