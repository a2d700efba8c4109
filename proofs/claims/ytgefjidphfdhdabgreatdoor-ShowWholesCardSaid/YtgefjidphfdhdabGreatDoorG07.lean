/-
  ConN1, ConN2, ConN3, UuV, ConN4, UuR, RunX, NumO, ConN5, UuW, ConN7
-/
import Derived.Test.YtgefjidphfdhdabGreatDoorG06
namespace Go.Proofs.YtgefjidphfdhdabGreatDoor
open Go.KRun Go.Nt
set_option maxRecDepth 100000
/-- words of 32 bits; the type of such a row's block, only read -/
def wU (L : List Int) : List Value := L.map (Value.int .u32)
def tU : TypeId := 62
def tR : TypeId := 62 + dead
theorem tR_ro : ro tR = true := by kernel_rfl
theorem tR_ab : ab tR = false := by kernel_rfl
theorem tR_tomb : tomb tR = false := by kernel_rfl
theorem tR_rt : rt tR = tU := by kernel_rfl
def sl (b o n c : Nat) : Value := .slice (some ⟨b, o, none⟩) n c
def nilS : Value := .slice none 0 0
def nPre (F : Func) : List Code := [cFst (cBody F)]
def nLoop (F : Func) : Code := cIn (cIn (cFst (cSnd (cBody F))))
def nEnd (F : Func) : Code := cSnd (cSnd (cBody F))
theorem trim_body : Tryz.f60.body = some (seqs (nPre Tryz.f60) (.seq (.block 0 (.loop (nLoop Tryz.f60))) (nEnd Tryz.f60))) := by kernel_rfl
theorem trim_pre (v : Value) (h : Hp) : GoesT (evL (tabOf Tryz.prog extY conN true) 100 (nPre Tryz.f60) ([v] ++ List.replicate 20 undef, h, []) ⟨[], [], []⟩) 3 18 none [v, undef, nilS] h [] := ⟨by kernel_rfl, by kernel_rfl, by kernel_rfl⟩
def n1 (n : Nat) : Int := IntKind.i64.wrap ((n : Int) - 1)
theorem trim_go (o n c : Nat) (x : Int) (l : List Value) (j1 j2 : Value) (g : Nat → Value) : GoesE (evC (tabOf Tryz.prog extY conN true) 100 false (nLoop Tryz.f60) ([sl 0 o n c, j1, j2] ++ tl 18 g, ⟨1, [(l, tR)]⟩, [cmp true, at_, val (.int .u32 x), cmp true, num 0]) ⟨[], [], []⟩) 3 18 none
    [sl 0 o (n1 n).toNat c, j1, j2] ⟨1, [(l, tR)]⟩ [(smallC c, true), (okPart 0 (n1 n) c c, true), (decide ((c : Int) = 0 ∧ (0 : Int) ≠ 0), false), (x == 0, true), (cellIs (l[o + (n1 n).toNat * 1]?) (.int .u32 x), true), (decide (0 ≤ n1 n ∧ n1 n < n), true), (decide ((n : Int) > 0), true)] := by unfold GoesE; kernel_rfl
theorem trim_out0 (j1 j2 : Value) (p : Option Addr) (n c : Nat) (h : Hp) (g : Nat → Value) : GoesE (evC (tabOf Tryz.prog extY conN true) 100 false (nLoop Tryz.f60) ([.slice p n c, j1, j2] ++ tl 18 g, h, [cmp false]) ⟨[], [], []⟩) 3 18 (some (some 0))
    [.slice p n c, j1, j2] h [(decide ((n : Int) > 0), false)] := by unfold GoesE; kernel_rfl
theorem trim_out1 (o n c : Nat) (x : Int) (l : List Value) (j1 j2 : Value) (g : Nat → Value) : GoesE (evC (tabOf Tryz.prog extY conN true) 100 false (nLoop Tryz.f60) ([sl 0 o n c, j1, j2] ++ tl 18 g, ⟨1, [(l, tR)]⟩, [cmp true, at_, val (.int .u32 x), cmp false]) ⟨[], [], []⟩) 3 18 (some (some 0))
    [sl 0 o n c, j1, j2] ⟨1, [(l, tR)]⟩ [(x == 0, false), (cellIs (l[o + (n1 n).toNat * 1]?) (.int .u32 x), true), (decide (0 ≤ n1 n ∧ n1 n < n), true), (decide ((n : Int) > 0), true)] := by unfold GoesE; kernel_rfl
theorem trim_end (v j1 j2 : Value) (h : Hp) (g : Nat → Value) : GoesT (evC (tabOf Tryz.prog extY conN true) 100 false (nEnd Tryz.f60) ([v, j1, j2] ++ tl 18 g, h, []) ⟨[], [], []⟩) 3 18 (some none) [v, j1, v] h [] := ⟨by kernel_rfl, by kernel_rfl, by kernel_rfl⟩
/-! ### rows of words in a memory -/
def intOf : Value → Int
  | .int _ n => n
  | _ => 0
def isU : Value → Bool
  | .int .u32 n => decide (0 ≤ n ∧ n < 4294967296)
  | _ => false
theorem isU_spec {v : Value} (h : isU v = true) : v = .int .u32 (intOf v) ∧ 0 ≤ intOf v ∧ intOf v < 4294967296 := by
  unfold isU at h
  split at h
  · simp only [decide_eq_true_eq] at h
    exact ⟨rfl, h.1, h.2⟩
  · cases h
def cutV (l : List Value) (o n : Nat) : List Value := (l.drop o).take n
def cutI (l : List Value) (o n : Nat) : List Int := (cutV l o n).map intOf
/-- a row of words, its capacity known -/
def rowOk (ty : TypeId) (l : List Value) (o n c : Nat) : Bool := !(tomb ty) && Nat.beq (rt ty) tU && Nat.ble (o + n) l.length && Nat.ble n c && smallC c && (cutV l o n).all isU && l.all still
theorem cutV_words {l : List Value} {o n : Nat} (h : ((cutV l o n).all isU) = true) : cutV l o n = wU (cutI l o n) := by
  unfold wU cutI
  rw [List.map_map]
  refine (List.map_id' _).symm.trans (List.map_congr_left fun v hv => ?_)
  exact (isU_spec (List.all_eq_true.1 h v hv)).1
/-- what is needed of a row in the smallest memory -/
structure Row (l : List Value) (o : Nat) (L : List Int) : Prop where
  len : o + L.length ≤ l.length
  cut : cutV l o L.length = wU L
  rng : ∀ x ∈ L, 0 ≤ x ∧ x < 4294967296
theorem Row.cell {l : List Value} {o : Nat} {L : List Int} (h : Row l o L) {k : Nat} (hk : k < L.length) : l[o + k]? = some (.int .u32 (L.getD k 0)) := by
  have e : (cutV l o L.length)[k]? = (wU L)[k]? := by rw [h.cut]
  unfold cutV wU at e
  rw [List.getElem?_take, if_pos hk, List.getElem?_drop, List.getElem?_map] at e
  rw [e, List.getElem?_eq_getElem hk]
  simp [List.getD, List.getElem?_eq_getElem hk]
theorem row_of {ty : TypeId} {l : List Value} {o n c : Nat} (h : rowOk ty l o n c = true) : Row l o (cutI l o n) ∧ (cutI l o n).length = n ∧ n ≤ c ∧ smallC c = true ∧ tomb ty = false ∧ rt ty = tU ∧ ∀ v ∈ l, still v = true := by
  unfold rowOk at h
  simp only [Bool.and_eq_true, Bool.not_eq_true'] at h
  obtain ⟨⟨⟨⟨⟨⟨h1, h2⟩, h3⟩, h4⟩, h5⟩, h6⟩, h7⟩ := h
  have h2 := Nat.eq_of_beq_eq_true h2
  have h3 := Nat.le_of_ble_eq_true h3
  have h4 := Nat.le_of_ble_eq_true h4
  have hlen : (cutI l o n).length = n := by unfold cutI cutV; simp; omega
  refine ⟨⟨by rw [hlen]; exact h3, by rw [hlen]; exact cutV_words h6, fun x hx => ?_⟩, hlen, h4, h5, h1, h2, List.all_eq_true.1 h7⟩
  unfold cutI at hx
  obtain ⟨v, hv, rfl⟩ := List.mem_map.1 hx
  have := isU_spec (List.all_eq_true.1 h6 v hv)
  exact ⟨this.2.1, this.2.2⟩
/-! ### trim -/
theorem trim_runs {l : List Value} {o c : Nat} {L : List Int} (hR : Row l o L) (hc : smallC c = true) (hn : L.length ≤ c) :
    Runs (tabOf Tryz.prog extY conN true) (seqs (nPre Tryz.f60) (.seq (.block 0 (.loop (nLoop Tryz.f60))) (nEnd Tryz.f60))) ([sl 0 o L.length c] ++ List.replicate 20 undef, ⟨1, [(l, tR)]⟩, []) fun e y => (e = none ∨ e = some none) ∧ resS Tryz.prog Tryz.f60 y.1 y.2.1 = some (sl 0 o (trimN L) c) := by
  have hc' : c < 4611686018427387904 := blt_iff.1 hc
  refine goesT_list (tabY_ok conN_ok) (trim_pre _ _) (fun x hx => by cases hx) fun g => ?_
  refine Runs.seq (P1 := fun e y => e = none ∧ (∃ g, y.1 = [sl 0 o (trimN L) c, undef, nilS] ++ tl 18 g) ∧ y.2.1 = ⟨1, [(l, tR)]⟩) ?_ ?_ (fun e y he => by cases he.1)
  · refine (Runs.forLoop (P := fun y => (∃ g, y.1 = [sl 0 o (trimN L) c, undef, nilS] ++ tl 18 g) ∧ y.2.1 = ⟨1, [(l, tR)]⟩) (R := fun _ => False) (fun n y => (∃ g, y.1 = [sl 0 o n c, undef, nilS] ++ tl 18 g) ∧ y.2.1 = ⟨1, [(l, tR)]⟩ ∧ n ≤ L.length ∧ ∀ i, n ≤ i → L.getD i 0 = 0) ?_ (n := L.length) ⟨⟨g, rfl⟩, rfl, Nat.le_refl _, fun i hi => by simp [List.getD, List.getElem?_eq_none hi]⟩).mono fun e y he => ?_
    · rintro n ⟨t, h', s⟩ ⟨⟨g, ht⟩, hh, hle, hz⟩
      simp only at ht hh
      subst ht hh
      cases n with
      | zero =>
        refine (goesT_runs (tabY_ok conN_ok) (trim_out0 undef nilS (some ⟨0, o, none⟩) 0 c _ g).t (okOne (by rfl))).mono fun e y he => ?_
        obtain ⟨rfl, ⟨g', h2⟩, h3⟩ := he
        have e0 : trimN L = 0 := trimN_uniq hz (.inl rfl)
        exact ⟨rfl, ⟨g', by rw [h2, e0]; rfl⟩, h3⟩
      | succ k =>
        have ek : n1 (k + 1) = (k : Int) := by
          unfold n1
          rw [wrapI (by omega) (by omega)]
          omega
        have hcell := hR.cell (k := k) (by omega)
        have hce : cellIs (l[o + (n1 (k + 1)).toNat * 1]?) (.int .u32 (L.getD k 0)) = true := by
          rw [ek, Int.toNat_natCast, Nat.mul_one, hcell]
          simp [cellIs]
        have hix : decide (0 ≤ n1 (k + 1) ∧ n1 (k + 1) < ((k + 1 : Nat) : Int)) = true := by rw [ek]; exact decide_eq_true (by omega)
        have hgt : decide (((k + 1 : Nat) : Int) > 0) = true := decide_eq_true (by omega)
        by_cases hx : L.getD k 0 = 0
        · refine (goesT_runs (tabY_ok conN_ok) (trim_go o (k + 1) c (L.getD k 0) l undef nilS g).t (okTwo hc (okTwo (by
            unfold okPart
            rw [ek]
            exact decide_eq_true (by omega)) (okTwo (decide_eq_false (by omega)) (okTwo (by rw [hx]; rfl) (okTwo hce (okTwo hix (okOne hgt)))))))).mono fun e y he => ?_
          obtain ⟨rfl, ⟨g', h2⟩, h3⟩ := he
          rw [ek, Int.toNat_natCast] at h2
          refine ⟨k, by omega, ⟨g', h2⟩, h3, by omega, fun i hi => ?_⟩
          rcases Nat.lt_or_ge k i with h | h
          · exact hz i h
          · have : i = k := by omega
            rw [this]; exact hx
        · refine (goesT_runs (tabY_ok conN_ok) (trim_out1 o (k + 1) c (L.getD k 0) l undef nilS g).t (okTwo (by simpa using hx) (okTwo hce (okTwo hix (okOne hgt))))).mono fun e y he => ?_
          obtain ⟨rfl, ⟨g', h2⟩, h3⟩ := he
          have e0 : trimN L = k + 1 := trimN_uniq hz (.inr (by simpa using hx))
          exact ⟨rfl, ⟨g', by rw [h2, e0]⟩, h3⟩
    · match e, he with
      | none, he => exact ⟨rfl, he⟩
  · rintro ⟨t, h', s⟩ ⟨_, ⟨g', ht⟩, hh⟩
    simp only at ht hh
    subst ht hh
    refine (goesT_runs (tabY_ok conN_ok) (trim_end _ undef nilS _ g') (fun x hx => by cases hx)).mono fun e y he => ?_
    obtain ⟨rfl, ⟨g2, h2⟩, h3⟩ := he
    refine ⟨.inr rfl, ?_⟩
    rw [h2, h3]
    rfl
/-- one row, the smallest memory -/
theorem rows1 {l : List Value} (h : ∀ v ∈ l, still v = true) : (⟨1, [(l, tR)]⟩ : Hp).rows := by
  refine ⟨rfl, fun b x hb => ?_⟩
  have hb0 : b = 0 := by have : b < 1 := Hp.blk_lt hb; omega
  subst hb0
  have : x = (l, tR) := (Option.some.inj hb).symm
  rw [this]
  exact ⟨tR_ro, h, tR_ab⟩
theorem fitsR1 {l : List Value} {h : Hp} {b : Nat} {x : List Value × TypeId} (hb : h.blk? b = some x) (h1 : tomb x.2 = false) (h2 : rt x.2 = tU) (e : x.1 = l) : (⟨1, [(l, tR)]⟩ : Hp).fits (fun _ => b) h := by
  intro i y hi _
  have hb0 : i = 0 := by have : i < 1 := Hp.blk_lt hi; omega
  subst hb0
  have : y = (l, tR) := (Option.some.inj hi).symm
  rw [this]
  exact ⟨x, [], hb, h1, by rw [h2]; exact tR_rt.symm, by rw [e, List.append_nil]⟩
def gTrim : AnsH := fun vals h s =>
  match vals with
  | [.slice none 0 0] => some (nilS, h, s, [])
  | [.slice (some ⟨b, o, none⟩) n c] =>
    match h.blk? b with
    | some x => some (sl b o (trimN (cutI x.1 o n)) c, h, s, [(rowOk x.2 x.1 o n c, true)])
    | none => none
  | _ => none
theorem trim_nil : Fits (reckon (tabOf Tryz.prog extY conN true) 100 60 [nilS] []) nilS [] := ⟨by kernel_rfl, by kernel_rfl, by kernel_rfl, by kernel_rfl⟩
theorem gTrim_ok : AnsHOk 60 gTrim := by
  intro vals h s v h' s' lg hg hl m B w E hv
  unfold gTrim at hg
  split at hg
  · cases hg
    refine (fits_calls (tabY_ok conN_ok) trim_nil (fun x hx => by cases hx) (by rfl) (by rfl) w).mono fun e w' he => ?_
    obtain ⟨E', hb⟩ := clean_emb E he.2
    exact ⟨m, he.1, ⟨Agree.refl _ _, E', hb, Nat.le_refl _, rfl⟩⟩
  · rename_i b o n c
    split at hg
    · rename_i x hx
      cases hg
      obtain ⟨h1, h2, h3, h4, h5, h6, h7⟩ := row_of (hl _ (List.mem_singleton.2 rfl))
      have hlt := Hp.blk_lt hx
      have r := trim_runs h1 h4 (by rw [h2]; exact h3)
      rw [h2] at r
      have := row_calls (T := tabOf Tryz.prog extY conN true) Tryz.func60 trim_body (rows1 h7) (vals := [sl 0 o n c]) (fun v hv => by rw [List.mem_singleton.1 hv]; rfl) (by rfl) r E (s := fun _ => b) (fun i _ => hlt) (fitsR1 hx h5 h6 rfl)
      exact this.mono fun e w' he => ⟨m, he.1, he.2⟩
    · cases hg
  · cases hg
/-- two rows -/
def h2 (la lb : List Value) : Hp := ⟨2, [(lb, tR), (la, tR)]⟩
def pair (a b i : Nat) : Nat := if Nat.beq i 0 = true then a else b
theorem blk2 {la lb : List Value} {i : Nat} {x : List Value × TypeId} (h : (h2 la lb).blk? i = some x) : (i = 0 ∧ x = (la, tR)) ∨ (i = 1 ∧ x = (lb, tR)) := by
  have : i < 2 := Hp.blk_lt h
  have : i = 0 ∨ i = 1 := by omega
  rcases this with rfl | rfl
  · exact .inl ⟨rfl, (Option.some.inj h).symm⟩
  · exact .inr ⟨rfl, (Option.some.inj h).symm⟩
theorem rows2 {la lb : List Value} (ha : ∀ v ∈ la, still v = true) (hb : ∀ v ∈ lb, still v = true) : (h2 la lb).rows := by
  refine ⟨rfl, fun b x hx => ?_⟩
  rcases blk2 hx with ⟨_, e⟩ | ⟨_, e⟩ <;> rw [e]
  · exact ⟨tR_ro, ha, tR_ab⟩
  · exact ⟨tR_ro, hb, tR_ab⟩
theorem fitsR2 {h : Hp} {a b : Nat} {x y : List Value × TypeId} (hx : h.blk? a = some x) (x1 : tomb x.2 = false) (x2 : rt x.2 = tU) (hy : h.blk? b = some y) (y1 : tomb y.2 = false) (y2 : rt y.2 = tU) : (h2 x.1 y.1).fits (pair a b) h := by
  intro i z hz _
  rcases blk2 hz with ⟨rfl, e⟩ | ⟨rfl, e⟩ <;> rw [e]
  · exact ⟨x, [], hx, x1, by rw [x2]; exact tR_rt.symm, by rw [List.append_nil]⟩
  · exact ⟨y, [], hy, y1, by rw [y2]; exact tR_rt.symm, by rw [List.append_nil]⟩
/-- a row of which nothing is known -/
def hT : Hp := ⟨1, [([], 2 * dead)]⟩
theorem blkT {i : Nat} {x : List Value × TypeId} (h : hT.blk? i = some x) : x = ([], 2 * dead) := by
  have h1 : i < 1 := Hp.blk_lt h
  have h2 : i = 0 := by omega
  subst h2
  exact (Option.some.inj h).symm
theorem tombT : tomb (2 * dead) = true := by kernel_rfl
theorem roT : ro (2 * dead) = true := by kernel_rfl
theorem rowsT : hT.rows := ⟨rfl, fun b x hx => by rw [blkT hx]; exact ⟨roT, (fun v hv => by cases hv), by kernel_rfl⟩⟩
theorem fitsRT (s : Nat → Nat) (h : Hp) : hT.fits s h := fun i x hx ht => by rw [blkT hx, tombT] at ht; cases ht
end Go.Proofs.YtgefjidphfdhdabGreatDoor
namespace Go.Proofs.YtgefjidphfdhdabGreatDoor.Na
open Go.KRun Go.Nt
set_option maxRecDepth 100000
def i6' (n : Int) : Value := .int .i64 n
def oA (F : Func) : Code := cFst (cSnd (cBody F))
def oR (F : Func) : Code := cFst (cFst (cSnd (cSnd (cBody F))))
def oLoop (F : Func) : Code := cIn (cIn (cSnd (cFst (cSnd (cSnd (cBody F))))))
def oEnd (F : Func) : Code := cSnd (cSnd (cSnd (cBody F)))
def sideI (d : Bool) : Int := match d with | true => -1 | false => 1
theorem side_fits (d : Bool) : Fits (reckon (tabOf Tryz.prog extY conN true) 100 132 [.bool d] []) (i6' (sideI d)) [] := by
  cases d <;> exact ⟨by kernel_rfl, by kernel_rfl, by kernel_rfl, by kernel_rfl⟩
def gSide : Ans := fun vals s =>
  match vals with
  | [.bool d] => some (i6' (sideI d), s, [])
  | _ => none
theorem gSide_ok : AnsOk 132 gSide := by
  intro vals s v s' lg h hl w
  unfold gSide at h
  split at h
  · cases h
    exact fits_calls (tabY_ok conN_ok) (side_fits _) (fun x hx => by cases hx) (by rfl) (by rfl) w
  · cases h
def conSd : Con := alt 132 gSide conN
theorem conSd_ok : ConOk conSd := alt_ok Tryz.func132 rfl gSide_ok conN_ok
theorem cmp_body : Tryz.f122.body = some (seqs (nPre Tryz.f122) (.seq (oA Tryz.f122) (.seq (.seq (oR Tryz.f122) (.block 0 (.loop (oLoop Tryz.f122)))) (oEnd Tryz.f122)))) := by kernel_rfl
theorem cmp_pre (v w : Value) (h : Hp) : GoesT (evL (tabOf Tryz.prog extY conSd true) 100 (nPre Tryz.f122) ([v, w] ++ List.replicate 41 undef, h, []) ⟨[], [], []⟩) 6 37 none [v, w, undef, undef, i6' 0, undef] h [] := ⟨by kernel_rfl, by kernel_rfl, by kernel_rfl⟩
theorem cmp_lt (p q : Option Addr) (n c k d : Nat) (j2 j3 j4 j5 : Value) (h : Hp) (g : Nat → Value) : GoesE (evC (tabOf Tryz.prog extY conSd true) 100 false (oA Tryz.f122) ([.slice p n c, .slice q k d, j2, j3, j4, j5] ++ tl 37 g, h, [cmp true, cmp true]) ⟨[], [], []⟩) 6 37 (some none)
    [.slice p n c, .slice q k d, j2, j3, i6' (-1), j5] h [(decide ((n : Int) < k), true), ((n : Int) != k, true)] := by unfold GoesE; kernel_rfl
theorem cmp_gt (p q : Option Addr) (n c k d : Nat) (j2 j3 j4 j5 : Value) (h : Hp) (g : Nat → Value) : GoesE (evC (tabOf Tryz.prog extY conSd true) 100 false (oA Tryz.f122) ([.slice p n c, .slice q k d, j2, j3, j4, j5] ++ tl 37 g, h, [cmp true, cmp false]) ⟨[], [], []⟩) 6 37 (some none)
    [.slice p n c, .slice q k d, j2, j3, i6' 1, j5] h [(decide ((n : Int) < k), false), ((n : Int) != k, true)] := by unfold GoesE; kernel_rfl
theorem cmp_eq (p q : Option Addr) (n c k d : Nat) (j2 j3 j4 j5 : Value) (h : Hp) (g : Nat → Value) : GoesE (evC (tabOf Tryz.prog extY conSd true) 100 false (oA Tryz.f122) ([.slice p n c, .slice q k d, j2, j3, j4, j5] ++ tl 37 g, h, [cmp false]) ⟨[], [], []⟩) 6 37 none
    [.slice p n c, .slice q k d, j2, j3, j4, j5] h [((n : Int) != k, false)] := by unfold GoesE; kernel_rfl
theorem cmp_r (p : Option Addr) (n c : Nat) (w j2 j3 j4 j5 : Value) (h : Hp) (g : Nat → Value) : GoesE (evC (tabOf Tryz.prog extY conSd true) 100 false (oR Tryz.f122) ([.slice p n c, w, j2, j3, j4, j5] ++ tl 37 g, h, []) ⟨[], [], []⟩) 6 37 none
    [.slice p n c, w, j2, j3, j4, i6' (n1 n)] h [] := by unfold GoesE; kernel_rfl
theorem cmp_out (v w j2 j3 j4 : Value) (i : Int) (h : Hp) (g : Nat → Value) : GoesE (evC (tabOf Tryz.prog extY conSd true) 100 false (oLoop Tryz.f122) ([v, w, j2, j3, j4, i6' i] ++ tl 37 g, h, [cmp false]) ⟨[], [], []⟩) 6 37 (some (some 0))
    [v, w, j2, j3, j4, i6' i] h [(decide (i ≥ 0), false)] := by unfold GoesE; kernel_rfl
theorem cmp_go (o n c o' n' c' : Nat) (i x y : Int) (la lb : List Value) (j2 j3 j4 : Value) (g : Nat → Value) : GoesT (evC (tabOf Tryz.prog extY conSd true) 100 false (oLoop Tryz.f122) ([sl 0 o n c, sl 1 o' n' c', j2, j3, j4, i6' i] ++ tl 37 g, h2 la lb, [cmp true, at_, val (.int .u32 x), at_, val (.int .u32 y), cmp false]) ⟨[], [], []⟩) 6 37 none
    [sl 0 o n c, sl 1 o' n' c', j2, j3, j4, i6' (IntKind.i64.wrap (i - 1))] (h2 la lb) [(x != y, false), (cellIs (lb[o' + i.toNat * 1]?) (.int .u32 y), true), (decide (0 ≤ i ∧ i < n'), true), (cellIs (la[o + i.toNat * 1]?) (.int .u32 x), true), (decide (0 ≤ i ∧ i < n), true), (decide (i ≥ 0), true)] := ⟨by kernel_rfl, by kernel_rfl, by kernel_rfl⟩
theorem cmp_no (d : Bool) (o n c o' n' c' : Nat) (i x y : Int) (la lb : List Value) (j2 j3 j4 : Value) (g : Nat → Value) : GoesT (evC (tabOf Tryz.prog extY conSd true) 100 false (oLoop Tryz.f122) ([sl 0 o n c, sl 1 o' n' c', j2, j3, j4, i6' i] ++ tl 37 g, h2 la lb, [cmp true, at_, val (.int .u32 x), at_, val (.int .u32 y), cmp true, at_, val (.int .u32 x), at_, val (.int .u32 y), cmp d]) ⟨[], [], []⟩) 6 37 (some none)
    [sl 0 o n c, sl 1 o' n' c', j2, j3, i6' (sideI d), i6' i] (h2 la lb) [(decide (x < y), d), (cellIs (lb[o' + i.toNat * 1]?) (.int .u32 y), true), (decide (0 ≤ i ∧ i < n'), true), (cellIs (la[o + i.toNat * 1]?) (.int .u32 x), true), (decide (0 ≤ i ∧ i < n), true), (x != y, true), (cellIs (lb[o' + i.toNat * 1]?) (.int .u32 y), true), (decide (0 ≤ i ∧ i < n'), true), (cellIs (la[o + i.toNat * 1]?) (.int .u32 x), true), (decide (0 ≤ i ∧ i < n), true), (decide (i ≥ 0), true)] := by
  cases d <;> exact ⟨by kernel_rfl, by kernel_rfl, by kernel_rfl⟩
theorem cmp_end (v w j2 j3 j4 j5 : Value) (h : Hp) (g : Nat → Value) : GoesE (evC (tabOf Tryz.prog extY conSd true) 100 false (oEnd Tryz.f122) ([v, w, j2, j3, j4, j5] ++ tl 37 g, h, []) ⟨[], [], []⟩) 6 37 (some none)
    [v, w, j2, j3, i6' 0, j5] h [] := by unfold GoesE; kernel_rfl
def cmpC (F : Func) : Code := seqs (nPre F) (.seq (oA F) (.seq (.seq (oR F) (.block 0 (.loop (oLoop F)))) (oEnd F)))
/-- rows of two lengths: nothing is read -/
theorem cmp_runs1 (p q : Option Addr) (n c k d : Nat) (h : Hp) (hn : n ≠ k) :
    Runs (tabOf Tryz.prog extY conSd true) (cmpC Tryz.f122) ([.slice p n c, .slice q k d] ++ List.replicate 41 undef, h, []) fun e y => (e = none ∨ e = some none) ∧ resS Tryz.prog Tryz.f122 y.1 y.2.1 = some (i6' (if n < k then -1 else 1)) := by
  refine goesT_list (tabY_ok conSd_ok) (cmp_pre _ _ _) (fun x hx => by cases hx) fun g => ?_
  by_cases hl : n < k
  · refine Runs.seq (goesT_runs (tabY_ok conSd_ok) (cmp_lt p q n c k d undef undef (i6' 0) undef h g).t (okTwo (decide_eq_true (by omega)) (okOne (by simp; omega)))) (fun y he => by cases he.1) (fun e y he => ?_)
    obtain ⟨h1, ⟨g3, e2⟩, e3⟩ := he
    refine ⟨.inr h1, ?_⟩
    rw [e2, e3, if_pos hl]
    rfl
  · refine Runs.seq (goesT_runs (tabY_ok conSd_ok) (cmp_gt p q n c k d undef undef (i6' 0) undef h g).t (okTwo (decide_eq_false (by omega)) (okOne (by simp; omega)))) (fun y he => by cases he.1) (fun e y he => ?_)
    obtain ⟨h1, ⟨g3, e2⟩, e3⟩ := he
    refine ⟨.inr h1, ?_⟩
    rw [e2, e3, if_neg hl]
    rfl
/-- two rows that are empty -/
theorem cmp_runs0 (p q : Option Addr) (c d : Nat) (h : Hp) :
    Runs (tabOf Tryz.prog extY conSd true) (cmpC Tryz.f122) ([.slice p 0 c, .slice q 0 d] ++ List.replicate 41 undef, h, []) fun e y => (e = none ∨ e = some none) ∧ resS Tryz.prog Tryz.f122 y.1 y.2.1 = some (i6' 0) := by
  refine goesT_list (tabY_ok conSd_ok) (cmp_pre _ _ _) (fun x hx => by cases hx) fun g => ?_
  refine Runs.seq (goesT_runs (tabY_ok conSd_ok) (cmp_eq p q 0 c 0 d undef undef (i6' 0) undef h g).t (okOne (by rfl))) ?_ (fun e y he => by cases he.1)
  rintro ⟨t, h', s⟩ ⟨_, ⟨g1, ht⟩, hh⟩
  simp only at ht hh
  subst ht hh
  refine Runs.seq (P1 := fun e y => e = none ∧ (∃ g i, y.1 = [.slice p 0 c, .slice q 0 d, undef, undef, i6' 0, i6' i] ++ tl 37 g) ∧ y.2.1 = h') ?_ ?_ (fun e y he => by cases he.1)
  · refine Runs.seq (goesT_runs (tabY_ok conSd_ok) (cmp_r p 0 c _ undef undef (i6' 0) undef h' g1).t (fun x hx => by cases hx)) ?_ (fun e y he => by cases he.1)
    rintro ⟨t, h'', s⟩ ⟨_, ⟨g2, ht⟩, hh⟩
    simp only at ht hh
    subst ht hh
    refine (Runs.forLoop (P := fun y => (∃ g i, y.1 = [.slice p 0 c, .slice q 0 d, undef, undef, i6' 0, i6' i] ++ tl 37 g) ∧ y.2.1 = h'') (R := fun _ => False) (fun _ y => ∃ g, y.1 = [.slice p 0 c, .slice q 0 d, undef, undef, i6' 0, i6' (n1 0)] ++ tl 37 g ∧ y.2.1 = h'') ?_ (n := 0) ⟨g2, rfl, rfl⟩).mono fun e y he => ?_
    · rintro _ ⟨t, h3, s⟩ ⟨g, ht, hh⟩
      simp only at ht hh
      subst ht hh
      refine (goesT_runs (tabY_ok conSd_ok) (cmp_out _ _ undef undef (i6' 0) (n1 0) h3 g).t (okOne (by rfl))).mono fun e y he => ?_
      obtain ⟨rfl, ⟨g', e2⟩, e3⟩ := he
      exact ⟨rfl, ⟨g', _, e2⟩, e3⟩
    · match e, he with
      | none, he => exact ⟨rfl, he⟩
  · rintro ⟨t, h'', s⟩ ⟨_, ⟨g2, i, ht⟩, hh⟩
    simp only at ht hh
    subst ht hh
    refine (goesT_runs (tabY_ok conSd_ok) (cmp_end _ _ undef undef (i6' 0) _ h'' g2).t (fun x hx => by cases hx)).mono fun e y he => ?_
    obtain ⟨rfl, ⟨g3, e2⟩, e3⟩ := he
    refine ⟨.inr rfl, ?_⟩
    rw [e2, e3]
    rfl
theorem cmp_runs {la lb : List Value} {o o' c c' : Nat} {La Lb : List Int} (Ra : Row la o La) (Rb : Row lb o' Lb) (hc : La.length < 4611686018427387904) :
    Runs (tabOf Tryz.prog extY conSd true) (cmpC Tryz.f122) ([sl 0 o La.length c, sl 1 o' Lb.length c'] ++ List.replicate 41 undef, h2 la lb, []) fun e y => (e = none ∨ e = some none) ∧ resS Tryz.prog Tryz.f122 y.1 y.2.1 = some (i6' (cmpL La Lb)) := by
  by_cases hn : La.length = Lb.length
  · unfold cmpL
    rw [if_pos hn]
    refine goesT_list (tabY_ok conSd_ok) (cmp_pre _ _ _) (fun x hx => by cases hx) fun g => ?_
    refine Runs.seq (goesT_runs (tabY_ok conSd_ok) (cmp_eq _ _ La.length c Lb.length c' undef undef (i6' 0) undef (h2 la lb) g).t (okOne (by simp [hn]))) ?_ (fun e y he => by cases he.1)
    rintro ⟨t, h', s⟩ ⟨_, ⟨g1, ht⟩, hh⟩
    simp only at ht hh
    subst ht hh
    refine Runs.seq (P1 := fun e y => (e = none ∧ (∃ g i, y.1 = [sl 0 o La.length c, sl 1 o' Lb.length c', undef, undef, i6' 0, i6' i] ++ tl 37 g) ∧ y.2.1 = h2 la lb ∧ topCmp La Lb La.length = 0) ∨ (e = some none ∧ (∃ g i, y.1 = [sl 0 o La.length c, sl 1 o' Lb.length c', undef, undef, i6' (topCmp La Lb La.length), i6' i] ++ tl 37 g) ∧ y.2.1 = h2 la lb)) ?_ ?_ ?_
    · refine Runs.seq (goesT_runs (tabY_ok conSd_ok) (cmp_r _ La.length c _ undef undef (i6' 0) undef _ g1).t (fun x hx => by cases hx)) ?_ (fun e y he => by cases he.1)
      rintro ⟨t, h'', s⟩ ⟨_, ⟨g2, ht⟩, hh⟩
      simp only at ht hh
      subst ht hh
      refine (Runs.forLoop (P := fun y => (∃ g i, y.1 = [sl 0 o La.length c, sl 1 o' Lb.length c', undef, undef, i6' 0, i6' i] ++ tl 37 g) ∧ y.2.1 = h2 la lb ∧ topCmp La Lb La.length = 0) (R := fun y => (∃ g i, y.1 = [sl 0 o La.length c, sl 1 o' Lb.length c', undef, undef, i6' (topCmp La Lb La.length), i6' i] ++ tl 37 g) ∧ y.2.1 = h2 la lb)
        (fun r y => ∃ (g : Nat → Value), r ≤ La.length ∧ y.1 = [sl 0 o La.length c, sl 1 o' Lb.length c', undef, undef, i6' 0, i6' ((r : Int) - 1)] ++ tl 37 g ∧ y.2.1 = h2 la lb ∧ topCmp La Lb La.length = topCmp La Lb r) ?_ (n := La.length) ⟨g2, Nat.le_refl _, by unfold n1; rw [wrapI (by omega) (by omega)]; rfl, rfl, rfl⟩).mono fun e y he => ?_
      · rintro r ⟨t, h3, s⟩ ⟨g, hk, ht, hh, htop⟩
        simp only at ht hh
        subst ht hh
        cases r with
        | zero =>
          refine (goesT_runs (tabY_ok conSd_ok) (cmp_out _ _ undef undef (i6' 0) _ _ g).t (okOne (by rfl))).mono fun e y he => ?_
          obtain ⟨rfl, ⟨g', e2⟩, e3⟩ := he
          exact ⟨rfl, ⟨g', _, e2⟩, e3, htop⟩
        | succ k =>
          have ek : ((k + 1 : Nat) : Int) - 1 = (k : Int) := by omega
          rw [ek]
          have ca := Ra.cell (k := k) (by omega)
          have cb := Rb.cell (k := k) (by omega)
          have ha : cellIs (la[o + ((k : Int)).toNat * 1]?) (.int .u32 (La.getD k 0)) = true := by
            rw [Int.toNat_natCast, Nat.mul_one, ca]; simp [cellIs]
          have hb : cellIs (lb[o' + ((k : Int)).toNat * 1]?) (.int .u32 (Lb.getD k 0)) = true := by
            rw [Int.toNat_natCast, Nat.mul_one, cb]; simp [cellIs]
          have q1 : decide (0 ≤ (k : Int) ∧ (k : Int) < (La.length : Nat)) = true := decide_eq_true (by omega)
          have q2 : decide (0 ≤ (k : Int) ∧ (k : Int) < (Lb.length : Nat)) = true := decide_eq_true (by omega)
          have q3 : decide ((k : Int) ≥ 0) = true := decide_eq_true (by omega)
          by_cases hx : La.getD k 0 = Lb.getD k 0
          · refine (goesT_runs (tabY_ok conSd_ok) (cmp_go o La.length c o' Lb.length c' k (La.getD k 0) (Lb.getD k 0) la lb undef undef (i6' 0) g) (okTwo (by show (La.getD k 0 != Lb.getD k 0) = false; rw [hx]; exact bne_self_eq_false _) (okTwo hb (okTwo q2 (okTwo ha (okTwo q1 (okOne q3))))))).mono fun e y he => ?_
            obtain ⟨rfl, ⟨g', e2⟩, e3⟩ := he
            refine ⟨k, by omega, g', by omega, ?_, e3, ?_⟩
            · rw [e2, wrapI (by omega) (by omega)]
            · rw [htop]
              simp only [topCmp]
              rw [if_pos hx]
          · have hne : (La.getD k 0 != Lb.getD k 0) = true := by simpa using hx
            refine (goesT_runs (tabY_ok conSd_ok) (cmp_no (decide (La.getD k 0 < Lb.getD k 0)) o La.length c o' Lb.length c' k (La.getD k 0) (Lb.getD k 0) la lb undef undef (i6' 0) g) (okTwo rfl (okTwo hb (okTwo q2 (okTwo ha (okTwo q1 (okTwo hne (okTwo hb (okTwo q2 (okTwo ha (okTwo q1 (okOne q3)))))))))))).mono fun e y he => ?_
            obtain ⟨rfl, ⟨g', e2⟩, e3⟩ := he
            refine ⟨⟨g', k, ?_⟩, e3⟩
            rw [e2, htop]
            simp only [topCmp]
            rw [if_neg hx]
            by_cases hlt : La.getD k 0 < Lb.getD k 0
            · rw [if_pos hlt, decide_eq_true hlt]; rfl
            · rw [if_neg hlt, decide_eq_false hlt]; rfl
      · match e, he with
        | none, he => exact .inl ⟨rfl, he⟩
        | some none, he => exact .inr ⟨rfl, he⟩
    · rintro ⟨t, h'', s⟩ (⟨_, ⟨g2, i, ht⟩, hh, heq⟩ | ⟨h, _⟩)
      · simp only at ht hh
        subst ht hh
        refine (goesT_runs (tabY_ok conSd_ok) (cmp_end _ _ undef undef (i6' 0) _ _ g2).t (fun x hx => by cases hx)).mono fun e y he => ?_
        obtain ⟨rfl, ⟨g3, e2⟩, e3⟩ := he
        refine ⟨.inr rfl, ?_⟩
        rw [e2, e3, heq]
        rfl
      · cases h
    · rintro e y (⟨h, _⟩ | ⟨h1, ⟨g3, i, e2⟩, e3⟩)
      · cases h
      · refine ⟨.inr h1, ?_⟩
        rw [e2, e3]
        rfl
  · unfold cmpL
    rw [if_neg hn]
    exact cmp_runs1 _ _ _ _ _ _ _ hn
/-- where one row is none at all -/
def cmp0 (n k : Nat) : Int := if n = k then 0 else if n < k then -1 else 1
theorem cmp_runsN (p q : Option Addr) (n c k d : Nat) (h : Hp) (h0 : n = 0 ∨ k = 0) :
    Runs (tabOf Tryz.prog extY conSd true) (cmpC Tryz.f122) ([.slice p n c, .slice q k d] ++ List.replicate 41 undef, h, []) fun e y => (e = none ∨ e = some none) ∧ resS Tryz.prog Tryz.f122 y.1 y.2.1 = some (i6' (cmp0 n k)) := by
  unfold cmp0
  by_cases hn : n = k
  · rw [if_pos hn]
    have e1 : n = 0 := by omega
    have e2 : k = 0 := by omega
    subst e1 e2
    exact cmp_runs0 p q c d h
  · rw [if_neg hn]
    exact cmp_runs1 p q n c k d h hn
def gCmp : AnsH := fun vals h s =>
  match vals with
  | [.slice (some ⟨b, o, none⟩) n c, .slice (some ⟨b', o', none⟩) n' c'] =>
    match h.blk? b, h.blk? b' with
    | some x, some y => some (i6' (cmpL (cutI x.1 o n) (cutI y.1 o' n')), h, s, [(rowOk x.2 x.1 o n c, true), (rowOk y.2 y.1 o' n' c', true)])
    | _, _ => none
  | [.slice none 0 0, .slice none 0 0] => some (i6' 0, h, s, [])
  | [.slice none 0 0, .slice (some _) k _] => some (i6' (cmp0 0 k), h, s, [])
  | [.slice (some _) n _, .slice none 0 0] => some (i6' (cmp0 n 0), h, s, [])
  | _ => none
theorem gCmp_ok : AnsHOk 122 gCmp := by
  intro vals h s v h' s' lg hg hl m B w E hv
  unfold gCmp at hg
  split at hg
  · rename_i b o n c b' o' n' c'
    split at hg
    · rename_i x y hx hy
      cases hg
      obtain ⟨a1, a2, a3, a4, a5, a6, a7⟩ := row_of (hl _ (List.mem_cons_self))
      obtain ⟨b1, b2, b3, b4, b5, b6, b7⟩ := row_of (hl _ (List.mem_cons_of_mem _ (List.mem_singleton.2 rfl)))
      have hsm : n < 4611686018427387904 := by have := blt_iff.1 a4; unfold dead at this; omega
      have r := cmp_runs (c := c) (c' := c') a1 b1 (by rw [a2]; exact hsm)
      rw [a2, b2] at r
      have lx := Hp.blk_lt hx
      have ly := Hp.blk_lt hy
      have := row_calls (T := tabOf Tryz.prog extY conSd true) Tryz.func122 cmp_body (rows2 a7 b7) (vals := [sl 0 o n c, sl 1 o' n' c']) (fun v hv => by
        simp only [List.mem_cons, List.not_mem_nil, or_false] at hv
        rcases hv with rfl | rfl <;> rfl) (by rfl) r E (s := pair b b') (fun i _ => by unfold pair; split <;> assumption) (fitsR2 hx a5 a6 hy b5 b6)
      exact this.mono fun e w' he => ⟨m, he.1, he.2⟩
    · cases hg
  · cases hg
    have r := cmp_runsN none none 0 0 0 0 ⟨0, []⟩ (.inl rfl)
    refine (calls_of_runs (T := tabOf Tryz.prog extY conSd true) Tryz.func122 cmp_body (vals := [nilS, nilS]) (by rfl) (by rfl) r w).mono fun e w' he => ?_
    obtain ⟨E', hb⟩ := clean_emb E he.2
    exact ⟨m, he.1, ⟨Agree.refl _ _, E', hb, Nat.le_refl _, rfl⟩⟩
  · rename_i a k c
    cases hg
    have r := cmp_runsN none (some { a with block := 0 }) 0 0 k c hT (.inl rfl)
    have hlt : a.block < h.n := by
      have := hv (.slice (some a) k c) (by simp)
      exact blt_iff.1 this
    have := row_calls (T := tabOf Tryz.prog extY conSd true) Tryz.func122 cmp_body rowsT (vals := [nilS, .slice (some { a with block := 0 }) k c]) (fun v hv => by
      simp only [List.mem_cons, List.not_mem_nil, or_false] at hv
      rcases hv with rfl | rfl <;> rfl) (by rfl) r E (s := fun _ => a.block) (fun i _ => hlt) (fitsRT _ _)
    exact this.mono fun e w' he => ⟨m, he.1, he.2⟩
  · rename_i a n c
    cases hg
    have r := cmp_runsN (some { a with block := 0 }) none n c 0 0 hT (.inr rfl)
    have hlt : a.block < h.n := by
      have := hv (.slice (some a) n c) (by simp)
      exact blt_iff.1 this
    have := row_calls (T := tabOf Tryz.prog extY conSd true) Tryz.func122 cmp_body rowsT (vals := [.slice (some { a with block := 0 }) n c, nilS]) (fun v hv => by
      simp only [List.mem_cons, List.not_mem_nil, or_false] at hv
      rcases hv with rfl | rfl <;> rfl) (by rfl) r E (s := fun _ => a.block) (fun i _ => hlt) (fitsRT _ _)
    exact this.mono fun e w' he => ⟨m, he.1, he.2⟩
  · cases hg
end Go.Proofs.YtgefjidphfdhdabGreatDoor.Na
namespace Go.Proofs.YtgefjidphfdhdabGreatDoor
open Go.KRun
set_option maxRecDepth 100000
def uu (n : Int) : Value := .int .u32 n
end Go.Proofs.YtgefjidphfdhdabGreatDoor
namespace Go.Proofs.YtgefjidphfdhdabGreatDoor.Na
open Go.KRun Go.Nt
set_option maxRecDepth 100000
def errV (k : Int) : Value := .iface 34 (.int .i64 k)
def errD (d : Bool) : Value := match d with | true => errV 1 | false => .nilIface
def badL (L : List Int) : Bool := decide (8192 < L.length) || (decide (0 < L.length) && (L.getD (L.length - 1) 0 == 0))
theorem chk_long (p : Option Addr) (n c : Nat) (h : Hp) : GoesT (evC (tabOf Tryz.prog extY conN true) 100 false (cBody Tryz.f57) ([.slice p n c] ++ List.replicate 20 undef, h, [cmp true]) ⟨[], [], []⟩) 3 18 (some none) [.slice p n c, undef, errV 1] h [(decide ((n : Int) > 8192), true)] := ⟨by kernel_rfl, by kernel_rfl, by kernel_rfl⟩
theorem chk_none (p : Option Addr) (n c : Nat) (h : Hp) : GoesT (evC (tabOf Tryz.prog extY conN true) 100 false (cBody Tryz.f57) ([.slice p n c] ++ List.replicate 20 undef, h, [cmp false, cmp false]) ⟨[], [], []⟩) 3 18 (some none) [.slice p n c, undef, .nilIface] h [(decide ((n : Int) > 0), false), (decide ((n : Int) > 8192), false)] := ⟨by kernel_rfl, by kernel_rfl, by kernel_rfl⟩
theorem chk_last (d : Bool) (o n c : Nat) (x : Int) (l : List Value) : GoesT (evC (tabOf Tryz.prog extY conN true) 100 false (cBody Tryz.f57) ([sl 0 o n c] ++ List.replicate 20 undef, ⟨1, [(l, tR)]⟩, [cmp false, cmp true, at_, val (.int .u32 x), cmp d]) ⟨[], [], []⟩) 3 18 (some none) [sl 0 o n c, undef, errD d] ⟨1, [(l, tR)]⟩ [(x == 0, d), (cellIs (l[o + (n1 n).toNat * 1]?) (.int .u32 x), true), (decide (0 ≤ n1 n ∧ n1 n < n), true), (decide ((n : Int) > 0), true), (decide ((n : Int) > 8192), false)] := by
  cases d <;> exact ⟨by kernel_rfl, by kernel_rfl, by kernel_rfl⟩
theorem chk_body : Tryz.f57.body = some (cBody Tryz.f57) := by kernel_rfl
theorem chk_runs {l : List Value} {o c : Nat} {L : List Int} (hR : Row l o L) :
    Runs (tabOf Tryz.prog extY conN true) (cBody Tryz.f57) ([sl 0 o L.length c] ++ List.replicate 20 undef, ⟨1, [(l, tR)]⟩, []) fun e y => (e = none ∨ e = some none) ∧ resS Tryz.prog Tryz.f57 y.1 y.2.1 = some (errD (badL L)) := by
  unfold badL
  by_cases h1 : 8192 < L.length
  · rw [decide_eq_true h1, Bool.true_or]
    refine (goesT_runs (tabY_ok conN_ok) (chk_long _ _ _ _) (okOne (decide_eq_true (by omega)))).mono fun e y he => ?_
    obtain ⟨rfl, ⟨g, e2⟩, e3⟩ := he
    refine ⟨.inr rfl, ?_⟩
    rw [e2, e3]
    rfl
  · rw [decide_eq_false h1, Bool.false_or]
    by_cases h2 : 0 < L.length
    · rw [decide_eq_true h2, Bool.true_and]
      have ek : n1 L.length = ((L.length - 1 : Nat) : Int) := by
        unfold n1
        rw [wrapI (by omega) (by omega)]
        omega
      refine (goesT_runs (tabY_ok conN_ok) (chk_last (L.getD (L.length - 1) 0 == 0) o L.length c (L.getD (L.length - 1) 0) l) (okTwo rfl (okTwo (by
        rw [ek, Int.toNat_natCast, Nat.mul_one, hR.cell (by omega)]; simp [cellIs]) (okTwo (by rw [ek]; exact decide_eq_true (by omega)) (okTwo (decide_eq_true (by omega)) (okOne (decide_eq_false (by omega)))))))).mono fun e y he => ?_
      obtain ⟨rfl, ⟨g, e2⟩, e3⟩ := he
      refine ⟨.inr rfl, ?_⟩
      rw [e2, e3]
      generalize (L.getD (L.length - 1) 0 == 0) = d
      cases d <;> rfl
    · rw [decide_eq_false h2, Bool.false_and]
      refine (goesT_runs (tabY_ok conN_ok) (chk_none _ _ _ _) (okTwo (decide_eq_false (by omega)) (okOne (decide_eq_false (by omega))))).mono fun e y he => ?_
      obtain ⟨rfl, ⟨g, e2⟩, e3⟩ := he
      refine ⟨.inr rfl, ?_⟩
      rw [e2, e3]
      rfl
theorem chk_nil : Fits (reckon (tabOf Tryz.prog extY conN true) 100 57 [nilS] []) .nilIface [] := ⟨by kernel_rfl, by kernel_rfl, by kernel_rfl, by kernel_rfl⟩
def gChk : AnsH := fun vals h s =>
  match vals with
  | [.slice none 0 0] => some (.nilIface, h, s, [])
  | [.slice (some ⟨b, o, none⟩) n c] =>
    match h.blk? b, s with
    | some x, .inr (.inr (.inr (.inl d))) :: s' => some (errD d, h, s', [(rowOk x.2 x.1 o n c, true), (badL (cutI x.1 o n), d)])
    | _, _ => none
  | _ => none
theorem gChk_ok : AnsHOk 57 gChk := by
  intro vals h s v h' s' lg hg hl m B w E hv
  unfold gChk at hg
  split at hg
  · cases hg
    refine (fits_calls (tabY_ok conN_ok) chk_nil (fun x hx => by cases hx) (by rfl) (by rfl) w).mono fun e w' he => ?_
    obtain ⟨E', hb⟩ := clean_emb E he.2
    exact ⟨m, he.1, ⟨Agree.refl _ _, E', hb, Nat.le_refl _, rfl⟩⟩
  · rename_i b o n c
    split at hg
    · rename_i x d s2 hx
      cases hg
      obtain ⟨h1, h2, h3, h4, h5, h6, h7⟩ := row_of (hl _ (List.mem_cons_self))
      have hd := hl _ (List.mem_cons_of_mem _ (List.mem_singleton.2 rfl))
      simp only at hd
      have hlt := Hp.blk_lt hx
      have r := chk_runs (c := c) h1
      rw [h2, hd] at r
      have e0 : rn (fun _ => b) (errD d) = errD d := by cases d <;> rfl
      have := row_calls (T := tabOf Tryz.prog extY conN true) Tryz.func57 chk_body (rows1 h7) (vals := [sl 0 o n c]) (fun v hv => by rw [List.mem_singleton.1 hv]; rfl) (by cases d <;> rfl) r E (s := fun _ => b) (fun i _ => hlt) (fitsR1 hx h5 h6 rfl)
      rw [e0] at this
      exact this.mono fun e w' he => ⟨m, he.1, he.2⟩
    · cases hg
  · cases hg
def hcK : Hc := altH 57 gChk hcN
theorem hcK_ok : HcOk hcK := altH_ok Tryz.func57 rfl gChk_ok hcN_ok
/-! ### checkBoth -/
def chkL (l : List Value) (o n c : Nat) : Bool × Bool := (rowOk tR l o n c, true)
theorem both_bad (o n c o' n' c' : Nat) (la lb : List Value) : GoesT (evC (tabH Tryz.prog extY conN hcK) 100 false (cBody Tryz.f61) ([sl 0 o n c, sl 1 o' n' c'] ++ List.replicate 11 undef, h2 la lb, [cmp true]) ⟨[], [], []⟩) 5 8 (some none) [sl 0 o n c, sl 1 o' n' c', undef, undef, errV 1] (h2 la lb) [chkL la o n c, (badL (cutI la o n), true)] := ⟨by kernel_rfl, by kernel_rfl, by kernel_rfl⟩
theorem both_d (d : Bool) (o n c o' n' c' : Nat) (la lb : List Value) : GoesT (evC (tabH Tryz.prog extY conN hcK) 100 false (cBody Tryz.f61) ([sl 0 o n c, sl 1 o' n' c'] ++ List.replicate 11 undef, h2 la lb, [cmp false, cmp d]) ⟨[], [], []⟩) 5 8 (some none) [sl 0 o n c, sl 1 o' n' c', undef, undef, errD d] (h2 la lb) [chkL lb o' n' c', (badL (cutI lb o' n'), d), chkL la o n c, (badL (cutI la o n), false)] := by
  cases d <;> exact ⟨by kernel_rfl, by kernel_rfl, by kernel_rfl⟩
theorem rowOk_R {ty : TypeId} {l : List Value} {o n c : Nat} (h : rowOk ty l o n c = true) : rowOk tR l o n c = true := by
  unfold rowOk at *
  simp only [Bool.and_eq_true, Bool.not_eq_true'] at *
  obtain ⟨⟨⟨⟨⟨⟨h1, h2⟩, h3⟩, h4⟩, h5⟩, h6⟩, h7⟩ := h
  exact ⟨⟨⟨⟨⟨⟨tR_tomb, by kernel_rfl⟩, h3⟩, h4⟩, h5⟩, h6⟩, h7⟩
theorem both_body : Tryz.f61.body = some (cBody Tryz.f61) := by kernel_rfl
theorem both_runs {la lb : List Value} {o n c o' n' c' : Nat} (ha : rowOk tR la o n c = true) (hb : rowOk tR lb o' n' c' = true) :
    Runs (tabH Tryz.prog extY conN hcK) (cBody Tryz.f61) ([sl 0 o n c, sl 1 o' n' c'] ++ List.replicate 11 undef, h2 la lb, []) fun e y => (e = none ∨ e = some none) ∧ resS Tryz.prog Tryz.f61 y.1 y.2.1 = some (errD (badL (cutI la o n) || badL (cutI lb o' n'))) := by
  cases h : badL (cutI la o n) with
  | true =>
    refine (goesT_runs (tabH_ok conN_ok hcK_ok) (both_bad o n c o' n' c' la lb) (okTwo ha (okOne h))).mono fun e y he => ?_
    obtain ⟨rfl, ⟨g, e2⟩, e3⟩ := he
    refine ⟨.inr rfl, ?_⟩
    rw [e2, e3]
    rfl
  | false =>
    refine (goesT_runs (tabH_ok conN_ok hcK_ok) (both_d (badL (cutI lb o' n')) o n c o' n' c' la lb) (okTwo hb (okTwo rfl (okTwo ha (okOne h))))).mono fun e y he => ?_
    obtain ⟨rfl, ⟨g, e2⟩, e3⟩ := he
    refine ⟨.inr rfl, ?_⟩
    rw [e2, e3, Bool.false_or]
    generalize badL (cutI lb o' n') = d
    cases d <;> rfl
theorem both_n1 (d : Bool) (o n c : Nat) (l : List Value) : GoesT (evC (tabH Tryz.prog extY conN hcK) 100 false (cBody Tryz.f61) ([nilS, sl 0 o n c] ++ List.replicate 11 undef, ⟨1, [(l, tR)]⟩, [cmp d]) ⟨[], [], []⟩) 5 8 (some none) [nilS, sl 0 o n c, undef, undef, errD d] ⟨1, [(l, tR)]⟩ [chkL l o n c, (badL (cutI l o n), d)] := by
  cases d <;> exact ⟨by kernel_rfl, by kernel_rfl, by kernel_rfl⟩
theorem both_1n (d : Bool) (o n c : Nat) (l : List Value) : GoesT (evC (tabH Tryz.prog extY conN hcK) 100 false (cBody Tryz.f61) ([sl 0 o n c, nilS] ++ List.replicate 11 undef, ⟨1, [(l, tR)]⟩, [cmp d]) ⟨[], [], []⟩) 5 8 (some none) [sl 0 o n c, nilS, undef, undef, errD d] ⟨1, [(l, tR)]⟩ [chkL l o n c, (badL (cutI l o n), d)] := by
  cases d <;> exact ⟨by kernel_rfl, by kernel_rfl, by kernel_rfl⟩
theorem both_nil : Fits (reckon (tabOf Tryz.prog extY conN true) 100 61 [nilS, nilS] []) .nilIface [] := ⟨by kernel_rfl, by kernel_rfl, by kernel_rfl, by kernel_rfl⟩
/-- a row beside nothing -/
theorem both_one {vals : List Value} {l : List Value} {o n c : Nat} {d : Bool} (hf : GoesT (evC (tabH Tryz.prog extY conN hcK) 100 false (cBody Tryz.f61) (vals ++ List.replicate 11 undef, ⟨1, [(l, tR)]⟩, [cmp d]) ⟨[], [], []⟩) 5 8 (some none) (vals ++ [undef, undef, errD d]) ⟨1, [(l, tR)]⟩ [chkL l o n c, (badL (cutI l o n), d)]) (ha : rowOk tR l o n c = true) (hd : badL (cutI l o n) = d) (hr : ∀ g, resS Tryz.prog Tryz.f61 ((vals ++ [undef, undef, errD d]) ++ tl 8 g) ⟨1, [(l, tR)]⟩ = some (errD d)) :
    Runs (tabH Tryz.prog extY conN hcK) (cBody Tryz.f61) (vals ++ List.replicate 11 undef, ⟨1, [(l, tR)]⟩, []) fun e y => (e = none ∨ e = some none) ∧ resS Tryz.prog Tryz.f61 y.1 y.2.1 = some (errD d) := by
  refine (goesT_runs (tabH_ok conN_ok hcK_ok) hf (okTwo ha (okOne hd))).mono fun e y he => ?_
  obtain ⟨rfl, ⟨g, e2⟩, e3⟩ := he
  refine ⟨.inr rfl, ?_⟩
  rw [e2, e3]
  exact hr g
def gBoth : AnsH := fun vals h s =>
  match vals with
  | [.slice (some ⟨b, o, none⟩) n c, .slice (some ⟨b', o', none⟩) n' c'] =>
    match h.blk? b, h.blk? b', s with
    | some x, some y, .inr (.inr (.inr (.inl d))) :: s' => some (errD d, h, s', [(rowOk x.2 x.1 o n c, true), (rowOk y.2 y.1 o' n' c', true), (badL (cutI x.1 o n) || badL (cutI y.1 o' n'), d)])
    | _, _, _ => none
  | [.slice none 0 0, .slice (some ⟨b, o, none⟩) n c] =>
    match h.blk? b, s with
    | some x, .inr (.inr (.inr (.inl d))) :: s' => some (errD d, h, s', [(rowOk x.2 x.1 o n c, true), (badL (cutI x.1 o n), d)])
    | _, _ => none
  | [.slice (some ⟨b, o, none⟩) n c, .slice none 0 0] =>
    match h.blk? b, s with
    | some x, .inr (.inr (.inr (.inl d))) :: s' => some (errD d, h, s', [(rowOk x.2 x.1 o n c, true), (badL (cutI x.1 o n), d)])
    | _, _ => none
  | [.slice none 0 0, .slice none 0 0] => some (.nilIface, h, s, [])
  | _ => none
theorem gBoth_ok : AnsHOk 61 gBoth := by
  intro vals h s v h' s' lg hg hl m B w E hv
  unfold gBoth at hg
  split at hg
  · rename_i b o n c b' o' n' c'
    split at hg
    · rename_i x y d s2 hx hy
      cases hg
      have ra := hl _ (List.mem_cons_self)
      have rb := hl _ (List.mem_cons_of_mem _ List.mem_cons_self)
      obtain ⟨a1, a2, a3, a4, a5, a6, a7⟩ := row_of ra
      obtain ⟨b1, b2, b3, b4, b5, b6, b7⟩ := row_of rb
      have hd := hl _ (List.mem_cons_of_mem _ (List.mem_cons_of_mem _ (List.mem_singleton.2 rfl)))
      simp only at hd
      have r := both_runs (rowOk_R ra) (rowOk_R rb)
      rw [hd] at r
      have lx := Hp.blk_lt hx
      have ly := Hp.blk_lt hy
      have e0 : rn (pair b b') (errD d) = errD d := by cases d <;> rfl
      have := row_calls (T := tabH Tryz.prog extY conN hcK) Tryz.func61 both_body (rows2 a7 b7) (vals := [sl 0 o n c, sl 1 o' n' c']) (fun v hv => by
        simp only [List.mem_cons, List.not_mem_nil, or_false] at hv
        rcases hv with rfl | rfl <;> rfl) (by cases d <;> rfl) r E (s := pair b b') (fun i _ => by unfold pair; split <;> assumption) (fitsR2 hx a5 a6 hy b5 b6)
      rw [e0] at this
      exact this.mono fun e w' he => ⟨m, he.1, he.2⟩
    · cases hg
  · rename_i b o n c
    split at hg
    · rename_i x d s2 hx
      cases hg
      have ra := hl _ (List.mem_cons_self)
      have hd := hl _ (List.mem_cons_of_mem _ (List.mem_singleton.2 rfl))
      simp only at hd
      obtain ⟨a1, a2, a3, a4, a5, a6, a7⟩ := row_of ra
      have hlt := Hp.blk_lt hx
      have e0 : rn (fun _ => b) (errD d) = errD d := by cases d <;> rfl
      have r := both_one (both_n1 d o n c x.1) (rowOk_R ra) hd (fun _ => by cases d <;> rfl)
      have := row_calls (T := tabH Tryz.prog extY conN hcK) Tryz.func61 both_body (rows1 a7) (vals := [nilS, sl 0 o n c]) (fun v hv => by
        simp only [List.mem_cons, List.not_mem_nil, or_false] at hv
        rcases hv with rfl | rfl <;> rfl) (by cases d <;> rfl) r E (s := fun _ => b) (fun i _ => hlt) (fitsR1 hx a5 a6 rfl)
      rw [e0] at this
      exact this.mono fun e w' he => ⟨m, he.1, he.2⟩
    · cases hg
  · rename_i b o n c
    split at hg
    · rename_i x d s2 hx
      cases hg
      have ra := hl _ (List.mem_cons_self)
      have hd := hl _ (List.mem_cons_of_mem _ (List.mem_singleton.2 rfl))
      simp only at hd
      obtain ⟨a1, a2, a3, a4, a5, a6, a7⟩ := row_of ra
      have hlt := Hp.blk_lt hx
      have e0 : rn (fun _ => b) (errD d) = errD d := by cases d <;> rfl
      have r := both_one (both_1n d o n c x.1) (rowOk_R ra) hd (fun _ => by cases d <;> rfl)
      have := row_calls (T := tabH Tryz.prog extY conN hcK) Tryz.func61 both_body (rows1 a7) (vals := [sl 0 o n c, nilS]) (fun v hv => by
        simp only [List.mem_cons, List.not_mem_nil, or_false] at hv
        rcases hv with rfl | rfl <;> rfl) (by cases d <;> rfl) r E (s := fun _ => b) (fun i _ => hlt) (fitsR1 hx a5 a6 rfl)
      rw [e0] at this
      exact this.mono fun e w' he => ⟨m, he.1, he.2⟩
    · cases hg
  · cases hg
    refine (fits_calls (tabY_ok conN_ok) both_nil (fun x hx => by cases hx) (by rfl) (by rfl) w).mono fun e w' he => ?_
    obtain ⟨E', hb⟩ := clean_emb E he.2
    exact ⟨m, he.1, ⟨Agree.refl _ _, E', hb, Nat.le_refl _, rfl⟩⟩
  · cases hg
/-! ### sums and differences of words -/
def wd4 (x y c : Int) : Bool := decide ((0 ≤ x ∧ x < 4294967296) ∧ (0 ≤ y ∧ y < 4294967296) ∧ 0 ≤ c ∧ c ≤ 1)
def add32V (x y c : Int) : Value := .tuple #[uu ((x + y + c) % 4294967296), uu ((x + y + c) / 4294967296)]
def raw32 (x y c : Int) : Int := IntKind.u64.wrap (IntKind.u64.wrap (IntKind.u64.wrap x + IntKind.u64.wrap y) + IntKind.u64.wrap c)
theorem add32_fits (x y c : Int) : Fits (reckon (tabOf Tryz.prog extY conN true) 100 138 [uu x, uu y, uu c] []) (.tuple #[uu (IntKind.u32.wrap (raw32 x y c)), uu (IntKind.u32.wrap ((raw32 x y c).fdiv (2 ^ min ((32 : Int).toNat) 64)))]) [(decide ((32 : Int) < 0), false)] := ⟨by kernel_rfl, by kernel_rfl, by kernel_rfl, by kernel_rfl⟩
theorem u64w (n : Int) : IntKind.u64.wrap n = n % 18446744073709551616 := by simp [IntKind.wrap, IntKind.bits, IntKind.signed]
theorem u32w (n : Int) : IntKind.u32.wrap n = n % 4294967296 := by simp [IntKind.wrap, IntKind.bits, IntKind.signed]
def gAdd32 : Ans := fun vals s =>
  match vals with
  | [.int .u32 x, .int .u32 y, .int .u32 c] => some (add32V x y c, s, [(wd4 x y c, true)])
  | _ => none
theorem gAdd32_ok : AnsOk 138 gAdd32 := by
  intro vals s v s' lg h hl w
  unfold gAdd32 at h
  split at h
  · rename_i x y c
    cases h
    have hr := hl _ (List.mem_singleton.2 rfl)
    simp only [wd4, decide_eq_true_eq] at hr
    have e : raw32 x y c = x + y + c := by
      unfold raw32
      rw [u64w, u64w, u64w, u64w, u64w]
      omega
    have e2 : (2 : Int) ^ min ((32 : Int).toNat) 64 = 4294967296 := rfl
    have := fits_calls (tabY_ok conN_ok) (add32_fits x y c) (okOne (by rfl)) (by rfl) (by rfl) w
    rw [e, e2, u32w, u32w, Int.fdiv_eq_ediv_of_nonneg _ (by omega), Int.emod_eq_of_lt (a := (x + y + c) / 4294967296) (by omega) (by omega)] at this
    exact this
  · cases h
end Go.Proofs.YtgefjidphfdhdabGreatDoor.Na
namespace Go.Proofs.YtgefjidphfdhdabGreatDoor
open Go.KRun
set_option maxRecDepth 100000
def inR (i : Int) (n : Nat) : Bool × Bool := (decide (0 ≤ i ∧ i < n), true)
def celR (l : List Value) (o : Nat) (i x : Int) : Bool × Bool := (cellIs (l[o + i.toNat * 1]?) (uu x), true)
end Go.Proofs.YtgefjidphfdhdabGreatDoor
namespace Go.KRun
open Go.RowKit
/-- temporaries: the first, some of which nothing is known, some that are, the rest -/
def ml (front : List Value) (b : Nat) (g : Nat → Value) (mid : List Value) (n : Nat) (g' : Nat → Value) : List Value := front ++ (tl b g ++ (mid ++ tl n g'))
def GoesM (r : Option (Ex × Lf × Lg)) (a b c n : Nat) (e : Ex) (front mid : List Value) (h : Hp) (cs : Log) : Prop :=
  r.map (fun r => (r.1, r.2.1.1.take a, ((r.2.1.1.drop a).take b).length, ((r.2.1.1.drop a).drop b).take c, (((r.2.1.1.drop a).drop b).drop c).length, r.2.1.2.1, r.2.2.cs)) = some (e, front, b, mid, n, h, cs) ∧
    r.map (fun r => r.2.2.es.map Prod.fst) = r.map (fun r => r.2.2.es.map Prod.snd) ∧ r.map (fun r => r.2.2.bs.map Prod.fst) = r.map (fun r => r.2.2.bs.map Prod.snd)
theorem goesM_some {r : Option (Ex × Lf × Lg)} {a b c n : Nat} {e : Ex} {front mid : List Value} {h : Hp} {cs : Log} (hG : GoesM r a b c n e front mid h cs) (hcs : okLog cs) : ∃ g g' s L, r = some (e, (ml front b g mid n g', h, s), L) ∧ L.ok := by
  obtain ⟨h1, h5, h6⟩ := hG
  cases r with
  | none => cases h1
  | some r =>
    simp only [Option.map_some, Option.some.injEq, Prod.mk.injEq] at h1 h5 h6
    obtain ⟨e', ⟨t', h', s'⟩, L⟩ := r
    simp only at h1 h5 h6
    obtain ⟨h1, h2, h3, h4, h7, h8, h9⟩ := h1
    subst h1 h8
    obtain ⟨g, hg⟩ := tl_of h3
    obtain ⟨g', hg'⟩ := tl_of h7
    refine ⟨g, g', s', L, ?_, by rw [h9]; exact hcs, all_eq _ h5, all_eq _ h6⟩
    unfold ml
    rw [← h2, ← hg, ← h4, ← hg', List.take_append_drop, List.take_append_drop, List.take_append_drop]
theorem goesM_runs {T : Tab} (hT : TabOk T) {N : Nat} {c : Code} {t : List Value} {h h' : Hp} {s s0 : List Dec} {a b k n : Nat} {e : Ex} {front mid : List Value} {cs : Log} (hG : GoesM (evC T N false c (t, h, s) ⟨[], [], []⟩) a b k n e front mid h' cs) (hcs : okLog cs) :
    Runs T c (t, h, s0) fun e' y => e' = e ∧ (∃ g g', y.1 = ml front b g mid n g') ∧ y.2.1 = h' := by
  obtain ⟨g, g', s', L, hr, hL⟩ := goesM_some hG hcs
  refine Runs.script ((Runs.ev hT hr hL).mono fun e2 y he => ?_)
  obtain ⟨rfl, rfl⟩ := he
  exact ⟨rfl, ⟨g, g', rfl⟩, rfl⟩
end Go.KRun
namespace Go.Nt
def vN : List Int → Int
  | [] => 0
  | x :: r => x + 4294967296 * vN r
/-- the lowest m words of a number -/
def dg : Nat → Int → List Int
  | 0, _ => []
  | m + 1, V => V % 4294967296 :: dg m (V / 4294967296)
def wds (L : List Int) : Prop := ∀ x ∈ L, 0 ≤ x ∧ x < 4294967296
theorem dg_len : ∀ (m : Nat) (V : Int), (dg m V).length = m
  | 0, _ => rfl
  | m + 1, V => by simp [dg, dg_len m]
theorem dg_wds : ∀ (m : Nat) (V : Int), wds (dg m V)
  | 0, _ => fun x hx => by cases hx
  | m + 1, V => fun x hx => by
    simp only [dg, List.mem_cons] at hx
    rcases hx with rfl | hx
    · omega
    · exact dg_wds m _ x hx
theorem wds_tail {x : Int} {L : List Int} (h : wds (x :: L)) : (0 ≤ x ∧ x < 4294967296) ∧ wds L := ⟨h x List.mem_cons_self, fun y hy => h y (List.mem_cons_of_mem _ hy)⟩
theorem dg_vN : ∀ L : List Int, wds L → dg L.length (vN L) = L
  | [], _ => rfl
  | x :: r, h => by
    obtain ⟨h1, h2⟩ := wds_tail h
    have ih := dg_vN r h2
    simp only [List.length_cons, dg, vN]
    have e1 : (x + 4294967296 * vN r) % 4294967296 = x := by omega
    have e2 : (x + 4294967296 * vN r) / 4294967296 = vN r := by omega
    rw [e1, e2, ih]
theorem pw (k : Nat) : (4294967296 : Int) ^ (k + 1) = 4294967296 * 4294967296 ^ k := by rw [Int.pow_succ, Int.mul_comm]
theorem pw_pos (k : Nat) : (0 : Int) < 4294967296 ^ k := Int.pow_pos (by omega)
theorem pw_le {i j : Nat} (h : i ≤ j) : (4294967296 : Int) ^ i ≤ 4294967296 ^ j := by
  have h1 : ∀ k : Nat, ((4294967296 ^ k : Nat) : Int) = 4294967296 ^ k := fun k => by simp
  rw [← h1, ← h1]
  have := Nat.pow_le_pow_right (n := 4294967296) (by omega) h
  omega
theorem vN_bd : ∀ L : List Int, wds L → 0 ≤ vN L ∧ vN L < 4294967296 ^ L.length
  | [], _ => by simp [vN]
  | x :: r, h => by
    obtain ⟨h1, h2⟩ := wds_tail h
    have ih := vN_bd r h2
    simp only [List.length_cons, vN]
    rw [pw]
    omega
theorem vN_snoc : ∀ (L : List Int) (d : Int), vN (L ++ [d]) = vN L + 4294967296 ^ L.length * d
  | [], d => by simp [vN]
  | x :: r, d => by
    have ih := vN_snoc r d
    simp only [List.cons_append, vN, List.length_cons]
    rw [ih, pw, Int.mul_assoc, Int.mul_add]
    omega
theorem vN_app : ∀ (L M : List Int), vN (L ++ M) = vN L + 4294967296 ^ L.length * vN M
  | [], M => by simp [vN]
  | x :: r, M => by
    have ih := vN_app r M
    simp only [List.cons_append, vN, List.length_cons]
    rw [ih, pw, Int.mul_assoc, Int.mul_add]
    omega
theorem wds_app {L M : List Int} (h1 : wds L) (h2 : wds M) : wds (L ++ M) := fun x hx => by
  rcases List.mem_append.1 hx with hx | hx
  · exact h1 x hx
  · exact h2 x hx
end Go.Nt
namespace Go.Proofs.YtgefjidphfdhdabGreatDoor.Na
open Go.KRun Go.Nt
set_option maxRecDepth 100000
def conA : Con := alt 138 gAdd32 conN
theorem conA_ok : ConOk conA := alt_ok Tryz.func138 rfl gAdd32_ok conN_ok
def sn (k : Nat) (F : Func) : Code := match k with | 0 => cBody F | k + 1 => cSnd (sn k F)
/-- the new row's length; the row behind the copy -/
def nP (n : Nat) : Int := IntKind.i64.wrap ((n : Int) + 1)
def cpy (la : List Value) (o n : Nat) : List Value := (List.replicate (nP n).toNat (uu 0)).take 0 ++ (la.drop o).take (Nat.min n (nP n).toNat) ++ (List.replicate (nP n).toNat (uu 0)).drop (0 + Nat.min n (nP n).toNat)
def h3 (la lb S : List Value) : Hp := ⟨3, [(S, tU), (lb, tR), (la, tR)]⟩
def cpOk (la : List Value) (o n : Nat) : Bool := !(tomb tR) && !(ro tU) && Nat.ble (o + Nat.min n (nP n).toNat) la.length && Nat.ble (0 + Nat.min n (nP n).toNat) (List.replicate (nP n).toNat (uu 0)).length && ((la.drop o).take (Nat.min n (nP n).toNat)).all one
end Go.Proofs.YtgefjidphfdhdabGreatDoor.Na
namespace Go.Proofs.YtgefjidphfdhdabGreatDoor
open Go.KRun Go.Nt
set_option maxRecDepth 100000
theorem wU_get (dx : List Int) (x : Int) (px : List Int) : (wU (dx ++ x :: px))[dx.length]? = some (uu x) := by
  unfold wU
  simp [uu]
theorem wU_set (dx : List Int) (x d : Int) (px : List Int) : (wU (dx ++ x :: px)).set dx.length (uu d) = wU ((dx ++ [d]) ++ px) := by
  unfold wU uu
  simp
theorem cel_ok {S : List Value} {o k : Nat} {x : Int} (h : S[o + k]? = some (uu x)) : (celR S o k x).1 = (celR S o k x).2 := by
  unfold celR
  simp only [Int.toNat_natCast, Nat.mul_one]
  rw [h]
  simp [cellIs, uu]
end Go.Proofs.YtgefjidphfdhdabGreatDoor
namespace Go.Proofs.YtgefjidphfdhdabGreatDoor.Na
open Go.KRun Go.Nt
set_option maxRecDepth 100000
theorem nP_eq {n : Nat} (h : n ≤ 8192) : nP n = ((n + 1 : Nat) : Int) := by unfold nP; rw [wrapI (by omega) (by omega)]; omega
theorem nP_nat {n : Nat} (h : n ≤ 8192) : (nP n).toNat = n + 1 := by rw [nP_eq h, Int.toNat_natCast]
theorem cpy_eq {la : List Value} {o : Nat} {L : List Int} (hR : Row la o L) (h : L.length ≤ 8192) : cpy la o L.length = wU (L ++ [0]) := by
  unfold cpy
  rw [nP_nat h, show Nat.min L.length (L.length + 1) = L.length from by simp]
  have e1 : (la.drop o).take L.length = wU L := hR.cut
  rw [e1, Nat.zero_add, List.take_zero, List.nil_append, List.drop_replicate, show L.length + 1 - L.length = 1 from by omega]
  unfold wU uu
  simp
theorem cpOk_eq {la : List Value} {o : Nat} {L : List Int} (hR : Row la o L) (h : L.length ≤ 8192) : cpOk la o L.length = true := by
  unfold cpOk
  rw [nP_nat h, show Nat.min L.length (L.length + 1) = L.length from by simp]
  have e1 : (la.drop o).take L.length = wU L := hR.cut
  rw [e1, tR_tomb, show ro tU = false from by kernel_rfl]
  have h1 : Nat.ble (o + L.length) la.length = true := Nat.ble_eq_true_of_le hR.len
  have h2 : Nat.ble (0 + L.length) (List.replicate (L.length + 1) (uu 0)).length = true := Nat.ble_eq_true_of_le (by simp)
  have h3 : ((wU L).all one) = true := by
    unfold wU
    rw [List.all_eq_true]
    intro v hv
    obtain ⟨x, _, rfl⟩ := List.mem_map.1 hv
    rfl
  rw [h1, h2, h3]
  rfl
theorem mk_ok {n : Nat} (h : n ≤ 8192) : okMakeB 4 (nP n) (nP n) = true := by
  rw [nP_eq h]
  exact decide_eq_true (by omega)
theorem wU_row {L : List Int} (h : wds L) {c : Nat} (hc : L.length ≤ c) (h2 : smallC c = true) : rowOk tU (wU L) 0 L.length c = true ∧ cutI (wU L) 0 L.length = L := by
  have e1 : cutV (wU L) 0 L.length = wU L := by
    unfold cutV
    rw [List.drop_zero]
    exact List.take_of_length_le (by unfold wU; simp)
  have e2 : cutI (wU L) 0 L.length = L := by
    unfold cutI
    rw [e1]
    unfold wU
    rw [List.map_map]
    exact (List.map_congr_left fun x _ => rfl).trans (List.map_id' _)
  refine ⟨?_, e2⟩
  unfold rowOk
  rw [e1, h2, show tomb tU = false from by kernel_rfl, show Nat.beq (rt tU) tU = true from by kernel_rfl, Nat.ble_eq_true_of_le (show 0 + L.length ≤ (wU L).length by unfold wU; simp), Nat.ble_eq_true_of_le hc]
  have h3 : ((wU L).all isU) = true := by
    unfold wU
    rw [List.all_eq_true]
    intro v hv
    obtain ⟨x, hx, rfl⟩ := List.mem_map.1 hv
    exact decide_eq_true (h x hx)
  have h4 : ((wU L).all still) = true := by
    unfold wU
    rw [List.all_eq_true]
    intro v hv
    obtain ⟨x, _, rfl⟩ := List.mem_map.1 hv
    rfl
  rw [h3, h4]
  rfl
theorem badL_len {L : List Int} (h : badL L = false) : L.length ≤ 8192 := by
  unfold badL at h
  simp only [Bool.or_eq_false_iff, decide_eq_false_iff_not] at h
  omega
/-! ### the call -/
theorem wU_calm (L : List Int) : ∀ u ∈ wU L, lt1 0 u = true := fun u hu => by
  unfold wU at hu
  obtain ⟨x, _, rfl⟩ := List.mem_map.1 hu
  rfl
theorem tU_own : ro tU = false := by kernel_rfl
end Go.Proofs.YtgefjidphfdhdabGreatDoor.Na
