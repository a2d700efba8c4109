/-
  ConN8, NumP, ConN9, ConNA, ConV1, ConV2, ConV3, RunP, ConNU, Con3
-/
import Derived.Test.YtjlponbdflkbjaaGreatDoorG12
import Derived.Test.YtjlponbdflkbjaaGreatDoorG08
import Derived.Test.YtjlponbdflkbjaaGreatDoorG07
import Derived.Test.YtjlponbdflkbjaaGreatDoorG11
import Derived.Laws.MathBits
namespace Go.Proofs.YtjlponbdflkbjaaGreatDoor.Na
open Go.KRun Go.Nt
set_option maxRecDepth 100000
def bnt (z : Int) : Int := IntKind.u32.wrap ((BitVec.ofInt 32 4294967295 ^^^ BitVec.ofInt 32 z).toNat : Nat)
def bnd (x y : Int) : Int := IntKind.u32.wrap ((BitVec.ofInt 32 x &&& BitVec.ofInt 32 y).toNat : Nat)
def bxr (x y : Int) : Int := IntKind.u32.wrap ((BitVec.ofInt 32 x ^^^ BitVec.ofInt 32 y).toNat : Nat)
def brr (x y : Int) : Int := IntKind.u32.wrap ((BitVec.ofInt 32 x ||| BitVec.ofInt 32 y).toNat : Nat)
def difR (x y c : Int) : Int := IntKind.u32.wrap (IntKind.u32.wrap (x - y) - c)
def borR (x y c : Int) : Int := (brr (bnd (bnt x) y) (bnd (bnt (bxr x y)) (difR x y c))).fdiv (2 ^ min ((31 : Int).toNat) 32)
theorem sub32_fits (x y c : Int) : Fits (reckon (tabOf Tryz.prog extY conN true) 100 146 [uu x, uu y, uu c] []) (.tuple #[uu (difR x y c), uu (borR x y c)]) [(decide ((31 : Int) < 0), false)] := ⟨by kernel_rfl, by kernel_rfl, by kernel_rfl, by kernel_rfl⟩
theorem ofInt_wrap (v : BitVec 32) : BitVec.ofInt 32 (IntKind.u32.wrap (v.toNat : Nat)) = v := by
  rw [u32w]
  have h := v.isLt
  apply BitVec.eq_of_toNat_eq
  simp
  omega
theorem wrap_nat (v : BitVec 32) : IntKind.u32.wrap (v.toNat : Nat) = v.toNat := by
  rw [u32w]
  have h := v.isLt
  omega
theorem top_div (v : BitVec 32) : v.toNat / 2147483648 = if v.getLsbD 31 = true then 1 else 0 := by
  have h := v.isLt
  unfold BitVec.getLsbD
  rw [Nat.testBit_eq_decide_div_mod_eq]
  have e : (2 : Nat) ^ 31 = 2147483648 := rfl
  rw [e]
  by_cases h1 : v.toNat / 2147483648 % 2 = 1
  · rw [decide_eq_true h1]
    simp
    omega
  · rw [decide_eq_false h1]
    simp
    omega
theorem top_of {x : Int} (h0 : 0 ≤ x) (h1 : x < 4294967296) : (BitVec.ofInt 32 x).getLsbD 31 = decide (2147483648 ≤ x) := by
  have e : (BitVec.ofInt 32 x).toNat = x.toNat := by simp; omega
  unfold BitVec.getLsbD
  rw [e, Nat.testBit_eq_decide_div_mod_eq]
  have e2 : (2 : Nat) ^ 31 = 2147483648 := rfl
  rw [e2]
  by_cases h : 2147483648 ≤ x
  · rw [decide_eq_true h]
    exact decide_eq_true (by omega)
  · rw [decide_eq_false h]
    exact decide_eq_false (by omega)
def subD (x y c : Int) : Int := (x - y - c) % 4294967296
def subB (x y c : Int) : Int := if x < y + c then 1 else 0
theorem sub32_eq {x y c : Int} (hx : 0 ≤ x ∧ x < 4294967296) (hy : 0 ≤ y ∧ y < 4294967296) (hc : 0 ≤ c ∧ c ≤ 1) : difR x y c = subD x y c ∧ borR x y c = subB x y c := by
  have e1 : difR x y c = subD x y c := by
    unfold difR subD
    rw [u32w, u32w]
    omega
  refine ⟨e1, ?_⟩
  have d0 : 0 ≤ subD x y c ∧ subD x y c < 4294967296 := by unfold subD; omega
  unfold borR
  rw [e1]
  unfold brr bnd bnt bxr
  simp only [ofInt_wrap]
  rw [wrap_nat, show (2 : Int) ^ min ((31 : Int).toNat) 32 = 2147483648 from rfl, Int.fdiv_eq_ediv_of_nonneg _ (by omega)]
  have key := top_div ((BitVec.ofInt 32 4294967295 ^^^ BitVec.ofInt 32 x) &&& BitVec.ofInt 32 y ||| (BitVec.ofInt 32 4294967295 ^^^ (BitVec.ofInt 32 x ^^^ BitVec.ofInt 32 y)) &&& BitVec.ofInt 32 (subD x y c))
  simp only [BitVec.getLsbD_or, BitVec.getLsbD_and, BitVec.getLsbD_xor, top_of hx.1 hx.2, top_of hy.1 hy.2, top_of d0.1 d0.2, top_of (x := 4294967295) (by omega) (by omega)] at key
  rw [show decide ((2147483648 : Int) ≤ 4294967295) = true from rfl] at key
  generalize hV : ((BitVec.ofInt 32 4294967295 ^^^ BitVec.ofInt 32 x) &&& BitVec.ofInt 32 y ||| (BitVec.ofInt 32 4294967295 ^^^ (BitVec.ofInt 32 x ^^^ BitVec.ofInt 32 y)) &&& BitVec.ofInt 32 (subD x y c)).toNat = V at *
  have cast : ((V : Nat) : Int) / 2147483648 = ((V / 2147483648 : Nat) : Int) := by omega
  rw [cast, key]
  unfold subB
  unfold subD at *
  by_cases a1 : 2147483648 ≤ x <;> by_cases a2 : 2147483648 ≤ y <;> by_cases a3 : 2147483648 ≤ (x - y - c) % 4294967296 <;> simp only [a1, a2, a3, decide_true, decide_false] <;> split <;> split <;> simp_all <;> omega
def sub32V (x y c : Int) : Value := .tuple #[uu (subD x y c), uu (subB x y c)]
def gSub32 : Ans := fun vals s =>
  match vals with
  | [.int .u32 x, .int .u32 y, .int .u32 c] => some (sub32V x y c, s, [(wd4 x y c, true)])
  | _ => none
theorem gSub32_ok : AnsOk 146 gSub32 := by
  intro vals s v s' lg h hl w
  unfold gSub32 at h
  split at h
  · rename_i x y c
    cases h
    have hr := hl _ (List.mem_singleton.2 rfl)
    simp only [wd4, decide_eq_true_eq] at hr
    obtain ⟨e1, e2⟩ := sub32_eq hr.1 hr.2.1 hr.2.2
    have := fits_calls (tabY_ok conN_ok) (sub32_fits x y c) (okOne (by rfl)) (by rfl) (by rfl) w
    rw [e1, e2] at this
    exact this
  · cases h
/-! ### nat.Sub: its pieces -/
def conB : Con := alt 146 gSub32 conN
theorem conB_ok : ConOk conB := alt_ok Tryz.func146 rfl gSub32_ok conN_ok
def cpS (la : List Value) (o n : Nat) : List Value := (List.replicate ((n : Int)).toNat (uu 0)).take 0 ++ (la.drop o).take (Nat.min n ((n : Int)).toNat) ++ (List.replicate ((n : Int)).toNat (uu 0)).drop (0 + Nat.min n ((n : Int)).toNat)
def csOk (la : List Value) (o n : Nat) : Bool := !(tomb tR) && !(ro tU) && Nat.ble (o + Nat.min n ((n : Int)).toNat) la.length && Nat.ble (0 + Nat.min n ((n : Int)).toNat) (List.replicate ((n : Int)).toNat (uu 0)).length && ((la.drop o).take (Nat.min n ((n : Int)).toNat)).all one
end Go.Proofs.YtjlponbdflkbjaaGreatDoor.Na
namespace Go.Nt
/-- a highest word that is not 0 -/
theorem vN_low {L : List Int} (h : wds L) (h0 : 0 < L.length) (ht : L.getD (L.length - 1) 0 ≠ 0) : 4294967296 ^ (L.length - 1) ≤ vN L := by
  induction L with
  | nil => simp at h0
  | cons x r ih =>
    obtain ⟨h1, h2⟩ := wds_tail h
    cases r with
    | nil =>
      simp at ht ⊢
      simp [vN]
      omega
    | cons y r =>
      have := ih h2 (by simp) (by simpa using ht)
      simp only [List.length_cons, Nat.add_sub_cancel] at this ⊢
      rw [pw]
      have e : vN (x :: y :: r) = x + 4294967296 * vN (y :: r) := rfl
      rw [e]
      omega
theorem take_succ {L : List Int} {k : Nat} (h : k < L.length) : L.take (k + 1) = L.take k ++ [L.getD k 0] := by
  rw [List.take_add_one, List.getElem?_eq_getElem h]
  simp [List.getD, List.getElem?_eq_getElem h]
theorem wds_take {L : List Int} (h : wds L) (k : Nat) : wds (L.take k) := fun x hx => h x (List.mem_of_mem_take hx)
theorem topCmp_val {L M : List Int} (hL : wds L) (hM : wds M) : ∀ k, k ≤ L.length → k ≤ M.length → (topCmp L M k < 0 ↔ vN (L.take k) < vN (M.take k)) ∧ (topCmp L M k = 0 ↔ vN (L.take k) = vN (M.take k))
  | 0, _, _ => by simp [topCmp, vN]
  | k + 1, h1, h2 => by
    have ih := topCmp_val hL hM k (by omega) (by omega)
    have bL := vN_bd (L.take k) (wds_take hL k)
    have bM := vN_bd (M.take k) (wds_take hM k)
    have lL : (L.take k).length = k := by simp; omega
    have lM : (M.take k).length = k := by simp; omega
    rw [lL] at bL
    rw [lM] at bM
    rw [take_succ (by omega : k < L.length), take_succ (by omega : k < M.length), vN_snoc, vN_snoc, lL, lM]
    simp only [topCmp]
    generalize L.getD k 0 = x
    generalize M.getD k 0 = y
    have hp := pw_pos k
    by_cases hxy : x = y
    · subst hxy
      rw [if_pos rfl]
      omega
    · rw [if_neg hxy]
      by_cases hlt : x < y
      · rw [if_pos hlt]
        have : 4294967296 ^ k * x + 4294967296 ^ k ≤ 4294967296 ^ k * y := by
          have := Int.mul_le_mul_of_nonneg_left (show x + 1 ≤ y by omega) (Int.le_of_lt hp)
          rw [Int.mul_add, Int.mul_one] at this
          exact this
        omega
      · rw [if_neg hlt]
        have : 4294967296 ^ k * y + 4294967296 ^ k ≤ 4294967296 ^ k * x := by
          have := Int.mul_le_mul_of_nonneg_left (show y + 1 ≤ x by omega) (Int.le_of_lt hp)
          rw [Int.mul_add, Int.mul_one] at this
          exact this
        omega
/-- words that are a number: the highest is not 0 -/
def canon (L : List Int) : Prop := wds L ∧ (L.length = 0 ∨ L.getD (L.length - 1) 0 ≠ 0)
theorem cmpL_val {L M : List Int} (hL : canon L) (hM : canon M) : (cmpL L M < 0 ↔ vN L < vN M) ∧ (cmpL L M = 0 ↔ vN L = vN M) := by
  obtain ⟨wL, tL⟩ := hL
  obtain ⟨wM, tM⟩ := hM
  unfold cmpL
  by_cases hl : L.length = M.length
  · rw [if_pos hl]
    have := topCmp_val wL wM L.length (Nat.le_refl _) (by omega)
    rw [List.take_length, hl, List.take_length] at this
    rw [hl]
    exact this
  · rw [if_neg hl]
    have bL := vN_bd L wL
    have bM := vN_bd M wM
    by_cases hlt : L.length < M.length
    · rw [if_pos hlt]
      have h1 := vN_low wM (by omega) (by rcases tM with h | h; omega; exact h)
      have h2 := pw_le (show L.length ≤ M.length - 1 by omega)
      omega
    · rw [if_neg hlt]
      have h1 := vN_low wL (by omega) (by rcases tL with h | h; omega; exact h)
      have h2 := pw_le (show M.length ≤ L.length - 1 by omega)
      omega
end Go.Nt
namespace Go.Proofs.YtjlponbdflkbjaaGreatDoor.Na
open Go.KRun Go.Nt
set_option maxRecDepth 100000
theorem borrow_ok {x y c : Int} (hx : 0 ≤ x ∧ x < 4294967296) (hy : 0 ≤ y ∧ y < 4294967296) (hc : 0 ≤ c ∧ c ≤ 1) : (0 ≤ subD x y c ∧ subD x y c < 4294967296) ∧ (0 ≤ subB x y c ∧ subB x y c ≤ 1) ∧ x - y - c = subD x y c - 4294967296 * subB x y c := by
  unfold subD subB
  split <;> omega
theorem cpS_eq {la : List Value} {o : Nat} {L : List Int} (hR : Row la o L) : cpS la o L.length = wU L := by
  unfold cpS
  rw [Int.toNat_natCast, show Nat.min L.length L.length = L.length from by simp]
  have e1 : (la.drop o).take L.length = wU L := hR.cut
  rw [e1, Nat.zero_add, List.take_zero, List.nil_append, List.drop_replicate, Nat.sub_self]
  simp
theorem csOk_eq {la : List Value} {o : Nat} {L : List Int} (hR : Row la o L) : csOk la o L.length = true := by
  unfold csOk
  rw [Int.toNat_natCast, show Nat.min L.length L.length = L.length from by simp]
  have e1 : (la.drop o).take L.length = wU L := hR.cut
  rw [e1, tR_tomb, tU_own]
  have h1 : Nat.ble (o + L.length) la.length = true := Nat.ble_eq_true_of_le hR.len
  have h2 : Nat.ble (0 + L.length) (List.replicate L.length (uu 0)).length = true := Nat.ble_eq_true_of_le (by simp)
  have h3 : ((wU L).all one) = true := by
    unfold wU
    rw [List.all_eq_true]
    intro v hv
    obtain ⟨x, _, rfl⟩ := List.mem_map.1 hv
    rfl
  rw [h1, h2, h3]
  rfl
theorem badL_canon {L : List Int} (hw : wds L) (h : badL L = false) : canon L := by
  unfold badL at h
  simp only [Bool.or_eq_false_iff, decide_eq_false_iff_not, Bool.and_eq_false_iff, beq_eq_false_iff_ne, ne_eq] at h
  refine ⟨hw, ?_⟩
  rcases h.2 with h | h
  · exact .inl (by omega)
  · exact .inr h
theorem canon_len {L M : List Int} (hL : canon L) (hM : canon M) (h : vN M ≤ vN L) : M.length ≤ L.length := by
  rcases Nat.lt_or_ge L.length M.length with hlt | hge
  · exfalso
    have h1 := vN_low hM.1 (by omega) (by rcases hM.2 with h | h; omega; exact h)
    have h2 := pw_le (show L.length ≤ M.length - 1 by omega)
    have := vN_bd L hL.1
    omega
  · exact hge
end Go.Proofs.YtjlponbdflkbjaaGreatDoor.Na
namespace Go.Proofs.YtjlponbdflkbjaaGreatDoor
open Go.KRun Go.Nt
set_option maxRecDepth 100000
/-- a capacity that is known, or the whole block's -/
def capOk (o n c : Nat) : Bool := (smallC c && Nat.ble n c) || (Nat.beq c grown && Nat.beq o 0)
/-- a row of words, its capacity known or the whole block's -/
def rowC (ty : TypeId) (l : List Value) (o n c : Nat) : Bool := !(tomb ty) && Nat.beq (rt ty) tU && Nat.ble (o + n) l.length && Nat.blt n 4611686018427387904 && capOk o n c && (cutV l o n).all isU && l.all still
theorem rowC_of {ty : TypeId} {l : List Value} {o n c : Nat} (h : rowC ty l o n c = true) : Row l o (cutI l o n) ∧ (cutI l o n).length = n ∧ n < 4611686018427387904 ∧ capOk o n c = true ∧ tomb ty = false ∧ rt ty = tU ∧ ∀ v ∈ l, still v = true := by
  unfold rowC at h
  simp only [Bool.and_eq_true, Bool.not_eq_true'] at h
  obtain ⟨⟨⟨⟨⟨⟨h1, h2⟩, h3⟩, h4⟩, h5⟩, h6⟩, h7⟩ := h
  have h2 := Nat.eq_of_beq_eq_true h2
  have h3 := Nat.le_of_ble_eq_true h3
  have h4 := blt_iff.1 h4
  have hlen : (cutI l o n).length = n := by unfold cutI cutV; simp; omega
  refine ⟨⟨by rw [hlen]; exact h3, by rw [hlen]; exact cutV_words h6, fun x hx => ?_⟩, hlen, h4, h5, h1, h2, List.all_eq_true.1 h7⟩
  unfold cutI at hx
  obtain ⟨v, hv, rfl⟩ := List.mem_map.1 hx
  have := isU_spec (List.all_eq_true.1 h6 v hv)
  exact ⟨this.2.1, this.2.2⟩
theorem wU_still (L : List Int) : ∀ v ∈ wU L, still v = true := fun v hv => by
  unfold wU at hv
  obtain ⟨x, _, rfl⟩ := List.mem_map.1 hv
  rfl
theorem wU_len (L : List Int) : (wU L).length = L.length := by simp [wU]
theorem cut_wU (L : List Int) : cutI (wU L) 0 L.length = L := by
  unfold cutI cutV
  rw [List.drop_zero, ← wU_len, List.take_length]
  unfold wU
  rw [List.map_map]
  exact List.map_id' _
theorem wU_lt (L : List Int) : ∀ u ∈ wU L, lt1 0 u = true := fun v hv => by
  unfold wU at hv
  obtain ⟨x, _, rfl⟩ := List.mem_map.1 hv
  rfl
/-- the words of a row or of nothing -/
def rowOf (h : Hp) (p : Option Addr) (n : Nat) : List Int :=
  match p with
  | none => []
  | some a =>
    match h.blk? a.block with
    | some x => cutI x.1 a.off n
    | none => []
/-- it is one -/
def rowP (h : Hp) (p : Option Addr) (n c : Nat) : Bool :=
  match p with
  | none => Nat.beq n 0 && Nat.beq c 0
  | some a =>
    match a.spot, h.blk? a.block with
    | none, some x => rowC x.2 x.1 a.off n c && x.1.all still
    | _, _ => false
theorem rowP_cases {h : Hp} {p : Option Addr} {n c : Nat} (hr : rowP h p n c = true) : (p = none ∧ n = 0 ∧ c = 0 ∧ rowOf h p n = []) ∨ ∃ b o x, p = some ⟨b, o, none⟩ ∧ h.blk? b = some x ∧ rowC x.2 x.1 o n c = true ∧ (∀ v ∈ x.1, still v = true) ∧ rowOf h p n = cutI x.1 o n := by
  unfold rowP at hr
  split at hr
  · simp only [Bool.and_eq_true] at hr
    exact .inl ⟨rfl, Nat.eq_of_beq_eq_true hr.1, Nat.eq_of_beq_eq_true hr.2, rfl⟩
  · rename_i a
    split at hr
    · rename_i x hs hx
      simp only [Bool.and_eq_true] at hr
      obtain ⟨b, o, sp⟩ := a
      simp only at hs hx
      subst hs
      exact .inr ⟨b, o, x, rfl, hx, hr.1, List.all_eq_true.1 hr.2, by simp [rowOf, hx]⟩
    · cases hr
end Go.Proofs.YtjlponbdflkbjaaGreatDoor
namespace Go.KRun
open Go.RowKit
/-- a call that leaves the small memory as it is, and whose answer holds no address -/
theorem hcalls_keep {T : Tab} {f : Nat} {F : Func} {c : Code} (hF : T.P.funcs[f]? = some F) (hc : F.body = some c) {vals : List Value} {v : Value} {h : Hp} (hv : lt 0 v = true)
    (hr : Runs T c (vals ++ List.replicate (F.ntmps - vals.length) undef, h, []) fun e y => (e = none ∨ e = some none) ∧ resS T.P F y.1 y.2.1 = some v ∧ y.2.1 = h) (m : Mp) (B : Nat) (w : World) (E : Emb m B h w) (hvals : ∀ v ∈ vals, lt h.n v = true) :
    Calls T.P f (vals.map (mv m)).toArray w fun e w' => ∃ m', e = .returned (mv m' v) ∧ Came m B h w v h m' w' := by
  refine calls_of_wp hF hc ?_
  have R : Rel m B (vals ++ List.replicate (F.ntmps - vals.length) undef, h, []) { tmps := (vals.map (mv m)).toArray ++ Array.replicate (F.ntmps - (vals.map (mv m)).toArray.size) undef, defers := [] } w := by
    refine ⟨?_, rfl, E, ?_⟩
    · simp [mv_undef]
    · intro y hy
      rcases List.mem_append.1 hy with hy | hy
      · exact hvals y hy
      · rw [List.eq_of_mem_replicate hy]; simp [undef, lt]
  refine hr _ _ _ w R _ fun e y he a' w' hR => ?_
  obtain ⟨hex, hres, hh⟩ := he
  obtain ⟨m1, k1, k2, k3, _⟩ := hR
  obtain ⟨r1, r2⟩ := resS_run k2.emb k2.wf hres
  rw [← k2.tmps] at r1
  have Ek : Emb m1 B h w' := by
    have := k2.emb
    rw [hh] at this
    exact this
  have post : a'.defers = [] ∧ ∃ v', (results F a'.tmps).run T.P w' = .ok v' w' ∧ ∃ m', Ending.returned v' = .returned (mv m' v) ∧ Came m B h w v h m' w' :=
    ⟨k2.dfr, _, r1, m1, rfl, ⟨k1, Ek, k3, Nat.le_refl _, lt_mono (Nat.zero_le _) hv⟩⟩
  rcases hex with rfl | rfl <;> exact post
/-- a call that keeps two blocks of its own -/
theorem row_callsT {T : Tab} {f : Nat} {F : Func} {c : Code} (hF : T.P.funcs[f]? = some F) (hc : F.body = some c) {h0 : Hp} (hr : h0.rows) {vals : List Value} (hvals : ∀ v ∈ vals, lt h0.n v = true) {v : Nat → Nat → Value}
    {cs ds : List Value} {ty : TypeId} (hcs : ∀ u ∈ cs, lt1 0 u = true) (hds : ∀ u ∈ ds, lt1 0 u = true) (hty : ro ty = false)
    (hrun : RunsW T c (vals ++ List.replicate (F.ntmps - vals.length) undef, h0, []) fun e y => (e = none ∨ e = some none) ∧ ∃ k j, k ≠ j ∧ resS T.P F y.1 y.2.1 = some (v k j) ∧ (∃ r, y.2.1.blk? k = some (cs ++ r, ty)) ∧ ∃ r, y.2.1.blk? j = some (ds ++ r, ty))
    (hv0 : ∀ k j, oc [k, j] (v k j) = true)
    {m : Mp} {B : Nat} {h : Hp} {w : World} (E : Emb m B h w) {s : Nat → Nat} (hf : h0.fits s h) (hv1 : ∀ k j, ∀ g : Nat → Nat, rn g (v k j) = v (g k) (g j)) :
    Calls T.P f ((vals.map (rn s)).map (mv m)).toArray w fun e w' => ∃ m', e = .returned (mv m' (v h.n (h.n + 1))) ∧ Came m B h w (v h.n (h.n + 1)) ((h.push cs ty).push ds ty) m' w' := by
  have E0 := E.small hr hf
  have ev : (vals.map (rn s)).map (mv m) = vals.map (mv fun i => m (s i)) := by
    rw [List.map_map]
    exact List.map_congr_left fun y _ => mv_rn m s y
  rw [ev]
  refine calls_of_wp hF hc ?_
  have R : Rel (fun i => m (s i)) w.heap.size (vals ++ List.replicate (F.ntmps - vals.length) undef, h0, []) { tmps := (vals.map (mv fun i => m (s i))).toArray ++ Array.replicate (F.ntmps - (vals.map (mv fun i => m (s i))).toArray.size) undef, defers := [] } w := by
    refine ⟨?_, rfl, E0, ?_⟩
    · simp [mv_undef]
    · intro y hy
      rcases List.mem_append.1 hy with hy | hy
      · exact hvals y hy
      · rw [List.eq_of_mem_replicate hy]; simp [undef, lt]
  refine hrun _ _ _ w R _ fun e y he m1 a' w' k2 k3 => ?_
  obtain ⟨hex, k, j, hkj, hres, ⟨r, hblk⟩, r', hblj⟩ := he
  obtain ⟨r1, r2⟩ := resS_run k2.emb k2.wf hres
  rw [← k2.tmps] at r1
  have td : Tidy w w' := ⟨k3, fun k h1 h2 => k2.emb.ice k h1 h2⟩
  obtain ⟨E', hb⟩ := clean_emb E td
  have low : ∀ {k : Nat} {x : List Value × TypeId}, y.2.1.blk? k = some x → ro x.2 = false → w.heap.size ≤ (m1 k).1 := fun h1 h2 => k2.emb.low _ _ h1 h2
  have hlie : ∀ {k : Nat} {cs r : List Value}, (∀ u ∈ cs, lt1 0 u = true) → y.2.1.blk? k = some (cs ++ r, ty) → ∀ m' : Mp, lie w' (m1 k) (cs.map (mv1 m')) ty := fun {k cs r} hcs hblk m' => by
    obtain ⟨r', z, l0, l1, l2⟩ := k2.emb.lies k _ hblk (tomb_ro hty)
    have e : cs.map (mv1 m1) = cs.map (mv1 m') := map_still hcs
    simp only [List.map_append] at l0 l1
    refine ⟨r.map (mv1 m1) ++ r', z, ?_, ?_, l2⟩
    · simp at l0 ⊢; omega
    · rw [← e, l1, List.append_assoc]
  have lk := low hblk hty
  have lj := low hblj hty
  have Ea := E'.adopt cs ty hty (fun u hu => lt1_mono (Nat.zero_le _) (hcs u hu)) (hlie hcs hblk m) (Nat.le_trans E.base lk) (fun b x hbx hx heq => by
    have := E.here hbx (tomb_ro hx)
    omega)
  have Eb := Ea.adopt ds ty hty (fun u hu => lt1_mono (Nat.zero_le _) (hds u hu)) (hlie hds hblj (upd m h.n (m1 k))) (Nat.le_trans E.base lj) (fun b x hbx hx heq => by
    rw [Hp.blk_push E.len] at hbx
    by_cases h1 : b = h.n
    · subst h1
      simp only [upd, if_pos] at heq
      exact hkj (k2.emb.inj k j _ _ hblk hblj hty hty heq)
    · rw [if_neg h1] at hbx
      simp only [upd, if_neg h1] at heq
      have := E.here hbx (tomb_ro hx)
      omega)
  have hn : (h.push cs ty).n = h.n + 1 := rfl
  rw [hn] at Eb
  have e1 : mv m1 (v k j) = mv (upd (upd m h.n (m1 k)) (h.n + 1) (m1 j)) (v h.n (h.n + 1)) := by
    have e2 := hv1 k j (fun b => if b = k then h.n else h.n + 1)
    simp only [if_pos, if_neg (Ne.symm hkj)] at e2
    rw [← e2, mv_rn]
    refine mv_on (fun b hb => ?_) (hv0 k j)
    simp only [List.mem_cons, List.not_mem_nil, or_false] at hb
    rcases hb with rfl | rfl
    · simp [upd]
    · simp [upd, Ne.symm hkj]
  rw [e1] at r1
  have hlt : lt (h.n + 2) (v h.n (h.n + 1)) = true := by
    have e2 := hv1 k j (fun b => if b = k then h.n else h.n + 1)
    simp only [if_pos, if_neg (Ne.symm hkj)] at e2
    rw [← e2]
    exact oc_ren (bs := [k, j]) (fun b hb => by split <;> omega) (hv0 k j)
  have post : a'.defers = [] ∧ ∃ v', (results F a'.tmps).run T.P w' = .ok v' w' ∧ ∃ m', Ending.returned v' = .returned (mv m' (v h.n (h.n + 1))) ∧ Came m B h w (v h.n (h.n + 1)) ((h.push cs ty).push ds ty) m' w' :=
    ⟨k2.dfr, _, r1, _, rfl, ⟨(upd_agree m h.n (m1 k)).trans (upd_agree _ _ _) (by omega), Eb, hb, by show h.n ≤ h.n + 1 + 1; omega, hlt⟩⟩
  rcases hex with rfl | rfl <;> exact post
end Go.KRun
namespace Go.Proofs.YtjlponbdflkbjaaGreatDoor.Na
open Go.KRun Go.Nt
set_option maxRecDepth 100000
set_option linter.unusedVariables false
/-- a row or nothing, its capacity known -/
def rowX (h : Hp) (p : Option Addr) (n c : Nat) : Bool :=
  match p with
  | none => Nat.beq n 0 && Nat.beq c 0
  | some a =>
    match a.spot, h.blk? a.block with
    | none, some x => rowOk x.2 x.1 a.off n c
    | _, _ => false
theorem rowX_cases {h : Hp} {p : Option Addr} {n c : Nat} (hr : rowX h p n c = true) : (p = none ∧ n = 0 ∧ c = 0 ∧ rowOf h p n = []) ∨ ∃ b o x, p = some ⟨b, o, none⟩ ∧ h.blk? b = some x ∧ rowOk x.2 x.1 o n c = true ∧ rowOf h p n = cutI x.1 o n := by
  unfold rowX at hr
  split at hr
  · simp only [Bool.and_eq_true] at hr
    exact .inl ⟨rfl, Nat.eq_of_beq_eq_true hr.1, Nat.eq_of_beq_eq_true hr.2, rfl⟩
  · rename_i a
    split at hr
    · rename_i x hs hx
      obtain ⟨b, o, sp⟩ := a
      simp only at hs hx
      subst hs
      exact .inr ⟨b, o, x, rfl, hx, hr, by simp [rowOf, hx]⟩
    · cases hr
theorem badL_nil : badL [] = false := rfl
/-! ### Check -/
def gChkU : AnsH := fun vals h s =>
  match vals, s with
  | [.slice p n c], .inr (.inr (.inr (.inl d))) :: s' => some (errD d, h, s', [(rowX h p n c, true), (badL (rowOf h p n), d)])
  | _, _ => none
/-! ### checkBoth -/
def gBothU : AnsH := fun vals h s =>
  match vals, s with
  | [.slice p n c, .slice q n' c'], .inr (.inr (.inr (.inl d))) :: s' => some (errD d, h, s', [(rowX h p n c, true), (rowX h q n' c', true), (badL (rowOf h p n) || badL (rowOf h q n'), d)])
  | _, _ => none
theorem log3 {a b c : Bool × Bool} (h : okLog [a, b, c]) : a.1 = a.2 ∧ b.1 = b.2 ∧ c.1 = c.2 := ⟨h _ (by simp), h _ (by simp), h _ (by simp)⟩
theorem gBothU_ok : AnsHOk 116 gBothU := by
  intro vals h s v h' s' lg hg hl m B w E hv
  unfold gBothU at hg
  split at hg
  · rename_i p n c q n' c' d s2
    cases hg
    obtain ⟨l1, l2, l3⟩ := log3 hl
    simp only at l1 l2 l3
    rcases rowX_cases l1 with ⟨rfl, rfl, rfl, e0⟩ | ⟨b, o, x, rfl, hx, r1, e0⟩ <;> rcases rowX_cases l2 with ⟨rfl, rfl, rfl, f0⟩ | ⟨b', o', y, rfl, hy, t1, f0⟩ <;> simp only [e0, f0] at l3
    · rw [badL_nil, Bool.or_self] at l3
      subst l3
      exact gBoth_ok _ h [] _ _ _ _ rfl (fun x hx => by cases hx) m B w E hv
    · rw [badL_nil, Bool.false_or] at l3
      exact gBoth_ok _ h [cmp d] (errD d) h [] [(rowOk y.2 y.1 o' n' c', true), (badL (cutI y.1 o' n'), d)] (by simp only [gBoth, hy]) (okCons t1 (okL1 l3)) m B w E hv
    · rw [badL_nil, Bool.or_false] at l3
      exact gBoth_ok _ h [cmp d] (errD d) h [] [(rowOk x.2 x.1 o n c, true), (badL (cutI x.1 o n), d)] (by simp only [gBoth, hx]) (okCons r1 (okL1 l3)) m B w E hv
    · exact gBoth_ok _ h [cmp d] (errD d) h [] [(rowOk x.2 x.1 o n c, true), (rowOk y.2 y.1 o' n' c', true), (badL (cutI x.1 o n) || badL (cutI y.1 o' n'), d)] (by simp only [gBoth, hx, hy]) (okCons r1 (okCons t1 (okL1 l3))) m B w E hv
  · cases hg
/-! ### compare -/
def gCmpU : AnsH := fun vals h s =>
  match vals with
  | [.slice p n c, .slice q n' c'] => some (i6' (cmpL (rowOf h p n) (rowOf h q n')), h, s, [(rowX h p n c, true), (rowX h q n' c', true)])
  | _ => none
theorem cmp0_l {L : List Int} {n : Nat} (h : L.length = n) : cmpL [] L = cmp0 0 n := by
  unfold cmpL cmp0
  rw [h, List.length_nil]
  split
  · rfl
  · rfl
theorem cmp0_r {L : List Int} {n : Nat} (h : L.length = n) : cmpL L [] = cmp0 n 0 := by
  unfold cmpL cmp0
  rw [h, List.length_nil]
  split
  · rename_i h0; rw [h0]; rfl
  · rfl
theorem gCmpU_ok : AnsHOk 120 gCmpU := by
  intro vals h s v h' s' lg hg hl m B w E hv
  unfold gCmpU at hg
  split at hg
  · rename_i p n c q n' c'
    cases hg
    have l1 := hl _ (List.mem_cons_self)
    have l2 := hl _ (List.mem_cons_of_mem _ (List.mem_singleton.2 rfl))
    simp only at l1 l2
    rcases rowX_cases l1 with ⟨rfl, rfl, rfl, e0⟩ | ⟨b, o, x, rfl, hx, r1, e0⟩ <;> rcases rowX_cases l2 with ⟨rfl, rfl, rfl, f0⟩ | ⟨b', o', y, rfl, hy, t1, f0⟩ <;> simp only [e0, f0]
    · exact gCmp_ok _ h s _ _ _ _ rfl (fun x hx => by cases hx) m B w E hv
    · rw [cmp0_l (row_of t1).2.1]
      exact gCmp_ok _ h s _ _ _ _ rfl (fun x hx => by cases hx) m B w E hv
    · rw [cmp0_r (row_of r1).2.1]
      exact gCmp_ok _ h s _ _ _ _ rfl (fun x hx => by cases hx) m B w E hv
    · exact gCmp_ok _ h s _ h s [(rowOk x.2 x.1 o n c, true), (rowOk y.2 y.1 o' n' c', true)] (by simp only [gCmp, hx, hy]) (okCons r1 (okL1 t1)) m B w E hv
  · cases hg
/-! ### Add -/
/-! ### Sub -/
theorem cmp_nl {L : List Int} {n : Nat} (h : L.length = n) : cmpL [] L < 0 ↔ 0 < n := by
  rw [cmp0_l h]
  unfold cmp0
  split
  · omega
  · split <;> omega
end Go.Proofs.YtjlponbdflkbjaaGreatDoor.Na
namespace Go.Proofs.YtjlponbdflkbjaaGreatDoor
open Go.KRun Go.Wd
/-! ### Len64 -/
/-- the table of the library: how many bits a byte has -/
def lenTab : List UInt8 := (List.range 256).map fun i => UInt8.ofNat (bitLen i)
def byteLen (z : Int) : Int := ((lenTab.getD (IntKind.u8.wrap z).toNat 0).toNat : Int)
def lt8 (z : Int) : Bool × Bool := (decide (0 ≤ IntKind.u8.wrap z ∧ (IntKind.u8.wrap z).toNat < lenTab.length), true)
def sh (z : Int) (k : Nat) : Int := z.fdiv (2 ^ k)
def ge (z k : Int) (d : Bool) : Bool × Bool := (decide (z ≥ k), d)
def lenE (m z : Int) : Value := .int .i64 (IntKind.i64.wrap (m + IntKind.i64.wrap (byteLen z)))
def nz : Bool × Bool := (false, false)
theorem len_000 (u : Int) : Fits (reckon (tabOf Tryz.prog extY conN true) 3000 124 [.int .u64 u] [tst false, tst false, tst false]) (lenE 0 u) [lt8 u, ge u 256 false, ge u 65536 false, ge u 4294967296 false] := ⟨by kernel_rfl, by kernel_rfl, by kernel_rfl, by kernel_rfl⟩
theorem len_001 (u : Int) : Fits (reckon (tabOf Tryz.prog extY conN true) 3000 124 [.int .u64 u] [tst false, tst false, tst true]) (lenE 8 (sh u 8)) [lt8 (sh u 8), nz, ge u 256 true, ge u 65536 false, ge u 4294967296 false] := ⟨by kernel_rfl, by kernel_rfl, by kernel_rfl, by kernel_rfl⟩
theorem len_010 (u : Int) : Fits (reckon (tabOf Tryz.prog extY conN true) 3000 124 [.int .u64 u] [tst false, tst true, tst false]) (lenE 16 (sh u 16)) [lt8 (sh u 16), ge (sh u 16) 256 false, nz, ge u 65536 true, ge u 4294967296 false] := ⟨by kernel_rfl, by kernel_rfl, by kernel_rfl, by kernel_rfl⟩
theorem len_011 (u : Int) : Fits (reckon (tabOf Tryz.prog extY conN true) 3000 124 [.int .u64 u] [tst false, tst true, tst true]) (lenE 24 (sh (sh u 16) 8)) [lt8 (sh (sh u 16) 8), nz, ge (sh u 16) 256 true, nz, ge u 65536 true, ge u 4294967296 false] := ⟨by kernel_rfl, by kernel_rfl, by kernel_rfl, by kernel_rfl⟩
theorem len_100 (u : Int) : Fits (reckon (tabOf Tryz.prog extY conN true) 3000 124 [.int .u64 u] [tst true, tst false, tst false]) (lenE 32 (sh u 32)) [lt8 (sh u 32), ge (sh u 32) 256 false, ge (sh u 32) 65536 false, nz, ge u 4294967296 true] := ⟨by kernel_rfl, by kernel_rfl, by kernel_rfl, by kernel_rfl⟩
theorem len_101 (u : Int) : Fits (reckon (tabOf Tryz.prog extY conN true) 3000 124 [.int .u64 u] [tst true, tst false, tst true]) (lenE 40 (sh (sh u 32) 8)) [lt8 (sh (sh u 32) 8), nz, ge (sh u 32) 256 true, ge (sh u 32) 65536 false, nz, ge u 4294967296 true] := ⟨by kernel_rfl, by kernel_rfl, by kernel_rfl, by kernel_rfl⟩
theorem len_110 (u : Int) : Fits (reckon (tabOf Tryz.prog extY conN true) 3000 124 [.int .u64 u] [tst true, tst true, tst false]) (lenE 48 (sh (sh u 32) 16)) [lt8 (sh (sh u 32) 16), ge (sh (sh u 32) 16) 256 false, nz, ge (sh u 32) 65536 true, nz, ge u 4294967296 true] := ⟨by kernel_rfl, by kernel_rfl, by kernel_rfl, by kernel_rfl⟩
theorem len_111 (u : Int) : Fits (reckon (tabOf Tryz.prog extY conN true) 3000 124 [.int .u64 u] [tst true, tst true, tst true]) (lenE 56 (sh (sh (sh u 32) 16) 8)) [lt8 (sh (sh (sh u 32) 16) 8), nz, ge (sh (sh u 32) 16) 256 true, nz, ge (sh u 32) 65536 true, nz, ge u 4294967296 true] := ⟨by kernel_rfl, by kernel_rfl, by kernel_rfl, by kernel_rfl⟩
theorem lenTab_len : lenTab.length = 256 := by unfold lenTab; rw [List.length_map, List.length_range]
theorem lenTab_get (b : Nat) (h : b < 256) : (lenTab.getD b 0).toNat = bitLen b := by
  have h1 : lenTab.getD b 0 = UInt8.ofNat (bitLen b) := by
    unfold lenTab
    rw [List.getD, List.getElem?_map, List.getElem?_range h]
    rfl
  have h2 := bitLen_le8 b h
  rw [h1, UInt8.toNat_ofNat']
  omega
theorem u8_wrap {z : Int} (h0 : 0 ≤ z) (h1 : z < 256) : IntKind.u8.wrap z = z := by
  simp [IntKind.wrap, IntKind.bits, IntKind.signed]; omega
theorem lenE_eq {m : Int} {Z : Nat} (hm : 0 ≤ m) (hm' : m ≤ 56) (h1 : Z < 256) : lenE m (Z : Int) = .int .i64 (m + bitLen Z) ∧ (lt8 (Z : Int)).1 = (lt8 (Z : Int)).2 := by
  have hb := bitLen_le8 Z h1
  have e := u8_wrap (z := (Z : Int)) (by omega) (by omega)
  refine ⟨?_, ?_⟩
  · unfold lenE byteLen
    rw [e, Int.toNat_natCast, lenTab_get Z h1, wrap_i64' (n := ((bitLen Z : Nat) : Int)) (by omega) (by omega), wrap_i64' (by omega) (by omega)]
  · unfold lt8
    rw [e, Int.toNat_natCast]
    rw [lenTab_len]
    exact decide_eq_true (And.intro (by omega) h1)
theorem sh_eq (Z k : Nat) : sh (Z : Int) k = ((Z / 2 ^ k : Nat) : Int) := by
  unfold sh
  rw [Int.fdiv_eq_ediv_of_nonneg _ (Int.le_of_lt (Int.pow_pos (by omega)))]
  simp
theorem ge_t {z k : Int} (h : k ≤ z) : (ge z k true).1 = (ge z k true).2 := decide_eq_true h
theorem ge_f {z k : Int} (h : z < k) : (ge z k false).1 = (ge z k false).2 := decide_eq_false (by omega)
theorem nz_ok : nz.1 = nz.2 := rfl
theorem len_up (x b : Nat) (h : 2 ^ b ≤ x) : bitLen x = b + bitLen (x / 2 ^ b) := bitLen_shift x b (by
  have : 0 < x / 2 ^ b := Nat.div_pos h (Nat.two_pow_pos b)
  omega)
def len64V (u : Int) : Value := .int .i64 (bitLen u.toNat : Nat)
set_option maxRecDepth 100000 in
theorem len64_calls (u : Int) (h0 : 0 ≤ u) (h1 : u < 18446744073709551616) (w : World) : Calls Tryz.prog 124 #[.int .u64 u] w fun e w' => e = .returned (len64V u) ∧ Tidy w w' := by
  obtain ⟨U, rfl⟩ := Int.eq_ofNat_of_zero_le h0
  unfold len64V
  rw [Int.toNat_natCast]
  have p8 : (2 : Nat) ^ 8 = 256 := rfl
  have p16 : (2 : Nat) ^ 16 = 65536 := rfl
  have p32 : (2 : Nat) ^ 32 = 4294967296 := rfl
  have step : ∀ {v : Value} {m : Int} {Z : Nat} {s : List Dec} {cs : Log}, Fits (reckon (tabOf Tryz.prog extY conN true) 3000 124 [.int .u64 (U : Int)] s) v cs → okLog cs → v = .int .i64 (bitLen U : Nat) → Calls Tryz.prog 124 #[.int .u64 (U : Int)] w fun e w' => e = .returned (.int .i64 (bitLen U : Nat)) ∧ Tidy w w' :=
    fun {v m Z s cs} hf hc hv => by subst hv; exact fits_calls (tabY_ok conN_ok) hf hc (by rfl) (by rfl) w
  by_cases a : U < 4294967296
  · by_cases b : U < 65536
    · by_cases c : U < 256
      · obtain ⟨e1, e2⟩ := lenE_eq (m := 0) (by omega) (by omega) c
        exact step (m := 0) (Z := 0) (len_000 U) (okPC e2 (okPC (ge_f (by omega)) (okPC (ge_f (by omega)) (okP1 (ge_f (by omega)))))) (by rw [e1]; congr 1; omega)
      · have l := len_up U 8 (by omega)
        obtain ⟨e1, e2⟩ := lenE_eq (m := 8) (Z := U / 2 ^ 8) (by omega) (by omega) (by omega)
        rw [← sh_eq] at e1 e2
        exact step (m := 0) (Z := 0) (len_001 U) (okPC e2 (okPC nz_ok (okPC (ge_t (by omega)) (okPC (ge_f (by omega)) (okP1 (ge_f (by omega))))))) (by rw [e1]; congr 1; omega)
    · have l := len_up U 16 (by omega)
      by_cases c : U / 2 ^ 16 < 256
      · obtain ⟨e1, e2⟩ := lenE_eq (m := 16) (Z := U / 2 ^ 16) (by omega) (by omega) c
        rw [← sh_eq] at e1 e2
        exact step (m := 0) (Z := 0) (len_010 U) (okPC e2 (okPC (ge_f (by rw [sh_eq]; omega)) (okPC nz_ok (okPC (ge_t (by omega)) (okP1 (ge_f (by omega))))))) (by rw [e1]; congr 1; omega)
      · have l2 := len_up (U / 2 ^ 16) 8 (by omega)
        obtain ⟨e1, e2⟩ := lenE_eq (m := 24) (Z := U / 2 ^ 16 / 2 ^ 8) (by omega) (by omega) (by omega)
        rw [← sh_eq, ← sh_eq] at e1 e2
        exact step (m := 0) (Z := 0) (len_011 U) (okPC e2 (okPC nz_ok (okPC (ge_t (by rw [sh_eq]; omega)) (okPC nz_ok (okPC (ge_t (by omega)) (okP1 (ge_f (by omega)))))))) (by rw [e1]; congr 1; omega)
  · have l0 := len_up U 32 (by omega)
    have q : U / 2 ^ 32 < 4294967296 := by omega
    by_cases b : U / 2 ^ 32 < 65536
    · by_cases c : U / 2 ^ 32 < 256
      · obtain ⟨e1, e2⟩ := lenE_eq (m := 32) (Z := U / 2 ^ 32) (by omega) (by omega) c
        rw [← sh_eq] at e1 e2
        exact step (m := 0) (Z := 0) (len_100 U) (okPC e2 (okPC (ge_f (by rw [sh_eq]; omega)) (okPC (ge_f (by rw [sh_eq]; omega)) (okPC nz_ok (okP1 (ge_t (by omega))))))) (by rw [e1]; congr 1; omega)
      · have l := len_up (U / 2 ^ 32) 8 (by omega)
        obtain ⟨e1, e2⟩ := lenE_eq (m := 40) (Z := U / 2 ^ 32 / 2 ^ 8) (by omega) (by omega) (by omega)
        rw [← sh_eq, ← sh_eq] at e1 e2
        exact step (m := 0) (Z := 0) (len_101 U) (okPC e2 (okPC nz_ok (okPC (ge_t (by rw [sh_eq]; omega)) (okPC (ge_f (by rw [sh_eq]; omega)) (okPC nz_ok (okP1 (ge_t (by omega)))))))) (by rw [e1]; congr 1; omega)
    · have l := len_up (U / 2 ^ 32) 16 (by omega)
      by_cases c : U / 2 ^ 32 / 2 ^ 16 < 256
      · obtain ⟨e1, e2⟩ := lenE_eq (m := 48) (Z := U / 2 ^ 32 / 2 ^ 16) (by omega) (by omega) c
        rw [← sh_eq, ← sh_eq] at e1 e2
        exact step (m := 0) (Z := 0) (len_110 U) (okPC e2 (okPC (ge_f (by rw [sh_eq, sh_eq]; omega)) (okPC nz_ok (okPC (ge_t (by rw [sh_eq]; omega)) (okPC nz_ok (okP1 (ge_t (by omega)))))))) (by rw [e1]; congr 1; omega)
      · have l2 := len_up (U / 2 ^ 32 / 2 ^ 16) 8 (by omega)
        obtain ⟨e1, e2⟩ := lenE_eq (m := 56) (Z := U / 2 ^ 32 / 2 ^ 16 / 2 ^ 8) (by omega) (by omega) (by omega)
        rw [← sh_eq, ← sh_eq, ← sh_eq] at e1 e2
        exact step (m := 0) (Z := 0) (len_111 U) (okPC e2 (okPC nz_ok (okPC (ge_t (by rw [sh_eq, sh_eq]; omega)) (okPC nz_ok (okPC (ge_t (by rw [sh_eq]; omega)) (okPC nz_ok (okP1 (ge_t (by omega))))))))) (by rw [e1]; congr 1; omega)
/-! ### Len -/
/-- of a word -/
def gu (k : Int → Value) : Ans := fun vals s =>
  match vals with
  | [.int .u64 u] => some (k u, s, [(decide (0 ≤ u ∧ u < 18446744073709551616), true)])
  | _ => none
theorem gu_ok {f : Nat} {k : Int → Value} (hk : ∀ u, 0 ≤ u → u < 18446744073709551616 → ∀ w, Calls Tryz.prog f #[.int .u64 u] w fun e w' => e = .returned (k u) ∧ Tidy w w') : AnsOk f (gu k) := by
  intro vals s v s' lg h hl w
  unfold gu at h
  split at h
  · cases h
    have h1 := hl _ (List.mem_singleton.2 rfl)
    simp only [decide_eq_true_eq] at h1
    exact hk _ h1.1 h1.2 w
  · cases h
def conL : Con := alt 124 (gu len64V) conN
theorem conL_ok : ConOk conL := alt_ok Tryz.func124 rfl (gu_ok len64_calls) conN_ok
def ne0 (a : Int) (d : Bool) : Bool × Bool := (a != 0, d)
def yes : Bool × Bool := (true, true)
def no : Bool × Bool := (false, false)
def wd (u : Int) : Bool × Bool := (decide (0 ≤ u ∧ u < 18446744073709551616), true)
def lenB (m u : Int) : Value := .int .i64 (IntKind.i64.wrap (m + (bitLen u.toNat : Nat)))
theorem wlen_3 (x : W4) : Fits (reckon (tabOf Tryz.prog extY conL true) 3000 82 [vW x] [tst true, tst true]) (lenB 192 x.d) [wd x.d, ne0 x.d true, yes] := ⟨by kernel_rfl, by kernel_rfl, by kernel_rfl, by kernel_rfl⟩
theorem wlen_2 (x : W4) : Fits (reckon (tabOf Tryz.prog extY conL true) 3000 82 [vW x] [tst true, tst false, tst true, tst true]) (lenB 128 x.c) [wd x.c, ne0 x.c true, yes, ne0 x.d false, yes] := ⟨by kernel_rfl, by kernel_rfl, by kernel_rfl, by kernel_rfl⟩
theorem wlen_1 (x : W4) : Fits (reckon (tabOf Tryz.prog extY conL true) 3000 82 [vW x] [tst true, tst false, tst true, tst false, tst true, tst true]) (lenB 64 x.b) [wd x.b, ne0 x.b true, yes, ne0 x.c false, yes, ne0 x.d false, yes] := ⟨by kernel_rfl, by kernel_rfl, by kernel_rfl, by kernel_rfl⟩
theorem wlen_0 (x : W4) : Fits (reckon (tabOf Tryz.prog extY conL true) 3000 82 [vW x] [tst true, tst false, tst true, tst false, tst true, tst false, tst true, tst true]) (lenB 0 x.a) [wd x.a, ne0 x.a true, yes, ne0 x.b false, yes, ne0 x.c false, yes, ne0 x.d false, yes] := ⟨by kernel_rfl, by kernel_rfl, by kernel_rfl, by kernel_rfl⟩
theorem wlen_n (x : W4) : Fits (reckon (tabOf Tryz.prog extY conL true) 3000 82 [vW x] [tst true, tst false, tst true, tst false, tst true, tst false, tst true, tst false, tst false]) (.int .i64 0) [no, ne0 x.a false, yes, ne0 x.b false, yes, ne0 x.c false, yes, ne0 x.d false, yes] := ⟨by kernel_rfl, by kernel_rfl, by kernel_rfl, by kernel_rfl⟩
def lenI (x : W4) : Int := (bitLen x.val.toNat : Nat)
def lenV4 (x : W4) : Value := .int .i64 (lenI x)
theorem lenB_eq {m u : Int} (h0 : 0 ≤ m) (h1 : m ≤ 192) (hu : 0 ≤ u ∧ u < 18446744073709551616) : lenB m u = .int .i64 (m + (bitLen u.toNat : Nat)) := by
  have : bitLen u.toNat ≤ 64 := by
    unfold bitLen
    split
    · omega
    · rename_i h
      have := (Nat.log2_lt h).2 (show u.toNat < 2 ^ 64 by have : (2 : Nat) ^ 64 = 18446744073709551616 := rfl; omega)
      omega
  unfold lenB
  rw [wrap_i64' (by omega) (by omega)]
theorem ne_t {a : Int} (h : a ≠ 0) : (ne0 a true).1 = (ne0 a true).2 := bne_iff_ne.2 h
theorem ne_f {a : Int} (h : a = 0) : (ne0 a false).1 = (ne0 a false).2 := by subst h; rfl
theorem wd_ok {u : Int} (h : 0 ≤ u ∧ u < 18446744073709551616) : (wd u).1 = (wd u).2 := decide_eq_true h
theorem yes_ok : yes.1 = yes.2 := rfl
theorem no_ok : no.1 = no.2 := rfl
theorem len_high {X b U : Nat} (hU : U ≠ 0) (h : X / 2 ^ b = U) : bitLen X = b + bitLen U := by
  rw [← h]
  exact bitLen_shift X b (by omega)
set_option maxRecDepth 100000 in
theorem wlen_calls (x : W4) (hx : x.ok) (w : World) : Calls Tryz.prog 82 #[vW x] w fun e w' => e = .returned (lenV4 x) ∧ Tidy w w' := by
  have hx' := hx
  obtain ⟨a, b, c, d⟩ := x
  obtain ⟨h1, h2, h3, h4⟩ := hx
  unfold lenV4 lenI W4.val
  dsimp only at *
  by_cases e4 : d = 0
  · by_cases e3 : c = 0
    · by_cases e2 : b = 0
      · by_cases e1 : a = 0
        · subst e1 e2 e3 e4
          exact fits_calls (tabY_ok conL_ok) (wlen_n ⟨0, 0, 0, 0⟩) (okPC no_ok (okPC (ne_f rfl) (okPC yes_ok (okPC (ne_f rfl) (okPC yes_ok (okPC (ne_f rfl) (okPC yes_ok (okPC (ne_f rfl) (okP1 yes_ok))))))))) (by rfl) (by rfl) w
        · have h := fits_calls (tabY_ok conL_ok) (wlen_0 ⟨a, b, c, d⟩) (okPC (wd_ok h1) (okPC (ne_t e1) (okPC yes_ok (okPC (ne_f e2) (okPC yes_ok (okPC (ne_f e3) (okPC yes_ok (okPC (ne_f e4) (okP1 yes_ok))))))))) (by rfl) (by rfl) w
          rw [lenB_eq (by omega) (by omega) h1] at h
          subst e2 e3 e4
          simp at h ⊢
          exact h
      · have h := fits_calls (tabY_ok conL_ok) (wlen_1 ⟨a, b, c, d⟩) (okPC (wd_ok h2) (okPC (ne_t e2) (okPC yes_ok (okPC (ne_f e3) (okPC yes_ok (okPC (ne_f e4) (okP1 yes_ok))))))) (by rfl) (by rfl) w
        rw [lenB_eq (by omega) (by omega) h2] at h
        have p : (2 : Nat) ^ 64 = 18446744073709551616 := rfl
        have l := len_high (X := (a + 18446744073709551616 * b + 340282366920938463463374607431768211456 * c + 6277101735386680763835789423207666416102355444464034512896 * d).toNat) (b := 64) (U := b.toNat) (by omega) (by rw [p]; omega)
        rw [l]
        simp at h ⊢
        exact h
    · have h := fits_calls (tabY_ok conL_ok) (wlen_2 ⟨a, b, c, d⟩) (okPC (wd_ok h3) (okPC (ne_t e3) (okPC yes_ok (okPC (ne_f e4) (okP1 yes_ok))))) (by rfl) (by rfl) w
      rw [lenB_eq (by omega) (by omega) h3] at h
      have p : (2 : Nat) ^ 128 = 340282366920938463463374607431768211456 := rfl
      have l := len_high (X := (a + 18446744073709551616 * b + 340282366920938463463374607431768211456 * c + 6277101735386680763835789423207666416102355444464034512896 * d).toNat) (b := 128) (U := c.toNat) (by omega) (by rw [p]; omega)
      rw [l]
      simp at h ⊢
      exact h
  · have h := fits_calls (tabY_ok conL_ok) (wlen_3 ⟨a, b, c, d⟩) (okPC (wd_ok h4) (okPC (ne_t e4) (okP1 yes_ok))) (by rfl) (by rfl) w
    rw [lenB_eq (by omega) (by omega) h4] at h
    have p : (2 : Nat) ^ 192 = 6277101735386680763835789423207666416102355444464034512896 := rfl
    have l := len_high (X := (a + 18446744073709551616 * b + 340282366920938463463374607431768211456 * c + 6277101735386680763835789423207666416102355444464034512896 * d).toNat) (b := 192) (U := d.toNat) (by omega) (by rw [p]; omega)
    rw [l]
    simp at h ⊢
    exact h
/-- of one number -/
def g1 (k : W4 → Value) : Ans := fun vals s =>
  match vals with
  | [x] =>
    match w4 x with
    | some a => some (k a, s, [(decide a.ok, true)])
    | none => none
  | _ => none
theorem g1_ok {f : Nat} {k : W4 → Value} (hk : ∀ x : W4, x.ok → ∀ w, Calls Tryz.prog f #[vW x] w fun e w' => e = .returned (k x) ∧ Tidy w w') : AnsOk f (g1 k) := by
  intro vals s v s' lg h hl w
  unfold g1 at h
  split at h
  · split at h
    · rename_i a ha
      cases h
      have h1 := hl _ (List.mem_singleton.2 rfl)
      simp only [decide_eq_true_eq] at h1
      rw [w4_spec ha]
      exact hk a h1 w
    · cases h
  · cases h
/-! ### Bit -/
def andd (z : Int) : Int := IntKind.u64.wrap ((BitVec.ofInt 64 z &&& BitVec.ofInt 64 1).toNat : Nat)
theorem andd_eq {z : Int} (h0 : 0 ≤ z) (h1 : z < 18446744073709551616) : andd z = z % 2 := by
  obtain ⟨Z, rfl⟩ := Int.eq_ofNat_of_zero_le h0
  unfold andd
  have e1 : (BitVec.ofInt 64 (Z : Int)).toNat = Z := by simp; omega
  have e2 : (BitVec.ofInt 64 1).toNat = 1 := rfl
  rw [BitVec.toNat_and, e1, e2, Nat.and_one_is_mod, wrap_u64]
  omega
def lb (n k : Int) : Log := [(decide ((64 : Int) = 0), false), (decide (IntKind.i64.wrap (n.tdiv 64) = k), true), (decide (n ≥ 256), false), (decide (n < 0), false)]
theorem bit_low (x : W4) (n : Int) : Fits (reckon (tabOf Tryz.prog extY conN true) 3000 86 [vW x, .int .i64 n] [cmp true]) (.int .u64 0) [(decide (n < 0), true)] := ⟨by kernel_rfl, by kernel_rfl, by kernel_rfl, by kernel_rfl⟩
theorem bit_high (x : W4) (n : Int) : Fits (reckon (tabOf Tryz.prog extY conN true) 3000 86 [vW x, .int .i64 n] [cmp false, cmp true]) (.int .u64 0) [(decide (n ≥ 256), true), (decide (n < 0), false)] := ⟨by kernel_rfl, by kernel_rfl, by kernel_rfl, by kernel_rfl⟩
theorem bit_0 (x : W4) (n : Int) : Fits (reckon (tabOf Tryz.prog extY conN true) 3000 86 [vW x, .int .i64 n] [cmp false, cmp false, num 0]) (.int .u64 (andd (dn' x.a n))) (lu n :: lb n 0) := ⟨by kernel_rfl, by kernel_rfl, by kernel_rfl, by kernel_rfl⟩
theorem bit_1 (x : W4) (n : Int) : Fits (reckon (tabOf Tryz.prog extY conN true) 3000 86 [vW x, .int .i64 n] [cmp false, cmp false, num 1]) (.int .u64 (andd (dn' x.b n))) (lu n :: lb n 1) := ⟨by kernel_rfl, by kernel_rfl, by kernel_rfl, by kernel_rfl⟩
theorem bit_2 (x : W4) (n : Int) : Fits (reckon (tabOf Tryz.prog extY conN true) 3000 86 [vW x, .int .i64 n] [cmp false, cmp false, num 2]) (.int .u64 (andd (dn' x.c n))) (lu n :: lb n 2) := ⟨by kernel_rfl, by kernel_rfl, by kernel_rfl, by kernel_rfl⟩
theorem bit_3 (x : W4) (n : Int) : Fits (reckon (tabOf Tryz.prog extY conN true) 3000 86 [vW x, .int .i64 n] [cmp false, cmp false, num 3]) (.int .u64 (andd (dn' x.d n))) (lu n :: lb n 3) := ⟨by kernel_rfl, by kernel_rfl, by kernel_rfl, by kernel_rfl⟩
def bitI (x : W4) (n : Int) : Int := if n < 0 then 0 else if 256 ≤ n then 0 else x.val / 2 ^ n.toNat % 2
def bitV4 (x : W4) (n : Int) : Value := .int .u64 (bitI x n)
theorem lb_ok {n k : Int} (h1 : ¬ n < 0) (h2 : ¬ 256 ≤ n) (h3 : n / 64 = k) : okLog (lb n k) := by
  refine okPC (by rfl) (okPC (decide_eq_true ?_) (okPC (decide_eq_false h2) (okP1 (decide_eq_false h1))))
  rw [Int.tdiv_eq_ediv_of_nonneg (by omega), wrap_i64' (by omega) (by omega)]
  exact h3
/-- the lowest bit of a word moved down is that of the number moved down -/
theorem low_bit {x : W4} {n : Int} {a b : Int} (hn : 0 ≤ n) (ha : 0 ≤ a ∧ a < 18446744073709551616) (hb : 0 ≤ b ∧ b < 18446744073709551616) (h : (W4.of (x.val / 2 ^ n.toNat)).a = orr (dn' a n) (up' b n)) :
    andd (dn' a n) = x.val / 2 ^ n.toNat % 2 := by
  obtain ⟨l, o, d, s, m, l0, l1, e⟩ := pieces' hn ha hb
  have ev := up'_even hn hb
  rw [andd_eq d.1 d.2]
  rw [o] at h
  unfold W4.of at h
  dsimp only at h
  omega
theorem low_bit' {x : W4} {n : Int} {a : Int} (hn : 0 ≤ n) (ha : 0 ≤ a ∧ a < 18446744073709551616) (h : (W4.of (x.val / 2 ^ n.toNat)).a = dn' a n) : andd (dn' a n) = x.val / 2 ^ n.toNat % 2 := by
  obtain ⟨l, o, d, s, m, l0, l1, e⟩ := pieces' hn ha ha
  rw [andd_eq d.1 d.2]
  unfold W4.of at h
  dsimp only at h
  omega
set_option maxRecDepth 100000 in
theorem bit_calls (x : W4) (n : Int) (hx : x.ok) (_h0 : -9223372036854775808 ≤ n) (_h9 : n ≤ 9223372036854775807) (w : World) : Calls Tryz.prog 86 #[vW x, .int .i64 n] w fun e w' => e = .returned (bitV4 x n) ∧ Tidy w w' := by
  unfold bitV4 bitI
  by_cases h1 : n < 0
  · rw [if_pos h1]
    exact fits_calls (tabY_ok conN_ok) (bit_low x n) (okP1 (decide_eq_true h1)) (by rfl) (by rfl) w
  · rw [if_neg h1]
    by_cases h2 : 256 ≤ n
    · rw [if_pos h2]
      exact fits_calls (tabY_ok conN_ok) (bit_high x n) (okPC (decide_eq_true h2) (okP1 (decide_eq_false h1))) (by rfl) (by rfl) w
    · rw [if_neg h2]
      have hn : 0 ≤ n := by omega
      have u := lu_ok hn
      obtain ⟨k1, k2, k3, k4⟩ := hx
      have hj : n / 64 = 0 ∨ n / 64 = 1 ∨ n / 64 = 2 ∨ n / 64 = 3 := by omega
      rcases hj with hj | hj | hj | hj
      · obtain ⟨e1, _⟩ := shr0_eq (x := x) ⟨k1, k2, k3, k4⟩ hn hj
        rw [← low_bit hn k1 k2 (by rw [← e1]; rfl)]
        exact fits_calls (tabY_ok conN_ok) (bit_0 x n) (okPC u (lb_ok h1 h2 hj)) (by rfl) (by rfl) w
      · obtain ⟨e1, _⟩ := shr1_eq (x := x) ⟨k1, k2, k3, k4⟩ hn hj
        rw [← low_bit hn k2 k3 (by rw [← e1]; rfl)]
        exact fits_calls (tabY_ok conN_ok) (bit_1 x n) (okPC u (lb_ok h1 h2 hj)) (by rfl) (by rfl) w
      · obtain ⟨e1, _⟩ := shr2_eq (x := x) ⟨k1, k2, k3, k4⟩ hn hj
        rw [← low_bit hn k3 k4 (by rw [← e1]; rfl)]
        exact fits_calls (tabY_ok conN_ok) (bit_2 x n) (okPC u (lb_ok h1 h2 hj)) (by rfl) (by rfl) w
      · obtain ⟨e1, _⟩ := shr3_eq (x := x) ⟨k1, k2, k3, k4⟩ hn hj
        rw [← low_bit' hn k4 (by rw [← e1]; rfl)]
        exact fits_calls (tabY_ok conN_ok) (bit_3 x n) (okPC u (lb_ok h1 h2 hj)) (by rfl) (by rfl) w
end Go.Proofs.YtjlponbdflkbjaaGreatDoor
