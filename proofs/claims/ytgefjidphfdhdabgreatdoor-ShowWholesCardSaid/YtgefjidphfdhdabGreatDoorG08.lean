/-
  ConN8, NumP, ConN9, ConNA, RunY, NumV, ConV1, NumW, ConV2, ConV3, RunZ, RunP, Okl, ConNU, ConV4, ConV7, ConVK, ConNV, AsNum, RunK, Row, RowS, SlN, NumSl, ConVM
-/
import Derived.Test.YtgefjidphfdhdabGreatDoorG07
import Derived.WalkKit
import Derived.LaidEql
import Derived.Stop.Asserts
import Derived.RowKitTokens
import Derived.ProofKit
import Derived.OpenShut
import Derived.Laws.IdiomArrays
import Derived.Lib.SmallJoins
import Derived.ChangeSlices
namespace Go.Proofs.YtgefjidphfdhdabGreatDoor.Na
open Go.KRun Go.Nt
set_option maxRecDepth 100000
def bnt (z : Int) : Int := IntKind.u32.wrap ((BitVec.ofInt 32 4294967295 ^^^ BitVec.ofInt 32 z).toNat : Nat)
def bnd (x y : Int) : Int := IntKind.u32.wrap ((BitVec.ofInt 32 x &&& BitVec.ofInt 32 y).toNat : Nat)
def bxr (x y : Int) : Int := IntKind.u32.wrap ((BitVec.ofInt 32 x ^^^ BitVec.ofInt 32 y).toNat : Nat)
def brr (x y : Int) : Int := IntKind.u32.wrap ((BitVec.ofInt 32 x ||| BitVec.ofInt 32 y).toNat : Nat)
def difR (x y c : Int) : Int := IntKind.u32.wrap (IntKind.u32.wrap (x - y) - c)
def borR (x y c : Int) : Int := (brr (bnd (bnt x) y) (bnd (bnt (bxr x y)) (difR x y c))).fdiv (2 ^ min ((31 : Int).toNat) 32)
theorem sub32_fits (x y c : Int) : Fits (reckon (tabOf Tryz.prog extY conN true) 100 137 [uu x, uu y, uu c] []) (.tuple #[uu (difR x y c), uu (borR x y c)]) [(decide ((31 : Int) < 0), false)] := ⟨by kernel_rfl, by kernel_rfl, by kernel_rfl, by kernel_rfl⟩
theorem ofInt_wrap (v : BitVec 32) : BitVec.ofInt 32 (IntKind.u32.wrap (v.toNat : Nat)) = v := by
  rw [u32w]
  have h := v.isLt
  apply BitVec.eq_of_toNat_eq
  simp
  omega
theorem wrap_nat (v : BitVec 32) : IntKind.u32.wrap (v.toNat : Nat) = v.toNat := by
  rw [u32w]
  have h := v.isLt
  omega
theorem top_div (v : BitVec 32) : v.toNat / 2147483648 = if v.getLsbD 31 = true then 1 else 0 := by
  have h := v.isLt
  unfold BitVec.getLsbD
  rw [Nat.testBit_eq_decide_div_mod_eq]
  have e : (2 : Nat) ^ 31 = 2147483648 := rfl
  rw [e]
  by_cases h1 : v.toNat / 2147483648 % 2 = 1
  · rw [decide_eq_true h1]
    simp
    omega
  · rw [decide_eq_false h1]
    simp
    omega
theorem top_of {x : Int} (h0 : 0 ≤ x) (h1 : x < 4294967296) : (BitVec.ofInt 32 x).getLsbD 31 = decide (2147483648 ≤ x) := by
  have e : (BitVec.ofInt 32 x).toNat = x.toNat := by simp; omega
  unfold BitVec.getLsbD
  rw [e, Nat.testBit_eq_decide_div_mod_eq]
  have e2 : (2 : Nat) ^ 31 = 2147483648 := rfl
  rw [e2]
  by_cases h : 2147483648 ≤ x
  · rw [decide_eq_true h]
    exact decide_eq_true (by omega)
  · rw [decide_eq_false h]
    exact decide_eq_false (by omega)
def subD (x y c : Int) : Int := (x - y - c) % 4294967296
def subB (x y c : Int) : Int := if x < y + c then 1 else 0
theorem sub32_eq {x y c : Int} (hx : 0 ≤ x ∧ x < 4294967296) (hy : 0 ≤ y ∧ y < 4294967296) (hc : 0 ≤ c ∧ c ≤ 1) : difR x y c = subD x y c ∧ borR x y c = subB x y c := by
  have e1 : difR x y c = subD x y c := by
    unfold difR subD
    rw [u32w, u32w]
    omega
  refine ⟨e1, ?_⟩
  have d0 : 0 ≤ subD x y c ∧ subD x y c < 4294967296 := by unfold subD; omega
  unfold borR
  rw [e1]
  unfold brr bnd bnt bxr
  simp only [ofInt_wrap]
  rw [wrap_nat, show (2 : Int) ^ min ((31 : Int).toNat) 32 = 2147483648 from rfl, Int.fdiv_eq_ediv_of_nonneg _ (by omega)]
  have key := top_div ((BitVec.ofInt 32 4294967295 ^^^ BitVec.ofInt 32 x) &&& BitVec.ofInt 32 y ||| (BitVec.ofInt 32 4294967295 ^^^ (BitVec.ofInt 32 x ^^^ BitVec.ofInt 32 y)) &&& BitVec.ofInt 32 (subD x y c))
  simp only [BitVec.getLsbD_or, BitVec.getLsbD_and, BitVec.getLsbD_xor, top_of hx.1 hx.2, top_of hy.1 hy.2, top_of d0.1 d0.2, top_of (x := 4294967295) (by omega) (by omega)] at key
  rw [show decide ((2147483648 : Int) ≤ 4294967295) = true from rfl] at key
  generalize hV : ((BitVec.ofInt 32 4294967295 ^^^ BitVec.ofInt 32 x) &&& BitVec.ofInt 32 y ||| (BitVec.ofInt 32 4294967295 ^^^ (BitVec.ofInt 32 x ^^^ BitVec.ofInt 32 y)) &&& BitVec.ofInt 32 (subD x y c)).toNat = V at *
  have cast : ((V : Nat) : Int) / 2147483648 = ((V / 2147483648 : Nat) : Int) := by omega
  rw [cast, key]
  unfold subB
  unfold subD at *
  by_cases a1 : 2147483648 ≤ x <;> by_cases a2 : 2147483648 ≤ y <;> by_cases a3 : 2147483648 ≤ (x - y - c) % 4294967296 <;> simp only [a1, a2, a3, decide_true, decide_false] <;> split <;> split <;> simp_all <;> omega
def sub32V (x y c : Int) : Value := .tuple #[uu (subD x y c), uu (subB x y c)]
def gSub32 : Ans := fun vals s =>
  match vals with
  | [.int .u32 x, .int .u32 y, .int .u32 c] => some (sub32V x y c, s, [(wd4 x y c, true)])
  | _ => none
theorem gSub32_ok : AnsOk 137 gSub32 := by
  intro vals s v s' lg h hl w
  unfold gSub32 at h
  split at h
  · rename_i x y c
    cases h
    have hr := hl _ (List.mem_singleton.2 rfl)
    simp only [wd4, decide_eq_true_eq] at hr
    obtain ⟨e1, e2⟩ := sub32_eq hr.1 hr.2.1 hr.2.2
    have := fits_calls (tabY_ok conN_ok) (sub32_fits x y c) (okOne (by rfl)) (by rfl) (by rfl) w
    rw [e1, e2] at this
    exact this
  · cases h
/-! ### nat.Sub: its pieces -/
def conB : Con := alt 137 gSub32 conN
theorem conB_ok : ConOk conB := alt_ok Tryz.func137 rfl gSub32_ok conN_ok
def cpS (la : List Value) (o n : Nat) : List Value := (List.replicate ((n : Int)).toNat (uu 0)).take 0 ++ (la.drop o).take (Nat.min n ((n : Int)).toNat) ++ (List.replicate ((n : Int)).toNat (uu 0)).drop (0 + Nat.min n ((n : Int)).toNat)
def csOk (la : List Value) (o n : Nat) : Bool := !(tomb tR) && !(ro tU) && Nat.ble (o + Nat.min n ((n : Int)).toNat) la.length && Nat.ble (0 + Nat.min n ((n : Int)).toNat) (List.replicate ((n : Int)).toNat (uu 0)).length && ((la.drop o).take (Nat.min n ((n : Int)).toNat)).all one
end Go.Proofs.YtgefjidphfdhdabGreatDoor.Na
namespace Go.Nt
/-- a highest word that is not 0 -/
theorem vN_low {L : List Int} (h : wds L) (h0 : 0 < L.length) (ht : L.getD (L.length - 1) 0 ≠ 0) : 4294967296 ^ (L.length - 1) ≤ vN L := by
  induction L with
  | nil => simp at h0
  | cons x r ih =>
    obtain ⟨h1, h2⟩ := wds_tail h
    cases r with
    | nil =>
      simp at ht ⊢
      simp [vN]
      omega
    | cons y r =>
      have := ih h2 (by simp) (by simpa using ht)
      simp only [List.length_cons, Nat.add_sub_cancel] at this ⊢
      rw [pw]
      have e : vN (x :: y :: r) = x + 4294967296 * vN (y :: r) := rfl
      rw [e]
      omega
theorem take_succ {L : List Int} {k : Nat} (h : k < L.length) : L.take (k + 1) = L.take k ++ [L.getD k 0] := by
  rw [List.take_add_one, List.getElem?_eq_getElem h]
  simp [List.getD, List.getElem?_eq_getElem h]
theorem wds_take {L : List Int} (h : wds L) (k : Nat) : wds (L.take k) := fun x hx => h x (List.mem_of_mem_take hx)
theorem topCmp_val {L M : List Int} (hL : wds L) (hM : wds M) : ∀ k, k ≤ L.length → k ≤ M.length → (topCmp L M k < 0 ↔ vN (L.take k) < vN (M.take k)) ∧ (topCmp L M k = 0 ↔ vN (L.take k) = vN (M.take k))
  | 0, _, _ => by simp [topCmp, vN]
  | k + 1, h1, h2 => by
    have ih := topCmp_val hL hM k (by omega) (by omega)
    have bL := vN_bd (L.take k) (wds_take hL k)
    have bM := vN_bd (M.take k) (wds_take hM k)
    have lL : (L.take k).length = k := by simp; omega
    have lM : (M.take k).length = k := by simp; omega
    rw [lL] at bL
    rw [lM] at bM
    rw [take_succ (by omega : k < L.length), take_succ (by omega : k < M.length), vN_snoc, vN_snoc, lL, lM]
    simp only [topCmp]
    generalize L.getD k 0 = x
    generalize M.getD k 0 = y
    have hp := pw_pos k
    by_cases hxy : x = y
    · subst hxy
      rw [if_pos rfl]
      omega
    · rw [if_neg hxy]
      by_cases hlt : x < y
      · rw [if_pos hlt]
        have : 4294967296 ^ k * x + 4294967296 ^ k ≤ 4294967296 ^ k * y := by
          have := Int.mul_le_mul_of_nonneg_left (show x + 1 ≤ y by omega) (Int.le_of_lt hp)
          rw [Int.mul_add, Int.mul_one] at this
          exact this
        omega
      · rw [if_neg hlt]
        have : 4294967296 ^ k * y + 4294967296 ^ k ≤ 4294967296 ^ k * x := by
          have := Int.mul_le_mul_of_nonneg_left (show y + 1 ≤ x by omega) (Int.le_of_lt hp)
          rw [Int.mul_add, Int.mul_one] at this
          exact this
        omega
/-- words that are a number: the highest is not 0 -/
def canon (L : List Int) : Prop := wds L ∧ (L.length = 0 ∨ L.getD (L.length - 1) 0 ≠ 0)
theorem cmpL_val {L M : List Int} (hL : canon L) (hM : canon M) : (cmpL L M < 0 ↔ vN L < vN M) ∧ (cmpL L M = 0 ↔ vN L = vN M) := by
  obtain ⟨wL, tL⟩ := hL
  obtain ⟨wM, tM⟩ := hM
  unfold cmpL
  by_cases hl : L.length = M.length
  · rw [if_pos hl]
    have := topCmp_val wL wM L.length (Nat.le_refl _) (by omega)
    rw [List.take_length, hl, List.take_length] at this
    rw [hl]
    exact this
  · rw [if_neg hl]
    have bL := vN_bd L wL
    have bM := vN_bd M wM
    by_cases hlt : L.length < M.length
    · rw [if_pos hlt]
      have h1 := vN_low wM (by omega) (by rcases tM with h | h; omega; exact h)
      have h2 := pw_le (show L.length ≤ M.length - 1 by omega)
      omega
    · rw [if_neg hlt]
      have h1 := vN_low wL (by omega) (by rcases tL with h | h; omega; exact h)
      have h2 := pw_le (show M.length ≤ L.length - 1 by omega)
      omega
end Go.Nt
namespace Go.Proofs.YtgefjidphfdhdabGreatDoor.Na
open Go.KRun Go.Nt
set_option maxRecDepth 100000
theorem borrow_ok {x y c : Int} (hx : 0 ≤ x ∧ x < 4294967296) (hy : 0 ≤ y ∧ y < 4294967296) (hc : 0 ≤ c ∧ c ≤ 1) : (0 ≤ subD x y c ∧ subD x y c < 4294967296) ∧ (0 ≤ subB x y c ∧ subB x y c ≤ 1) ∧ x - y - c = subD x y c - 4294967296 * subB x y c := by
  unfold subD subB
  split <;> omega
theorem cpS_eq {la : List Value} {o : Nat} {L : List Int} (hR : Row la o L) : cpS la o L.length = wU L := by
  unfold cpS
  rw [Int.toNat_natCast, show Nat.min L.length L.length = L.length from by simp]
  have e1 : (la.drop o).take L.length = wU L := hR.cut
  rw [e1, Nat.zero_add, List.take_zero, List.nil_append, List.drop_replicate, Nat.sub_self]
  simp
theorem csOk_eq {la : List Value} {o : Nat} {L : List Int} (hR : Row la o L) : csOk la o L.length = true := by
  unfold csOk
  rw [Int.toNat_natCast, show Nat.min L.length L.length = L.length from by simp]
  have e1 : (la.drop o).take L.length = wU L := hR.cut
  rw [e1, tR_tomb, tU_own]
  have h1 : Nat.ble (o + L.length) la.length = true := Nat.ble_eq_true_of_le hR.len
  have h2 : Nat.ble (0 + L.length) (List.replicate L.length (uu 0)).length = true := Nat.ble_eq_true_of_le (by simp)
  have h3 : ((wU L).all one) = true := by
    unfold wU
    rw [List.all_eq_true]
    intro v hv
    obtain ⟨x, _, rfl⟩ := List.mem_map.1 hv
    rfl
  rw [h1, h2, h3]
  rfl
theorem badL_canon {L : List Int} (hw : wds L) (h : badL L = false) : canon L := by
  unfold badL at h
  simp only [Bool.or_eq_false_iff, decide_eq_false_iff_not, Bool.and_eq_false_iff, beq_eq_false_iff_ne, ne_eq] at h
  refine ⟨hw, ?_⟩
  rcases h.2 with h | h
  · exact .inl (by omega)
  · exact .inr h
theorem canon_len {L M : List Int} (hL : canon L) (hM : canon M) (h : vN M ≤ vN L) : M.length ≤ L.length := by
  rcases Nat.lt_or_ge L.length M.length with hlt | hge
  · exfalso
    have h1 := vN_low hM.1 (by omega) (by rcases hM.2 with h | h; omega; exact h)
    have h2 := pw_le (show L.length ≤ M.length - 1 by omega)
    have := vN_bd L hL.1
    omega
  · exact hge
end Go.Proofs.YtgefjidphfdhdabGreatDoor.Na
namespace Go.KRun
open Go.RowKit
theorem compact {m : Mp} {B : Nat} {t t' : List Value} {h h' : Hp} {s : List Dec} {a : Act} {w : World} (R : Rel m B (t, h, s) a w) (f : Nat → Nat) (hl : h'.l.length = h'.n)
    (hb : ∀ i x, h'.blk? i = some x → (∀ v ∈ x.1, still v = true) ∧ ∃ y r, h.blk? (f i) = some y ∧ y.2 = x.2 ∧ y.1 = x.1 ++ r)
    (hi : ∀ i j x y, h'.blk? i = some x → h'.blk? j = some y → ro x.2 = false → ro y.2 = false → f i = f j → i = j)
    (ht : t'.map (mv fun i => m (f i)) = t.map (mv m)) (hw : ∀ v ∈ t', lt h'.n v = true) : Rel (fun i => m (f i)) B (t', h', s) a w := by
  have E := R.emb
  refine ⟨by rw [R.tmps]; simp only; rw [ht], R.dfr, ?_, hw⟩
  refine ⟨hl, ?_, ?_, ?_, ?_, ?_, E.base, E.ice, ?_⟩
  · intro b x hx ht
    obtain ⟨q1, y, r, q2, q3, q4⟩ := hb b x hx
    obtain ⟨r0, z, e1, e2, e3⟩ := E.lies (f b) y q2 (by rw [q3]; exact ht)
    rw [q4, List.map_append, still_map (m' := fun i => m (f i)) q1] at e1 e2
    refine ⟨r.map (mv1 m) ++ r0, z, by rw [← e1]; simp; omega, by rw [e2, List.append_assoc], by rw [← q3]; exact e3⟩
  · intro b x hx hr
    obtain ⟨_, y, r, q2, q3, _⟩ := hb b x hx
    exact E.low (f b) y q2 (by rw [q3]; exact hr)
  · intro b x hx ht hr
    obtain ⟨_, y, r, q2, q3, _⟩ := hb b x hx
    exact E.ros (f b) y q2 (by rw [q3]; exact ht) (by rw [q3]; exact hr)
  · intro b b' x x' hx hx' hr hr' he
    obtain ⟨_, y, r, q2, q3, _⟩ := hb b x hx
    obtain ⟨_, y', r', q2', q3', _⟩ := hb b' x' hx'
    exact hi b b' x x' hx hx' hr hr' (E.inj _ _ y y' q2 q2' (by rw [q3]; exact hr) (by rw [q3']; exact hr') he)
  · intro b x hx v hv
    exact still_lt (Nat.lt_of_le_of_lt (Nat.zero_le _) (Hp.blk_lt hx)) ((hb b x hx).1 v hv)
  · intro b x hx ha
    obtain ⟨q1, y, r, q2, q3, q4⟩ := hb b x hx
    obtain ⟨e1, r0, t0, z, e2, e3⟩ := E.abs (f b) y q2 (by rw [q3]; exact ha)
    rw [q3] at e1 e2 e3
    rw [q4, List.map_append, still_map (m' := fun i => m (f i)) q1] at e2 e3
    exact ⟨e1, r.map (mv1 m) ++ r0, t0, z, by rw [e2, List.append_assoc], by rw [List.length_append]; rw [List.length_append] at e3; omega⟩
/-- the temporaries that are needed, with their blocks' new numbers; the others as the world has them -/
theorem anew {m : Mp} (f : Nat → Nat) {front front' rest : List Value} (h : front'.map (rn f) = front) : (front' ++ rest.map (fun v => Value.iface dead (mv m v))).map (mv fun i => m (f i)) = (front ++ rest).map (mv m) := by
  rw [List.map_append, List.map_append, ← h, List.map_map, List.map_map]
  congr 1
  · exact List.map_congr_left fun v _ => (mv_rn m f v).symm
/-- the memory made small behind a piece of code -/
theorem RunsW.small {T : Tab} {c : Code} {x : Lf} {P : Ex → Lf → Prop} (hr : RunsW T c x P) {P' : Ex → Lf → Prop}
    (hp : ∀ e y, P e y → P' e y ∨ ∃ (front front' rest : List Value) (h h' : Hp) (s : List Dec) (f : Nat → Nat), y = (front ++ rest, h, s) ∧ front'.map (rn f) = front ∧ h'.l.length = h'.n ∧ 0 < h'.n ∧
      (∀ i x, h'.blk? i = some x → (∀ v ∈ x.1, still v = true) ∧ ∃ y r, h.blk? (f i) = some y ∧ y.2 = x.2 ∧ y.1 = x.1 ++ r) ∧
      (∀ i j x y, h'.blk? i = some x → h'.blk? j = some y → ro x.2 = false → ro y.2 = false → f i = f j → i = j) ∧ (∀ v ∈ front', lt h'.n v = true) ∧ ∀ g, P' e (front' ++ tl rest.length g, h', s)) : RunsW T c x P' := by
  intro m B a w R Q hQ
  refine hr m B a w R Q fun e y he m' a' w' R' hb' => ?_
  rcases hp e y he with h1 | ⟨front, front', rest, h, h', s, f, rfl, e1, e2, e3, e4, e5, e6, e7⟩
  · exact hQ e y h1 m' a' w' R' hb'
  · obtain ⟨g, hg⟩ := tl_of (J := rest.map (fun v => Value.iface dead (mv m' v))) (n := rest.length) (by simp)
    refine hQ e _ (e7 g) _ a' w' (compact R' f e2 e4 e5 (by rw [← hg]; exact anew f e1) ?_) hb'
    intro v hv
    rw [← hg] at hv
    rcases List.mem_append.1 hv with hv | hv
    · exact e6 v hv
    · obtain ⟨u, _, rfl⟩ := List.mem_map.1 hv
      simp [lt, lt2, lt1, e3, dead]
/-- a 'for', its memory made small behind each round -/
theorem RunsW.forLoop {T : Tab} {c : Code} {id : Nat} {x : Lf} {P : Lf → Prop} {R : Lf → Prop} (Inv : Nat → Lf → Prop)
    (round : ∀ n x, Inv n x → RunsW T c x fun e y => match e with | none => ∃ n', n' < n ∧ Inv n' y | some none => R y | some (some id') => id' = id ∧ P y) {n : Nat} (h0 : Inv n x) :
    RunsW T (.block id (.loop c)) x fun e y => match e with | none => P y | some none => R y | some (some _) => False := by
  refine RunsW.block (P1 := fun e y => match e with | none => False | some none => R y | some (some id') => id' = id ∧ P y) ?_ (fun y he => he.elim) (fun y he => he) (fun y he => he.2) (fun id' y hid he => absurd he.1 hid)
  refine RunsW.loop Inv (fun n x hI => (round n x hI).mono fun e y he => ?_) h0
  match e, he with
  | none, he => exact he
  | some none, he => exact he
  | some (some id'), he => exact he
theorem goesT_runsW {T : Tab} (hT : TabOk T) {N : Nat} {c : Code} {t : List Value} {h h' : Hp} {s s0 : List Dec} {k n : Nat} {e : Ex} {front : List Value} {cs : Log} (hG : GoesT (evC T N false c (t, h, s) ⟨[], [], []⟩) k n e front h' cs) (hcs : okLog cs) :
    RunsW T c (t, h, s0) fun e' y => e' = e ∧ (∃ g, y.1 = front ++ tl n g) ∧ y.2.1 = h' := (goesT_runs hT hG hcs).w
theorem tl_len (n : Nat) (g : Nat → Value) : (tl n g).length = n := by simp [tl]
/-- the first blocks of a memory kept, and another one -/
def keepK (k b : Nat) (i : Nat) : Nat := if Nat.blt i k = true then i else b
theorem blkK1 {base : List (List Value × TypeId)} {k : Nat} (hk : base.length = k) {y : List Value × TypeId} {i : Nat} {z : List Value × TypeId} (h : (⟨k + 1, y :: base⟩ : Hp).blk? i = some z) : (i < k ∧ (⟨k, base⟩ : Hp).blk? i = some z) ∨ (i = k ∧ z = y) := by
  have hi : i < k + 1 := Hp.blk_lt h
  by_cases h0 : i = k
  · subst h0
    have : (⟨i + 1, y :: base⟩ : Hp).blk? i = some y := by
      unfold Hp.blk?
      rw [if_pos (blt_iff.2 (by show i < i + 1; omega))]
      show (y :: base)[i + 1 - 1 - i]? = some y
      rw [show i + 1 - 1 - i = 0 from by omega]
      rfl
    rw [this] at h
    exact .inr ⟨rfl, (Option.some.inj h).symm⟩
  · refine .inl ⟨by omega, ?_⟩
    unfold Hp.blk? at h ⊢
    rw [if_pos (blt_iff.2 (by show i < k + 1; omega))] at h
    rw [if_pos (blt_iff.2 (by show i < k; omega))]
    have e : k + 1 - 1 - i = (k - 1 - i) + 1 := by omega
    have h' : (y :: base)[k + 1 - 1 - i]? = some z := h
    rw [e, List.getElem?_cons_succ] at h'
    exact h'
/-- behind a round: the first blocks and one more are kept -/
theorem RunsW.kept {T : Tab} {c : Code} {x0 : Lf} {ex : Ex} {front front' : List Value} {n k b : Nat} {h : Hp} {base : List (List Value × TypeId)} {y : List Value × TypeId} (hr : RunsW T c x0 fun e z => e = ex ∧ (∃ g, z.1 = front ++ tl n g) ∧ z.2.1 = h)
    (hk : base.length = k) (hf : front'.map (rn (keepK k b)) = front) (hx : ∀ i x, (⟨k, base⟩ : Hp).blk? i = some x → h.blk? i = some x ∧ ∀ v ∈ x.1, still v = true) (hy : h.blk? b = some y) (hb : k ≤ b) (sy : ∀ v ∈ y.1, still v = true) (hw : ∀ v ∈ front', lt (k + 1) v = true) :
    RunsW T c x0 fun e z => e = ex ∧ (∃ g, z.1 = front' ++ tl n g) ∧ z.2.1 = ⟨k + 1, y :: base⟩ := by
  refine hr.small fun e z he => .inr ?_
  obtain ⟨rfl, ⟨g, h1⟩, h2⟩ := he
  obtain ⟨t, h', s⟩ := z
  simp only at h1 h2
  subst h1 h2
  refine ⟨front, front', tl n g, h', ⟨k + 1, y :: base⟩, s, keepK k b, rfl, hf, by simp [hk], Nat.succ_pos _, fun i z hz => ?_, fun i j u v hi hj _ _ hij => ?_, hw, fun g' => ⟨rfl, ⟨g', by rw [tl_len]⟩, rfl⟩⟩
  · rcases blkK1 hk hz with ⟨hi, hz'⟩ | ⟨rfl, rfl⟩
    · obtain ⟨q1, q2⟩ := hx i z hz'
      exact ⟨q2, z, [], by unfold keepK; rw [if_pos (blt_iff.2 hi)]; exact q1, rfl, by simp⟩
    · exact ⟨sy, z, [], by unfold keepK; rw [if_neg (by rw [blt_iff]; omega)]; exact hy, rfl, by simp⟩
  · unfold keepK at hij
    rcases blkK1 hk hi with ⟨h1, _⟩ | ⟨rfl, _⟩ <;> rcases blkK1 hk hj with ⟨h2, _⟩ | ⟨rfl, _⟩
    · rw [if_pos (blt_iff.2 h1), if_pos (blt_iff.2 h2)] at hij; exact hij
    · rw [if_pos (blt_iff.2 h1), if_neg (by rw [blt_iff]; omega)] at hij; omega
    · rw [if_pos (blt_iff.2 h2), if_neg (by rw [blt_iff]; omega)] at hij; omega
    · rfl
/-- a call with rows whose answer holds no address, and that keeps no block -/
theorem row_calls0 {T : Tab} {f : Nat} {F : Func} {c : Code} (hF : T.P.funcs[f]? = some F) (hc : F.body = some c) {h0 : Hp} (hr : h0.rows) {vals : List Value} (hvals : ∀ v ∈ vals, lt h0.n v = true) {v : Value} (hv : lt 0 v = true)
    (hrun : RunsW T c (vals ++ List.replicate (F.ntmps - vals.length) undef, h0, []) fun e y => (e = none ∨ e = some none) ∧ resS T.P F y.1 y.2.1 = some v)
    {m : Mp} {B : Nat} {h : Hp} {w : World} (E : Emb m B h w) {s : Nat → Nat} (hf : h0.fits s h) :
    Calls T.P f ((vals.map (rn s)).map (mv m)).toArray w fun e w' => ∃ m', e = .returned (mv m' v) ∧ Came m B h w v h m' w' := by
  have E0 := E.small hr hf
  have ev : (vals.map (rn s)).map (mv m) = vals.map (mv fun i => m (s i)) := by
    rw [List.map_map]
    exact List.map_congr_left fun y _ => mv_rn m s y
  rw [ev]
  refine calls_of_wp hF hc ?_
  have R : Rel (fun i => m (s i)) w.heap.size (vals ++ List.replicate (F.ntmps - vals.length) undef, h0, []) { tmps := (vals.map (mv fun i => m (s i))).toArray ++ Array.replicate (F.ntmps - (vals.map (mv fun i => m (s i))).toArray.size) undef, defers := [] } w := by
    refine ⟨?_, rfl, E0, ?_⟩
    · simp [mv_undef]
    · intro y hy
      rcases List.mem_append.1 hy with hy | hy
      · exact hvals y hy
      · rw [List.eq_of_mem_replicate hy]; simp [undef, lt]
  refine hrun _ _ _ w R _ fun e y he m1 a' w' k2 k3 => ?_
  obtain ⟨hex, hres⟩ := he
  obtain ⟨r1, r2⟩ := resS_run k2.emb k2.wf hres
  rw [← k2.tmps, mv_still hv] at r1
  have td : Tidy w w' := ⟨k3, fun k h1 h2 => k2.emb.ice k h1 h2⟩
  obtain ⟨E', hb⟩ := clean_emb E td
  have post : a'.defers = [] ∧ ∃ v', (results F a'.tmps).run T.P w' = .ok v' w' ∧ ∃ m', Ending.returned v' = .returned (mv m' v) ∧ Came m B h w v h m' w' :=
    ⟨k2.dfr, _, r1, m, by rw [mv_still hv], ⟨Agree.refl _ _, E', hb, Nat.le_refl _, lt_mono (Nat.zero_le _) hv⟩⟩
  rcases hex with rfl | rfl <;> exact post
end Go.KRun
namespace Go.Nt
/-- a number's value, of digits to a base -/
def vb (b : Nat) : List Int → Nat
  | [] => 0
  | x :: l => x.toNat + b * vb b l
/-- a number's digits -/
def db (b V : Nat) : List Int := if _h : V = 0 ∨ b < 2 then [] else ((V % b : Nat) : Int) :: db b (V / b)
  termination_by V
  decreasing_by exact Nat.div_lt_self (by omega) (by omega)
/-- digits to a base -/
abbrev Dg (b : Nat) (x : Int) : Prop := 0 ≤ x ∧ x < b
theorem db_zero (b : Nat) : db b 0 = [] := by rw [db]; simp
theorem db_pos {b V : Nat} (hb : 2 ≤ b) (hV : V ≠ 0) : db b V = ((V % b : Nat) : Int) :: db b (V / b) := by
  rw [db]
  rw [dif_neg (by omega)]
theorem vb_db {b : Nat} (hb : 2 ≤ b) (V : Nat) : vb b (db b V) = V := by
  induction V using Nat.strongRecOn with
  | ind V ih =>
    by_cases hV : V = 0
    · subst hV; rw [db_zero]; rfl
    · rw [db_pos hb hV]
      simp only [vb]
      rw [ih (V / b) (Nat.div_lt_self (by omega) (by omega)), Int.toNat_natCast]
      exact Nat.mod_add_div V b
theorem db_dg {b : Nat} (hb : 2 ≤ b) (V : Nat) : ∀ x ∈ db b V, Dg b x := by
  induction V using Nat.strongRecOn with
  | ind V ih =>
    by_cases hV : V = 0
    · subst hV; rw [db_zero]; intro x hx; cases hx
    · rw [db_pos hb hV]
      intro x hx
      rcases List.mem_cons.1 hx with rfl | hx
      · have := Nat.mod_lt V (show b > 0 by omega)
        exact ⟨by omega, by omega⟩
      · exact ih (V / b) (Nat.div_lt_self (by omega) (by omega)) x hx
theorem db_nil {b V : Nat} (hb : 2 ≤ b) : db b V = [] ↔ V = 0 := by
  constructor
  · intro h
    by_cases hV : V = 0
    · exact hV
    · rw [db_pos hb hV] at h; cases h
  · rintro rfl; exact db_zero b
/-- digits without noughts at the end are the number's -/
theorem take_trim {b : Nat} (hb : 2 ≤ b) : ∀ (L : List Int), (∀ x ∈ L, Dg b x) → L.take (trimN L) = db b (vb b L)
  | [], _ => by simp [vb, db_zero]
  | x :: r, h => by
    have ih := take_trim hb r (fun y hy => h y (List.mem_cons_of_mem _ hy))
    have hx := h x (List.mem_cons_self)
    have hxn : ((x.toNat : Nat) : Int) = x := Int.toNat_of_nonneg hx.1
    have hlt : x.toNat < b := by omega
    have e1 : (x.toNat + b * vb b r) % b = x.toNat := by rw [Nat.add_mul_mod_self_left, Nat.mod_eq_of_lt hlt]
    have e2 : (x.toNat + b * vb b r) / b = vb b r := by rw [Nat.add_mul_div_left _ _ (by omega), Nat.div_eq_of_lt hlt, Nat.zero_add]
    unfold trimN
    by_cases h0 : trimN r = 0
    · rw [if_pos h0]
      rw [h0, List.take_zero] at ih
      have hv : vb b r = 0 := (db_nil hb).1 ih.symm
      by_cases hx0 : x = 0
      · rw [if_pos hx0]
        simp only [List.take_zero, vb, hv, hx0]
        simp [db_zero]
      · rw [if_neg hx0]
        have hx1 : x.toNat ≠ 0 := by omega
        show [x] = _
        simp only [vb]
        rw [db_pos hb (by rw [hv]; omega), e1, e2, hv, db_zero, hxn]
    · rw [if_neg h0]
      have hv : vb b r ≠ 0 := fun hv => by
        rw [hv, db_zero] at ih
        have hl := congrArg List.length ih
        have := trimN_le r
        simp at hl
        rcases hl with hl | hl
        · exact h0 hl
        · subst hl; exact h0 rfl
      have hpos : 0 < b * vb b r := Nat.mul_pos (by omega) (by omega)
      show x :: r.take (trimN r) = _
      simp only [vb]
      rw [db_pos hb (by omega), e1, e2, hxn, ih]
theorem trim_len {b : Nat} (hb : 2 ≤ b) {L : List Int} (h : ∀ x ∈ L, Dg b x) : trimN L = (db b (vb b L)).length := by
  rw [← take_trim hb L h]
  have := trimN_le L
  simp
  omega
/-- a number's digits are those of it -/
def Canon (b : Nat) (L : List Int) : Prop := (∀ x ∈ L, Dg b x) ∧ trimN L = L.length
theorem can_db {b : Nat} (hb : 2 ≤ b) (V : Nat) : Canon b (db b V) := by
  have h := db_dg hb V
  refine ⟨h, ?_⟩
  have := trim_len hb h
  rw [vb_db hb] at this
  exact this
theorem db_can {b : Nat} (hb : 2 ≤ b) {L : List Int} (h : Canon b L) : db b (vb b L) = L := by
  rw [← take_trim hb L h.1, h.2, List.take_length]
theorem db_len {b : Nat} (hb : 2 ≤ b) : ∀ (k V : Nat), V < b ^ k → (db b V).length ≤ k
  | 0, V, h => by
    have : V = 0 := by simpa using h
    subst this; rw [db_zero]; exact Nat.le_refl _
  | k + 1, V, h => by
    by_cases hV : V = 0
    · subst hV; rw [db_zero]; exact Nat.zero_le _
    · rw [db_pos hb hV]
      have : V / b < b ^ k := Nat.div_lt_of_lt_mul (by rw [Nat.pow_succ] at h; rw [Nat.mul_comm]; exact h)
      have := db_len hb k (V / b) this
      simp
      omega
theorem vb_lt {b : Nat} (hb : 2 ≤ b) : ∀ (L : List Int), (∀ x ∈ L, Dg b x) → vb b L < b ^ L.length
  | [], _ => by simp [vb]
  | x :: r, h => by
    have ih := vb_lt hb r (fun y hy => h y (List.mem_cons_of_mem _ hy))
    have hx := h x (List.mem_cons_self)
    have hlt : x.toNat < b := by omega
    simp only [vb, List.length_cons, Nat.pow_succ]
    calc x.toNat + b * vb b r < b + b * vb b r := by omega
      _ = b * (vb b r + 1) := by rw [Nat.mul_add, Nat.mul_one, Nat.add_comm]
      _ ≤ b * b ^ r.length := Nat.mul_le_mul_left _ ih
      _ = b ^ r.length * b := Nat.mul_comm _ _
theorem vb_append (b : Nat) : ∀ (L M : List Int), vb b (L ++ M) = vb b L + b ^ L.length * vb b M
  | [], M => by simp [vb]
  | x :: r, M => by
    simp only [List.cons_append, vb, vb_append b r M, List.length_cons, Nat.pow_succ]
    rw [Nat.mul_add, ← Nat.mul_assoc, Nat.mul_comm b (b ^ r.length)]
    omega
end Go.Nt
namespace Go.Proofs.YtgefjidphfdhdabGreatDoor
open Go.KRun Go.Nt
set_option maxRecDepth 100000
/-- a capacity that is known, or the whole block's -/
def capOk (o n c : Nat) : Bool := (smallC c && Nat.ble n c) || (Nat.beq c grown && Nat.beq o 0)
/-- a row of words, its capacity known or the whole block's -/
def rowC (ty : TypeId) (l : List Value) (o n c : Nat) : Bool := !(tomb ty) && Nat.beq (rt ty) tU && Nat.ble (o + n) l.length && Nat.blt n 4611686018427387904 && capOk o n c && (cutV l o n).all isU && l.all still
theorem rowC_of {ty : TypeId} {l : List Value} {o n c : Nat} (h : rowC ty l o n c = true) : Row l o (cutI l o n) ∧ (cutI l o n).length = n ∧ n < 4611686018427387904 ∧ capOk o n c = true ∧ tomb ty = false ∧ rt ty = tU ∧ ∀ v ∈ l, still v = true := by
  unfold rowC at h
  simp only [Bool.and_eq_true, Bool.not_eq_true'] at h
  obtain ⟨⟨⟨⟨⟨⟨h1, h2⟩, h3⟩, h4⟩, h5⟩, h6⟩, h7⟩ := h
  have h2 := Nat.eq_of_beq_eq_true h2
  have h3 := Nat.le_of_ble_eq_true h3
  have h4 := blt_iff.1 h4
  have hlen : (cutI l o n).length = n := by unfold cutI cutV; simp; omega
  refine ⟨⟨by rw [hlen]; exact h3, by rw [hlen]; exact cutV_words h6, fun x hx => ?_⟩, hlen, h4, h5, h1, h2, List.all_eq_true.1 h7⟩
  unfold cutI at hx
  obtain ⟨v, hv, rfl⟩ := List.mem_map.1 hx
  have := isU_spec (List.all_eq_true.1 h6 v hv)
  exact ⟨this.2.1, this.2.2⟩
end Go.Proofs.YtgefjidphfdhdabGreatDoor
namespace Go.Nt
theorem vb_one (b : Nat) (x : Int) : vb b [x] = x.toNat := by simp [vb]
theorem vb_take (b : Nat) (L : List Int) (i : Nat) : vb b (L.take (i + 1)) = vb b (L.take i) + b ^ i * (L.getD i 0).toNat := by
  by_cases h : i < L.length
  · have e : L.take (i + 1) = L.take i ++ [L.getD i 0] := by
      rw [List.take_add_one, List.getElem?_eq_getElem h]
      simp [List.getD, List.getElem?_eq_getElem h]
    rw [e, vb_append, vb_one, List.length_take]
    rw [show min i L.length = i from by omega]
  · rw [List.take_of_length_le (by omega), List.take_of_length_le (by omega)]
    simp [List.getD, List.getElem?_eq_none (show L.length ≤ i by omega)]
end Go.Nt
namespace Go.Proofs.YtgefjidphfdhdabGreatDoor
open Go.KRun Go.Nt
set_option maxRecDepth 100000
theorem wU_still (L : List Int) : ∀ v ∈ wU L, still v = true := fun v hv => by
  unfold wU at hv
  obtain ⟨x, _, rfl⟩ := List.mem_map.1 hv
  rfl
theorem wU_one (L : List Int) : (wU L).all one = true := List.all_eq_true.2 fun v hv => by
  unfold wU at hv
  obtain ⟨x, _, rfl⟩ := List.mem_map.1 hv
  rfl
theorem wU_len (L : List Int) : (wU L).length = L.length := by simp [wU]
theorem cut_wU (L : List Int) : cutI (wU L) 0 L.length = L := by
  unfold cutI cutV
  rw [List.drop_zero, ← wU_len, List.take_length]
  unfold wU
  rw [List.map_map]
  exact List.map_id' _
theorem wU_lt (L : List Int) : ∀ u ∈ wU L, lt1 0 u = true := fun v hv => by
  unfold wU at hv
  obtain ⟨x, _, rfl⟩ := List.mem_map.1 hv
  rfl
/-- the words of a row or of nothing -/
def rowOf (h : Hp) (p : Option Addr) (n : Nat) : List Int :=
  match p with
  | none => []
  | some a =>
    match h.blk? a.block with
    | some x => cutI x.1 a.off n
    | none => []
/-- it is one -/
def rowP (h : Hp) (p : Option Addr) (n c : Nat) : Bool :=
  match p with
  | none => Nat.beq n 0 && Nat.beq c 0
  | some a =>
    match a.spot, h.blk? a.block with
    | none, some x => rowC x.2 x.1 a.off n c && x.1.all still
    | _, _ => false
theorem rowP_cases {h : Hp} {p : Option Addr} {n c : Nat} (hr : rowP h p n c = true) : (p = none ∧ n = 0 ∧ c = 0 ∧ rowOf h p n = []) ∨ ∃ b o x, p = some ⟨b, o, none⟩ ∧ h.blk? b = some x ∧ rowC x.2 x.1 o n c = true ∧ (∀ v ∈ x.1, still v = true) ∧ rowOf h p n = cutI x.1 o n := by
  unfold rowP at hr
  split at hr
  · simp only [Bool.and_eq_true] at hr
    exact .inl ⟨rfl, Nat.eq_of_beq_eq_true hr.1, Nat.eq_of_beq_eq_true hr.2, rfl⟩
  · rename_i a
    split at hr
    · rename_i x hs hx
      simp only [Bool.and_eq_true] at hr
      obtain ⟨b, o, sp⟩ := a
      simp only at hs hx
      subst hs
      exact .inr ⟨b, o, x, rfl, hx, hr.1, List.all_eq_true.1 hr.2, by simp [rowOf, hx]⟩
    · cases hr
end Go.Proofs.YtgefjidphfdhdabGreatDoor
namespace Go.KRun
open Go.RowKit
/-- a call that keeps one block of its own, whichever it is -/
theorem row_calls2 {T : Tab} {f : Nat} {F : Func} {c : Code} (hF : T.P.funcs[f]? = some F) (hc : F.body = some c) {h0 : Hp} (hr : h0.rows) {vals : List Value} (hvals : ∀ v ∈ vals, lt h0.n v = true) {v : Nat → Value}
    {cs : List Value} {ty : TypeId} (hcs : ∀ u ∈ cs, lt1 0 u = true) (hty : ro ty = false)
    (hrun : RunsW T c (vals ++ List.replicate (F.ntmps - vals.length) undef, h0, []) fun e y => (e = none ∨ e = some none) ∧ ∃ k, resS T.P F y.1 y.2.1 = some (v k) ∧ ∃ r, y.2.1.blk? k = some (cs ++ r, ty))
    (hv0 : ∀ k, oc [k] (v k) = true)
    {m : Mp} {B : Nat} {h : Hp} {w : World} (E : Emb m B h w) {s : Nat → Nat} (hf : h0.fits s h) (hv1 : ∀ k, rn (fun _ => h.n) (v k) = v h.n) :
    Calls T.P f ((vals.map (rn s)).map (mv m)).toArray w fun e w' => ∃ m', e = .returned (mv m' (v h.n)) ∧ Came m B h w (v h.n) (h.push cs ty) m' w' := by
  have E0 := E.small hr hf
  have ev : (vals.map (rn s)).map (mv m) = vals.map (mv fun i => m (s i)) := by
    rw [List.map_map]
    exact List.map_congr_left fun y _ => mv_rn m s y
  rw [ev]
  refine calls_of_wp hF hc ?_
  have R : Rel (fun i => m (s i)) w.heap.size (vals ++ List.replicate (F.ntmps - vals.length) undef, h0, []) { tmps := (vals.map (mv fun i => m (s i))).toArray ++ Array.replicate (F.ntmps - (vals.map (mv fun i => m (s i))).toArray.size) undef, defers := [] } w := by
    refine ⟨?_, rfl, E0, ?_⟩
    · simp [mv_undef]
    · intro y hy
      rcases List.mem_append.1 hy with hy | hy
      · exact hvals y hy
      · rw [List.eq_of_mem_replicate hy]; simp [undef, lt]
  refine hrun _ _ _ w R _ fun e y he m1 a' w' k2 k3 => ?_
  obtain ⟨hex, k, hres, r, hblk⟩ := he
  obtain ⟨r1, r2⟩ := resS_run k2.emb k2.wf hres
  rw [← k2.tmps] at r1
  have td : Tidy w w' := ⟨k3, fun k h1 h2 => k2.emb.ice k h1 h2⟩
  obtain ⟨E', hb⟩ := clean_emb E td
  have hlow : w.heap.size ≤ (m1 k).1 := k2.emb.low k _ hblk hty
  have hlie : lie w' (m1 k) (cs.map (mv1 m)) ty := by
    obtain ⟨r', z, l0, l1, l2⟩ := k2.emb.lies k _ hblk (tomb_ro hty)
    have e : cs.map (mv1 m1) = cs.map (mv1 m) := map_still hcs
    simp only [List.map_append] at l0 l1
    refine ⟨r.map (mv1 m1) ++ r', z, ?_, ?_, l2⟩
    · simp at l0 ⊢; omega
    · rw [← e, l1, List.append_assoc]
  have Ea := E'.adopt cs ty hty (fun u hu => lt1_mono (Nat.zero_le _) (hcs u hu)) hlie (Nat.le_trans E.base hlow) (fun b x hbx hx heq => by
    have := E.here hbx (tomb_ro hx)
    omega)
  have e1 : mv m1 (v k) = mv (upd m h.n (m1 k)) (v h.n) := by
    rw [← hv1 k, mv_rn]
    refine mv_on (fun b hb => ?_) (hv0 k)
    rw [List.mem_singleton.1 hb]
    simp [upd]
  rw [e1] at r1
  have hlt : lt (h.n + 1) (v h.n) = true := by rw [← hv1 k]; exact oc_ren (bs := [k]) (fun b hb => by show h.n < h.n + 1; omega) (hv0 k)
  have post : a'.defers = [] ∧ ∃ v', (results F a'.tmps).run T.P w' = .ok v' w' ∧ ∃ m', Ending.returned v' = .returned (mv m' (v h.n)) ∧ Came m B h w (v h.n) (h.push cs ty) m' w' :=
    ⟨k2.dfr, _, r1, upd m h.n (m1 k), rfl, ⟨upd_agree _ _ _, Ea, hb, Nat.le_succ _, hlt⟩⟩
  rcases hex with rfl | rfl <;> exact post
/-- a call that leaves the small memory as it is, and whose answer holds no address -/
theorem hcalls_keep {T : Tab} {f : Nat} {F : Func} {c : Code} (hF : T.P.funcs[f]? = some F) (hc : F.body = some c) {vals : List Value} {v : Value} {h : Hp} (hv : lt 0 v = true)
    (hr : Runs T c (vals ++ List.replicate (F.ntmps - vals.length) undef, h, []) fun e y => (e = none ∨ e = some none) ∧ resS T.P F y.1 y.2.1 = some v ∧ y.2.1 = h) (m : Mp) (B : Nat) (w : World) (E : Emb m B h w) (hvals : ∀ v ∈ vals, lt h.n v = true) :
    Calls T.P f (vals.map (mv m)).toArray w fun e w' => ∃ m', e = .returned (mv m' v) ∧ Came m B h w v h m' w' := by
  refine calls_of_wp hF hc ?_
  have R : Rel m B (vals ++ List.replicate (F.ntmps - vals.length) undef, h, []) { tmps := (vals.map (mv m)).toArray ++ Array.replicate (F.ntmps - (vals.map (mv m)).toArray.size) undef, defers := [] } w := by
    refine ⟨?_, rfl, E, ?_⟩
    · simp [mv_undef]
    · intro y hy
      rcases List.mem_append.1 hy with hy | hy
      · exact hvals y hy
      · rw [List.eq_of_mem_replicate hy]; simp [undef, lt]
  refine hr _ _ _ w R _ fun e y he a' w' hR => ?_
  obtain ⟨hex, hres, hh⟩ := he
  obtain ⟨m1, k1, k2, k3, _⟩ := hR
  obtain ⟨r1, r2⟩ := resS_run k2.emb k2.wf hres
  rw [← k2.tmps] at r1
  have Ek : Emb m1 B h w' := by
    have := k2.emb
    rw [hh] at this
    exact this
  have post : a'.defers = [] ∧ ∃ v', (results F a'.tmps).run T.P w' = .ok v' w' ∧ ∃ m', Ending.returned v' = .returned (mv m' v) ∧ Came m B h w v h m' w' :=
    ⟨k2.dfr, _, r1, m1, rfl, ⟨k1, Ek, k3, Nat.le_refl _, lt_mono (Nat.zero_le _) hv⟩⟩
  rcases hex with rfl | rfl <;> exact post
/-- a call that keeps two blocks of its own -/
theorem row_callsT {T : Tab} {f : Nat} {F : Func} {c : Code} (hF : T.P.funcs[f]? = some F) (hc : F.body = some c) {h0 : Hp} (hr : h0.rows) {vals : List Value} (hvals : ∀ v ∈ vals, lt h0.n v = true) {v : Nat → Nat → Value}
    {cs ds : List Value} {ty : TypeId} (hcs : ∀ u ∈ cs, lt1 0 u = true) (hds : ∀ u ∈ ds, lt1 0 u = true) (hty : ro ty = false)
    (hrun : RunsW T c (vals ++ List.replicate (F.ntmps - vals.length) undef, h0, []) fun e y => (e = none ∨ e = some none) ∧ ∃ k j, k ≠ j ∧ resS T.P F y.1 y.2.1 = some (v k j) ∧ (∃ r, y.2.1.blk? k = some (cs ++ r, ty)) ∧ ∃ r, y.2.1.blk? j = some (ds ++ r, ty))
    (hv0 : ∀ k j, oc [k, j] (v k j) = true)
    {m : Mp} {B : Nat} {h : Hp} {w : World} (E : Emb m B h w) {s : Nat → Nat} (hf : h0.fits s h) (hv1 : ∀ k j, ∀ g : Nat → Nat, rn g (v k j) = v (g k) (g j)) :
    Calls T.P f ((vals.map (rn s)).map (mv m)).toArray w fun e w' => ∃ m', e = .returned (mv m' (v h.n (h.n + 1))) ∧ Came m B h w (v h.n (h.n + 1)) ((h.push cs ty).push ds ty) m' w' := by
  have E0 := E.small hr hf
  have ev : (vals.map (rn s)).map (mv m) = vals.map (mv fun i => m (s i)) := by
    rw [List.map_map]
    exact List.map_congr_left fun y _ => mv_rn m s y
  rw [ev]
  refine calls_of_wp hF hc ?_
  have R : Rel (fun i => m (s i)) w.heap.size (vals ++ List.replicate (F.ntmps - vals.length) undef, h0, []) { tmps := (vals.map (mv fun i => m (s i))).toArray ++ Array.replicate (F.ntmps - (vals.map (mv fun i => m (s i))).toArray.size) undef, defers := [] } w := by
    refine ⟨?_, rfl, E0, ?_⟩
    · simp [mv_undef]
    · intro y hy
      rcases List.mem_append.1 hy with hy | hy
      · exact hvals y hy
      · rw [List.eq_of_mem_replicate hy]; simp [undef, lt]
  refine hrun _ _ _ w R _ fun e y he m1 a' w' k2 k3 => ?_
  obtain ⟨hex, k, j, hkj, hres, ⟨r, hblk⟩, r', hblj⟩ := he
  obtain ⟨r1, r2⟩ := resS_run k2.emb k2.wf hres
  rw [← k2.tmps] at r1
  have td : Tidy w w' := ⟨k3, fun k h1 h2 => k2.emb.ice k h1 h2⟩
  obtain ⟨E', hb⟩ := clean_emb E td
  have low : ∀ {k : Nat} {x : List Value × TypeId}, y.2.1.blk? k = some x → ro x.2 = false → w.heap.size ≤ (m1 k).1 := fun h1 h2 => k2.emb.low _ _ h1 h2
  have hlie : ∀ {k : Nat} {cs r : List Value}, (∀ u ∈ cs, lt1 0 u = true) → y.2.1.blk? k = some (cs ++ r, ty) → ∀ m' : Mp, lie w' (m1 k) (cs.map (mv1 m')) ty := fun {k cs r} hcs hblk m' => by
    obtain ⟨r', z, l0, l1, l2⟩ := k2.emb.lies k _ hblk (tomb_ro hty)
    have e : cs.map (mv1 m1) = cs.map (mv1 m') := map_still hcs
    simp only [List.map_append] at l0 l1
    refine ⟨r.map (mv1 m1) ++ r', z, ?_, ?_, l2⟩
    · simp at l0 ⊢; omega
    · rw [← e, l1, List.append_assoc]
  have lk := low hblk hty
  have lj := low hblj hty
  have Ea := E'.adopt cs ty hty (fun u hu => lt1_mono (Nat.zero_le _) (hcs u hu)) (hlie hcs hblk m) (Nat.le_trans E.base lk) (fun b x hbx hx heq => by
    have := E.here hbx (tomb_ro hx)
    omega)
  have Eb := Ea.adopt ds ty hty (fun u hu => lt1_mono (Nat.zero_le _) (hds u hu)) (hlie hds hblj (upd m h.n (m1 k))) (Nat.le_trans E.base lj) (fun b x hbx hx heq => by
    rw [Hp.blk_push E.len] at hbx
    by_cases h1 : b = h.n
    · subst h1
      simp only [upd, if_pos] at heq
      exact hkj (k2.emb.inj k j _ _ hblk hblj hty hty heq)
    · rw [if_neg h1] at hbx
      simp only [upd, if_neg h1] at heq
      have := E.here hbx (tomb_ro hx)
      omega)
  have hn : (h.push cs ty).n = h.n + 1 := rfl
  rw [hn] at Eb
  have e1 : mv m1 (v k j) = mv (upd (upd m h.n (m1 k)) (h.n + 1) (m1 j)) (v h.n (h.n + 1)) := by
    have e2 := hv1 k j (fun b => if b = k then h.n else h.n + 1)
    simp only [if_pos, if_neg (Ne.symm hkj)] at e2
    rw [← e2, mv_rn]
    refine mv_on (fun b hb => ?_) (hv0 k j)
    simp only [List.mem_cons, List.not_mem_nil, or_false] at hb
    rcases hb with rfl | rfl
    · simp [upd]
    · simp [upd, Ne.symm hkj]
  rw [e1] at r1
  have hlt : lt (h.n + 2) (v h.n (h.n + 1)) = true := by
    have e2 := hv1 k j (fun b => if b = k then h.n else h.n + 1)
    simp only [if_pos, if_neg (Ne.symm hkj)] at e2
    rw [← e2]
    exact oc_ren (bs := [k, j]) (fun b hb => by split <;> omega) (hv0 k j)
  have post : a'.defers = [] ∧ ∃ v', (results F a'.tmps).run T.P w' = .ok v' w' ∧ ∃ m', Ending.returned v' = .returned (mv m' (v h.n (h.n + 1))) ∧ Came m B h w (v h.n (h.n + 1)) ((h.push cs ty).push ds ty) m' w' :=
    ⟨k2.dfr, _, r1, _, rfl, ⟨(upd_agree m h.n (m1 k)).trans (upd_agree _ _ _) (by omega), Eb, hb, by show h.n ≤ h.n + 1 + 1; omega, hlt⟩⟩
  rcases hex with rfl | rfl <;> exact post
end Go.KRun
namespace Go.Proofs.YtgefjidphfdhdabGreatDoor
open Go.KRun
theorem okL1 {a b : Bool} (h : a = b) : okLog [(a, b)] := fun p hp => by rw [List.mem_singleton.1 hp]; exact h
theorem okCons {a b : Bool} {l : Log} (h : a = b) (hl : okLog l) : okLog ((a, b) :: l) := fun p hp => by
  rcases List.mem_cons.1 hp with rfl | hp
  · exact h
  · exact hl p hp
theorem okCs {a b : Bool} {l : Log} : okLog ((a, b) :: l) ↔ a = b ∧ okLog l := ⟨fun h => ⟨h _ (List.mem_cons_self), fun x hx => h x (List.mem_cons_of_mem _ hx)⟩, fun h => okCons h.1 h.2⟩
theorem okNl : okLog [] := fun x hx => by cases hx
end Go.Proofs.YtgefjidphfdhdabGreatDoor
namespace Go.Proofs.YtgefjidphfdhdabGreatDoor.Na
open Go.KRun Go.Nt
set_option maxRecDepth 100000
set_option linter.unusedVariables false
/-- a row or nothing, its capacity known -/
def rowX (h : Hp) (p : Option Addr) (n c : Nat) : Bool :=
  match p with
  | none => Nat.beq n 0 && Nat.beq c 0
  | some a =>
    match a.spot, h.blk? a.block with
    | none, some x => rowOk x.2 x.1 a.off n c
    | _, _ => false
theorem rowX_cases {h : Hp} {p : Option Addr} {n c : Nat} (hr : rowX h p n c = true) : (p = none ∧ n = 0 ∧ c = 0 ∧ rowOf h p n = []) ∨ ∃ b o x, p = some ⟨b, o, none⟩ ∧ h.blk? b = some x ∧ rowOk x.2 x.1 o n c = true ∧ rowOf h p n = cutI x.1 o n := by
  unfold rowX at hr
  split at hr
  · simp only [Bool.and_eq_true] at hr
    exact .inl ⟨rfl, Nat.eq_of_beq_eq_true hr.1, Nat.eq_of_beq_eq_true hr.2, rfl⟩
  · rename_i a
    split at hr
    · rename_i x hs hx
      obtain ⟨b, o, sp⟩ := a
      simp only at hs hx
      subst hs
      exact .inr ⟨b, o, x, rfl, hx, hr, by simp [rowOf, hx]⟩
    · cases hr
theorem badL_nil : badL [] = false := rfl
/-! ### Check -/
def gChkU : AnsH := fun vals h s =>
  match vals, s with
  | [.slice p n c], .inr (.inr (.inr (.inl d))) :: s' => some (errD d, h, s', [(rowX h p n c, true), (badL (rowOf h p n), d)])
  | _, _ => none
theorem gChkU_ok : AnsHOk 57 gChkU := by
  intro vals h s v h' s' lg hg hl m B w E hv
  unfold gChkU at hg
  split at hg
  · rename_i p n c d s2
    cases hg
    have l1 := hl _ (List.mem_cons_self)
    have l2 := hl _ (List.mem_cons_of_mem _ (List.mem_singleton.2 rfl))
    simp only at l1 l2
    rcases rowX_cases l1 with ⟨rfl, rfl, rfl, e0⟩ | ⟨b, o, x, rfl, hx, r1, e0⟩
    · rw [e0, badL_nil] at l2
      subst l2
      exact gChk_ok _ h [] _ _ _ _ rfl (fun x hx => by cases hx) m B w E hv
    · rw [e0] at l2
      exact gChk_ok _ h [cmp d] (errD d) h [] [(rowOk x.2 x.1 o n c, true), (badL (cutI x.1 o n), d)] (by simp only [gChk, hx]) (okCons r1 (okL1 l2)) m B w E hv
  · cases hg
/-! ### checkBoth -/
def gBothU : AnsH := fun vals h s =>
  match vals, s with
  | [.slice p n c, .slice q n' c'], .inr (.inr (.inr (.inl d))) :: s' => some (errD d, h, s', [(rowX h p n c, true), (rowX h q n' c', true), (badL (rowOf h p n) || badL (rowOf h q n'), d)])
  | _, _ => none
theorem log3 {a b c : Bool × Bool} (h : okLog [a, b, c]) : a.1 = a.2 ∧ b.1 = b.2 ∧ c.1 = c.2 := ⟨h _ (by simp), h _ (by simp), h _ (by simp)⟩
theorem gBothU_ok : AnsHOk 61 gBothU := by
  intro vals h s v h' s' lg hg hl m B w E hv
  unfold gBothU at hg
  split at hg
  · rename_i p n c q n' c' d s2
    cases hg
    obtain ⟨l1, l2, l3⟩ := log3 hl
    simp only at l1 l2 l3
    rcases rowX_cases l1 with ⟨rfl, rfl, rfl, e0⟩ | ⟨b, o, x, rfl, hx, r1, e0⟩ <;> rcases rowX_cases l2 with ⟨rfl, rfl, rfl, f0⟩ | ⟨b', o', y, rfl, hy, t1, f0⟩ <;> simp only [e0, f0] at l3
    · rw [badL_nil, Bool.or_self] at l3
      subst l3
      exact gBoth_ok _ h [] _ _ _ _ rfl (fun x hx => by cases hx) m B w E hv
    · rw [badL_nil, Bool.false_or] at l3
      exact gBoth_ok _ h [cmp d] (errD d) h [] [(rowOk y.2 y.1 o' n' c', true), (badL (cutI y.1 o' n'), d)] (by simp only [gBoth, hy]) (okCons t1 (okL1 l3)) m B w E hv
    · rw [badL_nil, Bool.or_false] at l3
      exact gBoth_ok _ h [cmp d] (errD d) h [] [(rowOk x.2 x.1 o n c, true), (badL (cutI x.1 o n), d)] (by simp only [gBoth, hx]) (okCons r1 (okL1 l3)) m B w E hv
    · exact gBoth_ok _ h [cmp d] (errD d) h [] [(rowOk x.2 x.1 o n c, true), (rowOk y.2 y.1 o' n' c', true), (badL (cutI x.1 o n) || badL (cutI y.1 o' n'), d)] (by simp only [gBoth, hx, hy]) (okCons r1 (okCons t1 (okL1 l3))) m B w E hv
  · cases hg
/-! ### compare -/
def gCmpU : AnsH := fun vals h s =>
  match vals with
  | [.slice p n c, .slice q n' c'] => some (i6' (cmpL (rowOf h p n) (rowOf h q n')), h, s, [(rowX h p n c, true), (rowX h q n' c', true)])
  | _ => none
theorem cmp0_l {L : List Int} {n : Nat} (h : L.length = n) : cmpL [] L = cmp0 0 n := by
  unfold cmpL cmp0
  rw [h, List.length_nil]
  split
  · rfl
  · rfl
theorem cmp0_r {L : List Int} {n : Nat} (h : L.length = n) : cmpL L [] = cmp0 n 0 := by
  unfold cmpL cmp0
  rw [h, List.length_nil]
  split
  · rename_i h0; rw [h0]; rfl
  · rfl
theorem gCmpU_ok : AnsHOk 122 gCmpU := by
  intro vals h s v h' s' lg hg hl m B w E hv
  unfold gCmpU at hg
  split at hg
  · rename_i p n c q n' c'
    cases hg
    have l1 := hl _ (List.mem_cons_self)
    have l2 := hl _ (List.mem_cons_of_mem _ (List.mem_singleton.2 rfl))
    simp only at l1 l2
    rcases rowX_cases l1 with ⟨rfl, rfl, rfl, e0⟩ | ⟨b, o, x, rfl, hx, r1, e0⟩ <;> rcases rowX_cases l2 with ⟨rfl, rfl, rfl, f0⟩ | ⟨b', o', y, rfl, hy, t1, f0⟩ <;> simp only [e0, f0]
    · exact gCmp_ok _ h s _ _ _ _ rfl (fun x hx => by cases hx) m B w E hv
    · rw [cmp0_l (row_of t1).2.1]
      exact gCmp_ok _ h s _ _ _ _ rfl (fun x hx => by cases hx) m B w E hv
    · rw [cmp0_r (row_of r1).2.1]
      exact gCmp_ok _ h s _ _ _ _ rfl (fun x hx => by cases hx) m B w E hv
    · exact gCmp_ok _ h s _ h s [(rowOk x.2 x.1 o n c, true), (rowOk y.2 y.1 o' n' c', true)] (by simp only [gCmp, hx, hy]) (okCons r1 (okL1 t1)) m B w E hv
  · cases hg
/-! ### Add -/
/-! ### Sub -/
theorem cmp_nl {L : List Int} {n : Nat} (h : L.length = n) : cmpL [] L < 0 ↔ 0 < n := by
  rw [cmp0_l h]
  unfold cmp0
  split
  · omega
  · split <;> omega
end Go.Proofs.YtgefjidphfdhdabGreatDoor.Na
namespace Go.Proofs.YtgefjidphfdhdabGreatDoor
open Go.KRun Go.Nt
set_option maxRecDepth 100000
/-- a row or nothing, in block i of a small memory -/
structure Nu (i : Nat) (x : List Value × TypeId) (p : Option Addr) (n c : Nat) (A : List Int) : Prop where
  row : ∀ h : Hp, h.blk? i = some x → rowP h p n c = true ∧ rowOf h p n = A
  pos : p = none ∨ ∃ o, p = some ⟨i, o, none⟩
  st : ∀ v ∈ x.1, still v = true
  lt0 : ∀ v ∈ x.1, still v = true
  ros : ro x.2 = true ∧ ab x.2 = false
theorem rowOf_len {h : Hp} {p : Option Addr} {n c : Nat} (hr : rowP h p n c = true) : (rowOf h p n).length = n := by
  rcases rowP_cases hr with ⟨rfl, rfl, rfl, e0⟩ | ⟨b, o, x, rfl, hx, q1, q2, e0⟩
  · rw [e0]; rfl
  · rw [e0]; exact (rowC_of q1).2.1
/-! ### Add -/
def cmpZ (a b : Nat) : Int := if a < b then -1 else if a = b then 0 else 1
end Go.Proofs.YtgefjidphfdhdabGreatDoor
namespace Go.Proofs.YtgefjidphfdhdabGreatDoor.Na
open Go.KRun Go.Nt
set_option maxRecDepth 100000
set_option linter.unusedVariables false
/-! ### numbers -/
section
variable {l : List Value} {o c : Nat} {A : List Int}
def d32 (V : Nat) : List Int := db 4294967296 V
end
/-! ### is -/
/-! ### From -/
def v32O (h : Hp) (p : Option Addr) (n : Nat) : Nat := vb 4294967296 (rowOf h p n)
/-! ### words -/
end Go.Proofs.YtgefjidphfdhdabGreatDoor.Na
namespace Go.Proofs.YtgefjidphfdhdabGreatDoor
open Go.KRun Go.RowKit
set_option maxRecDepth 100000
set_option maxHeartbeats 4000000 in
/-- a run that begins where something lies already: what it answers, and that it leaves all as it was -/
theorem calls_of_start {T : Tab} {f : Nat} {F : Func} {c : Code} (hF : T.P.funcs[f]? = some F) (hc : F.body = some c) {h0 : Hp} {vals : List Value} (hvals : ∀ v ∈ vals, lt h0.n v = true) {v : Value} (hv : lt 0 v = true)
    (hrun : Runs T c (vals ++ List.replicate (F.ntmps - vals.length) undef, h0, []) fun e y => (e = none ∨ e = some none) ∧ resS T.P F y.1 y.2.1 = some v)
    {m : Mp} {w : World} (E : Emb m w.heap.size h0 w) :
    Calls T.P f (vals.map (mv m)).toArray w fun e w' => e = .returned v ∧ Tidy w w' := by
  refine calls_of_wp hF hc ?_
  have R : Rel m w.heap.size (vals ++ List.replicate (F.ntmps - vals.length) undef, h0, []) { tmps := (vals.map (mv m)).toArray ++ Array.replicate (F.ntmps - (vals.map (mv m)).toArray.size) undef, defers := [] } w := by
    refine ⟨?_, rfl, E, ?_⟩
    · simp [mv_undef]
    · intro y hy
      rcases List.mem_append.1 hy with hy | hy
      · exact hvals y hy
      · rw [List.eq_of_mem_replicate hy]; simp [undef, lt]
  refine hrun _ _ _ w R _ fun e y he a' w' hR => ?_
  obtain ⟨hex, hres⟩ := he
  obtain ⟨m1, k1, k2, k3, _⟩ := hR
  obtain ⟨r1, r2⟩ := resS_run k2.emb k2.wf hres
  rw [← k2.tmps, mv_still hv] at r1
  have td : Tidy w w' := ⟨k3, fun k h1 h2 => k2.emb.ice k h1 h2⟩
  have post : a'.defers = [] ∧ ∃ v', (results F a'.tmps).run T.P w' = .ok v' w' ∧ (Ending.returned v' = .returned v ∧ Tidy w w') := ⟨k2.dfr, _, r1, rfl, td⟩
  rcases hex with rfl | rfl <;> exact post
end Go.Proofs.YtgefjidphfdhdabGreatDoor
namespace Go.KRun
open Go.RowKit
def reckonAt (T : Tab) (h0 : Hp) (n : Nat) (f : Nat) (vals : List Value) (s : List Dec) : Option (Value × Hp × List Dec × Lg) := callBy T (evC T n false) f vals h0 s ⟨[], [], []⟩
theorem fitsAt_calls {T : Tab} (hT : TabOk T) {h0 : Hp} {n f : Nat} {vals : List Value} {s : List Dec} {v : Value} {cs : Log} (hF : Fits (reckonAt T h0 n f vals s) v cs) (hcs : okLog cs) (hvals : (vals.all (lt h0.n)) = true) (hv : lt 0 v = true) {m : Mp} {w : World} (E : Emb m w.heap.size h0 w) :
    Calls T.P f (vals.map (mv m)).toArray w fun e w' => e = .returned v ∧ Tidy w w' := by
  obtain ⟨h1, h2, h3, h4⟩ := hF
  cases hr : reckonAt T h0 n f vals s with
  | none => rw [hr] at h1; cases h1
  | some r =>
    rw [hr] at h1 h2 h3 h4
    simp only [Option.map_some, Option.some.injEq] at h1 h2 h3 h4
    obtain ⟨v', h', s', L⟩ := r
    simp only at h1 h2 h3 h4
    subst h1
    obtain ⟨_, _, h5⟩ := callBy_ok hT (evC_ok hT n).1 _ _ _ _ _ _ _ _ _ hr ⟨by rw [h2]; exact hcs, all_eq _ h3, all_eq _ h4⟩
    refine (h5 _ _ w E (List.all_eq_true.1 hvals)).mono fun en w' he => ?_
    obtain ⟨m', rfl, C⟩ := he
    exact ⟨by rw [mv_still hv], C.below, fun k h1 h2 => C.emb.ice k h1 h2⟩
/-- the same, where the arguments hold no address -/
theorem fitsAt_still {T : Tab} (hT : TabOk T) {h0 : Hp} {n f : Nat} {vals : List Value} {s : List Dec} {v : Value} {cs : Log} (hF : Fits (reckonAt T h0 n f vals s) v cs) (hcs : okLog cs) (hvals : (vals.all (lt 0)) = true) (hv : lt 0 v = true) {m : Mp} {w : World} (E : Emb m w.heap.size h0 w) :
    Calls T.P f vals.toArray w fun e w' => e = .returned v ∧ Tidy w w' := by
  have hst : ∀ y ∈ vals, lt 0 y = true := List.all_eq_true.1 hvals
  have e : vals.map (mv m) = vals := (List.map_congr_left fun y hy => mv_still (hst y hy)).trans (List.map_id' _)
  have := fitsAt_calls hT hF hcs (List.all_eq_true.2 fun y hy => lt_mono (Nat.zero_le _) (hst y hy)) hv E
  rw [e] at this
  exact this
end Go.KRun
namespace Go.KRun
open Go.ChangeShapes Go.WideShapes Go.ChangeAt Go.RowKit Go.Joins
theorem u64_bounds {n : Int} (h : (Lit.int .u64 n).wf = true) : 0 ≤ n ∧ n < 18446744073709551616 := by
  simp [Lit.wf, IntKind.min, IntKind.max, IntKind.signed, IntKind.bits] at h
  omega
section
variable {H : Type} {enc : TypeId × Value → H} {P : Program} {w : World}
/-- a row that lies in the memory: from 'off' on 'cap' words -/
structure Lain (w : World) (b off : Nat) (cs : Array Value) (zs : List Int) : Prop where
  heap : ∃ ty z, w.heap[b]? = some (.cells cs ty z)
  room : off + zs.length ≤ cs.size
  cell : ∀ i, i < zs.length → cs[off + i]? = some (.int .u32 (zs.getD i 0))
  wf : ∀ n ∈ zs, (Lit.int .u32 n).wf = true
end
end Go.KRun
namespace Go.Proofs.YtgefjidphfdhdabGreatDoor.Na
open Go.KRun Go.Nt
set_option maxRecDepth 100000
set_option linter.unusedVariables false
theorem log_tl {x : Bool × Bool} {l : Log} (h : okLog (x :: l)) : x.1 = x.2 ∧ okLog l := ⟨h _ List.mem_cons_self, fun y hy => h y (List.mem_cons_of_mem _ hy)⟩
end Go.Proofs.YtgefjidphfdhdabGreatDoor.Na
namespace Go.Nt
theorem vN_vb : ∀ {L : List Int}, wds L → vN L = (vb 4294967296 L : Nat)
  | [], _ => rfl
  | x :: r, h => by
    obtain ⟨h1, h2⟩ := wds_tail h
    have := vN_vb h2
    show x + 4294967296 * vN r = ((x.toNat + 4294967296 * vb 4294967296 r : Nat) : Int)
    rw [this]
    omega
theorem vN_dg : ∀ (m : Nat) (V : Int), 0 ≤ V → V < 4294967296 ^ m → vN (dg m V) = V
  | 0, V, h0, h1 => by
    have : V = 0 := by rw [Int.pow_zero] at h1; omega
    subst this
    rfl
  | m + 1, V, h0, h1 => by
    rw [pw] at h1
    have h2 := vN_dg m (V / 4294967296) (by omega) (by omega)
    simp only [dg, vN]
    rw [h2]
    omega
theorem take_dg {m : Nat} {V : Nat} (h : (V : Int) < 4294967296 ^ m) : (dg m V).take (trimN (dg m V)) = db 4294967296 V := by
  have hw := dg_wds m V
  rw [take_trim (b := 4294967296) (by omega) _ hw]
  have h1 := vN_dg m V (by omega) h
  rw [vN_vb hw] at h1
  rw [Int.ofNat.inj h1]
theorem topCmp_in (L M : List Int) : ∀ k, topCmp L M k = -1 ∨ topCmp L M k = 0 ∨ topCmp L M k = 1
  | 0 => .inr (.inl rfl)
  | k + 1 => by
    unfold topCmp
    split
    · exact topCmp_in L M k
    · split
      · exact .inl rfl
      · exact .inr (.inr rfl)
theorem cmpL_in (L M : List Int) : cmpL L M = -1 ∨ cmpL L M = 0 ∨ cmpL L M = 1 := by
  unfold cmpL
  split
  · exact topCmp_in _ _ _
  · split
    · exact .inl rfl
    · exact .inr (.inr rfl)
theorem cmpL_vb {L M : List Int} (hL : canon L) (hM : canon M) : cmpL L M = if vb 4294967296 L < vb 4294967296 M then -1 else if vb 4294967296 L = vb 4294967296 M then 0 else 1 := by
  have h := cmpL_val hL hM
  rw [vN_vb hL.1, vN_vb hM.1] at h
  have h3 := cmpL_in L M
  split
  · have := h.1.2 (by omega)
    omega
  · split
    · exact h.2.2 (by omega)
    · have h1 : ¬ cmpL L M < 0 := fun hx => by have := h.1.1 hx; omega
      have h2 : ¬ cmpL L M = 0 := fun hx => by have := h.2.1 hx; omega
      omega
theorem vb_lt32 {L : List Int} (hL : wds L) {m : Nat} (h : L.length ≤ m) : vb 4294967296 L < 4294967296 ^ m := by
  have h1 := vb_lt (b := 4294967296) (by omega) L hL
  exact Nat.lt_of_lt_of_le h1 (Nat.pow_le_pow_right (by omega) h)
theorem db_pos_len {b V : Nat} (hb : 2 ≤ b) : 0 < (db b V).length ↔ 0 < V := by
  rw [List.length_pos_iff, ne_eq, db_nil hb]
  omega
end Go.Nt
namespace Go.Proofs.YtgefjidphfdhdabGreatDoor
open Go.KRun Go.Nt
set_option maxRecDepth 100000
set_option linter.unusedVariables false
/-! ### rows of numbers -/
/-- what is known of the two rows -/
structure Two (la lb : List Value) (o o' c' : Nat) (A L : List Int) : Prop where
  ra : Row la o A
  rb : Row lb o' L
  dA : ∀ x ∈ A, Dg 65536 x
  cL : Canon 65536 L
  n1 : 1 ≤ L.length
  n2 : L.length < 1000000
  a1 : 1 ≤ A.length
  a2 : A.length < 1000000
  cb : rowC tR lb o' L.length c' = true
  sb : ∀ v ∈ lb, still v = true
  sa : ∀ v ∈ la, still v = true
  eb : cutI lb o' L.length = L
end Go.Proofs.YtgefjidphfdhdabGreatDoor
