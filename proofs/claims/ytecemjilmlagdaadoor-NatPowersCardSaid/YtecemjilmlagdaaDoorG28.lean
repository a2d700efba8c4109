/-
  nat.addTimes: its loop, and the contract.
-/
import Derived.Test.YtecemjilmlagdaaDoorG27
import Derived.Test.YtecemjilmlagdaaDoorG10
import Derived.Test.YtecemjilmlagdaaDoorG11
namespace Go.Proofs.YtecemjilmlagdaaDoor
open Go.KRun Go.Nt
set_option maxRecDepth 100000
set_option linter.unusedVariables false

theorem fR_get {F : List Value} {o : Nat} (hF : F.length = o) (dx : List Int) (x : Int) (px : List Int) (R : List Value) : (F ++ (wU (dx ++ x :: px) ++ R))[o + dx.length]? = some (uu x) := by
  rw [← List.append_assoc, List.getElem?_append_left (by unfold wU; simp; omega)]
  exact fU_get hF dx x px
theorem fR_set {F : List Value} {o : Nat} (hF : F.length = o) (dx : List Int) (x d : Int) (px : List Int) (R : List Value) : (F ++ (wU (dx ++ x :: px) ++ R)).set (o + dx.length) (uu d) = F ++ (wU ((dx ++ [d]) ++ px) ++ R) := by
  rw [← List.append_assoc, List.set_append_left _ _ (by unfold wU; simp; omega), fU_set hF, List.append_assoc]
/-- the words that come, and the word that is carried -/
def tmR (M B : List Int) (x : Int) : List Int := dg M.length (vN M + x * vN B)
def tmC (M B : List Int) (x : Int) : Int := (vN M + x * vN B) / 4294967296 ^ M.length
theorem tm_runs {F R la lb : List Value} {o c o' c' : Nat} {M LB : List Int} {x : Int} (hF : F.length = o) (hM : wds M) (RB : Row lb o' LB) (hl : M.length = LB.length) (hN : M.length < 1099511627776) (hx : 0 ≤ x ∧ x < 4294967296) (hc : M.length ≤ c) (hs : smallC c = true) :
    Runs (tabOf Tryd.prog extY conN true) (seqs (tmP Tryd.f65) (.seq (.seq (cFst (tmB Tryd.f65)) (.block 0 (.loop (tmL Tryd.f65)))) (tmE Tryd.f65))) ([sl 2 o M.length c, sl 1 o' M.length c', uu x] ++ List.replicate 41 undef, h3 la lb (F ++ (wU M ++ R)), []) fun e y => (e = none ∨ e = some none) ∧ resS Tryd.prog Tryd.f65 y.1 y.2.1 = some (uu (tmC M LB x)) ∧ y.2.1.cut 3 = h3 la lb (F ++ (wU (tmR M LB x) ++ R)) := by
  have hwB := RB.rng
  have hcs : c < 4611686018427387904 := blt_iff.1 hs
  refine goesT_list (tabY_ok conN_ok) (tm_pre o M.length c o' c' x _ la lb) (okTwo hs (okTwo (by unfold okPart; exact decide_eq_true (by omega)) (okOne (decide_eq_false (by omega))))) fun g => ?_
  refine Runs.seq (P1 := fun e' y => e' = none ∧ ∃ (k j : Int) (v8 v9 u1 u2 u3 u4 : Value) (g : Nat → Value), y.1 = tmF o M.length c o' c' x k v8 v9 u1 u2 u3 u4 j ++ tl 27 g ∧ (0 ≤ k ∧ k < 4294967296) ∧ k = tmC M LB x ∧ y.2.1 = h3 la lb (F ++ (wU (tmR M LB x) ++ R))) ?_ ?_ (fun e y he => by cases he.1)
  · refine Runs.seq (P1 := fun e' y => e' = none ∧ (∃ g, y.1 = tmF o M.length c o' c' x 0 undef undef (sl 2 o M.length c) (sl 1 o' M.length c') (i6' M.length) (sl 2 o M.length c) 0 ++ tl 27 g) ∧ y.2.1 = h3 la lb (F ++ (wU M ++ R))) (goesT_runs (tabY_ok conN_ok) (tm_r3 o M.length c o' c' x _ la lb g) (fun x hx => by cases hx)) ?_ (fun e y he => by cases he.1)
    rintro ⟨t, h', s'⟩ ⟨_, ⟨g1, ht⟩, hh⟩
    simp only at ht hh
    subst ht hh
    refine (Runs.forLoop (R := fun _ => False) (P := fun y => ∃ (k j : Int) (v8 v9 u1 u2 u3 u4 : Value) (g : Nat → Value), y.1 = tmF o M.length c o' c' x k v8 v9 u1 u2 u3 u4 j ++ tl 27 g ∧ (0 ≤ k ∧ k < 4294967296) ∧ k = tmC M LB x ∧ y.2.1 = h3 la lb (F ++ (wU (tmR M LB x) ++ R)))
      (fun r y => ∃ (dx px bx : List Int) (k : Int) (v8 v9 u1 u2 u3 u4 : Value) (g : Nat → Value), px.length = r ∧ dx.length + px.length = M.length ∧ wds dx ∧ wds px ∧ bx = LB.drop dx.length ∧ (0 ≤ k ∧ k < 4294967296) ∧ y.1 = tmF o M.length c o' c' x k v8 v9 u1 u2 u3 u4 dx.length ++ tl 27 g ∧ y.2.1 = h3 la lb (F ++ (wU (dx ++ px) ++ R)) ∧ vN dx + 4294967296 ^ dx.length * (vN px + x * vN bx + k) = vN M + x * vN LB)
      ?_ (n := M.length) ⟨[], M, LB, 0, undef, undef, _, _, _, _, g1, rfl, by simp, (fun x hx => by cases hx), hM, rfl, by omega, rfl, rfl, by simp [vN]⟩).mono fun e' y he => ?_
    · rintro r ⟨t, h', s'⟩ ⟨dx, px, bx, k, v8, v9, u1, u2, u3, u4, g, hr, hlen, wd1, wd2, hb, hk, ht, hh, hv⟩
      simp only at ht hh
      subst ht hh
      match px, hr, hlen, wd2, hv with
      | [], hr, hlen, wd2, hv =>
        have hl' : dx.length = M.length := by simpa using hlen
        refine (goesT_runs (tabY_ok conN_ok) (tm_out o M.length c o' c' x k dx.length v8 v9 u1 u2 u3 u4 _ la lb g) (okOne (decide_eq_false (by omega)))).mono fun e' y he => ?_
        obtain ⟨rfl, ⟨g1, e2⟩, e3⟩ := he
        have hbx : bx = [] := by rw [hb, List.drop_eq_nil_of_le (by omega)]
        subst hbx
        simp only [vN] at hv
        rw [Int.mul_zero, Int.zero_add, Int.zero_add] at hv
        have hbd := vN_bd dx wd1
        refine ⟨rfl, k, dx.length, v8, v9, u1, u2, u3, u4, g1, e2, hk, ?_, ?_⟩
        · unfold tmC
          rw [← hv, ← hl', Int.add_mul_ediv_left _ _ (by have := pw_pos dx.length; omega), Int.ediv_eq_zero_of_lt hbd.1 hbd.2, Int.zero_add]
        · unfold tmR
          rw [e3, ← hv, ← hl', dg_mod, dg_vN dx wd1, List.append_nil]
      | z :: px, hr, hlen, wd2, hv =>
        obtain ⟨wz, wd2⟩ := wds_tail wd2
        have hl' : dx.length < M.length := by simp at hlen; omega
        have hy := RB.cell (k := dx.length) (by omega)
        have hyr := hwB (LB.getD dx.length 0) (by
          have hk' : dx.length < LB.length := by omega
          simp [List.getD, List.getElem?_eq_getElem hk'])
        have hbx : bx = LB.getD dx.length 0 :: LB.drop (dx.length + 1) := by
          have hk' : dx.length < LB.length := by omega
          rw [hb, List.drop_eq_getElem_cons hk']
          simp [List.getD, List.getElem?_eq_getElem hk']
        generalize LB.getD dx.length 0 = yv at *
        obtain ⟨k1, k2, k3⟩ := tm_word hk hx hyr wz
        have cS := fR_get hF dx z px R
        have lS : o + dx.length < (F ++ (wU (dx ++ z :: px) ++ R)).length := (List.getElem?_eq_some_iff.1 cS).1
        have l1 : decide (o + ((dx.length : Int)).toNat * 1 < (F ++ (wU (dx ++ z :: px) ++ R)).length) = true := by
          rw [Int.toNat_natCast, Nat.mul_one]
          exact decide_eq_true lS
        have l2 : (inR dx.length M.length).1 = (inR dx.length M.length).2 := decide_eq_true (by omega)
        refine (goesT_runs (tabY_ok conN_ok) (tm_go o M.length c o' c' x k dx.length yv z v8 v9 u1 u2 u3 u4 _ la lb g) (okTwo (by decide) (okTwo l1 (okTwo l2 (okTwo (cel_ok cS) (okTwo l2 (okTwo (cel_ok hy) (okTwo l2 (okOne (decide_eq_true (by omega)))))))))) ).mono fun e' y he => ?_
        obtain ⟨rfl, ⟨g1, e2⟩, e3⟩ := he
        refine ⟨px.length, by simp at hr; omega, dx ++ [tD k x yv z], px, LB.drop (dx.length + 1), tC k x yv z, i6' dx.length, uu yv, u1, u2, u3, u4, g1, rfl, by simp at hlen ⊢; omega, wds_app wd1 (fun u hu => by rw [List.mem_singleton.1 hu]; exact k1), wd2, by simp, k2, ?_, ?_, ?_⟩
        · rw [e2, wrapI (by omega) (by omega)]
          simp
        · rw [e3, Int.toNat_natCast, Nat.mul_one, fR_set hF]
        · rw [hbx] at hv
          simp only [vN] at hv
          rw [vN_snoc, List.length_append, List.length_singleton, pw]
          exact tm_step k3 hv
    · match e', he with
      | none, he => exact ⟨rfl, he⟩
      | some none, he => exact he.elim
      | some (some _), he => exact he.elim
  · rintro ⟨t, h', s'⟩ ⟨_, k, j, v8, v9, u1, u2, u3, u4, g, ht, hk, hkv, hh⟩
    simp only at ht hh
    subst ht hh
    refine (goesT_runs (tabY_ok conN_ok) (tm_end o M.length c o' c' x k j v8 v9 u1 u2 u3 u4 _ g) (fun x hx => by cases hx)).mono fun e' y he => ?_
    obtain ⟨rfl, ⟨g1, e2⟩, e3⟩ := he
    have ek : IntKind.u32.wrap k = tmC M LB x := by rw [u32w, Int.emod_eq_of_lt hk.1 hk.2, hkv]
    rw [ek] at e2
    refine ⟨.inr rfl, ?_, ?_⟩
    · rw [e2, e3]
      rfl
    · rw [e3]
      rfl
def tmS (S : List Value) (o n : Nat) (L : List Int) : List Value := S.take o ++ (wU L ++ S.drop (o + n))
def okTm (S lb la : List Value) (t t' t'' : TypeId) (o n c o' n' c' : Nat) (x : Int) : Bool := Nat.beq t tU && Nat.beq t' tR && Nat.beq t'' tR && rowOk t S o n c && rowOk t' lb o' n' c' && Nat.beq n n' && Nat.blt n 1099511627776 && la.all still && decide (0 ≤ x ∧ x < 4294967296)
def gTms : AnsH := fun vals h s =>
  match vals, h with
  | [.slice (some ⟨2, o, none⟩) n c, .slice (some ⟨1, o', none⟩) n' c', .int .u32 x], ⟨3, [(S, t), (lb, t'), (la, t'')]⟩ => some (uu (tmC (cutI S o n) (cutI lb o' n') x), ⟨3, [(tmS S o n (tmR (cutI S o n) (cutI lb o' n') x), tU), (lb, tR), (la, tR)]⟩, s, [(okTm S lb la t t' t'' o n c o' n' c' x, true)])
  | _, _ => none
theorem gTms_ok : AnsHOk 65 gTms := by
  intro vals h s v h' s' lg hg hl m B w E hv
  unfold gTms at hg
  split at hg
  · rename_i o n c o' n' c' x S t lb t' la t''
    cases hg
    have q := hl _ (List.mem_singleton.2 rfl)
    unfold okTm at q
    simp only [Bool.and_eq_true, decide_eq_true_eq] at q
    obtain ⟨⟨⟨⟨⟨⟨⟨⟨q1, q2⟩, q3⟩, ra⟩, rb⟩, qn⟩, qN⟩, q5⟩, q6⟩ := q
    have q1 := Nat.eq_of_beq_eq_true q1
    have q2 := Nat.eq_of_beq_eq_true q2
    have q3 := Nat.eq_of_beq_eq_true q3
    have qn := Nat.eq_of_beq_eq_true qn
    have qN : n < 1099511627776 := blt_iff.1 qN
    subst q1 q2 q3 qn
    obtain ⟨a1, a2, a3, a4, a5, a6, a7⟩ := row_of ra
    obtain ⟨b1, b2, b3, b4, b5, b6, b7⟩ := row_of rb
    have eS : S = S.take o ++ (wU (cutI S o n) ++ S.drop (o + n)) := by
      have h1 := a1.cut
      rw [a2] at h1
      rw [← h1]
      unfold cutV
      rw [← List.drop_drop, List.take_append_drop, List.take_append_drop]
    have hF : (S.take o).length = o := by
      have := a1.len
      simp
      omega
    have r := tm_runs (R := S.drop (o + n)) (la := la) (c := c) (c' := c') hF a1.rng b1 (by rw [a2, b2]) (by rw [a2]; exact qN) q6 (by rw [a2]; exact a3) a4
    rw [a2, ← eS] at r
    have ht : (Hp.tight ⟨3, [(tmS S o n (tmR (cutI S o n) (cutI lb o' n) x), tU), (lb, tR), (la, tR)]⟩) = true := by
      unfold Hp.tight tmS
      simp only [List.all_cons, List.all_nil, List.all_append, Bool.and_true, Bool.and_eq_true]
      refine ⟨⟨?_, wU_tight _ _, ?_⟩, all_mono (by omega) (List.all_eq_true.2 b7), all_mono (by omega) q5⟩
      · rw [List.all_eq_true]
        exact fun v hv => still_lt (by omega) (a7 v (List.mem_of_mem_take hv))
      · rw [List.all_eq_true]
        exact fun v hv => still_lt (by omega) (a7 v (List.mem_of_mem_drop hv))
    exact hcalls_of_runs (T := tabOf Tryd.prog extY conN true) Tryd.func65 tm_body (vals := [sl 2 o n c, sl 1 o' n c', uu x]) (v := uu (tmC (cutI S o n) (cutI lb o' n) x)) (h := h3 la lb S) (by rfl) ht r m B w E hv
  · cases hg
end Go.Proofs.YtecemjilmlagdaaDoor

/-
  nat.product, piece by piece.
-/
namespace Go.Proofs.YtecemjilmlagdaaDoor
open Go.KRun Go.Nt
set_option maxRecDepth 100000
set_option linter.unusedVariables false

def hcM : Hc := altH 65 gTms (altH 41 gTrim hcN)
theorem hcM_ok : HcOk hcM := altH_ok Tryd.func65 rfl gTms_ok (altH_ok Tryd.func41 rfl gTrim_ok hcN_ok)
def pdP (F : Func) : List Code := [cFst (sn 0 F), cFst (sn 1 F), cFst (sn 2 F), cFst (sn 3 F)]
def pdL (F : Func) : Code := cIn (cIn (cSnd (cFst (sn 4 F))))
def pdF (o n c o' n' c' z : Nat) (v7 v8 : Value) : List Value := [sl 0 o n c, sl 1 o' n' c', undef, undef, nilS, .nilIface, sl 2 0 z z, v7, v8]
theorem pd_body : Tryd.f45.body = some (seqs (pdP Tryd.f45) (.seq (.seq (cFst (cFst (sn 4 Tryd.f45))) (.block 0 (.loop (pdL Tryd.f45)))) (cSnd (sn 4 Tryd.f45)))) := by kernel_rfl
def pZ (n n' : Nat) : Int := IntKind.i64.wrap ((n : Int) + (n' : Int))
theorem pd_pre (o n c o' n' c' : Nat) (la lb : List Value) : GoesT (evL (tabH Tryd.prog extY conN hcM) 100 (pdP Tryd.f45) ([sl 0 o n c, sl 1 o' n' c'] ++ List.replicate 57 undef, h2 la lb, [cmp false, cmp false, cmp false, at_]) ⟨[], [], []⟩) 9 50 none (pdF o n c o' n' c' (pZ n n').toNat undef undef) (h3 la lb (List.replicate (pZ n n').toNat (uu 0))) [(okMakeB 4 (pZ n n') (pZ n n'), true), (decide (IntKind.i64.wrap (pZ n n' - 1) > 8192), false), ((n' : Int) == 0, false), ((n : Int) == 0, false)] := ⟨by kernel_rfl, by kernel_rfl, by kernel_rfl⟩
theorem pd_r (o n c o' n' c' z : Nat) (v7 v8 : Value) (la lb S : List Value) (g : Nat → Value) : GoesM (evC (tabH Tryd.prog extY conN hcM) 100 false (cFst (cFst (sn 4 Tryd.f45))) (pdF o n c o' n' c' z v7 v8 ++ tl 50 g, h3 la lb S, []) ⟨[], [], []⟩) 9 22 3 25 none (pdF o n c o' n' c' z v7 v8) [sl 0 o n c, i6' n, i6' 0] (h3 la lb S) [] := ⟨by kernel_rfl, by kernel_rfl, by kernel_rfl⟩
theorem pd_out (o n c o' n' c' z : Nat) (j : Int) (v7 v8 : Value) (la lb S : List Value) (g g' : Nat → Value) : GoesM (evC (tabH Tryd.prog extY conN hcM) 100 false (pdL Tryd.f45) (ml (pdF o n c o' n' c' z v7 v8) 22 g [sl 0 o n c, i6' n, i6' j] 25 g', h3 la lb S, [cmp false]) ⟨[], [], []⟩) 9 22 3 25 (some (some 0)) (pdF o n c o' n' c' z v7 v8) [sl 0 o n c, i6' n, i6' j] (h3 la lb S) [(decide (j < n), false)] := ⟨by kernel_rfl, by kernel_rfl, by kernel_rfl⟩
def pJ (j : Int) : Nat := 0 + j.toNat * 1
def pK (j : Int) (n' : Nat) : Int := IntKind.i64.wrap (j + n')
def pLn (j : Int) (n' : Nat) : Nat := (pK j n').toNat - j.toNat
def pS (S lb : List Value) (o' n' : Nat) (j x : Int) : List Value := tmS S (pJ j) (pLn j n') (tmR (cutI S (pJ j) (pLn j n')) (cutI lb o' n') x)
def pC (S lb : List Value) (o' n' : Nat) (j x : Int) : Int := tmC (cutI S (pJ j) (pLn j n')) (cutI lb o' n') x
theorem pd_go (o n c o' n' c' z : Nat) (j x : Int) (v7 v8 : Value) (la lb S : List Value) (g g' : Nat → Value) : GoesM (evC (tabH Tryd.prog extY conN hcM) 100 false (pdL Tryd.f45) (ml (pdF o n c o' n' c' z v7 v8) 22 g [sl 0 o n c, i6' n, i6' j] 25 g', h3 la lb S, [cmp true, at_, val (uu x), num 0, at_, at_]) ⟨[], [], []⟩) 9 22 3 25 none (pdF o n c o' n' c' z (i6' j) (uu x)) [sl 0 o n c, i6' n, i6' (IntKind.i64.wrap (j + 1))]
    (h3 la lb ((pS S lb o' n' j x).set (0 + (pK j n').toNat * 1) (uu (pC S lb o' n' j x))))
    [(decide (0 + (pK j n').toNat * 1 < (pS S lb o' n' j x).length), true), inR (pK j n') z, (okTm S lb la tU tR tR (pJ j) (pLn j n') (z - j.toNat) o' n' c' x, true), (smallC z, true), (okPart j (pK j n') z z, true), (decide ((z : Int) = j ∧ j ≠ 0), false), celR la o j x, inR j n, (decide (j < n), true)] := ⟨by kernel_rfl, by kernel_rfl, by kernel_rfl⟩
theorem pd_end (o n c o' n' c' z : Nat) (v7 v8 u1 u2 u3 : Value) (la lb S : List Value) (g g' : Nat → Value) : GoesT (evC (tabH Tryd.prog extY conN hcM) 100 false (cSnd (sn 4 Tryd.f45)) (ml (pdF o n c o' n' c' z v7 v8) 22 g [u1, u2, u3] 25 g', h3 la lb S, [cmp false]) ⟨[], [], []⟩) 6 53 (some none) [sl 0 o n c, sl 1 o' n' c', undef, undef, sl 2 0 (trimN (cutI S 0 z)) z, .nilIface] (h3 la lb S) [(decide ((trimN (cutI S 0 z) : Int) > 8192), false), (rowOk tU S 0 z z, true)] := ⟨by kernel_rfl, by kernel_rfl, by kernel_rfl⟩
theorem pd_n1 (p q : Option Addr) (n c n' c' : Nat) (h : Hp) : GoesT (evC (tabH Tryd.prog extY conN hcM) 100 false (cBody Tryd.f45) ([.slice p n c, .slice q n' c'] ++ List.replicate 57 undef, h, [cmp true]) ⟨[], [], []⟩) 6 53 (some none) [.slice p n c, .slice q n' c', undef, undef, nilS, .nilIface] h [((n : Int) == 0, true)] := ⟨by kernel_rfl, by kernel_rfl, by kernel_rfl⟩
theorem pd_n2 (p q : Option Addr) (n c n' c' : Nat) (h : Hp) : GoesT (evC (tabH Tryd.prog extY conN hcM) 100 false (cBody Tryd.f45) ([.slice p n c, .slice q n' c'] ++ List.replicate 57 undef, h, [cmp false, cmp true]) ⟨[], [], []⟩) 6 53 (some none) [.slice p n c, .slice q n' c', undef, undef, nilS, .nilIface] h [((n' : Int) == 0, true), ((n : Int) == 0, false)] := ⟨by kernel_rfl, by kernel_rfl, by kernel_rfl⟩
theorem pd_cbody : Tryd.f45.body = some (cBody Tryd.f45) := by kernel_rfl
end Go.Proofs.YtecemjilmlagdaaDoor

/-
  nat.Shl: its pieces.
-/
namespace Go.Proofs.YtecemjilmlagdaaDoor
open Go.KRun Go.Nt
set_option maxRecDepth 100000

def hcS : Hc := altH 13 gChk (altH 28 gLen (altH 47 gMup (altH 41 gTrim hcN)))
theorem hcS_ok : HcOk hcS := altH_ok Tryd.func13 rfl gChk_ok (altH_ok Tryd.func28 rfl gLen_ok (altH_ok Tryd.func47 rfl gMup_ok (altH_ok Tryd.func41 rfl gTrim_ok hcN_ok)))
def skI (k : Int) : Int := IntKind.i64.wrap (k.tdiv 32)
def rmI (k : Int) : Int := k.tmod 32
def zI (n : Nat) (k : Int) : Int := IntKind.i64.wrap (IntKind.i64.wrap (skI k + n) + 1)
def zN (n : Nat) (k : Int) : Nat := (zI n k).toNat
def oN (k : Int) : Nat := 0 + (skI k).toNat * 1
def pN (n : Nat) (k : Int) : Nat := zN n k - (skI k).toNat
def cpN (n : Nat) (k : Int) : Nat := Nat.min n (pN n k)
def cpL (la : List Value) (o n : Nat) (k : Int) : List Value := (List.replicate (zN n k) (uu 0)).take (oN k) ++ (la.drop o).take (cpN n k) ++ (List.replicate (zN n k) (uu 0)).drop (oN k + cpN n k)
def clOk (la : List Value) (o n : Nat) (k : Int) : Bool := !(tomb tR) && !(ro tU) && Nat.ble (o + cpN n k) la.length && Nat.ble (oN k + cpN n k) (List.replicate (zN n k) (uu 0)).length && ((la.drop o).take (cpN n k)).all one
def upM (la : List Value) (o n : Nat) (k : Int) : List Value := upS (cpL la o n k) (oN k) (pN n k) (rmI k)
def lnI (la : List Value) (o n : Nat) : Int := IntKind.i64.wrap (262144 - lenN (cutI la o n))
def fS (o n c : Nat) (k : Int) (r e : Value) : List Value := [sl 0 o n c, i6' k, undef, undef, r, e]
theorem shl_body : Tryd.f27.body = some (cBody Tryd.f27) := by kernel_rfl
theorem shl_bad (o n c : Nat) (k : Int) (la : List Value) : GoesT (evC (tabH Tryd.prog extY conN hcS) 200 false (cBody Tryd.f27) ([sl 0 o n c, i6' k] ++ List.replicate 45 undef, ⟨1, [(la, tR)]⟩, [cmp true]) ⟨[], [], []⟩) 6 41 (some none) (fS o n c k nilS (errV 1)) ⟨1, [(la, tR)]⟩ [chkL la o n c, (badL (cutI la o n), true)] := ⟨by kernel_rfl, by kernel_rfl, by kernel_rfl⟩
theorem shl_neg (o n c : Nat) (k : Int) (la : List Value) : GoesT (evC (tabH Tryd.prog extY conN hcS) 200 false (cBody Tryd.f27) ([sl 0 o n c, i6' k] ++ List.replicate 45 undef, ⟨1, [(la, tR)]⟩, [cmp false, cmp true]) ⟨[], [], []⟩) 6 41 (some none) (fS o n c k nilS (errV 1)) ⟨1, [(la, tR)]⟩ [(decide (k < 0), true), chkL la o n c, (badL (cutI la o n), false)] := ⟨by kernel_rfl, by kernel_rfl, by kernel_rfl⟩
theorem shl_nil (o n c : Nat) (k : Int) (la : List Value) : GoesT (evC (tabH Tryd.prog extY conN hcS) 200 false (cBody Tryd.f27) ([sl 0 o n c, i6' k] ++ List.replicate 45 undef, ⟨1, [(la, tR)]⟩, [cmp false, cmp false, cmp true]) ⟨[], [], []⟩) 6 41 (some none) (fS o n c k nilS .nilIface) ⟨1, [(la, tR)]⟩ [((n : Int) == 0, true), (decide (k < 0), false), chkL la o n c, (badL (cutI la o n), false)] := ⟨by kernel_rfl, by kernel_rfl, by kernel_rfl⟩
theorem shl_long (o n c : Nat) (k : Int) (la : List Value) : GoesT (evC (tabH Tryd.prog extY conN hcS) 200 false (cBody Tryd.f27) ([sl 0 o n c, i6' k] ++ List.replicate 45 undef, ⟨1, [(la, tR)]⟩, [cmp false, cmp false, cmp false, cmp true]) ⟨[], [], []⟩) 6 41 (some none) (fS o n c k nilS (errV 2)) ⟨1, [(la, tR)]⟩ [(decide (k > lnI la o n), true), chkL la o n c, ((n : Int) == 0, false), (decide (k < 0), false), chkL la o n c, (badL (cutI la o n), false)] := ⟨by kernel_rfl, by kernel_rfl, by kernel_rfl⟩
theorem shl_good (o n c : Nat) (k : Int) (la : List Value) : GoesT (evC (tabH Tryd.prog extY conN hcS) 200 false (cBody Tryd.f27) ([sl 0 o n c, i6' k] ++ List.replicate 45 undef, ⟨1, [(la, tR)]⟩, [cmp false, cmp false, cmp false, cmp false, at_, num 0, at_, num 0]) ⟨[], [], []⟩) 6 41 (some none) (fS o n c k (sl 1 0 (trimN (cutI (upM la o n k) 0 (zN n k))) (zN n k)) .nilIface) (hU (upM la o n k) la)
    [(rowOk tU (upM la o n k) 0 (zN n k) (zN n k), true), (Nat.beq tU tU, true), (Nat.beq tR tR, true), (rowOk tU (cpL la o n k) (oN k) (pN n k) (pN n k), true), (Nat.beq (oN k + pN n k) (cpL la o n k).length, true), (la.all still, true), (decide (0 ≤ rmI k ∧ rmI k < 32), true),
      (smallC (zN n k), true), (okPart (skI k) (zN n k) (zN n k) (zN n k), true), (decide (((zN n k : Nat) : Int) = skI k ∧ skI k ≠ 0), false), (clOk la o n k, true), (smallC (zN n k), true), (okPart (skI k) (zN n k) (zN n k) (zN n k), true), (decide (((zN n k : Nat) : Int) = skI k ∧ skI k ≠ 0), false), (okMakeB 4 (zI n k) (zI n k), true),
      (decide (k > lnI la o n), false), chkL la o n c, ((n : Int) == 0, false), (decide (k < 0), false), chkL la o n c, (badL (cutI la o n), false)] := ⟨by kernel_rfl, by kernel_rfl, by kernel_rfl⟩
end Go.Proofs.YtecemjilmlagdaaDoor
