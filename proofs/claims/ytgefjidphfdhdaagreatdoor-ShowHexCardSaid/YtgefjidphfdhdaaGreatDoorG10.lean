/-
  ConNN, ConNO, ConNE, NumR, ConNF, ConNP, SlM, ConO1, NumTo
-/
import Derived.Test.YtgefjidphfdhdaaGreatDoorG09
namespace Go.Proofs.YtgefjidphfdhdaaGreatDoor.Na
open Go.KRun Go.Nt
set_option maxRecDepth 100000
set_option linter.unusedVariables false
theorem fR_get {F : List Value} {o : Nat} (hF : F.length = o) (dx : List Int) (x : Int) (px : List Int) (R : List Value) : (F ++ (wU (dx ++ x :: px) ++ R))[o + dx.length]? = some (uu x) := by
  rw [← List.append_assoc, List.getElem?_append_left (by unfold wU; simp; omega)]
  exact fU_get hF dx x px
theorem fR_set {F : List Value} {o : Nat} (hF : F.length = o) (dx : List Int) (x d : Int) (px : List Int) (R : List Value) : (F ++ (wU (dx ++ x :: px) ++ R)).set (o + dx.length) (uu d) = F ++ (wU ((dx ++ [d]) ++ px) ++ R) := by
  rw [← List.append_assoc, List.set_append_left _ _ (by unfold wU; simp; omega), fU_set hF, List.append_assoc]
/-- the words that come, and the word that is carried -/
def tmR (M B : List Int) (x : Int) : List Int := dg M.length (vN M + x * vN B)
def tmC (M B : List Int) (x : Int) : Int := (vN M + x * vN B) / 4294967296 ^ M.length
theorem tm_runs {F R la lb : List Value} {o c o' c' : Nat} {M LB : List Int} {x : Int} (hF : F.length = o) (hM : wds M) (RB : Row lb o' LB) (hl : M.length = LB.length) (hN : M.length < 1099511627776) (hx : 0 ≤ x ∧ x < 4294967296) (hc : M.length ≤ c) (hs : smallC c = true) :
    Runs (tabOf Tryz.prog extY conN true) (seqs (tmP Tryz.f170) (.seq (.seq (cFst (tmB Tryz.f170)) (.block 0 (.loop (tmL Tryz.f170)))) (tmE Tryz.f170))) ([sl 2 o M.length c, sl 1 o' M.length c', uu x] ++ List.replicate 41 undef, h3 la lb (F ++ (wU M ++ R)), []) fun e y => (e = none ∨ e = some none) ∧ resS Tryz.prog Tryz.f170 y.1 y.2.1 = some (uu (tmC M LB x)) ∧ y.2.1.cut 3 = h3 la lb (F ++ (wU (tmR M LB x) ++ R)) := by
  have hwB := RB.rng
  have hcs : c < 4611686018427387904 := blt_iff.1 hs
  refine goesT_list (tabY_ok conN_ok) (tm_pre o M.length c o' c' x _ la lb) (okTwo hs (okTwo (by unfold okPart; exact decide_eq_true (by omega)) (okOne (decide_eq_false (by omega))))) fun g => ?_
  refine Runs.seq (P1 := fun e' y => e' = none ∧ ∃ (k j : Int) (v8 v9 u1 u2 u3 u4 : Value) (g : Nat → Value), y.1 = tmF o M.length c o' c' x k v8 v9 u1 u2 u3 u4 j ++ tl 27 g ∧ (0 ≤ k ∧ k < 4294967296) ∧ k = tmC M LB x ∧ y.2.1 = h3 la lb (F ++ (wU (tmR M LB x) ++ R))) ?_ ?_ (fun e y he => by cases he.1)
  · refine Runs.seq (P1 := fun e' y => e' = none ∧ (∃ g, y.1 = tmF o M.length c o' c' x 0 undef undef (sl 2 o M.length c) (sl 1 o' M.length c') (i6' M.length) (sl 2 o M.length c) 0 ++ tl 27 g) ∧ y.2.1 = h3 la lb (F ++ (wU M ++ R))) (goesT_runs (tabY_ok conN_ok) (tm_r3 o M.length c o' c' x _ la lb g) (fun x hx => by cases hx)) ?_ (fun e y he => by cases he.1)
    rintro ⟨t, h', s'⟩ ⟨_, ⟨g1, ht⟩, hh⟩
    simp only at ht hh
    subst ht hh
    refine (Runs.forLoop (R := fun _ => False) (P := fun y => ∃ (k j : Int) (v8 v9 u1 u2 u3 u4 : Value) (g : Nat → Value), y.1 = tmF o M.length c o' c' x k v8 v9 u1 u2 u3 u4 j ++ tl 27 g ∧ (0 ≤ k ∧ k < 4294967296) ∧ k = tmC M LB x ∧ y.2.1 = h3 la lb (F ++ (wU (tmR M LB x) ++ R)))
      (fun r y => ∃ (dx px bx : List Int) (k : Int) (v8 v9 u1 u2 u3 u4 : Value) (g : Nat → Value), px.length = r ∧ dx.length + px.length = M.length ∧ wds dx ∧ wds px ∧ bx = LB.drop dx.length ∧ (0 ≤ k ∧ k < 4294967296) ∧ y.1 = tmF o M.length c o' c' x k v8 v9 u1 u2 u3 u4 dx.length ++ tl 27 g ∧ y.2.1 = h3 la lb (F ++ (wU (dx ++ px) ++ R)) ∧ vN dx + 4294967296 ^ dx.length * (vN px + x * vN bx + k) = vN M + x * vN LB)
      ?_ (n := M.length) ⟨[], M, LB, 0, undef, undef, _, _, _, _, g1, rfl, by simp, (fun x hx => by cases hx), hM, rfl, by omega, rfl, rfl, by simp [vN]⟩).mono fun e' y he => ?_
    · rintro r ⟨t, h', s'⟩ ⟨dx, px, bx, k, v8, v9, u1, u2, u3, u4, g, hr, hlen, wd1, wd2, hb, hk, ht, hh, hv⟩
      simp only at ht hh
      subst ht hh
      match px, hr, hlen, wd2, hv with
      | [], hr, hlen, wd2, hv =>
        have hl' : dx.length = M.length := by simpa using hlen
        refine (goesT_runs (tabY_ok conN_ok) (tm_out o M.length c o' c' x k dx.length v8 v9 u1 u2 u3 u4 _ la lb g) (okOne (decide_eq_false (by omega)))).mono fun e' y he => ?_
        obtain ⟨rfl, ⟨g1, e2⟩, e3⟩ := he
        have hbx : bx = [] := by rw [hb, List.drop_eq_nil_of_le (by omega)]
        subst hbx
        simp only [vN] at hv
        rw [Int.mul_zero, Int.zero_add, Int.zero_add] at hv
        have hbd := vN_bd dx wd1
        refine ⟨rfl, k, dx.length, v8, v9, u1, u2, u3, u4, g1, e2, hk, ?_, ?_⟩
        · unfold tmC
          rw [← hv, ← hl', Int.add_mul_ediv_left _ _ (by have := pw_pos dx.length; omega), Int.ediv_eq_zero_of_lt hbd.1 hbd.2, Int.zero_add]
        · unfold tmR
          rw [e3, ← hv, ← hl', dg_mod, dg_vN dx wd1, List.append_nil]
      | z :: px, hr, hlen, wd2, hv =>
        obtain ⟨wz, wd2⟩ := wds_tail wd2
        have hl' : dx.length < M.length := by simp at hlen; omega
        have hy := RB.cell (k := dx.length) (by omega)
        have hyr := hwB (LB.getD dx.length 0) (by
          have hk' : dx.length < LB.length := by omega
          simp [List.getD, List.getElem?_eq_getElem hk'])
        have hbx : bx = LB.getD dx.length 0 :: LB.drop (dx.length + 1) := by
          have hk' : dx.length < LB.length := by omega
          rw [hb, List.drop_eq_getElem_cons hk']
          simp [List.getD, List.getElem?_eq_getElem hk']
        generalize LB.getD dx.length 0 = yv at *
        obtain ⟨k1, k2, k3⟩ := tm_word hk hx hyr wz
        have cS := fR_get hF dx z px R
        have lS : o + dx.length < (F ++ (wU (dx ++ z :: px) ++ R)).length := (List.getElem?_eq_some_iff.1 cS).1
        have l1 : decide (o + ((dx.length : Int)).toNat * 1 < (F ++ (wU (dx ++ z :: px) ++ R)).length) = true := by
          rw [Int.toNat_natCast, Nat.mul_one]
          exact decide_eq_true lS
        have l2 : (inR dx.length M.length).1 = (inR dx.length M.length).2 := decide_eq_true (by omega)
        refine (goesT_runs (tabY_ok conN_ok) (tm_go o M.length c o' c' x k dx.length yv z v8 v9 u1 u2 u3 u4 _ la lb g) (okTwo (by decide) (okTwo l1 (okTwo l2 (okTwo (cel_ok cS) (okTwo l2 (okTwo (cel_ok hy) (okTwo l2 (okOne (decide_eq_true (by omega)))))))))) ).mono fun e' y he => ?_
        obtain ⟨rfl, ⟨g1, e2⟩, e3⟩ := he
        refine ⟨px.length, by simp at hr; omega, dx ++ [tD k x yv z], px, LB.drop (dx.length + 1), tC k x yv z, i6' dx.length, uu yv, u1, u2, u3, u4, g1, rfl, by simp at hlen ⊢; omega, wds_app wd1 (fun u hu => by rw [List.mem_singleton.1 hu]; exact k1), wd2, by simp, k2, ?_, ?_, ?_⟩
        · rw [e2, wrapI (by omega) (by omega)]
          simp
        · rw [e3, Int.toNat_natCast, Nat.mul_one, fR_set hF]
        · rw [hbx] at hv
          simp only [vN] at hv
          rw [vN_snoc, List.length_append, List.length_singleton, pw]
          exact tm_step k3 hv
    · match e', he with
      | none, he => exact ⟨rfl, he⟩
      | some none, he => exact he.elim
      | some (some _), he => exact he.elim
  · rintro ⟨t, h', s'⟩ ⟨_, k, j, v8, v9, u1, u2, u3, u4, g, ht, hk, hkv, hh⟩
    simp only at ht hh
    subst ht hh
    refine (goesT_runs (tabY_ok conN_ok) (tm_end o M.length c o' c' x k j v8 v9 u1 u2 u3 u4 _ g) (fun x hx => by cases hx)).mono fun e' y he => ?_
    obtain ⟨rfl, ⟨g1, e2⟩, e3⟩ := he
    have ek : IntKind.u32.wrap k = tmC M LB x := by rw [u32w, Int.emod_eq_of_lt hk.1 hk.2, hkv]
    rw [ek] at e2
    refine ⟨.inr rfl, ?_, ?_⟩
    · rw [e2, e3]
      rfl
    · rw [e3]
      rfl
def tmS (S : List Value) (o n : Nat) (L : List Int) : List Value := S.take o ++ (wU L ++ S.drop (o + n))
def okTm (S lb la : List Value) (t t' t'' : TypeId) (o n c o' n' c' : Nat) (x : Int) : Bool := Nat.beq t tU && Nat.beq t' tR && Nat.beq t'' tR && rowOk t S o n c && rowOk t' lb o' n' c' && Nat.beq n n' && Nat.blt n 1099511627776 && la.all still && decide (0 ≤ x ∧ x < 4294967296)
def gTms : AnsH := fun vals h s =>
  match vals, h with
  | [.slice (some ⟨2, o, none⟩) n c, .slice (some ⟨1, o', none⟩) n' c', .int .u32 x], ⟨3, [(S, t), (lb, t'), (la, t'')]⟩ => some (uu (tmC (cutI S o n) (cutI lb o' n') x), ⟨3, [(tmS S o n (tmR (cutI S o n) (cutI lb o' n') x), tU), (lb, tR), (la, tR)]⟩, s, [(okTm S lb la t t' t'' o n c o' n' c' x, true)])
  | _, _ => none
theorem gTms_ok : AnsHOk 170 gTms := by
  intro vals h s v h' s' lg hg hl m B w E hv
  unfold gTms at hg
  split at hg
  · rename_i o n c o' n' c' x S t lb t' la t''
    cases hg
    have q := hl _ (List.mem_singleton.2 rfl)
    unfold okTm at q
    simp only [Bool.and_eq_true, decide_eq_true_eq] at q
    obtain ⟨⟨⟨⟨⟨⟨⟨⟨q1, q2⟩, q3⟩, ra⟩, rb⟩, qn⟩, qN⟩, q5⟩, q6⟩ := q
    have q1 := Nat.eq_of_beq_eq_true q1
    have q2 := Nat.eq_of_beq_eq_true q2
    have q3 := Nat.eq_of_beq_eq_true q3
    have qn := Nat.eq_of_beq_eq_true qn
    have qN : n < 1099511627776 := blt_iff.1 qN
    subst q1 q2 q3 qn
    obtain ⟨a1, a2, a3, a4, a5, a6, a7⟩ := row_of ra
    obtain ⟨b1, b2, b3, b4, b5, b6, b7⟩ := row_of rb
    have eS : S = S.take o ++ (wU (cutI S o n) ++ S.drop (o + n)) := by
      have h1 := a1.cut
      rw [a2] at h1
      rw [← h1]
      unfold cutV
      rw [← List.drop_drop, List.take_append_drop, List.take_append_drop]
    have hF : (S.take o).length = o := by
      have := a1.len
      simp
      omega
    have r := tm_runs (R := S.drop (o + n)) (la := la) (c := c) (c' := c') hF a1.rng b1 (by rw [a2, b2]) (by rw [a2]; exact qN) q6 (by rw [a2]; exact a3) a4
    rw [a2, ← eS] at r
    have ht : (Hp.tight ⟨3, [(tmS S o n (tmR (cutI S o n) (cutI lb o' n) x), tU), (lb, tR), (la, tR)]⟩) = true := by
      unfold Hp.tight tmS
      simp only [List.all_cons, List.all_nil, List.all_append, Bool.and_true, Bool.and_eq_true]
      refine ⟨⟨?_, wU_tight _ _, ?_⟩, all_mono (by omega) (List.all_eq_true.2 b7), all_mono (by omega) q5⟩
      · rw [List.all_eq_true]
        exact fun v hv => still_lt (by omega) (a7 v (List.mem_of_mem_take hv))
      · rw [List.all_eq_true]
        exact fun v hv => still_lt (by omega) (a7 v (List.mem_of_mem_drop hv))
    exact hcalls_of_runs (T := tabOf Tryz.prog extY conN true) Tryz.func170 tm_body (vals := [sl 2 o n c, sl 1 o' n c', uu x]) (v := uu (tmC (cutI S o n) (cutI lb o' n) x)) (h := h3 la lb S) (by rfl) ht r m B w E hv
  · cases hg
def hcM : Hc := altH 170 gTms (altH 131 gTrim hcN)
theorem hcM_ok : HcOk hcM := altH_ok Tryz.func170 rfl gTms_ok (altH_ok Tryz.func131 rfl gTrim_ok hcN_ok)
def pdP (F : Func) : List Code := [cFst (sn 0 F), cFst (sn 1 F), cFst (sn 2 F), cFst (sn 3 F)]
def pdL (F : Func) : Code := cIn (cIn (cSnd (cFst (sn 4 F))))
def pdF (o n c o' n' c' z : Nat) (v7 v8 : Value) : List Value := [sl 0 o n c, sl 1 o' n' c', undef, undef, nilS, .nilIface, sl 2 0 z z, v7, v8]
theorem pd_body : Tryz.f127.body = some (seqs (pdP Tryz.f127) (.seq (.seq (cFst (cFst (sn 4 Tryz.f127))) (.block 0 (.loop (pdL Tryz.f127)))) (cSnd (sn 4 Tryz.f127)))) := by kernel_rfl
def pZ (n n' : Nat) : Int := IntKind.i64.wrap ((n : Int) + (n' : Int))
theorem pd_pre (o n c o' n' c' : Nat) (la lb : List Value) : GoesT (evL (tabH Tryz.prog extY conN hcM) 100 (pdP Tryz.f127) ([sl 0 o n c, sl 1 o' n' c'] ++ List.replicate 57 undef, h2 la lb, [cmp false, cmp false, cmp false, at_]) ⟨[], [], []⟩) 9 50 none (pdF o n c o' n' c' (pZ n n').toNat undef undef) (h3 la lb (List.replicate (pZ n n').toNat (uu 0))) [(okMakeB 4 (pZ n n') (pZ n n'), true), (decide (IntKind.i64.wrap (pZ n n' - 1) > 8192), false), ((n' : Int) == 0, false), ((n : Int) == 0, false)] := ⟨by kernel_rfl, by kernel_rfl, by kernel_rfl⟩
theorem pd_r (o n c o' n' c' z : Nat) (v7 v8 : Value) (la lb S : List Value) (g : Nat → Value) : GoesM (evC (tabH Tryz.prog extY conN hcM) 100 false (cFst (cFst (sn 4 Tryz.f127))) (pdF o n c o' n' c' z v7 v8 ++ tl 50 g, h3 la lb S, []) ⟨[], [], []⟩) 9 22 3 25 none (pdF o n c o' n' c' z v7 v8) [sl 0 o n c, i6' n, i6' 0] (h3 la lb S) [] := ⟨by kernel_rfl, by kernel_rfl, by kernel_rfl⟩
theorem pd_out (o n c o' n' c' z : Nat) (j : Int) (v7 v8 : Value) (la lb S : List Value) (g g' : Nat → Value) : GoesM (evC (tabH Tryz.prog extY conN hcM) 100 false (pdL Tryz.f127) (ml (pdF o n c o' n' c' z v7 v8) 22 g [sl 0 o n c, i6' n, i6' j] 25 g', h3 la lb S, [cmp false]) ⟨[], [], []⟩) 9 22 3 25 (some (some 0)) (pdF o n c o' n' c' z v7 v8) [sl 0 o n c, i6' n, i6' j] (h3 la lb S) [(decide (j < n), false)] := ⟨by kernel_rfl, by kernel_rfl, by kernel_rfl⟩
def pJ (j : Int) : Nat := 0 + j.toNat * 1
def pK (j : Int) (n' : Nat) : Int := IntKind.i64.wrap (j + n')
def pLn (j : Int) (n' : Nat) : Nat := (pK j n').toNat - j.toNat
def pS (S lb : List Value) (o' n' : Nat) (j x : Int) : List Value := tmS S (pJ j) (pLn j n') (tmR (cutI S (pJ j) (pLn j n')) (cutI lb o' n') x)
def pC (S lb : List Value) (o' n' : Nat) (j x : Int) : Int := tmC (cutI S (pJ j) (pLn j n')) (cutI lb o' n') x
theorem pd_go (o n c o' n' c' z : Nat) (j x : Int) (v7 v8 : Value) (la lb S : List Value) (g g' : Nat → Value) : GoesM (evC (tabH Tryz.prog extY conN hcM) 100 false (pdL Tryz.f127) (ml (pdF o n c o' n' c' z v7 v8) 22 g [sl 0 o n c, i6' n, i6' j] 25 g', h3 la lb S, [cmp true, at_, val (uu x), num 0, at_, at_]) ⟨[], [], []⟩) 9 22 3 25 none (pdF o n c o' n' c' z (i6' j) (uu x)) [sl 0 o n c, i6' n, i6' (IntKind.i64.wrap (j + 1))]
    (h3 la lb ((pS S lb o' n' j x).set (0 + (pK j n').toNat * 1) (uu (pC S lb o' n' j x))))
    [(decide (0 + (pK j n').toNat * 1 < (pS S lb o' n' j x).length), true), inR (pK j n') z, (okTm S lb la tU tR tR (pJ j) (pLn j n') (z - j.toNat) o' n' c' x, true), (smallC z, true), (okPart j (pK j n') z z, true), (decide ((z : Int) = j ∧ j ≠ 0), false), celR la o j x, inR j n, (decide (j < n), true)] := ⟨by kernel_rfl, by kernel_rfl, by kernel_rfl⟩
theorem pd_end (o n c o' n' c' z : Nat) (v7 v8 u1 u2 u3 : Value) (la lb S : List Value) (g g' : Nat → Value) : GoesT (evC (tabH Tryz.prog extY conN hcM) 100 false (cSnd (sn 4 Tryz.f127)) (ml (pdF o n c o' n' c' z v7 v8) 22 g [u1, u2, u3] 25 g', h3 la lb S, [cmp false]) ⟨[], [], []⟩) 6 53 (some none) [sl 0 o n c, sl 1 o' n' c', undef, undef, sl 2 0 (trimN (cutI S 0 z)) z, .nilIface] (h3 la lb S) [(decide ((trimN (cutI S 0 z) : Int) > 8192), false), (rowOk tU S 0 z z, true)] := ⟨by kernel_rfl, by kernel_rfl, by kernel_rfl⟩
theorem pd_n1 (p q : Option Addr) (n c n' c' : Nat) (h : Hp) : GoesT (evC (tabH Tryz.prog extY conN hcM) 100 false (cBody Tryz.f127) ([.slice p n c, .slice q n' c'] ++ List.replicate 57 undef, h, [cmp true]) ⟨[], [], []⟩) 6 53 (some none) [.slice p n c, .slice q n' c', undef, undef, nilS, .nilIface] h [((n : Int) == 0, true)] := ⟨by kernel_rfl, by kernel_rfl, by kernel_rfl⟩
theorem pd_n2 (p q : Option Addr) (n c n' c' : Nat) (h : Hp) : GoesT (evC (tabH Tryz.prog extY conN hcM) 100 false (cBody Tryz.f127) ([.slice p n c, .slice q n' c'] ++ List.replicate 57 undef, h, [cmp false, cmp true]) ⟨[], [], []⟩) 6 53 (some none) [.slice p n c, .slice q n' c', undef, undef, nilS, .nilIface] h [((n' : Int) == 0, true), ((n : Int) == 0, false)] := ⟨by kernel_rfl, by kernel_rfl, by kernel_rfl⟩
theorem pd_cbody : Tryz.f127.body = some (cBody Tryz.f127) := by kernel_rfl
end Go.Proofs.YtgefjidphfdhdaaGreatDoor.Na
namespace Go.Proofs.YtgefjidphfdhdaaGreatDoor.Na
open Go.KRun Go.Nt
set_option maxRecDepth 100000
def hcS : Hc := altH 128 gChk (altH 129 gLen (altH 130 gMup (altH 131 gTrim hcN)))
theorem hcS_ok : HcOk hcS := altH_ok Tryz.func128 rfl gChk_ok (altH_ok Tryz.func129 rfl gLen_ok (altH_ok Tryz.func130 rfl gMup_ok (altH_ok Tryz.func131 rfl gTrim_ok hcN_ok)))
def skI (k : Int) : Int := IntKind.i64.wrap (k.tdiv 32)
def rmI (k : Int) : Int := k.tmod 32
def zI (n : Nat) (k : Int) : Int := IntKind.i64.wrap (IntKind.i64.wrap (skI k + n) + 1)
def zN (n : Nat) (k : Int) : Nat := (zI n k).toNat
def oN (k : Int) : Nat := 0 + (skI k).toNat * 1
def pN (n : Nat) (k : Int) : Nat := zN n k - (skI k).toNat
def cpN (n : Nat) (k : Int) : Nat := Nat.min n (pN n k)
def cpL (la : List Value) (o n : Nat) (k : Int) : List Value := (List.replicate (zN n k) (uu 0)).take (oN k) ++ (la.drop o).take (cpN n k) ++ (List.replicate (zN n k) (uu 0)).drop (oN k + cpN n k)
def clOk (la : List Value) (o n : Nat) (k : Int) : Bool := !(tomb tR) && !(ro tU) && Nat.ble (o + cpN n k) la.length && Nat.ble (oN k + cpN n k) (List.replicate (zN n k) (uu 0)).length && ((la.drop o).take (cpN n k)).all one
def upM (la : List Value) (o n : Nat) (k : Int) : List Value := upS (cpL la o n k) (oN k) (pN n k) (rmI k)
def lnI (la : List Value) (o n : Nat) : Int := IntKind.i64.wrap (262144 - lenN (cutI la o n))
def fS (o n c : Nat) (k : Int) (r e : Value) : List Value := [sl 0 o n c, i6' k, undef, undef, r, e]
theorem shl_body : Tryz.f77.body = some (cBody Tryz.f77) := by kernel_rfl
theorem shl_bad (o n c : Nat) (k : Int) (la : List Value) : GoesT (evC (tabH Tryz.prog extY conN hcS) 200 false (cBody Tryz.f77) ([sl 0 o n c, i6' k] ++ List.replicate 45 undef, ⟨1, [(la, tR)]⟩, [cmp true]) ⟨[], [], []⟩) 6 41 (some none) (fS o n c k nilS (errV 1)) ⟨1, [(la, tR)]⟩ [chkL la o n c, (badL (cutI la o n), true)] := ⟨by kernel_rfl, by kernel_rfl, by kernel_rfl⟩
theorem shl_neg (o n c : Nat) (k : Int) (la : List Value) : GoesT (evC (tabH Tryz.prog extY conN hcS) 200 false (cBody Tryz.f77) ([sl 0 o n c, i6' k] ++ List.replicate 45 undef, ⟨1, [(la, tR)]⟩, [cmp false, cmp true]) ⟨[], [], []⟩) 6 41 (some none) (fS o n c k nilS (errV 1)) ⟨1, [(la, tR)]⟩ [(decide (k < 0), true), chkL la o n c, (badL (cutI la o n), false)] := ⟨by kernel_rfl, by kernel_rfl, by kernel_rfl⟩
theorem shl_nil (o n c : Nat) (k : Int) (la : List Value) : GoesT (evC (tabH Tryz.prog extY conN hcS) 200 false (cBody Tryz.f77) ([sl 0 o n c, i6' k] ++ List.replicate 45 undef, ⟨1, [(la, tR)]⟩, [cmp false, cmp false, cmp true]) ⟨[], [], []⟩) 6 41 (some none) (fS o n c k nilS .nilIface) ⟨1, [(la, tR)]⟩ [((n : Int) == 0, true), (decide (k < 0), false), chkL la o n c, (badL (cutI la o n), false)] := ⟨by kernel_rfl, by kernel_rfl, by kernel_rfl⟩
theorem shl_long (o n c : Nat) (k : Int) (la : List Value) : GoesT (evC (tabH Tryz.prog extY conN hcS) 200 false (cBody Tryz.f77) ([sl 0 o n c, i6' k] ++ List.replicate 45 undef, ⟨1, [(la, tR)]⟩, [cmp false, cmp false, cmp false, cmp true]) ⟨[], [], []⟩) 6 41 (some none) (fS o n c k nilS (errV 2)) ⟨1, [(la, tR)]⟩ [(decide (k > lnI la o n), true), chkL la o n c, ((n : Int) == 0, false), (decide (k < 0), false), chkL la o n c, (badL (cutI la o n), false)] := ⟨by kernel_rfl, by kernel_rfl, by kernel_rfl⟩
theorem shl_good (o n c : Nat) (k : Int) (la : List Value) : GoesT (evC (tabH Tryz.prog extY conN hcS) 200 false (cBody Tryz.f77) ([sl 0 o n c, i6' k] ++ List.replicate 45 undef, ⟨1, [(la, tR)]⟩, [cmp false, cmp false, cmp false, cmp false, at_, num 0, at_, num 0]) ⟨[], [], []⟩) 6 41 (some none) (fS o n c k (sl 1 0 (trimN (cutI (upM la o n k) 0 (zN n k))) (zN n k)) .nilIface) (hU (upM la o n k) la)
    [(rowOk tU (upM la o n k) 0 (zN n k) (zN n k), true), (Nat.beq tU tU, true), (Nat.beq tR tR, true), (rowOk tU (cpL la o n k) (oN k) (pN n k) (pN n k), true), (Nat.beq (oN k + pN n k) (cpL la o n k).length, true), (la.all still, true), (decide (0 ≤ rmI k ∧ rmI k < 32), true),
      (smallC (zN n k), true), (okPart (skI k) (zN n k) (zN n k) (zN n k), true), (decide (((zN n k : Nat) : Int) = skI k ∧ skI k ≠ 0), false), (clOk la o n k, true), (smallC (zN n k), true), (okPart (skI k) (zN n k) (zN n k) (zN n k), true), (decide (((zN n k : Nat) : Int) = skI k ∧ skI k ≠ 0), false), (okMakeB 4 (zI n k) (zI n k), true),
      (decide (k > lnI la o n), false), chkL la o n c, ((n : Int) == 0, false), (decide (k < 0), false), chkL la o n c, (badL (cutI la o n), false)] := ⟨by kernel_rfl, by kernel_rfl, by kernel_rfl⟩
end Go.Proofs.YtgefjidphfdhdaaGreatDoor.Na
namespace Go.Nt
theorem dg_skip : ∀ (s m : Nat) (V : Int), dg (s + m) (4294967296 ^ s * V) = List.replicate s 0 ++ dg m V
  | 0, m, V => by simp
  | s + 1, m, V => by
    rw [show s + 1 + m = (s + m) + 1 from by omega]
    simp only [dg]
    rw [pw, Int.mul_assoc]
    generalize hZ : (4294967296 : Int) ^ s * V = Z
    have e1 : (4294967296 * Z) % 4294967296 = 0 := by omega
    have e2 : (4294967296 * Z) / 4294967296 = Z := by omega
    rw [e1, e2, ← hZ, dg_skip s m V, List.replicate_succ, List.cons_append]
theorem two_split (K : Nat) : (2 : Int) ^ K = 4294967296 ^ (K / 32) * 2 ^ (K % 32) := by
  have e : (4294967296 : Int) = 2 ^ 32 := rfl
  rw [e, ← Int.pow_mul, ← Int.pow_add, show 32 * (K / 32) + K % 32 = K from by omega]
/-- words moved up by K bits -/
def shlR (L : List Int) (K : Nat) : List Int := dg (K / 32 + (L.length + 1)) (vN L * 2 ^ K)
theorem shlR_eq (L : List Int) (K : Nat) : shlR L K = List.replicate (K / 32) 0 ++ dg (L.length + 1) (vN L * 2 ^ (K % 32)) := by
  unfold shlR
  rw [two_split K, ← Int.mul_assoc, Int.mul_comm (vN L), Int.mul_assoc, dg_skip]
end Go.Nt
namespace Go.Proofs.YtgefjidphfdhdaaGreatDoor.Na
open Go.KRun Go.Nt
set_option maxRecDepth 100000
theorem lenN_bd {L : List Int} (hL : wds L) : 0 ≤ lenN L ∧ lenN L ≤ 262144 := by
  unfold lenN
  cases h : (L.length == 0 || badL L) with
  | true =>
    show (0 : Int) ≤ 0 ∧ (0 : Int) ≤ 262144
    omega
  | false =>
    simp only [Bool.or_eq_false_iff] at h
    have h8 := badL_len h.2
    have h0 : L.length ≠ 0 := by simpa using h.1
    have hx := hL (L.getD (L.length - 1) 0) (by
      have hk' : L.length - 1 < L.length := by omega
      simp [List.getD, List.getElem?_eq_getElem hk'])
    have := bitLen_32 hx.1 hx.2
    simp only
    omega
theorem sk_eq {K : Nat} (h : K ≤ 262144) : skI K = ((K / 32 : Nat) : Int) := by
  unfold skI
  have e : ((K : Nat) : Int).tdiv 32 = ((K / 32 : Nat) : Int) := rfl
  rw [e, wrapI (by omega) (by omega)]
theorem rm_eq (K : Nat) : rmI K = ((K % 32 : Nat) : Int) := rfl
theorem zI_eq {n K : Nat} (h : K ≤ 262144) (hn : n ≤ 8192) : zI n K = ((K / 32 + (n + 1) : Nat) : Int) := by
  unfold zI
  rw [sk_eq h, wrapI (n := ((K / 32 : Nat) : Int) + (n : Nat)) (by omega) (by omega), wrapI (by omega) (by omega)]
  omega
theorem zN_eq {n K : Nat} (h : K ≤ 262144) (hn : n ≤ 8192) : zN n K = K / 32 + (n + 1) := by unfold zN; rw [zI_eq h hn, Int.toNat_natCast]
theorem oN_eq {K : Nat} (h : K ≤ 262144) : oN K = K / 32 := by unfold oN; rw [sk_eq h, Int.toNat_natCast]; omega
theorem pN_eq {n K : Nat} (h : K ≤ 262144) (hn : n ≤ 8192) : pN n K = n + 1 := by unfold pN; rw [sk_eq h, zN_eq h hn, Int.toNat_natCast]; omega
theorem cpN_eq {n K : Nat} (h : K ≤ 262144) (hn : n ≤ 8192) : cpN n K = n := by unfold cpN; rw [pN_eq h hn]; simp
theorem cpL_eq {la : List Value} {o K : Nat} {L : List Int} (hR : Row la o L) (h : K ≤ 262144) (hn : L.length ≤ 8192) : cpL la o L.length K = wU (List.replicate (K / 32) 0 ++ (L ++ [0])) := by
  unfold cpL
  rw [cpN_eq h hn, zN_eq h hn, oN_eq h]
  have e1 : (la.drop o).take L.length = wU L := hR.cut
  rw [e1, List.drop_replicate, List.take_replicate, show K / 32 + (L.length + 1) - (K / 32 + L.length) = 1 from by omega, show min (K / 32) (K / 32 + (L.length + 1)) = K / 32 from by omega]
  unfold wU uu
  simp
theorem clOk_eq {la : List Value} {o K : Nat} {L : List Int} (hR : Row la o L) (h : K ≤ 262144) (hn : L.length ≤ 8192) : clOk la o L.length K = true := by
  unfold clOk
  rw [cpN_eq h hn, zN_eq h hn, oN_eq h]
  have e1 : (la.drop o).take L.length = wU L := hR.cut
  rw [e1, tR_tomb, tU_own]
  have h1 : Nat.ble (o + L.length) la.length = true := Nat.ble_eq_true_of_le hR.len
  have h2 : Nat.ble (K / 32 + L.length) (List.replicate (K / 32 + (L.length + 1)) (uu 0)).length = true := Nat.ble_eq_true_of_le (by rw [List.length_replicate]; omega)
  have h3 : ((wU L).all one) = true := by
    unfold wU
    rw [List.all_eq_true]
    intro v hv
    obtain ⟨x, _, rfl⟩ := List.mem_map.1 hv
    rfl
  rw [h1, h2, h3]
  rfl
theorem cutI_app (A B : List Int) : cutI (wU (A ++ B)) A.length B.length = B := by
  unfold cutI cutV wU
  rw [List.map_append, List.drop_append_of_le_length (by simp), show A.length = (A.map (Value.int .u32)).length from by simp, List.drop_length, List.nil_append, List.take_of_length_le (by simp), List.map_map]
  exact (List.map_congr_left fun x _ => rfl).trans (List.map_id' _)
theorem wds_rep (s : Nat) : wds (List.replicate s 0) := fun x hx => by rw [List.eq_of_mem_replicate hx]; omega
theorem wds_zero {L : List Int} (h : wds L) : wds (L ++ [0]) := wds_app h (fun x hx => by rw [List.mem_singleton.1 hx]; omega)
theorem upM_eq {la : List Value} {o K : Nat} {L : List Int} (hR : Row la o L) (h : K ≤ 262144) (hn : L.length ≤ 8192) : upM la o L.length K = wU (shlR L K) := by
  unfold upM upS
  rw [cpL_eq hR h hn, oN_eq h, pN_eq h hn, rm_eq, Int.toNat_natCast]
  have e1 := cutI_app (List.replicate (K / 32) 0) (L ++ [0])
  rw [List.length_replicate, List.length_append, List.length_singleton] at e1
  rw [e1, vN_snoc, Int.mul_zero, Int.add_zero, shlR_eq]
  unfold wU
  rw [List.map_append, List.map_append, List.take_append_of_le_length (by simp), List.take_of_length_le (by simp), List.map_append]
theorem rep_row {la : List Value} {o K : Nat} {L : List Int} (hR : Row la o L) (h : K ≤ 262144) (hn : L.length ≤ 8192) : rowOk tU (cpL la o L.length K) (oN K) (pN L.length K) (pN L.length K) = true := by
  rw [cpL_eq hR h hn, oN_eq h, pN_eq h hn]
  unfold rowOk
  have e1 := cutI_app (List.replicate (K / 32) 0) (L ++ [0])
  rw [show tomb tU = false from by kernel_rfl, show Nat.beq (rt tU) tU = true from by kernel_rfl, Nat.ble_eq_true_of_le (show K / 32 + (L.length + 1) ≤ (wU (List.replicate (K / 32) 0 ++ (L ++ [0]))).length by unfold wU; simp), Nat.ble_eq_true_of_le (Nat.le_refl _), show smallC (L.length + 1) = true from blt_iff.2 (by unfold dead; omega), wU_allS]
  have h3 : ((cutV (wU (List.replicate (K / 32) 0 ++ (L ++ [0]))) (K / 32) (L.length + 1)).all isU) = true := by
    rw [List.all_eq_true]
    intro v hv
    unfold cutV wU at hv
    obtain ⟨x, hx, rfl⟩ := List.mem_map.1 (List.mem_of_mem_drop (List.mem_of_mem_take hv))
    exact decide_eq_true ((wds_app (wds_rep _) (wds_zero hR.rng)) x hx)
  rw [h3]
  rfl
theorem shl_runs {la : List Value} {o n c K : Nat} (ha : rowOk tR la o n c = true) (hb : badL (cutI la o n) = false) (h0 : n ≠ 0) (hK : (K : Int) ≤ 262144 - lenN (cutI la o n)) :
    Runs (tabH Tryz.prog extY conN hcS) (cBody Tryz.f77) ([sl 0 o n c, i6' K] ++ List.replicate 45 undef, ⟨1, [(la, tR)]⟩, []) fun e y => (e = none ∨ e = some none) ∧ resS Tryz.prog Tryz.f77 y.1 y.2.1 = some (.tuple #[sl 1 0 (trimN (shlR (cutI la o n) K)) (K / 32 + (n + 1)), .nilIface]) ∧ y.2.1.blk? 1 = some (wU (shlR (cutI la o n) K), tU) := by
  obtain ⟨a1, a2, a3, a4, a5, a6, a7⟩ := row_of ha
  have h8 := badL_len hb
  have hl := lenN_bd a1.rng
  have g0 := shl_good o n c K la
  have lI : lnI la o n = 262144 - lenN (cutI la o n) := by unfold lnI; rw [wrapI (by omega) (by omega)]
  rw [lI] at g0
  generalize hL : cutI la o n = L at *
  subst a2
  have hK2 : K ≤ 262144 := by omega
  rw [upM_eq a1 hK2 h8] at g0
  have ez := zN_eq (n := L.length) hK2 h8
  have esm : smallC (zN L.length K) = true := blt_iff.2 (by rw [ez]; unfold dead; omega)
  have r1 := wU_row (dg_wds (K / 32 + (L.length + 1)) (vN L * 2 ^ K)) (c := zN L.length K) (by rw [dg_len, ez]; exact Nat.le_refl _) esm
  rw [dg_len, ← ez] at r1
  have r2 : rowOk tU (wU (shlR L K)) 0 (zN L.length K) (zN L.length K) = true := by unfold shlR; rw [← ez]; exact r1.1
  have r3 : cutI (wU (shlR L K)) 0 (zN L.length K) = shlR L K := by unfold shlR; rw [← ez]; exact r1.2
  have part : okPart (skI K) (zN L.length K) (zN L.length K) (zN L.length K) = true := by unfold okPart; rw [sk_eq hK2, ez]; exact decide_eq_true (by omega)
  have part2 : decide (((zN L.length K : Nat) : Int) = skI K ∧ skI K ≠ 0) = false := by rw [sk_eq hK2, ez]; exact decide_eq_false (by omega)
  have mk : okMakeB 4 (zI L.length K) (zI L.length K) = true := by unfold okMakeB; rw [zI_eq hK2 h8]; exact decide_eq_true (by omega)
  have len : Nat.beq (oN K + pN L.length K) (cpL la o L.length K).length = true := by
    rw [cpL_eq a1 hK2 h8, oN_eq hK2, pN_eq hK2 h8]
    unfold wU
    simp
  have calm : la.all still = true := List.all_eq_true.2 a7
  have d1 : decide (0 ≤ rmI K ∧ rmI K < 32) = true := by rw [rm_eq]; exact decide_eq_true (by omega)
  have d2 : decide ((K : Int) > 262144 - lenN L) = false := decide_eq_false (by omega)
  have d3 : ((L.length : Int) == 0) = false := by simpa using h0
  have d4 : decide ((K : Int) < 0) = false := decide_eq_false (by omega)
  refine (goesT_runs (tabH_ok conN_ok hcS_ok) g0 (okTwo r2 (okTwo (by kernel_rfl) (okTwo (by kernel_rfl) (okTwo (rep_row a1 hK2 h8) (okTwo len (okTwo calm (okTwo d1
    (okTwo esm (okTwo part (okTwo part2 (okTwo (clOk_eq a1 hK2 h8) (okTwo esm (okTwo part (okTwo part2 (okTwo mk (okTwo d2 (okTwo ha (okTwo d3 (okTwo d4 (okTwo ha (okOne hb)))))))))))))))))))))).mono fun e y he => ?_
  obtain ⟨rfl, ⟨g, e2⟩, e3⟩ := he
  refine ⟨.inr rfl, ?_, ?_⟩
  · rw [e2, e3, r3, ez]
    rfl
  · rw [e3]
    rfl
theorem shl_row {la : List Value} {o n c : Nat} {k : Int} {r e : Value} {cs : Log} {s : List Dec} (g0 : GoesT (evC (tabH Tryz.prog extY conN hcS) 200 false (cBody Tryz.f77) ([sl 0 o n c, i6' k] ++ List.replicate 45 undef, ⟨1, [(la, tR)]⟩, s) ⟨[], [], []⟩) 6 41 (some none) (fS o n c k r e) ⟨1, [(la, tR)]⟩ cs) (hcs : okLog cs)
    (hres : ∀ g, resS Tryz.prog Tryz.f77 (fS o n c k r e ++ tl 41 g) ⟨1, [(la, tR)]⟩ = some (.tuple #[r, e])) :
    Runs (tabH Tryz.prog extY conN hcS) (cBody Tryz.f77) ([sl 0 o n c, i6' k] ++ List.replicate 45 undef, ⟨1, [(la, tR)]⟩, []) fun e' y => (e' = none ∨ e' = some none) ∧ resS Tryz.prog Tryz.f77 y.1 y.2.1 = some (.tuple #[r, e]) := by
  refine (goesT_runs (tabH_ok conN_ok hcS_ok) g0 hcs).mono fun e' y he => ?_
  obtain ⟨rfl, ⟨g, e2⟩, e3⟩ := he
  refine ⟨.inr rfl, ?_⟩
  rw [e2, e3]
  exact hres g
def gShl : AnsH := fun vals h s =>
  match vals with
  | [.slice (some ⟨b, o, none⟩) n c, .int .i64 k] =>
    match h.blk? b, s with
    | some x, .inr (.inr (.inr (.inl true))) :: s' => some (.tuple #[nilS, errV 1], h, s', [(rowOk x.2 x.1 o n c, true), (badL (cutI x.1 o n) || decide (k < 0), true)])
    | some x, .inr (.inr (.inr (.inl false))) :: .inr (.inr (.inr (.inl true))) :: s' => some (.tuple #[nilS, .nilIface], h, s', [(rowOk x.2 x.1 o n c, true), (badL (cutI x.1 o n) || decide (k < 0), false), (decide (n = 0), true)])
    | some x, .inr (.inr (.inr (.inl false))) :: .inr (.inr (.inr (.inl false))) :: .inr (.inr (.inr (.inl true))) :: s' => some (.tuple #[nilS, errV 2], h, s', [(rowOk x.2 x.1 o n c, true), (badL (cutI x.1 o n) || decide (k < 0), false), (decide (n = 0), false), (decide (k > 262144 - lenN (cutI x.1 o n)), true)])
    | some x, .inr (.inr (.inr (.inl false))) :: .inr (.inr (.inr (.inl false))) :: .inr (.inr (.inr (.inl false))) :: s' => some (.tuple #[sl h.n 0 (trimN (shlR (cutI x.1 o n) k.toNat)) (k.toNat / 32 + (n + 1)), .nilIface], h.push (wU (shlR (cutI x.1 o n) k.toNat)) tU, s', [(rowOk x.2 x.1 o n c, true), (badL (cutI x.1 o n) || decide (k < 0), false), (decide (n = 0), false), (decide (k > 262144 - lenN (cutI x.1 o n)), false)])
    | _, _ => none
  | _ => none
theorem gShl_ok : AnsHOk 77 gShl := by
  intro vals h s v h' s' lg hg hl m B w E hv
  unfold gShl at hg
  split at hg
  · rename_i b o n c k
    have one1 : ∀ x : List Value × TypeId, h.blk? b = some x → rowOk x.2 x.1 o n c = true → ∀ v0 : Value, oc (List.range 1) v0 = true → rn (fun _ => b) v0 = v0 →
        Runs (tabH Tryz.prog extY conN hcS) (cBody Tryz.f77) ([sl 0 o n c, i6' k] ++ List.replicate 45 undef, ⟨1, [(x.1, tR)]⟩, []) (fun e y => (e = none ∨ e = some none) ∧ resS Tryz.prog Tryz.f77 y.1 y.2.1 = some v0) →
        Calls Tryz.prog 77 (([.slice (some ⟨b, o, none⟩) n c, .int .i64 k] : List Value).map (mv m)).toArray w fun e w' => ∃ m', e = .returned (mv m' v0) ∧ Came m B h w v0 h m' w' := by
      intro x hx ra v0 ho e0 r
      obtain ⟨a1, a2, a3, a4, a5, a6, a7⟩ := row_of ra
      have hlt := Hp.blk_lt hx
      have := row_calls (T := tabH Tryz.prog extY conN hcS) Tryz.func77 shl_body (rows1 a7) (vals := [sl 0 o n c, i6' k]) (fun v hv => by
        simp only [List.mem_cons, List.not_mem_nil, or_false] at hv
        rcases hv with rfl | rfl <;> rfl) ho r E (s := fun _ => b) (fun i _ => hlt) (fitsR1 hx a5 a6 rfl)
      rw [e0] at this
      exact this.mono fun e w' he => ⟨m, he.1, he.2⟩
    split at hg
    · rename_i x s2 hx
      cases hg
      have ra := hl _ (List.mem_cons_self)
      have hd := hl _ (List.mem_cons_of_mem _ (List.mem_singleton.2 rfl))
      simp only at hd
      refine one1 x hx ra _ (by rfl) (rn_still (by rfl)) ?_
      cases hb : badL (cutI x.1 o n) with
      | true => exact shl_row (shl_bad o n c k x.1) (okTwo (rowOk_R ra) (okOne hb)) (fun _ => rfl)
      | false =>
        rw [hb, Bool.false_or] at hd
        exact shl_row (shl_neg o n c k x.1) (okTwo hd (okTwo (rowOk_R ra) (okOne hb))) (fun _ => rfl)
    · rename_i x s2 hx
      cases hg
      have ra := hl _ (List.mem_cons_self)
      have hd := hl _ (List.mem_cons_of_mem _ List.mem_cons_self)
      have h0 := of_decide_eq_true (hl _ (List.mem_cons_of_mem _ (List.mem_cons_of_mem _ (List.mem_singleton.2 rfl))))
      simp only [Bool.or_eq_false_iff] at hd
      have d3 : ((n : Int) == 0) = true := by rw [h0]; rfl
      exact one1 x hx ra _ (by rfl) (rn_still (by rfl)) (shl_row (shl_nil o n c k x.1) (okTwo d3 (okTwo hd.2 (okTwo (rowOk_R ra) (okOne hd.1)))) (fun _ => rfl))
    · rename_i x s2 hx
      cases hg
      have ra := hl _ (List.mem_cons_self)
      have hd := hl _ (List.mem_cons_of_mem _ List.mem_cons_self)
      have h0 := of_decide_eq_false (hl _ (List.mem_cons_of_mem _ (List.mem_cons_of_mem _ List.mem_cons_self)))
      have hk := hl _ (List.mem_cons_of_mem _ (List.mem_cons_of_mem _ (List.mem_cons_of_mem _ (List.mem_singleton.2 rfl))))
      simp only [Bool.or_eq_false_iff] at hd
      have d3 : ((n : Int) == 0) = false := by simpa using h0
      obtain ⟨a1, a2, a3, a4, a5, a6, a7⟩ := row_of ra
      have hle := lenN_bd a1.rng
      have lI : lnI x.1 o n = 262144 - lenN (cutI x.1 o n) := by unfold lnI; rw [wrapI (by omega) (by omega)]
      have g0 := shl_long o n c k x.1
      rw [lI] at g0
      exact one1 x hx ra _ (by rfl) (rn_still (by rfl)) (shl_row g0 (okTwo hk (okTwo (rowOk_R ra) (okTwo d3 (okTwo hd.2 (okTwo (rowOk_R ra) (okOne hd.1)))))) (fun _ => rfl))
    · rename_i x s2 hx
      cases hg
      have ra := hl _ (List.mem_cons_self)
      have hd := hl _ (List.mem_cons_of_mem _ List.mem_cons_self)
      have h0 := of_decide_eq_false (hl _ (List.mem_cons_of_mem _ (List.mem_cons_of_mem _ List.mem_cons_self)))
      have hk := of_decide_eq_false (hl _ (List.mem_cons_of_mem _ (List.mem_cons_of_mem _ (List.mem_cons_of_mem _ (List.mem_singleton.2 rfl)))))
      simp only [Bool.or_eq_false_iff] at hd
      have hk0 := of_decide_eq_false hd.2
      obtain ⟨K, rfl⟩ := Int.eq_ofNat_of_zero_le (show 0 ≤ k by omega)
      rw [Int.toNat_natCast]
      obtain ⟨a1, a2, a3, a4, a5, a6, a7⟩ := row_of ra
      have r := shl_runs (K := K) (rowOk_R ra) hd.1 h0 (by omega)
      have e1 : ∀ j M : Nat, rn (fun _ => h.n) (.tuple #[sl 1 0 j M, .nilIface]) = .tuple #[sl h.n 0 j M, .nilIface] := fun j M => by simp [rn, rn2, rn1, sl]
      have := row_calls1 (T := tabH Tryz.prog extY conN hcS) Tryz.func77 shl_body (rows1 a7) (vals := [sl 0 o n c, i6' K]) (fun v hv => by
        simp only [List.mem_cons, List.not_mem_nil, or_false] at hv
        rcases hv with rfl | rfl <;> rfl) (k := 1) (wU_calm _) tU_own (r.w.mono fun e y h => ⟨h.1, h.2.1, [], by rw [List.append_nil]; exact h.2.2⟩) (by rfl) E (s := fun _ => b) (fitsR1 hx a5 a6 rfl)
      rw [e1] at this
      exact this
    · cases hg
  · cases hg
end Go.Proofs.YtgefjidphfdhdaaGreatDoor.Na
namespace Go.Proofs.YtgefjidphfdhdaaGreatDoor.Na
open Go.KRun Go.Nt
set_option maxRecDepth 100000
set_option linter.unusedVariables false
def mulR (L M : List Int) : List Int := dg (L.length + M.length) (vN L * vN M)
theorem wU_rowAt {L : List Int} (h : wds L) {o n c : Nat} (hl : o + n ≤ L.length) (hc : n ≤ c) (h2 : smallC c = true) : rowOk tU (wU L) o n c = true := by
  unfold rowOk
  have h3 : ((cutV (wU L) o n).all isU) = true := by
    rw [List.all_eq_true]
    intro v hv
    unfold cutV wU at hv
    obtain ⟨x, hx, rfl⟩ := List.mem_map.1 (List.mem_of_mem_drop (List.mem_of_mem_take hv))
    exact decide_eq_true (h x hx)
  rw [show tomb tU = false from by kernel_rfl, show Nat.beq (rt tU) tU = true from by kernel_rfl, Nat.ble_eq_true_of_le (show o + n ≤ (wU L).length by rw [wU_len]; exact hl), Nat.ble_eq_true_of_le hc, h2, h3, wU_allS]
  rfl
theorem cut_mid (D M R : List Int) : cutI (wU (D ++ (M ++ R))) D.length M.length = M := by
  unfold cutI cutV wU
  rw [List.map_append, List.map_append, List.drop_left' (by simp), List.take_left' (by simp), List.map_map]
  exact (List.map_congr_left fun x _ => rfl).trans (List.map_id' _)
theorem tmS_mid (D M R L : List Int) : tmS (wU (D ++ (M ++ R))) D.length M.length L = wU (D ++ (L ++ R)) := by
  have e1 : (wU (D ++ (M ++ R))).take D.length = wU D := by
    unfold wU
    rw [List.map_append]
    exact List.take_left' (by simp)
  have e2 : (wU (D ++ (M ++ R))).drop (D.length + M.length) = wU R := by
    unfold wU
    rw [← List.append_assoc, List.map_append]
    exact List.drop_left' (by simp)
  unfold tmS
  rw [e1, e2]
  unfold wU
  rw [List.map_append, List.map_append]
theorem set_mid (D L : List Int) (z c : Int) (R : List Int) : (wU (D ++ (L ++ z :: R))).set (D.length + L.length) (uu c) = wU (D ++ ((L ++ [c]) ++ R)) := by
  rw [← List.append_assoc, show D.length + L.length = (D ++ L).length from by simp, wU_set]
  simp
theorem pd_runs {la lb : List Value} {o c o' c' : Nat} {LA LB : List Int} (RA : Row la o LA) (RB : Row lb o' LB) (sa : ∀ v ∈ la, still v = true) (hrb : rowOk tR lb o' LB.length c' = true) (ha : 0 < LA.length) (hb : 0 < LB.length) (h8 : LA.length + LB.length ≤ 8192) :
    Runs (tabH Tryz.prog extY conN hcM) (seqs (pdP Tryz.f127) (.seq (.seq (cFst (cFst (sn 4 Tryz.f127))) (.block 0 (.loop (pdL Tryz.f127)))) (cSnd (sn 4 Tryz.f127)))) ([sl 0 o LA.length c, sl 1 o' LB.length c'] ++ List.replicate 57 undef, h2 la lb, []) fun e y => (e = none ∨ e = some none) ∧ resS Tryz.prog Tryz.f127 y.1 y.2.1 = some (.tuple #[sl 2 0 (trimN (mulR LA LB)) (LA.length + LB.length), .nilIface]) ∧ y.2.1.blk? 2 = some (wU (mulR LA LB), tU) := by
  have hT := tabH_ok conN_ok hcM_ok
  have eZ : pZ LA.length LB.length = ((LA.length + LB.length : Nat) : Int) := by
    unfold pZ
    rw [wrapI (by omega) (by omega)]
    omega
  have g0 := pd_pre o LA.length c o' LB.length c' la lb
  rw [eZ, Int.toNat_natCast] at g0
  have esm : ∀ q : Nat, q ≤ 8192 → smallC q = true := fun q hq => blt_iff.2 (by unfold dead; omega)
  have bA := RA.rng
  have bB := vN_bd LB RB.rng
  have erep : List.replicate (LA.length + LB.length) (uu 0) = wU ([] ++ (List.replicate LB.length 0 ++ List.replicate LA.length 0)) := by
    unfold wU uu
    rw [Nat.add_comm]
    simp [List.replicate_append_replicate]
  rw [erep] at g0
  refine goesT_list hT g0 (okTwo (by unfold okMakeB; exact decide_eq_true (by omega)) (okTwo (by rw [wrapI (by omega) (by omega)]; exact decide_eq_false (by omega)) (okTwo (by simpa using (show LB.length ≠ 0 by omega)) (okOne (by simpa using (show LA.length ≠ 0 by omega)))))) fun g => ?_
  refine Runs.seq (P1 := fun e' y => e' = none ∧ ∃ (D M : List Int) (v7 v8 u1 u2 u3 : Value) (g g' : Nat → Value), y.1 = ml (pdF o LA.length c o' LB.length c' (LA.length + LB.length) v7 v8) 22 g [u1, u2, u3] 25 g' ∧ D.length = LA.length ∧ M.length = LB.length ∧ wds D ∧ wds M ∧ vN D + 4294967296 ^ D.length * vN M = vN LA * vN LB ∧ y.2.1 = h3 la lb (wU (D ++ (M ++ [])))) ?_ ?_ (fun e y he => by cases he.1)
  · refine Runs.seq (P1 := fun e' y => e' = none ∧ (∃ g g', y.1 = ml (pdF o LA.length c o' LB.length c' (LA.length + LB.length) undef undef) 22 g [sl 0 o LA.length c, i6' LA.length, i6' 0] 25 g') ∧ y.2.1 = h3 la lb (wU ([] ++ (List.replicate LB.length 0 ++ List.replicate LA.length 0)))) (goesM_runs hT (pd_r o LA.length c o' LB.length c' (LA.length + LB.length) undef undef la lb _ g) (fun x hx => by cases hx)) ?_ (fun e y he => by cases he.1)
    rintro ⟨t, h', s'⟩ ⟨_, ⟨g1, g2, ht⟩, hh⟩
    simp only at ht hh
    subst ht hh
    refine (Runs.forLoop (R := fun _ => False) (P := fun y => ∃ (D M : List Int) (v7 v8 u1 u2 u3 : Value) (g g' : Nat → Value), y.1 = ml (pdF o LA.length c o' LB.length c' (LA.length + LB.length) v7 v8) 22 g [u1, u2, u3] 25 g' ∧ D.length = LA.length ∧ M.length = LB.length ∧ wds D ∧ wds M ∧ vN D + 4294967296 ^ D.length * vN M = vN LA * vN LB ∧ y.2.1 = h3 la lb (wU (D ++ (M ++ []))))
      (fun r y => ∃ (D M : List Int) (v7 v8 : Value) (g g' : Nat → Value), D.length + r = LA.length ∧ M.length = LB.length ∧ wds D ∧ wds M ∧ vN D + 4294967296 ^ D.length * vN M = vN (LA.take D.length) * vN LB ∧ y.1 = ml (pdF o LA.length c o' LB.length c' (LA.length + LB.length) v7 v8) 22 g [sl 0 o LA.length c, i6' LA.length, i6' D.length] 25 g' ∧ y.2.1 = h3 la lb (wU (D ++ (M ++ List.replicate r 0))))
      ?_ (n := LA.length) ⟨[], List.replicate LB.length 0, undef, undef, g1, g2, by simp, by simp, (fun x hx => by cases hx), wds_rep _, ?_, rfl, rfl⟩).mono fun e' y he => ?_
    · rintro r ⟨t, h', s'⟩ ⟨D, M, v7, v8, g, g', hr, hM, w1, w2, hv, ht, hh⟩
      simp only at ht hh
      subst ht hh
      cases r with
      | zero =>
        have ek : D.length = LA.length := by omega
        refine (goesM_runs hT (pd_out o LA.length c o' LB.length c' (LA.length + LB.length) D.length v7 v8 la lb _ g g') (okOne (decide_eq_false (by omega)))).mono fun e' y he => ?_
        obtain ⟨rfl, ⟨g1, g2, e2⟩, e3⟩ := he
        rw [ek, List.take_length] at hv
        rw [← ek] at hv
        exact ⟨rfl, D, M, v7, v8, _, _, _, g1, g2, e2, ek, hM, w1, w2, hv, e3⟩
      | succ r =>
        have hk : D.length < LA.length := by omega
        have cA := RA.cell hk
        have hx := bA (LA.getD D.length 0) (by simp [List.getD, List.getElem?_eq_getElem hk])
        have et := take_succ hk
        generalize LA.getD D.length 0 = x at *
        have eJ : pJ D.length = D.length := by unfold pJ; omega
        have eK : pK D.length LB.length = ((D.length + LB.length : Nat) : Int) := by unfold pK; rw [wrapI (by omega) (by omega)]; omega
        have eL : pLn D.length LB.length = M.length := by unfold pLn; rw [eK]; omega
        have ecB : cutI lb o' LB.length = LB := by
          unfold cutI
          rw [RB.cut]
          unfold wU
          rw [List.map_map]
          exact (List.map_congr_left fun x _ => rfl).trans (List.map_id' _)
        have ecM : cutI (wU (D ++ (M ++ List.replicate (r + 1) 0))) (pJ D.length) (pLn D.length LB.length) = M := by rw [eJ, eL]; exact cut_mid _ _ _
        have ePS : pS (wU (D ++ (M ++ List.replicate (r + 1) 0))) lb o' LB.length D.length x = wU (D ++ (tmR M LB x ++ List.replicate (r + 1) 0)) := by
          unfold pS
          rw [ecM, ecB, eJ, eL]
          exact tmS_mid _ _ _ _
        have ePC : pC (wU (D ++ (M ++ List.replicate (r + 1) 0))) lb o' LB.length D.length x = tmC M LB x := by
          unfold pC
          rw [ecM, ecB]
        have lR : (tmR M LB x).length = M.length := by unfold tmR; rw [dg_len]
        have bM := vN_bd M w2
        rw [hM] at bM
        have bT := tm_bd bM bB hx
        rw [← hM] at bT
        obtain ⟨y, m, e1, e2, w3, w4, e5⟩ := tm_split bT
        have eW : tmR M LB x ++ [tmC M LB x] = y :: m := e1
        have g1 := pd_go o LA.length c o' LB.length c' (LA.length + LB.length) D.length x v7 v8 la lb (wU (D ++ (M ++ List.replicate (r + 1) 0))) g g'
        rw [ePS, ePC, eK, eJ, eL, Int.toNat_natCast, Int.toNat_natCast, Nat.zero_add, Nat.mul_one] at g1
        have hall : wds (D ++ (M ++ List.replicate (r + 1) 0)) := wds_app w1 (wds_app w2 (wds_rep _))
        have l1 : decide (D.length + LB.length < (wU (D ++ (tmR M LB x ++ List.replicate (r + 1) 0))).length) = true := decide_eq_true (by rw [wU_len]; simp [lR]; omega)
        have l2 : (inR ((D.length + LB.length : Nat) : Int) (LA.length + LB.length)).1 = (inR ((D.length + LB.length : Nat) : Int) (LA.length + LB.length)).2 := decide_eq_true (by omega)
        have l3 : okTm (wU (D ++ (M ++ List.replicate (r + 1) 0))) lb la tU tR tR D.length M.length (LA.length + LB.length - D.length) o' LB.length c' x = true := by
          unfold okTm
          rw [wU_rowAt hall (by simp) (by omega) (esm _ (by omega)), hrb, List.all_eq_true.2 sa, blt_iff.2 (show M.length < 1099511627776 by omega), decide_eq_true hx, hM]
          simp
        have l5 : okPart D.length ((D.length + LB.length : Nat) : Int) ((LA.length + LB.length : Nat) : Int) ((LA.length + LB.length : Nat) : Int) = true := by unfold okPart; exact decide_eq_true (by omega)
        have l6 : decide (((LA.length + LB.length : Nat) : Int) = (D.length : Int) ∧ (D.length : Int) ≠ 0) = false := decide_eq_false (by omega)
        have l7 : (inR D.length LA.length).1 = (inR D.length LA.length).2 := decide_eq_true (by omega)
        refine (goesM_runs hT g1 (okTwo l1 (okTwo l2 (okTwo l3 (okTwo (esm _ (by omega)) (okTwo l5 (okTwo l6 (okTwo (cel_ok cA) (okTwo l7 (okOne (decide_eq_true (by omega)))))))))))).mono fun e' Y he => ?_
        obtain ⟨rfl, ⟨g2, g3, f2⟩, f3⟩ := he
        refine ⟨r, by omega, D ++ [y], m, i6' D.length, uu x, g2, g3, by simp; omega, by omega, wds_app w1 w3, w4, ?_, ?_, ?_⟩
        · rw [vN_snoc, List.length_append, List.length_singleton, pw, et, vN_snoc, List.length_take, Nat.min_eq_left (by omega)]
          exact pd_step e5 hv
        · rw [f2, wrapI (by omega) (by omega)]
          simp
        · rw [f3, List.replicate_succ, ← hM, ← lR, set_mid, eW]
          simp
    · simp only [List.length_nil, List.take_zero]
      have : vN (List.replicate LB.length 0) = 0 := vN_rep _
      rw [this]
      simp [vN]
    · match e', he with
      | none, he => exact ⟨rfl, he⟩
      | some none, he => exact he.elim
      | some (some _), he => exact he.elim
  · rintro ⟨t, h', s'⟩ ⟨_, D, M, v7, v8, u1, u2, u3, g, g', ht, hD, hM, w1, w2, hv, hh⟩
    simp only at ht hh
    subst ht hh
    have hw : wds (D ++ M) := wds_app w1 w2
    have hl : (D ++ M).length = LA.length + LB.length := by simp; omega
    have ew : D ++ M = mulR LA LB := by
      have := dg_vN (D ++ M) hw
      rw [vN_app, hv, hl] at this
      exact this.symm
    have hr := wU_row hw (c := LA.length + LB.length) (by omega) (esm _ h8)
    rw [hl] at hr
    have htr := trimN_le (D ++ M)
    have g1 := pd_end o LA.length c o' LB.length c' (LA.length + LB.length) v7 v8 u1 u2 u3 la lb (wU (D ++ M)) g g'
    rw [hr.2] at g1
    rw [List.append_nil]
    refine (goesT_runs hT g1 (okTwo (decide_eq_false (by omega)) (okOne hr.1))).mono fun e' y he => ?_
    obtain ⟨rfl, ⟨g1, e2⟩, e3⟩ := he
    refine ⟨.inr rfl, ?_, ?_⟩
    · rw [e2, e3, ew]
      rfl
    · rw [e3, ew]
      rfl
def gPdU : AnsH := fun vals h s =>
  match vals, s with
  | [.slice p n c, .slice q n' c'], .inr (.inr (.inr (.inl true))) :: s' => some (.tuple #[nilS, .nilIface], h, s', [(decide (n = 0 ∨ n' = 0), true)])
  | [.slice p n c, .slice q n' c'], .inr (.inr (.inr (.inl false))) :: s' => some (.tuple #[sl h.n 0 (trimN (mulR (rowOf h p n) (rowOf h q n'))) (n + n'), .nilIface], h.push (wU (mulR (rowOf h p n) (rowOf h q n'))) tU, s', [(rowX h p n c, true), (rowX h q n' c', true), (!decide (n = 0 ∨ n' = 0) && Nat.ble (n + n') 8192, true)])
  | _, _ => none
theorem gPdU_ok : AnsHOk 127 gPdU := by
  intro vals h s v h' s' lg hg hl m B w E hv
  unfold gPdU at hg
  split at hg
  · rename_i p n c q n' c' s2
    cases hg
    have l1 := of_decide_eq_true (hl _ (List.mem_singleton.2 rfl))
    by_cases h0 : n = 0
    · have r := goesT_runs (s0 := []) (tabH_ok conN_ok hcM_ok) (pd_n1 p q n c n' c' h) (okOne (by simp [h0]))
      exact hcalls_keep (T := tabH Tryz.prog extY conN hcM) Tryz.func127 pd_cbody (vals := [.slice p n c, .slice q n' c']) (v := .tuple #[nilS, .nilIface]) (h := h) (by rfl) (r.mono fun e y he => by
        obtain ⟨rfl, ⟨g, e1⟩, e2⟩ := he
        exact ⟨.inr rfl, by rw [e1, e2]; rfl, e2⟩) m B w E hv
    · have h1 : n' = 0 := l1.resolve_left h0
      have r := goesT_runs (s0 := []) (tabH_ok conN_ok hcM_ok) (pd_n2 p q n c n' c' h) (okTwo (by simp [h1]) (okOne (by simpa using h0)))
      exact hcalls_keep (T := tabH Tryz.prog extY conN hcM) Tryz.func127 pd_cbody (vals := [.slice p n c, .slice q n' c']) (v := .tuple #[nilS, .nilIface]) (h := h) (by rfl) (r.mono fun e y he => by
        obtain ⟨rfl, ⟨g, e1⟩, e2⟩ := he
        exact ⟨.inr rfl, by rw [e1, e2]; rfl, e2⟩) m B w E hv
  · rename_i p n c q n' c' s2
    cases hg
    obtain ⟨l1, l2, l3⟩ := log3 hl
    simp only [Bool.and_eq_true, Bool.not_eq_true', decide_eq_false_iff_not] at l1 l2 l3
    obtain ⟨l3, l4⟩ := l3
    have l4 := Nat.le_of_ble_eq_true l4
    rcases rowX_cases l1 with ⟨_, h0, _⟩ | ⟨b, o, x, rfl, hx, r1, e0⟩
    · omega
    rcases rowX_cases l2 with ⟨_, h0, _⟩ | ⟨b', o', y, rfl, hy, t1, f0⟩
    · omega
    rw [e0, f0]
    obtain ⟨a1, a2, a3, a4, a5, a6, a7⟩ := row_of r1
    obtain ⟨b1, b2, b3, b4, b5, b6, b7⟩ := row_of t1
    have r := pd_runs (c := c) (c' := c') a1 b1 a7 (by rw [b2]; exact rowOk_R t1) (by omega) (by omega) (by omega)
    rw [a2, b2] at r
    have e1 : ∀ k M : Nat, rn (fun _ => h.n) (.tuple #[sl 2 0 k M, .nilIface]) = .tuple #[sl h.n 0 k M, .nilIface] := fun k M => by simp [rn, rn2, rn1, sl]
    have := row_calls1 (T := tabH Tryz.prog extY conN hcM) Tryz.func127 pd_body (rows2 a7 b7) (vals := [sl 0 o n c, sl 1 o' n' c']) (fun v hv => by
      simp only [List.mem_cons, List.not_mem_nil, or_false] at hv
      rcases hv with rfl | rfl <;> rfl) (k := 2) (wU_calm _) tU_own (r.w.mono fun e y h => ⟨h.1, h.2.1, [], by rw [List.append_nil]; exact h.2.2⟩) (by rfl) E (s := pair b b') (fitsR2 hx a5 a6 hy b5 b6)
    rw [e1] at this
    exact this
  · cases hg
def gPdN : AnsH := fun vals h s =>
  match vals, s with
  | [.slice p n c, .slice q n' c'], .inr (.inr (.inr (.inl true))) :: s' => some (.tuple #[nilS, .nilIface], h, s', [(decide (n = 0 ∨ n' = 0), true)])
  | [.slice p n c, .slice q n' c'], .inr (.inr (.inr (.inl false))) :: .inr (.inl V) :: s' => some (.tuple #[sl h.n 0 (trimN (dg (n + n') V)) (n + n'), .nilIface], h.push (wU (dg (n + n') V)) tU, s', [(decide (mulR (rowOf h p n) (rowOf h q n') = dg (n + n') V), true), (rowX h p n c, true), (rowX h q n' c', true), (!decide (n = 0 ∨ n' = 0) && Nat.ble (n + n') 8192, true)])
  | _, _ => none
theorem gPdN_ok : AnsHOk 127 gPdN := by
  intro vals h s v h' s' lg hg hl
  unfold gPdN at hg
  split at hg
  · cases hg
    exact gPdU_ok _ h [cmp true] _ _ [] _ rfl hl
  · rename_i p n c q n' c' V s3
    cases hg
    obtain ⟨l1, l2⟩ := log_tl hl
    have l1 := of_decide_eq_true l1
    refine gPdU_ok _ h [cmp false] _ _ [] _ ?_ l2
    simp only [gPdU, l1]
  · cases hg
def h5 (la lb R Y Q : List Value) : Hp := ⟨5, [(Q, tU), (Y, tU), (R, tU), (lb, tR), (la, tR)]⟩
def toT (k x d : Int) : Int := IntKind.u64.wrap (k + IntKind.u64.wrap (IntKind.u64.wrap x * IntKind.u64.wrap d))
def toW (k x d : Int) : Int := IntKind.u32.wrap (toT k x d)
def toC (k x d : Int) : Int := (toT k x d).fdiv (2 ^ min (Int.toNat 32) 64)
def toP (F : Func) : List Code := [cFst (sn 0 F), cFst (sn 1 F), cFst (sn 2 F), cFst (sn 3 F), cFst (sn 4 F)]
def toB (F : Func) : Code := cFst (sn 5 F)
def toL (F : Func) : Code := cIn (cIn (cSnd (toB F)))
def toF (o m c n k : Nat) (d cy b : Int) (v11 v12 : Value) : List Value := [sl 2 o m c, sl 3 0 n k, uu d, undef, undef, undef, .bool false, i6' n, sl 2 o n c, .int .u64 cy, uu b, v11, v12]
theorem to_body : Tryz.f208.body = some (seqs (toP Tryz.f208) (.seq (.seq (cFst (toB Tryz.f208)) (.block 0 (.loop (toL Tryz.f208)))) (sn 6 Tryz.f208))) := by kernel_rfl
theorem to_pre (o m c n k : Nat) (d : Int) (la lb R Y Q : List Value) : GoesT (evL (tabOf Tryz.prog extY conB true) 100 (toP Tryz.f208) ([sl 2 o m c, sl 3 0 n k, uu d] ++ List.replicate 62 undef, h5 la lb R Y Q, [num 0]) ⟨[], [], []⟩) 13 52 none (toF o m c n k d 0 0 undef undef) (h5 la lb R Y Q) [(smallC c, true), (okPart 0 n c c, true), (decide ((c : Int) = 0 ∧ (0 : Int) ≠ 0), false)] := ⟨by kernel_rfl, by kernel_rfl, by kernel_rfl⟩
theorem to_r (o m c n k : Nat) (d cy b : Int) (v11 v12 : Value) (h : Hp) (g : Nat → Value) : GoesM (evC (tabOf Tryz.prog extY conB true) 100 false (cFst (toB Tryz.f208)) (toF o m c n k d cy b v11 v12 ++ tl 52 g, h, []) ⟨[], [], []⟩) 13 5 3 44 none (toF o m c n k d cy b v11 v12) [sl 3 0 n k, i6' n, i6' 0] h [] := ⟨by kernel_rfl, by kernel_rfl, by kernel_rfl⟩
theorem to_out (o m c n k : Nat) (d cy b j : Int) (v11 v12 : Value) (h : Hp) (g g' : Nat → Value) : GoesM (evC (tabOf Tryz.prog extY conB true) 100 false (toL Tryz.f208) (ml (toF o m c n k d cy b v11 v12) 5 g [sl 3 0 n k, i6' n, i6' j] 44 g', h, [cmp false]) ⟨[], [], []⟩) 13 5 3 44 (some (some 0)) (toF o m c n k d cy b v11 v12) [sl 3 0 n k, i6' n, i6' j] h [(decide (j < n), false)] := ⟨by kernel_rfl, by kernel_rfl, by kernel_rfl⟩
theorem to_go (o m c n k : Nat) (d cy b j x y : Int) (v11 v12 : Value) (la lb R Y Q : List Value) (g g' : Nat → Value) : GoesM (evC (tabOf Tryz.prog extY conB true) 100 false (toL Tryz.f208) (ml (toF o m c n k d cy b v11 v12) 5 g [sl 3 0 n k, i6' n, i6' j] 44 g', h5 la lb R Y Q, [cmp true, at_, val (uu x), at_, val (uu y), at_, at_]) ⟨[], [], []⟩) 13 5 3 44 none (toF o m c n k d (toC cy x d) (subB y (toW cy x d) b) (i6' j) (uu x)) [sl 3 0 n k, i6' n, i6' (IntKind.i64.wrap (j + 1))] (h5 la lb (R.set (o + j.toNat * 1) (uu (subD y (toW cy x d) b))) Y Q)
    [(decide ((32 : Int) < 0), false), (decide (o + j.toNat * 1 < R.length), true), inR j n, (wd4 y (toW cy x d) b, true), celR R o j y, inR j n, celR Y 0 j x, inR j n, (decide (j < n), true)] := ⟨by kernel_rfl, by kernel_rfl, by kernel_rfl⟩
theorem to_end (e : Bool) (o m c n k : Nat) (d cy b y : Int) (v11 v12 u1 u2 u3 : Value) (la lb R Y Q : List Value) (g g' : Nat → Value) : GoesT (evC (tabOf Tryz.prog extY conB true) 100 false (sn 6 Tryz.f208) (ml (toF o m c n k d cy b v11 v12) 5 g [u1, u2, u3] 44 g', h5 la lb R Y Q, [at_, val (uu y), at_, at_, cmp e]) ⟨[], [], []⟩) 7 58 (some none) [sl 2 o m c, sl 3 0 n k, uu d, undef, undef, undef, .bool e] (h5 la lb (R.set (o + ((n : Int)).toNat * 1) (uu (subD y (IntKind.u32.wrap cy) b))) Y Q)
    [(subB y (IntKind.u32.wrap cy) b != 0, e), (decide (o + ((n : Int)).toNat * 1 < R.length), true), inR n m, (wd4 y (IntKind.u32.wrap cy) b, true), celR R o n y, inR n m] := by
  cases e <;> exact ⟨by kernel_rfl, by kernel_rfl, by kernel_rfl⟩
end Go.Proofs.YtgefjidphfdhdaaGreatDoor.Na
namespace Go.Nt
theorem to_step {P a b x y k br d e l A B D W : Int} (hk : k + x * d = W + 4294967296 * e) (hs : y - W - br = D - 4294967296 * l) (h : a + P * ((y + 4294967296 * A) - d * (x + 4294967296 * B) - k - br) = b) : a + P * D + 4294967296 * P * (A - d * B - e - l) = b := by
  rw [← h]
  have e1 : (y + 4294967296 * A) - d * (x + 4294967296 * B) - k - br = D + 4294967296 * (A - d * B - e - l) := by
    rw [Int.mul_add d x, ← Int.mul_assoc d 4294967296 B, Int.mul_comm d 4294967296, Int.mul_assoc 4294967296 d B, Int.mul_comm d x]
    omega
  rw [e1]
  generalize A - d * B - e - l = Z
  rw [Int.mul_add P D, ← Int.mul_assoc P 4294967296 Z, Int.mul_comm P 4294967296]
  omega
theorem pb_step {P a b x y br e A B D : Int} (hs : y + x + br = D + 4294967296 * e) (h : a + P * ((y + 4294967296 * A) + (x + 4294967296 * B) + br) = b) : a + P * D + 4294967296 * P * (A + B + e) = b := by
  rw [← h]
  have e1 : (y + 4294967296 * A) + (x + 4294967296 * B) + br = D + 4294967296 * (A + B + e) := by omega
  rw [e1]
  generalize A + B + e = Z
  rw [Int.mul_add P D, ← Int.mul_assoc P 4294967296 Z, Int.mul_comm P 4294967296]
  omega
/-- the last word: what comes, and whether it went below 0 or beyond -/
theorem last_word {dx : List Int} {D l V : Int} (hd : wds dx) (hD : 0 ≤ D ∧ D < 4294967296) (h : vN dx + 4294967296 ^ dx.length * (D + 4294967296 * l) = V) : dx ++ [D] = dg (dx.length + 1) V ∧ V / 4294967296 ^ (dx.length + 1) = l := by
  have hw : wds (dx ++ [D]) := wds_app hd (fun x hx => by rw [List.mem_singleton.1 hx]; exact hD)
  have hv : vN (dx ++ [D]) + 4294967296 ^ (dx.length + 1) * l = V := by
    rw [vN_snoc, ← h, pw, Int.mul_add, ← Int.mul_assoc, Int.mul_comm (4294967296 ^ dx.length) 4294967296]
    omega
  have hl : (dx ++ [D]).length = dx.length + 1 := by simp
  have hb := vN_bd (dx ++ [D]) hw
  rw [hl] at hb
  constructor
  · rw [← hv, dg_mod, ← hl]
    exact (dg_vN _ hw).symm
  · rw [← hv, Int.add_mul_ediv_left _ _ (by have := pw_pos (dx.length + 1); omega), Int.ediv_eq_zero_of_lt hb.1 hb.2, Int.zero_add]
theorem neg_div {V Q l : Int} (hQ : 0 < Q) (h : V / Q = l) : V < 0 ↔ l < 0 := by
  subst h
  constructor
  · intro hv
    exact Int.ediv_lt_of_lt_mul hQ (by omega)
  · intro hl
    refine Decidable.byContradiction fun hn => ?_
    have := Int.ediv_nonneg (a := V) (b := Q) (by omega) (by omega)
    omega
end Go.Nt
