/-
  ConNP, TxE, TxI, TxJ, TxK, NumTy
-/
import Derived.Test.YtjlponbdflkbjaaGreatDoorG16
import Derived.Test.YtjlponbdflkbjaaGreatDoorG13
import Derived.Test.YtjlponbdflkbjaaGreatDoorG15
import Derived.Test.YtjlponbdflkbjaaGreatDoorG07
import Derived.Test.YtjlponbdflkbjaaGreatDoorG12
import Derived.Test.YtjlponbdflkbjaaGreatDoorG10
namespace Go.Proofs.YtjlponbdflkbjaaGreatDoor.Na
open Go.KRun Go.Nt
set_option maxRecDepth 100000
set_option linter.unusedVariables false
def mulR (L M : List Int) : List Int := dg (L.length + M.length) (vN L * vN M)
theorem wU_rowAt {L : List Int} (h : wds L) {o n c : Nat} (hl : o + n ≤ L.length) (hc : n ≤ c) (h2 : smallC c = true) : rowOk tU (wU L) o n c = true := by
  unfold rowOk
  have h3 : ((cutV (wU L) o n).all isU) = true := by
    rw [List.all_eq_true]
    intro v hv
    unfold cutV wU at hv
    obtain ⟨x, hx, rfl⟩ := List.mem_map.1 (List.mem_of_mem_drop (List.mem_of_mem_take hv))
    exact decide_eq_true (h x hx)
  rw [show tomb tU = false from by kernel_rfl, show Nat.beq (rt tU) tU = true from by kernel_rfl, Nat.ble_eq_true_of_le (show o + n ≤ (wU L).length by rw [wU_len]; exact hl), Nat.ble_eq_true_of_le hc, h2, h3, wU_allS]
  rfl
theorem cut_mid (D M R : List Int) : cutI (wU (D ++ (M ++ R))) D.length M.length = M := by
  unfold cutI cutV wU
  rw [List.map_append, List.map_append, List.drop_left' (by simp), List.take_left' (by simp), List.map_map]
  exact (List.map_congr_left fun x _ => rfl).trans (List.map_id' _)
theorem tmS_mid (D M R L : List Int) : tmS (wU (D ++ (M ++ R))) D.length M.length L = wU (D ++ (L ++ R)) := by
  have e1 : (wU (D ++ (M ++ R))).take D.length = wU D := by
    unfold wU
    rw [List.map_append]
    exact List.take_left' (by simp)
  have e2 : (wU (D ++ (M ++ R))).drop (D.length + M.length) = wU R := by
    unfold wU
    rw [← List.append_assoc, List.map_append]
    exact List.drop_left' (by simp)
  unfold tmS
  rw [e1, e2]
  unfold wU
  rw [List.map_append, List.map_append]
theorem set_mid (D L : List Int) (z c : Int) (R : List Int) : (wU (D ++ (L ++ z :: R))).set (D.length + L.length) (uu c) = wU (D ++ ((L ++ [c]) ++ R)) := by
  rw [← List.append_assoc, show D.length + L.length = (D ++ L).length from by simp, wU_set]
  simp
theorem pd_runs {la lb : List Value} {o c o' c' : Nat} {LA LB : List Int} (RA : Row la o LA) (RB : Row lb o' LB) (sa : ∀ v ∈ la, still v = true) (hrb : rowOk tR lb o' LB.length c' = true) (ha : 0 < LA.length) (hb : 0 < LB.length) (h8 : LA.length + LB.length ≤ 8192) :
    Runs (tabH Tryz.prog extY conN hcM) (seqs (pdP Tryz.f115) (.seq (.seq (cFst (cFst (sn 4 Tryz.f115))) (.block 0 (.loop (pdL Tryz.f115)))) (cSnd (sn 4 Tryz.f115)))) ([sl 0 o LA.length c, sl 1 o' LB.length c'] ++ List.replicate 57 undef, h2 la lb, []) fun e y => (e = none ∨ e = some none) ∧ resS Tryz.prog Tryz.f115 y.1 y.2.1 = some (.tuple #[sl 2 0 (trimN (mulR LA LB)) (LA.length + LB.length), .nilIface]) ∧ y.2.1.blk? 2 = some (wU (mulR LA LB), tU) := by
  have hT := tabH_ok conN_ok hcM_ok
  have eZ : pZ LA.length LB.length = ((LA.length + LB.length : Nat) : Int) := by
    unfold pZ
    rw [wrapI (by omega) (by omega)]
    omega
  have g0 := pd_pre o LA.length c o' LB.length c' la lb
  rw [eZ, Int.toNat_natCast] at g0
  have esm : ∀ q : Nat, q ≤ 8192 → smallC q = true := fun q hq => blt_iff.2 (by unfold dead; omega)
  have bA := RA.rng
  have bB := vN_bd LB RB.rng
  have erep : List.replicate (LA.length + LB.length) (uu 0) = wU ([] ++ (List.replicate LB.length 0 ++ List.replicate LA.length 0)) := by
    unfold wU uu
    rw [Nat.add_comm]
    simp [List.replicate_append_replicate]
  rw [erep] at g0
  refine goesT_list hT g0 (okTwo (by unfold okMakeB; exact decide_eq_true (by omega)) (okTwo (by rw [wrapI (by omega) (by omega)]; exact decide_eq_false (by omega)) (okTwo (by simpa using (show LB.length ≠ 0 by omega)) (okOne (by simpa using (show LA.length ≠ 0 by omega)))))) fun g => ?_
  refine Runs.seq (P1 := fun e' y => e' = none ∧ ∃ (D M : List Int) (v7 v8 u1 u2 u3 : Value) (g g' : Nat → Value), y.1 = ml (pdF o LA.length c o' LB.length c' (LA.length + LB.length) v7 v8) 22 g [u1, u2, u3] 25 g' ∧ D.length = LA.length ∧ M.length = LB.length ∧ wds D ∧ wds M ∧ vN D + 4294967296 ^ D.length * vN M = vN LA * vN LB ∧ y.2.1 = h3 la lb (wU (D ++ (M ++ [])))) ?_ ?_ (fun e y he => by cases he.1)
  · refine Runs.seq (P1 := fun e' y => e' = none ∧ (∃ g g', y.1 = ml (pdF o LA.length c o' LB.length c' (LA.length + LB.length) undef undef) 22 g [sl 0 o LA.length c, i6' LA.length, i6' 0] 25 g') ∧ y.2.1 = h3 la lb (wU ([] ++ (List.replicate LB.length 0 ++ List.replicate LA.length 0)))) (goesM_runs hT (pd_r o LA.length c o' LB.length c' (LA.length + LB.length) undef undef la lb _ g) (fun x hx => by cases hx)) ?_ (fun e y he => by cases he.1)
    rintro ⟨t, h', s'⟩ ⟨_, ⟨g1, g2, ht⟩, hh⟩
    simp only at ht hh
    subst ht hh
    refine (Runs.forLoop (R := fun _ => False) (P := fun y => ∃ (D M : List Int) (v7 v8 u1 u2 u3 : Value) (g g' : Nat → Value), y.1 = ml (pdF o LA.length c o' LB.length c' (LA.length + LB.length) v7 v8) 22 g [u1, u2, u3] 25 g' ∧ D.length = LA.length ∧ M.length = LB.length ∧ wds D ∧ wds M ∧ vN D + 4294967296 ^ D.length * vN M = vN LA * vN LB ∧ y.2.1 = h3 la lb (wU (D ++ (M ++ []))))
      (fun r y => ∃ (D M : List Int) (v7 v8 : Value) (g g' : Nat → Value), D.length + r = LA.length ∧ M.length = LB.length ∧ wds D ∧ wds M ∧ vN D + 4294967296 ^ D.length * vN M = vN (LA.take D.length) * vN LB ∧ y.1 = ml (pdF o LA.length c o' LB.length c' (LA.length + LB.length) v7 v8) 22 g [sl 0 o LA.length c, i6' LA.length, i6' D.length] 25 g' ∧ y.2.1 = h3 la lb (wU (D ++ (M ++ List.replicate r 0))))
      ?_ (n := LA.length) ⟨[], List.replicate LB.length 0, undef, undef, g1, g2, by simp, by simp, (fun x hx => by cases hx), wds_rep _, ?_, rfl, rfl⟩).mono fun e' y he => ?_
    · rintro r ⟨t, h', s'⟩ ⟨D, M, v7, v8, g, g', hr, hM, w1, w2, hv, ht, hh⟩
      simp only at ht hh
      subst ht hh
      cases r with
      | zero =>
        have ek : D.length = LA.length := by omega
        refine (goesM_runs hT (pd_out o LA.length c o' LB.length c' (LA.length + LB.length) D.length v7 v8 la lb _ g g') (okOne (decide_eq_false (by omega)))).mono fun e' y he => ?_
        obtain ⟨rfl, ⟨g1, g2, e2⟩, e3⟩ := he
        rw [ek, List.take_length] at hv
        rw [← ek] at hv
        exact ⟨rfl, D, M, v7, v8, _, _, _, g1, g2, e2, ek, hM, w1, w2, hv, e3⟩
      | succ r =>
        have hk : D.length < LA.length := by omega
        have cA := RA.cell hk
        have hx := bA (LA.getD D.length 0) (by simp [List.getD, List.getElem?_eq_getElem hk])
        have et := take_succ hk
        generalize LA.getD D.length 0 = x at *
        have eJ : pJ D.length = D.length := by unfold pJ; omega
        have eK : pK D.length LB.length = ((D.length + LB.length : Nat) : Int) := by unfold pK; rw [wrapI (by omega) (by omega)]; omega
        have eL : pLn D.length LB.length = M.length := by unfold pLn; rw [eK]; omega
        have ecB : cutI lb o' LB.length = LB := by
          unfold cutI
          rw [RB.cut]
          unfold wU
          rw [List.map_map]
          exact (List.map_congr_left fun x _ => rfl).trans (List.map_id' _)
        have ecM : cutI (wU (D ++ (M ++ List.replicate (r + 1) 0))) (pJ D.length) (pLn D.length LB.length) = M := by rw [eJ, eL]; exact cut_mid _ _ _
        have ePS : pS (wU (D ++ (M ++ List.replicate (r + 1) 0))) lb o' LB.length D.length x = wU (D ++ (tmR M LB x ++ List.replicate (r + 1) 0)) := by
          unfold pS
          rw [ecM, ecB, eJ, eL]
          exact tmS_mid _ _ _ _
        have ePC : pC (wU (D ++ (M ++ List.replicate (r + 1) 0))) lb o' LB.length D.length x = tmC M LB x := by
          unfold pC
          rw [ecM, ecB]
        have lR : (tmR M LB x).length = M.length := by unfold tmR; rw [dg_len]
        have bM := vN_bd M w2
        rw [hM] at bM
        have bT := tm_bd bM bB hx
        rw [← hM] at bT
        obtain ⟨y, m, e1, e2, w3, w4, e5⟩ := tm_split bT
        have eW : tmR M LB x ++ [tmC M LB x] = y :: m := e1
        have g1 := pd_go o LA.length c o' LB.length c' (LA.length + LB.length) D.length x v7 v8 la lb (wU (D ++ (M ++ List.replicate (r + 1) 0))) g g'
        rw [ePS, ePC, eK, eJ, eL, Int.toNat_natCast, Int.toNat_natCast, Nat.zero_add, Nat.mul_one] at g1
        have hall : wds (D ++ (M ++ List.replicate (r + 1) 0)) := wds_app w1 (wds_app w2 (wds_rep _))
        have l1 : decide (D.length + LB.length < (wU (D ++ (tmR M LB x ++ List.replicate (r + 1) 0))).length) = true := decide_eq_true (by rw [wU_len]; simp [lR]; omega)
        have l2 : (inR ((D.length + LB.length : Nat) : Int) (LA.length + LB.length)).1 = (inR ((D.length + LB.length : Nat) : Int) (LA.length + LB.length)).2 := decide_eq_true (by omega)
        have l3 : okTm (wU (D ++ (M ++ List.replicate (r + 1) 0))) lb la tU tR tR D.length M.length (LA.length + LB.length - D.length) o' LB.length c' x = true := by
          unfold okTm
          rw [wU_rowAt hall (by simp) (by omega) (esm _ (by omega)), hrb, List.all_eq_true.2 sa, blt_iff.2 (show M.length < 1099511627776 by omega), decide_eq_true hx, hM]
          simp
        have l5 : okPart D.length ((D.length + LB.length : Nat) : Int) ((LA.length + LB.length : Nat) : Int) ((LA.length + LB.length : Nat) : Int) = true := by unfold okPart; exact decide_eq_true (by omega)
        have l6 : decide (((LA.length + LB.length : Nat) : Int) = (D.length : Int) ∧ (D.length : Int) ≠ 0) = false := decide_eq_false (by omega)
        have l7 : (inR D.length LA.length).1 = (inR D.length LA.length).2 := decide_eq_true (by omega)
        refine (goesM_runs hT g1 (okTwo l1 (okTwo l2 (okTwo l3 (okTwo (esm _ (by omega)) (okTwo l5 (okTwo l6 (okTwo (cel_ok cA) (okTwo l7 (okOne (decide_eq_true (by omega)))))))))))).mono fun e' Y he => ?_
        obtain ⟨rfl, ⟨g2, g3, f2⟩, f3⟩ := he
        refine ⟨r, by omega, D ++ [y], m, i6' D.length, uu x, g2, g3, by simp; omega, by omega, wds_app w1 w3, w4, ?_, ?_, ?_⟩
        · rw [vN_snoc, List.length_append, List.length_singleton, pw, et, vN_snoc, List.length_take, Nat.min_eq_left (by omega)]
          exact pd_step e5 hv
        · rw [f2, wrapI (by omega) (by omega)]
          simp
        · rw [f3, List.replicate_succ, ← hM, ← lR, set_mid, eW]
          simp
    · simp only [List.length_nil, List.take_zero]
      have : vN (List.replicate LB.length 0) = 0 := vN_rep _
      rw [this]
      simp [vN]
    · match e', he with
      | none, he => exact ⟨rfl, he⟩
      | some none, he => exact he.elim
      | some (some _), he => exact he.elim
  · rintro ⟨t, h', s'⟩ ⟨_, D, M, v7, v8, u1, u2, u3, g, g', ht, hD, hM, w1, w2, hv, hh⟩
    simp only at ht hh
    subst ht hh
    have hw : wds (D ++ M) := wds_app w1 w2
    have hl : (D ++ M).length = LA.length + LB.length := by simp; omega
    have ew : D ++ M = mulR LA LB := by
      have := dg_vN (D ++ M) hw
      rw [vN_app, hv, hl] at this
      exact this.symm
    have hr := wU_row hw (c := LA.length + LB.length) (by omega) (esm _ h8)
    rw [hl] at hr
    have htr := trimN_le (D ++ M)
    have g1 := pd_end o LA.length c o' LB.length c' (LA.length + LB.length) v7 v8 u1 u2 u3 la lb (wU (D ++ M)) g g'
    rw [hr.2] at g1
    rw [List.append_nil]
    refine (goesT_runs hT g1 (okTwo (decide_eq_false (by omega)) (okOne hr.1))).mono fun e' y he => ?_
    obtain ⟨rfl, ⟨g1, e2⟩, e3⟩ := he
    refine ⟨.inr rfl, ?_, ?_⟩
    · rw [e2, e3, ew]
      rfl
    · rw [e3, ew]
      rfl
def gPdU : AnsH := fun vals h s =>
  match vals, s with
  | [.slice p n c, .slice q n' c'], .inr (.inr (.inr (.inl true))) :: s' => some (.tuple #[nilS, .nilIface], h, s', [(decide (n = 0 ∨ n' = 0), true)])
  | [.slice p n c, .slice q n' c'], .inr (.inr (.inr (.inl false))) :: s' => some (.tuple #[sl h.n 0 (trimN (mulR (rowOf h p n) (rowOf h q n'))) (n + n'), .nilIface], h.push (wU (mulR (rowOf h p n) (rowOf h q n'))) tU, s', [(rowX h p n c, true), (rowX h q n' c', true), (!decide (n = 0 ∨ n' = 0) && Nat.ble (n + n') 8192, true)])
  | _, _ => none
theorem gPdU_ok : AnsHOk 115 gPdU := by
  intro vals h s v h' s' lg hg hl m B w E hv
  unfold gPdU at hg
  split at hg
  · rename_i p n c q n' c' s2
    cases hg
    have l1 := of_decide_eq_true (hl _ (List.mem_singleton.2 rfl))
    by_cases h0 : n = 0
    · have r := goesT_runs (s0 := []) (tabH_ok conN_ok hcM_ok) (pd_n1 p q n c n' c' h) (okOne (by simp [h0]))
      exact hcalls_keep (T := tabH Tryz.prog extY conN hcM) Tryz.func115 pd_cbody (vals := [.slice p n c, .slice q n' c']) (v := .tuple #[nilS, .nilIface]) (h := h) (by rfl) (r.mono fun e y he => by
        obtain ⟨rfl, ⟨g, e1⟩, e2⟩ := he
        exact ⟨.inr rfl, by rw [e1, e2]; rfl, e2⟩) m B w E hv
    · have h1 : n' = 0 := l1.resolve_left h0
      have r := goesT_runs (s0 := []) (tabH_ok conN_ok hcM_ok) (pd_n2 p q n c n' c' h) (okTwo (by simp [h1]) (okOne (by simpa using h0)))
      exact hcalls_keep (T := tabH Tryz.prog extY conN hcM) Tryz.func115 pd_cbody (vals := [.slice p n c, .slice q n' c']) (v := .tuple #[nilS, .nilIface]) (h := h) (by rfl) (r.mono fun e y he => by
        obtain ⟨rfl, ⟨g, e1⟩, e2⟩ := he
        exact ⟨.inr rfl, by rw [e1, e2]; rfl, e2⟩) m B w E hv
  · rename_i p n c q n' c' s2
    cases hg
    obtain ⟨l1, l2, l3⟩ := log3 hl
    simp only [Bool.and_eq_true, Bool.not_eq_true', decide_eq_false_iff_not] at l1 l2 l3
    obtain ⟨l3, l4⟩ := l3
    have l4 := Nat.le_of_ble_eq_true l4
    rcases rowX_cases l1 with ⟨_, h0, _⟩ | ⟨b, o, x, rfl, hx, r1, e0⟩
    · omega
    rcases rowX_cases l2 with ⟨_, h0, _⟩ | ⟨b', o', y, rfl, hy, t1, f0⟩
    · omega
    rw [e0, f0]
    obtain ⟨a1, a2, a3, a4, a5, a6, a7⟩ := row_of r1
    obtain ⟨b1, b2, b3, b4, b5, b6, b7⟩ := row_of t1
    have r := pd_runs (c := c) (c' := c') a1 b1 a7 (by rw [b2]; exact rowOk_R t1) (by omega) (by omega) (by omega)
    rw [a2, b2] at r
    have e1 : ∀ k M : Nat, rn (fun _ => h.n) (.tuple #[sl 2 0 k M, .nilIface]) = .tuple #[sl h.n 0 k M, .nilIface] := fun k M => by simp [rn, rn2, rn1, sl]
    have := row_calls1 (T := tabH Tryz.prog extY conN hcM) Tryz.func115 pd_body (rows2 a7 b7) (vals := [sl 0 o n c, sl 1 o' n' c']) (fun v hv => by
      simp only [List.mem_cons, List.not_mem_nil, or_false] at hv
      rcases hv with rfl | rfl <;> rfl) (k := 2) (wU_calm _) tU_own (r.w.mono fun e y h => ⟨h.1, h.2.1, [], by rw [List.append_nil]; exact h.2.2⟩) (by rfl) E (s := pair b b') (fitsR2 hx a5 a6 hy b5 b6)
    rw [e1] at this
    exact this
  · cases hg
end Go.Proofs.YtjlponbdflkbjaaGreatDoor.Na
namespace Go.Proofs.YtjlponbdflkbjaaGreatDoor.Na
open Go.KRun Go.Nt
set_option maxRecDepth 100000
theorem wds_db (V : Nat) : wds (db 4294967296 V) := fun x hx => by
  have := db_dg (b := 4294967296) (by omega) V x hx
  exact ⟨this.1, by have := this.2; omega⟩
def uP (F : Func) : List Code := [cFst (cBody F), cFst (cSnd (cBody F))]
def uC2 (F : Func) : Code := cSnd (cSnd (cBody F))
def uR2 (F : Func) : Code := cFst (cFst (uC2 F))
def uL1 (F : Func) : Code := cIn (cIn (cSnd (cFst (uC2 F))))
def uR7 (F : Func) : Code := cFst (cFst (cSnd (uC2 F)))
def uL2 (F : Func) : Code := cIn (cIn (cSnd (cFst (cSnd (uC2 F)))))
def uE (F : Func) : Code := cSnd (cSnd (uC2 F))
theorem up_body9 : Tryz.f111.body = some (seqs (uP Tryz.f111) (.seq (.seq (uR2 Tryz.f111) (.block 0 (.loop (uL1 Tryz.f111)))) (.seq (.seq (uR7 Tryz.f111) (.block 2 (.loop (uL2 Tryz.f111)))) (uE Tryz.f111)))) := by kernel_rfl
def hW1 (S : List Value) : Hp := ⟨1, [(S, tU)]⟩
def u1F (w : Value) (s : ByteArray) (c : Int) (i : Value) (k : Int) : List Value := [w, .string s, undef, undef, nilS, .int .u64 c, i, undef, undef, .string s, .int .i64 s.size, .int .i64 k]
def upC (c b : Int) : Int := IntKind.u64.wrap (IntKind.u64.wrap (c * 10) + IntKind.u64.wrap (IntKind.u8.wrap (b - 48)))
theorem u_pre (w : Value) (s : ByteArray) (h : Hp) : GoesT (evL (tabOf Tryz.prog extY conN true) 100 (uP Tryz.f111) ([w, .string s] ++ List.replicate 49 undef, h, []) ⟨[], [], []⟩) 9 42 none [w, .string s, undef, undef, nilS, .int .u64 0, undef, undef, undef] h [] := ⟨by kernel_rfl, by kernel_rfl, by kernel_rfl⟩
theorem u_r2 (w : Value) (s : ByteArray) (h : Hp) (g : Nat → Value) : GoesT (evC (tabOf Tryz.prog extY conN true) 100 false (uR2 Tryz.f111) ([w, .string s, undef, undef, nilS, .int .u64 0, undef, undef, undef] ++ tl 42 g, h, []) ⟨[], [], []⟩) 12 39 none (u1F w s 0 undef 0) h [] := ⟨by kernel_rfl, by kernel_rfl, by kernel_rfl⟩
theorem u_o1 (w : Value) (s : ByteArray) (c : Int) (i : Value) (k : Int) (h : Hp) (g : Nat → Value) : GoesT (evC (tabOf Tryz.prog extY conN true) 100 false (uL1 Tryz.f111) (u1F w s c i k ++ tl 39 g, h, [cmp false]) ⟨[], [], []⟩) 12 39 (some (some 0)) (u1F w s c i k) h [(decide (k < s.size), false)] := ⟨by kernel_rfl, by kernel_rfl, by kernel_rfl⟩
theorem u_g1 (w : Value) (s : ByteArray) (c : Int) (i : Value) (k : Int) (h : Hp) (g : Nat → Value) : GoesT (evC (tabOf Tryz.prog extY conN true) 100 false (uL1 Tryz.f111) (u1F w s c i k ++ tl 39 g, h, [cmp true]) ⟨[], [], []⟩) 12 39 none (u1F w s (upC c ((s.data.toList.getD k.toNat 0).toNat : Nat)) (.int .i64 k) (IntKind.i64.wrap (k + 1))) h [(decide (0 ≤ k ∧ k.toNat < s.data.toList.length), true), (decide (k < s.size), true)] := ⟨by kernel_rfl, by kernel_rfl, by kernel_rfl⟩
def u2A (w : Value) (s : ByteArray) (c : Int) (i v x : Value) : List Value := [w, .string s, undef, undef, nilS, .int .u64 c, i, v, x]
def u2M (w : Value) (n : Nat) (j : Int) : List Value := [w, .int .i64 n, .int .i64 j]
theorem u_r7 (n C : Nat) (s : ByteArray) (c : Int) (i : Value) (k : Int) (h : Hp) (g : Nat → Value) : GoesM (evC (tabOf Tryz.prog extY conN true) 100 false (uR7 Tryz.f111) (u1F (sl 0 0 n C) s c i k ++ tl 39 g, h, []) ⟨[], [], []⟩) 9 14 3 25 none (u2A (sl 0 0 n C) s c i undef undef) (u2M (sl 0 0 n C) n 0) h [] := ⟨by kernel_rfl, by kernel_rfl, by kernel_rfl⟩
theorem u_o2 (n C : Nat) (s : ByteArray) (c : Int) (i v x : Value) (j : Int) (h : Hp) (g g' : Nat → Value) : GoesM (evC (tabOf Tryz.prog extY conN true) 100 false (uL2 Tryz.f111) (ml (u2A (sl 0 0 n C) s c i v x) 14 g (u2M (sl 0 0 n C) n j) 25 g', h, [cmp false]) ⟨[], [], []⟩) 9 14 3 25 (some (some 2)) (u2A (sl 0 0 n C) s c i v x) (u2M (sl 0 0 n C) n j) h [(decide (j < n), false)] := ⟨by kernel_rfl, by kernel_rfl, by kernel_rfl⟩
def upT9 (c x : Int) : Int := IntKind.u64.wrap (c + IntKind.u64.wrap (IntKind.u64.wrap x * 1000000000))
theorem u_g2 (n C : Nat) (s : ByteArray) (c : Int) (i v x0 : Value) (j x : Int) (S : List Value) (g g' : Nat → Value) : GoesM (evC (tabOf Tryz.prog extY conN true) 100 false (uL2 Tryz.f111) (ml (u2A (sl 0 0 n C) s c i v x0) 14 g (u2M (sl 0 0 n C) n j) 25 g', hW1 S, [cmp true, at_, val (uu x), at_, at_]) ⟨[], [], []⟩) 9 14 3 25 none (u2A (sl 0 0 n C) s ((upT9 c x).fdiv (2 ^ min (Int.toNat 32) 64)) i (.int .i64 j) (uu x)) (u2M (sl 0 0 n C) n (IntKind.i64.wrap (j + 1))) (hW1 (S.set (0 + j.toNat * 1) (uu (IntKind.u32.wrap (upT9 c x))))) [(decide ((32 : Int) < 0), false), (decide (0 + j.toNat * 1 < S.length), true), inR j n, celR S 0 j x, inR j n, (decide (j < n), true)] := ⟨by kernel_rfl, by kernel_rfl, by kernel_rfl⟩
theorem u_e0 (n C : Nat) (s : ByteArray) (c : Int) (i v x : Value) (j : Int) (h : Hp) (g g' : Nat → Value) : GoesT (evC (tabOf Tryz.prog extY conN true) 100 false (uE Tryz.f111) (ml (u2A (sl 0 0 n C) s c i v x) 14 g (u2M (sl 0 0 n C) n j) 25 g', h, [cmp false]) ⟨[], [], []⟩) 5 46 (some none) [sl 0 0 n C, .string s, undef, undef, sl 0 0 n C] h [(c != 0, false)] := ⟨by kernel_rfl, by kernel_rfl, by kernel_rfl⟩
theorem u_e1 (n C : Nat) (s : ByteArray) (c : Int) (i v x : Value) (j : Int) (S : List Value) (g g' : Nat → Value) : GoesT (evC (tabOf Tryz.prog extY conN true) 100 false (uE Tryz.f111) (ml (u2A (sl 0 0 n C) s c i v x) 14 g (u2M (sl 0 0 n C) n j) 25 g', hW1 S, [cmp true, sam true]) ⟨[], [], []⟩) 5 46 (some none) [sl 0 0 (n + 1) C, .string s, undef, undef, sl 0 0 (n + 1) C] ⟨2, [([uu (IntKind.u32.wrap c)], tU), (S.take n ++ [uu (IntKind.u32.wrap c)] ++ S.drop (n + 1), tU)]⟩ [(appChx tU (S, tU) ([uu (IntKind.u32.wrap c)], tU) n C 0 1, true), (c != 0, true)] := ⟨by kernel_rfl, by kernel_rfl, by kernel_rfl⟩
/-- the digit at j -/
def dgF (s : ByteArray) (j : Nat) : Int := byT s j - 48
theorem dgF_bd {s : ByteArray} (h : allD s) {j : Nat} (hj : j < s.size) : (48 ≤ byT s j ∧ byT s j ≤ 57) ∧ 0 ≤ dgF s j ∧ dgF s j < 10 := by
  have h1 := h j hj
  unfold oddI at h1
  simp only [Bool.or_eq_false_iff, decide_eq_false_iff_not] at h1
  unfold dgF
  omega
theorem up_C {c b : Int} (hc : 0 ≤ c ∧ c < 1000000000) (hb : 48 ≤ b ∧ b ≤ 57) : upC c b = c * 10 + (b - 48) := by
  unfold upC
  simp [IntKind.wrap, IntKind.bits, IntKind.signed]
  omega
theorem up_T {c x : Int} (hc : 0 ≤ c ∧ c < 1000000000) (hx : 0 ≤ x ∧ x < 4294967296) : IntKind.u32.wrap (upT9 c x) = (c + x * 1000000000) % 4294967296 ∧ (upT9 c x).fdiv (2 ^ min (Int.toNat 32) 64) = (c + x * 1000000000) / 4294967296 := by
  have e : upT9 c x = c + x * 1000000000 := by
    unfold upT9
    simp [IntKind.wrap, IntKind.bits, IntKind.signed]
    omega
  have e2 : ((2 : Int) ^ min (Int.toNat 32) 64) = 4294967296 := rfl
  rw [e, e2, Int.fdiv_eq_ediv_of_nonneg _ (by omega)]
  refine ⟨?_, rfl⟩
  simp [IntKind.wrap, IntKind.bits, IntKind.signed]
theorem pw10 {k : Nat} (h : k ≤ 9) : (10 : Nat) ^ k ≤ 1000000000 := by
  have := Nat.pow_le_pow_right (show 0 < 10 by omega) h
  exact this
theorem pp_l1 {w : Value} {s : ByteArray} (hs : allD s) (h9 : s.size ≤ 9) (h : Hp) (g : Nat → Value) (sc : List Dec) :
    Runs (tabOf Tryz.prog extY conN true) (.block 0 (.loop (uL1 Tryz.f111))) (u1F w s 0 undef 0 ++ tl 39 g, h, sc) fun e z => e = none ∧ ∃ (i : Value) (k : Int) (g : Nat → Value), z.1 = u1F w s ((rdV10 (dgF s) s.size : Nat) : Int) i k ++ tl 39 g ∧ z.2.1 = h := by
  have hT := tabY_ok conN_ok
  refine (Runs.forLoop (R := fun _ => False) (P := fun z => ∃ (i : Value) (k : Int) (g : Nat → Value), z.1 = u1F w s ((rdV10 (dgF s) s.size : Nat) : Int) i k ++ tl 39 g ∧ z.2.1 = h)
    (fun r z => ∃ (k : Nat) (i : Value) (g : Nat → Value), z.1 = u1F w s ((rdV10 (dgF s) k : Nat) : Int) i k ++ tl 39 g ∧ z.2.1 = h ∧ k ≤ s.size ∧ r = s.size - k)
    ?_ (n := s.size) ⟨0, undef, g, rfl, rfl, by omega, by omega⟩).mono fun e z hz => ?_
  · rintro r ⟨t, h', sc'⟩ ⟨k, i, g, ht, hh, hk, hr⟩
    simp only at ht hh
    subst ht hh
    by_cases hc : k < s.size
    · obtain ⟨b1, b2⟩ := dgF_bd hs hc
      have hlt := rdV10_lt (f := dgF s) k (fun j hj => (dgF_bd hs (show j < s.size by omega)).2)
      have hp := pw10 (show k ≤ 9 by omega)
      have eC := up_C (c := ((rdV10 (dgF s) k : Nat) : Int)) ⟨by omega, by omega⟩ b1
      have l1 : decide ((0 : Int) ≤ (k : Nat) ∧ ((k : Nat) : Int).toNat < s.data.toList.length) = true := decide_eq_true ⟨by omega, by rw [Int.toNat_natCast]; exact hc⟩
      refine (goesT_runs hT (u_g1 w s _ i (k : Nat) h' g) (okCons l1 (okL1 (decide_eq_true (by omega))))).mono fun e z he => ?_
      obtain ⟨rfl, ⟨g', z1⟩, z2⟩ := he
      refine ⟨s.size - (k + 1), by omega, k + 1, .int .i64 (k : Nat), g', ?_, z2, by omega, rfl⟩
      rw [z1, Int.toNat_natCast]
      have eb : (((s.data.toList.getD k 0).toNat : Nat) : Int) = byT s k := rfl
      rw [eb, eC, wrapI (by omega) (by omega)]
      congr 2
      simp only [rdV10]
      have : ((dgF s k).toNat : Int) = byT s k - 48 := by unfold dgF at *; omega
      omega
    · refine (goesT_runs hT (u_o1 w s _ i (k : Nat) h' g) (okL1 (decide_eq_false (by omega)))).mono fun e z he => ?_
      obtain ⟨rfl, ⟨g', z1⟩, z2⟩ := he
      rw [show k = s.size by omega] at z1
      exact ⟨rfl, i, _, g', z1, z2⟩
  · match e, hz with
    | none, hz => exact ⟨rfl, hz⟩
theorem pp_l2 {n C : Nat} {s : ByteArray} {P : Int} (hP : 0 ≤ P ∧ P < 1000000000) {L : List Int} (hL : wds L) (hn : L.length = n) (hN : n < 4611686018427387904) {Z : List Value} (i v x : Value) (g g' : Nat → Value) (sc : List Dec) :
    Runs (tabOf Tryz.prog extY conN true) (.block 2 (.loop (uL2 Tryz.f111))) (ml (u2A (sl 0 0 n C) s P i v x) 14 g (u2M (sl 0 0 n C) n 0) 25 g', hW1 (wU L ++ Z), sc) fun e z => e = none ∧ ∃ (i v x : Value) (j : Int) (g g' : Nat → Value), z.1 = ml (u2A (sl 0 0 n C) s ((vN L * 1000000000 + P) / 4294967296 ^ n) i v x) 14 g (u2M (sl 0 0 n C) n j) 25 g' ∧ z.2.1 = hW1 (wU (dg n (vN L * 1000000000 + P)) ++ Z) := by
  have hT := tabY_ok conN_ok
  refine (Runs.forLoop (R := fun _ => False) (P := fun z => ∃ (i v x : Value) (j : Int) (g g' : Nat → Value), z.1 = ml (u2A (sl 0 0 n C) s ((vN L * 1000000000 + P) / 4294967296 ^ n) i v x) 14 g (u2M (sl 0 0 n C) n j) 25 g' ∧ z.2.1 = hW1 (wU (dg n (vN L * 1000000000 + P)) ++ Z))
    (fun r z => ∃ (dx px : List Int) (c : Int) (i v x : Value) (g g' : Nat → Value), z.1 = ml (u2A (sl 0 0 n C) s c i v x) 14 g (u2M (sl 0 0 n C) n dx.length) 25 g' ∧ z.2.1 = hW1 (wU (dx ++ px) ++ Z) ∧ px.length = r ∧ dx.length + px.length = n ∧ wds dx ∧ wds px ∧ (0 ≤ c ∧ c < 1000000000) ∧ vN dx + 4294967296 ^ dx.length * (vN px * 1000000000 + c) = vN L * 1000000000 + P)
    ?_ (n := n) ⟨[], L, P, i, v, x, g, g', rfl, rfl, hn, by simpa using hn, (fun x hx => by cases hx), hL, hP, by simp [vN]⟩).mono fun e z hz => ?_
  · rintro r ⟨t, h', sc'⟩ ⟨dx, px, c, i, v, x0, g, g', ht, hh, hr, hl, wd1, wd2, hc, hv⟩
    simp only at ht hh
    subst ht hh
    match px, hr, hl, wd2, hv with
    | [], hr, hl, wd2, hv =>
      have hl' : dx.length = n := by simpa using hl
      refine (goesM_runs hT (u_o2 n C s c i v x0 (dx.length : Nat) _ g g') (okL1 (decide_eq_false (by omega)))).mono fun e z he => ?_
      obtain ⟨rfl, ⟨g1, g2, z1⟩, z2⟩ := he
      simp only [vN] at hv
      rw [Int.zero_mul, Int.zero_add] at hv
      have e5 := dg_mod dx.length (vN dx) c
      rw [hv, dg_vN dx wd1, hl'] at e5
      have hb := vN_bd dx wd1
      have e6 : (vN L * 1000000000 + P) / 4294967296 ^ n = c := by
        rw [← hv, ← hl', Int.add_mul_ediv_left _ _ (by have := pw_pos dx.length; omega), Int.ediv_eq_zero_of_lt hb.1 hb.2, Int.zero_add]
      rw [e6, e5]
      rw [List.append_nil] at z2
      exact ⟨rfl, i, v, x0, _, g1, g2, z1, z2⟩
    | x :: px, hr, hl, wd2, hv =>
      obtain ⟨wx, wd2⟩ := wds_tail wd2
      obtain ⟨t1, t2⟩ := up_T hc wx
      have hl' : dx.length < n := by simp at hl; omega
      have cS : (wU (dx ++ x :: px) ++ Z)[0 + dx.length]? = some (uu x) := by
        rw [Nat.zero_add, List.getElem?_append_left (by unfold wU; simp)]
        exact wU_get dx x px
      have l1 : decide (0 + ((dx.length : Nat) : Int).toNat * 1 < (wU (dx ++ x :: px) ++ Z).length) = true := decide_eq_true (by unfold wU; simp)
      have l2 : (inR (dx.length : Nat) n).1 = (inR (dx.length : Nat) n).2 := decide_eq_true (by omega)
      have l3 : (celR (wU (dx ++ x :: px) ++ Z) 0 (dx.length : Nat) x).1 = (celR (wU (dx ++ x :: px) ++ Z) 0 (dx.length : Nat) x).2 := cel_ok cS
      refine (goesM_runs hT (u_g2 n C s c i v x0 (dx.length : Nat) x _ g g') (okCons (by decide) (okCons l1 (okCons l2 (okCons l3 (okCons l2 (okL1 (decide_eq_true (by omega))))))))).mono fun e z he => ?_
      obtain ⟨rfl, ⟨g1, g2, z1⟩, z2⟩ := he
      rw [t2] at z1
      rw [t1] at z2
      refine ⟨px.length, by simp at hr; omega, dx ++ [(c + x * 1000000000) % 4294967296], px, (c + x * 1000000000) / 4294967296, i, .int .i64 (dx.length : Nat), uu x, g1, g2, ?_, ?_, rfl, by simp at hl ⊢; omega, wds_app wd1 (fun z hz => by rw [List.mem_singleton.1 hz]; omega), wd2, by omega, ?_⟩
      · rw [z1, wrapI (by omega) (by omega), List.length_append, List.length_singleton]
        rfl
      · rw [z2, Int.toNat_natCast, Nat.mul_one, Nat.zero_add, List.set_append_left _ _ (by unfold wU; simp), wU_set]
      · rw [vN_snoc, List.length_append, List.length_singleton, Int.pow_succ, ← hv]
        simp only [vN]
        generalize vN px = A
        generalize (4294967296 : Int) ^ dx.length = Q
        have e : (c + x * 1000000000) = 4294967296 * ((c + x * 1000000000) / 4294967296) + (c + x * 1000000000) % 4294967296 := by omega
        generalize (c + x * 1000000000) / 4294967296 = d at *
        generalize (c + x * 1000000000) % 4294967296 = m at *
        have e' : (x + 4294967296 * A) * 1000000000 + c = 4294967296 * d + m + 4294967296 * A * 1000000000 := by omega
        rw [e']
        have d1 : Q * (4294967296 * d + m + 4294967296 * A * 1000000000) = Q * 4294967296 * d + Q * m + Q * 4294967296 * (A * 1000000000) := by
          rw [Int.mul_add, Int.mul_add, ← Int.mul_assoc, Int.mul_assoc 4294967296 A, ← Int.mul_assoc Q]
        rw [d1, Int.mul_add]
        omega
  · match e, hz with
    | none, hz => exact ⟨rfl, hz⟩
/-- words times 10^9 and a piece: the words, and what is carried on -/
def ppT (L : List Int) (s : ByteArray) : Int := vN L * 1000000000 + ((rdV10 (dgF s) s.size : Nat) : Int)
theorem pp_runs {C : Nat} {s : ByteArray} (hs : allD s) (h9 : s.size ≤ 9) {L : List Int} (hL : wds L) (hN : L.length < 1073741824) {Z : List Value} :
    (ppT L s / 4294967296 ^ L.length = 0 → Runs (tabOf Tryz.prog extY conN true) (seqs (uP Tryz.f111) (.seq (.seq (uR2 Tryz.f111) (.block 0 (.loop (uL1 Tryz.f111)))) (.seq (.seq (uR7 Tryz.f111) (.block 2 (.loop (uL2 Tryz.f111)))) (uE Tryz.f111)))) ([sl 0 0 L.length C, .string s] ++ List.replicate 49 undef, hW1 (wU L ++ Z), []) fun e y => (e = none ∨ e = some none) ∧ resS Tryz.prog Tryz.f111 y.1 y.2.1 = some (sl 0 0 L.length C) ∧ y.2.1.cut 1 = hW1 (wU (dg L.length (ppT L s)) ++ Z)) ∧
    (ppT L s / 4294967296 ^ L.length ≠ 0 → L.length < C → smallC C = true → 0 < Z.length → Runs (tabOf Tryz.prog extY conN true) (seqs (uP Tryz.f111) (.seq (.seq (uR2 Tryz.f111) (.block 0 (.loop (uL1 Tryz.f111)))) (.seq (.seq (uR7 Tryz.f111) (.block 2 (.loop (uL2 Tryz.f111)))) (uE Tryz.f111)))) ([sl 0 0 L.length C, .string s] ++ List.replicate 49 undef, hW1 (wU L ++ Z), []) fun e y => (e = none ∨ e = some none) ∧ resS Tryz.prog Tryz.f111 y.1 y.2.1 = some (sl 0 0 (L.length + 1) C) ∧ y.2.1.cut 1 = hW1 (wU (dg L.length (ppT L s)) ++ [uu (ppT L s / 4294967296 ^ L.length)] ++ Z.drop 1)) := by
  have hT := tabY_ok conN_ok
  have hlt := rdV10_lt (f := dgF s) s.size (fun j hj => (dgF_bd hs hj).2)
  have hp := pw10 h9
  have hP : (0 : Int) ≤ ((rdV10 (dgF s) s.size : Nat) : Int) ∧ ((rdV10 (dgF s) s.size : Nat) : Int) < 1000000000 := by omega
  have key : ∀ {Q : Ex → Lf → Prop}, (∀ (i v x : Value) (j : Int) (g g' : Nat → Value) (sc : List Dec), Runs (tabOf Tryz.prog extY conN true) (uE Tryz.f111) (ml (u2A (sl 0 0 L.length C) s (ppT L s / 4294967296 ^ L.length) i v x) 14 g (u2M (sl 0 0 L.length C) L.length j) 25 g', hW1 (wU (dg L.length (ppT L s)) ++ Z), sc) Q) → Runs (tabOf Tryz.prog extY conN true) (seqs (uP Tryz.f111) (.seq (.seq (uR2 Tryz.f111) (.block 0 (.loop (uL1 Tryz.f111)))) (.seq (.seq (uR7 Tryz.f111) (.block 2 (.loop (uL2 Tryz.f111)))) (uE Tryz.f111)))) ([sl 0 0 L.length C, .string s] ++ List.replicate 49 undef, hW1 (wU L ++ Z), []) Q := by
    intro Q hQ
    refine goesT_list hT (u_pre (sl 0 0 L.length C) s _) okN9 fun g => ?_
    refine Runs.seq (P1 := fun e z => e = none ∧ ∃ (i : Value) (k : Int) (g : Nat → Value), z.1 = u1F (sl 0 0 L.length C) s ((rdV10 (dgF s) s.size : Nat) : Int) i k ++ tl 39 g ∧ z.2.1 = hW1 (wU L ++ Z)) ?_ ?_ (fun e y he => by cases he.1)
    · refine Runs.seq (goesT_runs hT (u_r2 (sl 0 0 L.length C) s _ g) okN9) ?_ (fun e y he => by cases he.1)
      rintro ⟨t, hh, sc⟩ ⟨_, ⟨g', e1⟩, e2⟩
      simp only at e1 e2
      subst e1 e2
      exact pp_l1 hs h9 _ g' sc
    · rintro ⟨t, hh, sc⟩ ⟨_, i, k, g', e1, e2⟩
      simp only at e1 e2
      subst e1 e2
      refine Runs.seq (P1 := fun e z => e = none ∧ ∃ (i v x : Value) (j : Int) (g g' : Nat → Value), z.1 = ml (u2A (sl 0 0 L.length C) s (ppT L s / 4294967296 ^ L.length) i v x) 14 g (u2M (sl 0 0 L.length C) L.length j) 25 g' ∧ z.2.1 = hW1 (wU (dg L.length (ppT L s)) ++ Z)) ?_ ?_ (fun e y he => by cases he.1)
      · refine Runs.seq (goesM_runs hT (u_r7 L.length C s _ i k _ g') okN9) ?_ (fun e y he => by cases he.1)
        rintro ⟨t, hh, sc⟩ ⟨_, ⟨g1, g2, e1⟩, e2⟩
        simp only at e1 e2
        subst e1 e2
        exact pp_l2 hP hL rfl (by omega) _ _ _ g1 g2 sc
      · rintro ⟨t, hh, sc⟩ ⟨_, i, v, x, j, g1, g2, e1, e2⟩
        simp only at e1 e2
        subst e1 e2
        exact hQ i v x j g1 g2 sc
  refine ⟨fun hz => key fun i v x j g g' sc => ?_, fun hz hC hsm hZ => key fun i v x j g g' sc => ?_⟩
  · refine (goesT_runs hT (u_e0 L.length C s _ i v x j _ g g') (okL1 (by rw [hz]; rfl))).mono fun e z he => ?_
    obtain ⟨rfl, ⟨g1, z1⟩, z2⟩ := he
    exact ⟨.inr rfl, by rw [z1, z2]; rfl, by rw [z2]; rfl⟩
  · have hQ := pw_pos L.length
    have hvb := vN_bd L hL
    have hTb : 0 ≤ ppT L s / 4294967296 ^ L.length ∧ ppT L s / 4294967296 ^ L.length < 4294967296 := by
      have h0 : 0 ≤ ppT L s := by unfold ppT; omega
      have h1 : ppT L s < 4294967296 * 4294967296 ^ L.length := by unfold ppT; omega
      exact ⟨Int.ediv_nonneg h0 (by omega), Int.ediv_lt_of_lt_mul (by omega) h1⟩
    have ew : IntKind.u32.wrap (ppT L s / 4294967296 ^ L.length) = ppT L s / 4294967296 ^ L.length := by
      generalize ppT L s / 4294967296 ^ L.length = y at *
      simp [IntKind.wrap, IntKind.bits, IntKind.signed]
      omega
    have hlen : (wU (dg L.length (ppT L s))).length = L.length := by unfold wU; simp [dg_len]
    have l1 : appChx tU (wU (dg L.length (ppT L s)) ++ Z, tU) ([uu (IntKind.u32.wrap (ppT L s / 4294967296 ^ L.length))], tU) L.length C 0 1 = true := by
      unfold appChx
      simp only [Bool.and_eq_true, Bool.not_eq_true']
      refine ⟨⟨⟨⟨⟨⟨⟨⟨⟨⟨Nat.ble_eq_true_of_le (by rw [List.length_append, hlen]; omega), Nat.ble_eq_true_of_le (by omega)⟩, by kernel_rfl⟩, hsm⟩, Nat.ble_eq_true_of_le (by omega)⟩, by kernel_rfl⟩, by kernel_rfl⟩, by kernel_rfl⟩, by rfl⟩, by rfl⟩, by rfl⟩
    refine (goesT_runs hT (u_e1 L.length C s _ i v x j _ g g') (okCons l1 (okL1 (by simpa using hz)))).mono fun e z he => ?_
    obtain ⟨rfl, ⟨g1, z1⟩, z2⟩ := he
    have e1 : (wU (dg L.length (ppT L s)) ++ Z).take L.length = wU (dg L.length (ppT L s)) := List.take_left' hlen
    have e2 : (wU (dg L.length (ppT L s)) ++ Z).drop (L.length + 1) = Z.drop 1 := by
      rw [← List.drop_drop, List.drop_left' hlen]
    rw [e1, e2, ew] at z2
    exact ⟨.inr rfl, by rw [z1, z2]; rfl, by rw [z2]; rfl⟩
/-- a call that changes blocks and answers with a place in them -/
theorem hcalls_of_runsV {T : Tab} {f : Nat} {F : Func} {c : Code} (hF : T.P.funcs[f]? = some F) (hc : F.body = some c) {vals : List Value} {v : Value} {h h' : Hp} (hv : lt h.n v = true) (ht : h'.tight = true)
    (hr : Runs T c (vals ++ List.replicate (F.ntmps - vals.length) undef, h, []) fun e y => (e = none ∨ e = some none) ∧ resS T.P F y.1 y.2.1 = some v ∧ y.2.1.cut h.n = h') (m : Mp) (B : Nat) (w : World) (E : Emb m B h w) (hvals : ∀ v ∈ vals, lt h.n v = true) :
    Calls T.P f (vals.map (mv m)).toArray w fun e w' => ∃ m', e = .returned (mv m' v) ∧ Came m B h w v h' m' w' := by
  refine calls_of_wp hF hc ?_
  have R : Rel m B (vals ++ List.replicate (F.ntmps - vals.length) undef, h, []) { tmps := (vals.map (mv m)).toArray ++ Array.replicate (F.ntmps - (vals.map (mv m)).toArray.size) undef, defers := [] } w := by
    refine ⟨?_, rfl, E, ?_⟩
    · simp [mv_undef]
    · intro y hy
      rcases List.mem_append.1 hy with hy | hy
      · exact hvals y hy
      · rw [List.eq_of_mem_replicate hy]; simp [undef, lt]
  refine hr _ _ _ w R _ fun e y he a' w' hR => ?_
  obtain ⟨hex, hres, hcut⟩ := he
  obtain ⟨m', k1, k2, k3, k4⟩ := hR
  obtain ⟨r1, r2⟩ := resS_run k2.emb k2.wf hres
  rw [← k2.tmps, mv_agree k1 hv] at r1
  have k4' : h.n ≤ y.2.1.n := k4
  have C : Came m B h w v h' m w' := by
    subst hcut
    exact ⟨Agree.refl _ _, k2.emb.cut k1 k4' ht, k3, by simp [Hp.cut], by simpa [Hp.cut] using hv⟩
  have post : a'.defers = [] ∧ ∃ v', (results F a'.tmps).run T.P w' = .ok v' w' ∧ ∃ m', Ending.returned v' = .returned (mv m' v) ∧ Came m B h w v h' m' w' :=
    ⟨k2.dfr, _, r1, m, rfl, C⟩
  rcases hex with rfl | rfl <;> exact post
def ppQ (S : List Value) (n : Nat) (b : ByteArray) : Int := ppT (cutI S 0 n) b / 4294967296 ^ n
def ppLg (S : List Value) (t : TypeId) (n c : Nat) (b : ByteArray) : Log := [(Nat.beq t tU, true), (rowOk t S 0 n c, true), (decide (¬ ixV b ≥ 0), true), (Nat.ble b.size 9 && Nat.blt n 1073741824, true)]
def gPp : AnsH := fun vals h s =>
  match vals, h, s with
  | [.slice (some ⟨0, 0, none⟩) n c, .string b], ⟨1, [(S, t)]⟩, .inr (.inr (.inr (.inl d))) :: s' =>
    match d with
    | false => some (sl 0 0 n c, ⟨1, [(wU (dg n (ppT (cutI S 0 n) b)) ++ S.drop n, tU)]⟩, s', (decide (ppQ S n b = 0), true) :: ppLg S t n c b)
    | true => some (sl 0 0 (n + 1) c, ⟨1, [(wU (dg n (ppT (cutI S 0 n) b)) ++ [uu (ppQ S n b)] ++ S.drop (n + 1), tU)]⟩, s', (decide (ppQ S n b ≠ 0), true) :: (Nat.blt n c && Nat.blt n S.length, true) :: ppLg S t n c b)
  | _, _, _ => none
theorem ppLg_of {S : List Value} {t : TypeId} {n c : Nat} {b : ByteArray} (h : okLog (ppLg S t n c b)) : t = tU ∧ Row S 0 (cutI S 0 n) ∧ (cutI S 0 n).length = n ∧ smallC c = true ∧ (∀ v ∈ S, still v = true) ∧ allD b ∧ b.size ≤ 9 ∧ n < 1073741824 ∧ S = wU (cutI S 0 n) ++ S.drop n := by
  obtain ⟨l1, q⟩ := logB h
  obtain ⟨l2, q⟩ := logB q
  obtain ⟨l3, q⟩ := logB q
  obtain ⟨l4, _⟩ := logB q
  have l1 := Nat.eq_of_beq_eq_true l1
  obtain ⟨a1, a2, a3, a4, a5, a6, a7⟩ := row_of l2
  simp only [Bool.and_eq_true] at l4
  refine ⟨l1, a1, a2, a4, a7, (ix_digits b).1 (of_decide_eq_true l3), Nat.le_of_ble_eq_true l4.1, blt_iff.1 l4.2, ?_⟩
  have h1 := a1.cut
  rw [a2] at h1
  rw [← h1]
  unfold cutV
  simp
theorem gPp_ok : AnsHOk 111 gPp := by
  intro vals h s v h' s' lg hg hl m B w E hv
  unfold gPp at hg
  split at hg
  · rename_i n c b S t d s2
    split at hg
    · cases hg
      obtain ⟨l1, q⟩ := logB hl
      obtain ⟨rfl, a1, a2, a4, a7, hd, h9, hn, eS⟩ := ppLg_of q
      have hz := of_decide_eq_true l1
      have hst : ∀ v ∈ S.drop n, lt1 1 v = true := fun v hv => still_lt (by omega) (a7 v (List.mem_of_mem_drop hv))
      have r := (pp_runs (C := c) hd h9 (L := cutI S 0 n) a1.rng (by omega) (Z := S.drop n)).1 (by rw [a2]; exact hz)
      rw [a2, ← eS] at r
      have ht : (hW1 (wU (dg n (ppT (cutI S 0 n) b)) ++ S.drop n)).tight = true := by
        unfold Hp.tight hW1
        simp only [List.all_cons, List.all_nil, List.all_append, Bool.and_true, Bool.and_eq_true]
        exact ⟨wU_tight _ _, List.all_eq_true.2 hst⟩
      exact hcalls_of_runsV (T := tabOf Tryz.prog extY conN true) Tryz.func111 up_body9 (vals := [sl 0 0 n c, .string b]) (h := hW1 S) (by rfl) ht r m B w E hv
    · cases hg
      obtain ⟨l1, q⟩ := logB hl
      obtain ⟨l0, q⟩ := logB q
      obtain ⟨rfl, a1, a2, a4, a7, hd, h9, hn, eS⟩ := ppLg_of q
      simp only [Bool.and_eq_true] at l0
      have hc := blt_iff.1 l0.1
      have hS := blt_iff.1 l0.2
      have hz := of_decide_eq_true l1
      have r := (pp_runs (C := c) hd h9 (L := cutI S 0 n) a1.rng (by omega) (Z := S.drop n)).2 (by rw [a2]; exact hz) (by omega) a4 (by rw [List.length_drop]; omega)
      rw [a2, ← eS, List.drop_drop] at r
      have ht : (hW1 (wU (dg n (ppT (cutI S 0 n) b)) ++ [uu (ppQ S n b)] ++ S.drop (n + 1))).tight = true := by
        unfold Hp.tight hW1
        simp only [List.all_cons, List.all_nil, List.all_append, Bool.and_true, Bool.and_eq_true]
        exact ⟨⟨wU_tight _ _, rfl⟩, List.all_eq_true.2 fun v hv => still_lt (by omega) (a7 v (List.mem_of_mem_drop hv))⟩
      exact hcalls_of_runsV (T := tabOf Tryz.prog extY conN true) Tryz.func111 up_body9 (vals := [sl 0 0 n c, .string b]) (h := hW1 S) (by rfl) ht r m B w E hv
  · cases hg
/-! ### Parse -/
def conPr : Con := alt 110 gCf conN
theorem conPr_ok : ConOk conPr := alt_ok Tryz.func110 rfl gCf_ok conN_ok
def hcPr : Hc := altH 111 gPp (altH 112 gTrim hcN)
theorem hcPr_ok : HcOk hcPr := altH_ok Tryz.func111 rfl gPp_ok (altH_ok Tryz.func112 rfl gTrim_ok hcN_ok)
theorem tabPr : TabOk (tabH Tryz.prog extY conPr hcPr) := tabH_ok conPr_ok hcPr_ok
def qC9 (F : Func) : Nat → Code
  | 0 => cBody F
  | n + 1 => cSnd (qC9 F n)
def qP9 (F : Func) : List Code := [cFst (qC9 F 0), cFst (qC9 F 1), cFst (qC9 F 2), cFst (qC9 F 3), cFst (qC9 F 4)]
def qL9 (F : Func) : Code := cIn (cIn (cFst (qC9 F 5)))
def qE9 (F : Func) : Code := qC9 F 6
theorem pr_body : Tryz.f75.body = some (seqs (qP9 Tryz.f75) (.seq (.block 0 (.loop (qL9 Tryz.f75))) (qE9 Tryz.f75))) := by kernel_rfl
def capP (s : ByteArray) : Int := (IntKind.i64.wrap (IntKind.i64.wrap ((s.size : Int).tdiv 9) + 1))
def qF9 (s : Value) (w v : Value) : List Value := [s, undef, nilS, .nilIface, fO, w, v]
def eqN (s : ByteArray) : Bool := s == (⟨⟨[]⟩⟩ : ByteArray)
theorem pr_pre (s : ByteArray) : GoesT (evL (tabH Tryz.prog extY conPr hcPr) 100 (qP9 Tryz.f75) ([.string s] ++ List.replicate 40 undef, ⟨0, []⟩, [sam false, cmp false, cmp false, at_]) ⟨[], [], []⟩) 7 34 none (qF9 (.string s) (sl 0 0 0 (capP s).toNat) undef) (hW1 (List.replicate (capP s).toNat (.int .u32 0))) [(okMakeB 4 0 (capP s), true), (decide ((s.size : Int) > 20000), false), (decide (ixV s ≥ 0), false), (true, true), (eqN s, false)] := ⟨by kernel_rfl, by kernel_rfl, by kernel_rfl⟩
theorem pr_e (s : ByteArray) : Fits (reckon (tabH Tryz.prog extY conPr hcPr) 100 75 [.string s] [sam true]) (.tuple #[nilS, errV 3]) [(eqN s, true)] := ⟨by kernel_rfl, by kernel_rfl, by kernel_rfl, by kernel_rfl⟩
theorem pr_o (s : ByteArray) : Fits (reckon (tabH Tryz.prog extY conPr hcPr) 100 75 [.string s] [sam false, cmp true]) (.tuple #[nilS, errV 3]) [(decide (ixV s ≥ 0), true), (true, true), (eqN s, false)] := ⟨by kernel_rfl, by kernel_rfl, by kernel_rfl, by kernel_rfl⟩
def enP (l : List UInt8) : Int := IntKind.i64.wrap ((IntKind.i64.wrap ((l.length : Int) - 1)).tmod 9 + 1)
theorem pr_go (l : List UInt8) (d : Bool) (n C : Nat) (v : Value) (S : List Value) (g : Nat → Value) : GoesT (evC (tabH Tryz.prog extY conPr hcPr) 100 false (qL9 Tryz.f75) (qF9 (bS l) (sl 0 0 n C) v ++ tl 34 g, hW1 S, [sam true, sam true, cmp d, sam true]) ⟨[], [], []⟩) 7 34 none (qF9 (bS (l.drop (enP l).toNat)) (sl 0 0 (match d with | true => n + 1 | false => n) C) (.int .i64 (enP l))) (match d with | true => hW1 (wU (dg n (ppT (cutI S 0 n) ⟨⟨l.take (enP l).toNat⟩⟩)) ++ [uu (ppQ S n ⟨⟨l.take (enP l).toNat⟩⟩)] ++ S.drop (n + 1)) | false => hW1 (wU (dg n (ppT (cutI S 0 n) ⟨⟨l.take (enP l).toNat⟩⟩)) ++ S.drop n))
    ((decide (0 ≤ enP l ∧ enP l ≤ (l.length : Nat)), true) :: (match d with | true => (decide (ppQ S n ⟨⟨l.take (enP l).toNat⟩⟩ ≠ 0), true) :: (Nat.blt n C && Nat.blt n S.length, true) :: ppLg S tU n C ⟨⟨l.take (enP l).toNat⟩⟩ | false => (decide (ppQ S n ⟨⟨l.take (enP l).toNat⟩⟩ = 0), true) :: ppLg S tU n C ⟨⟨l.take (enP l).toNat⟩⟩) ++ [(decide (0 ≤ enP l ∧ enP l ≤ (l.length : Nat)), true), (!(eqN ⟨⟨l⟩⟩), true)]) := by
  cases d <;> exact ⟨by kernel_rfl, by kernel_rfl, by kernel_rfl⟩
theorem pr_out (w v : Value) (h : Hp) (g : Nat → Value) : GoesT (evC (tabH Tryz.prog extY conPr hcPr) 100 false (qL9 Tryz.f75) (qF9 (bS []) w v ++ tl 34 g, h, [sam false]) ⟨[], [], []⟩) 7 34 (some (some 0)) (qF9 (bS []) w v) h [(!(eqN ⟨⟨[]⟩⟩), false)] := ⟨by kernel_rfl, by kernel_rfl, by kernel_rfl⟩
theorem pr_end (s v : Value) (n C : Nat) (S : List Value) (g : Nat → Value) : GoesT (evC (tabH Tryz.prog extY conPr hcPr) 100 false (qE9 Tryz.f75) (qF9 s (sl 0 0 n C) v ++ tl 34 g, hW1 S, []) ⟨[], [], []⟩) 4 37 (some none) [s, undef, sl 0 0 (trimN (cutI S 0 n)) C, .nilIface] (hW1 S) [(rowOk tU S 0 n C, true)] := ⟨by kernel_rfl, by kernel_rfl, by kernel_rfl⟩
end Go.Proofs.YtjlponbdflkbjaaGreatDoor.Na
namespace Go.Nt
theorem dg_plus : ∀ (m k : Nat) (V : Int), dg (m + k) V = dg m V ++ dg k (V / 4294967296 ^ m)
  | 0, k, V => by simp [dg]
  | m + 1, k, V => by
    rw [show m + 1 + k = (m + k) + 1 by omega]
    show V % 4294967296 :: dg (m + k) (V / 4294967296) = (V % 4294967296 :: dg m (V / 4294967296)) ++ dg k (V / 4294967296 ^ (m + 1))
    rw [dg_plus m k, List.cons_append, Int.ediv_ediv_of_nonneg (by omega), pw]
theorem dg_drop (m k : Nat) (V : Int) : (dg (m + k) V).drop m = dg k (V / 4294967296 ^ m) := by
  rw [dg_plus, List.drop_left' (dg_len _ _)]
theorem dg_take (m k : Nat) (V : Int) : (dg (m + k) V).take m = dg m V := by
  rw [dg_plus, List.take_left' (dg_len _ _)]
theorem pw_nat (m : Nat) : (4294967296 : Int) ^ m = ((4294967296 ^ m : Nat) : Int) := by rw [Int.natCast_pow]; rfl
/-- a number's own digits, and how many -/
theorem dg_db (V : Nat) : dg (db 4294967296 V).length (V : Int) = db 4294967296 V := by
  have hw : wds (db 4294967296 V) := fun x hx => by
    have := db_dg (b := 4294967296) (by omega) V x hx
    exact ⟨this.1, by have := this.2; omega⟩
  have h := dg_vN (db 4294967296 V) hw
  rw [vN_vb hw, vb_db (by omega)] at h
  exact h
theorem lt_len (V : Nat) : V < 4294967296 ^ (db 4294967296 V).length := by
  have h := vb_lt (b := 4294967296) (by omega) (db 4294967296 V) (db_dg (by omega) V)
  rwa [vb_db (by omega)] at h
theorem len_iff {V k : Nat} : (db 4294967296 V).length ≤ k ↔ V < 4294967296 ^ k :=
  ⟨fun h => Nat.lt_of_lt_of_le (lt_len V) (Nat.pow_le_pow_right (by omega) h), fun h => db_len (by omega) k V h⟩
/-- the words behind a piece, where nothing is carried on, and where a word is -/
theorem pp_num {V P C : Nat} (hP : P < 1000000000) (hC : V * 1000000000 + P < 4294967296 ^ C) :
    let n := (db 4294967296 V).length
    let V' := V * 1000000000 + P
    (dg C (V : Int)).take n = db 4294967296 V ∧ n ≤ C ∧
    (((V' : Nat) : Int) / 4294967296 ^ n = 0 → dg n ((V' : Nat) : Int) ++ (dg C (V : Int)).drop n = dg C ((V' : Nat) : Int) ∧ (db 4294967296 V').length = n) ∧
    (((V' : Nat) : Int) / 4294967296 ^ n ≠ 0 → n < C ∧ dg n ((V' : Nat) : Int) ++ [((V' : Nat) : Int) / 4294967296 ^ n] ++ (dg C (V : Int)).drop (n + 1) = dg C ((V' : Nat) : Int) ∧ (db 4294967296 V').length = n + 1) := by
  intro n V'
  have hV := lt_len V
  have hVC : V < 4294967296 ^ C := Nat.lt_of_le_of_lt (by omega) hC
  have hn : n ≤ C := len_iff.2 hVC
  obtain ⟨k, hk⟩ : ∃ k, C = n + k := ⟨C - n, by omega⟩
  have hz : (V : Int) / 4294967296 ^ n = 0 := by
    rw [pw_nat]
    exact Int.ediv_eq_zero_of_lt (by omega) (by exact_mod_cast hV)
  have hq : ((V' : Nat) : Int) / 4294967296 ^ n = ((V' / 4294967296 ^ n : Nat) : Int) := by rw [pw_nat]; rfl
  have h0 : n = 0 → V = 0 := fun h => by
    rw [show (db 4294967296 V).length = 0 from h, Nat.pow_zero] at hV
    omega
  have ge : n ≤ (db 4294967296 V').length := by
    rcases Nat.lt_or_ge (db 4294967296 V').length n with h | h
    · exfalso
      have h1 : V' < 4294967296 ^ (n - 1) := len_iff.1 (by omega)
      have h2 : (db 4294967296 V).length ≤ n - 1 := len_iff.2 (by omega)
      have : n ≤ n - 1 := h2
      omega
    · exact h
  refine ⟨?_, hn, fun h => ?_, fun h => ?_⟩
  · rw [hk, dg_take]
    exact dg_db V
  · rw [hk, dg_drop, hz, dg_plus, h]
    refine ⟨rfl, ?_⟩
    rw [hq] at h
    have h1 : V' / 4294967296 ^ n = 0 := Int.ofNat.inj h
    have h2 : V' < 4294967296 ^ n := by
      rcases Nat.lt_or_ge V' (4294967296 ^ n) with h3 | h3
      · exact h3
      · have := Nat.div_pos h3 (Nat.pow_pos (by omega)); omega
    have := len_iff.2 h2
    omega
  · rw [hq] at h
    have hqp : 0 < V' / 4294967296 ^ n := Nat.pos_of_ne_zero fun h' => h (by rw [h']; rfl)
    have hge : 4294967296 ^ n ≤ V' := by
      rcases Nat.lt_or_ge V' (4294967296 ^ n) with h3 | h3
      · rw [Nat.div_eq_of_lt h3] at hqp; omega
      · exact h3
    have hlt : V' < 4294967296 ^ (n + 1) := by
      rw [Nat.pow_succ]
      have : V < 4294967296 ^ n := hV
      show V * 1000000000 + P < _
      omega
    have hnC : n < C := by
      rcases Nat.lt_or_ge n C with h3 | h3
      · exact h3
      · have : (4294967296 : Nat) ^ C ≤ 4294967296 ^ n := Nat.pow_le_pow_right (by omega) h3
        have hC' : V' < 4294967296 ^ C := hC
        omega
    obtain ⟨j, hj⟩ : ∃ j, k = j + 1 := ⟨k - 1, by omega⟩
    have hqB : V' / 4294967296 ^ n < 4294967296 := by
      rw [Nat.pow_succ] at hlt
      exact Nat.div_lt_of_lt_mul hlt
    refine ⟨hnC, ?_, ?_⟩
    · have hz1 : (V : Int) / 4294967296 ^ (n + 1) = 0 := by
        rw [pw_nat]
        have : V < 4294967296 ^ (n + 1) := Nat.lt_of_lt_of_le hV (Nat.pow_le_pow_right (by omega) (by omega))
        exact Int.ediv_eq_zero_of_lt (by omega) (by exact_mod_cast this)
      have hz2 : ((V' : Nat) : Int) / 4294967296 ^ (n + 1) = 0 := by
        rw [pw_nat]
        exact Int.ediv_eq_zero_of_lt (by omega) (by exact_mod_cast hlt)
      rw [hk, hj, show n + (j + 1) = (n + 1) + j by omega, dg_drop, hz1, dg_plus (n + 1) j, hz2, dg_plus n 1, hq]
      show dg n _ ++ [_] ++ dg j 0 = dg n _ ++ [((V' / 4294967296 ^ n : Nat) : Int) % 4294967296] ++ dg j 0
      rw [Int.emod_eq_of_lt (by omega) (by omega)]
    · have h1 := len_iff.2 hlt
      rcases Nat.lt_or_ge n (db 4294967296 V').length with h3 | h3
      · omega
      · have := len_iff.1 h3
        omega
theorem rdV10_congr {f g : Nat → Int} : ∀ k, (∀ j, j < k → f j = g j) → rdV10 f k = rdV10 g k
  | 0, _ => rfl
  | k + 1, h => by
    simp only [rdV10]
    rw [rdV10_congr k (fun j hj => h j (by omega)), h k (by omega)]
theorem ten_cap {m C : Nat} (h : m ≤ 9 * C) : (10 : Nat) ^ m ≤ 4294967296 ^ C := by
  have h1 : (10 : Nat) ^ m ≤ 10 ^ (9 * C) := Nat.pow_le_pow_right (by omega) h
  have h2 : (10 : Nat) ^ (9 * C) ≤ 4294967296 ^ C := by
    rw [Nat.pow_mul]
    exact Nat.pow_le_pow_left (by decide) C
  omega
end Go.Nt
