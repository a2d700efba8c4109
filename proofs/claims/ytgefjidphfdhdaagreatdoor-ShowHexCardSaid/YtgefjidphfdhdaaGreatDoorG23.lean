/-
  TxO, ConVB, ToS, ShA, RfN, RfD, ShD, ShE
-/
import Derived.Test.YtgefjidphfdhdaaGreatDoorG22
namespace Go.Proofs.YtgefjidphfdhdaaGreatDoor
open Go.KRun Go.Nt
set_option maxRecDepth 100000
theorem rd_num {r x : Int} (hr : 0 ≤ r ∧ r < 10) (hx : 0 ≤ x ∧ x < 65536) : rdQ9 r x = (65536 * r + x) / 10 ∧ rdR9 r x = (65536 * r + x) % 10 ∧ 0 ≤ rdQ9 r x ∧ rdQ9 r x < 65536 := by
  have eT : rdT9 r x = 65536 * r + x := by
    unfold rdT9
    simp [IntKind.wrap, IntKind.bits, IntKind.signed]
    omega
  have q2 : rdQ9 r x = (65536 * r + x) / 10 := by
    unfold rdQ9
    rw [eT, Int.tdiv_eq_ediv_of_nonneg (by omega)]
    simp [IntKind.wrap, IntKind.bits, IntKind.signed]
    omega
  have q3 : rdR9 r x = (65536 * r + x) % 10 := by
    unfold rdR9
    rw [eT, Int.tmod_eq_emod_of_nonneg (by omega)]
  rw [q2, q3]
  exact ⟨rfl, rfl, by omega, by omega⟩
def a8 (x : Int) : UInt8 := UInt8.ofNat (asc x).toNat
theorem dig_one : ∀ k : Fin 10, (digS.drop k.val).take 1 = [UInt8.ofNat (48 + k.val)] := by decide
theorem conc_eq {r : Int} (hr : 0 ≤ r ∧ r < 10) (l : List UInt8) : conc r l = a8 r :: l ∧ ((digS.drop r.toNat).take ((IntKind.u32.wrap (r + 1)).toNat - r.toNat)).length = 1 ∧ IntKind.u32.wrap (r + 1) = r + 1 := by
  have ew : IntKind.u32.wrap (r + 1) = r + 1 := by
    simp [IntKind.wrap, IntKind.bits, IntKind.signed]
    omega
  have e1 : (IntKind.u32.wrap (r + 1)).toNat - r.toNat = 1 := by rw [ew]; omega
  have h := dig_one ⟨r.toNat, by omega⟩
  simp only at h
  unfold conc
  rw [e1, h]
  refine ⟨?_, rfl, ew⟩
  unfold a8 asc
  rw [show (48 + r).toNat = 48 + r.toNat by omega]
  rfl
theorem dg65 {L : List Int} (h : ∀ x ∈ L, Dg 65536 x) : ∀ x ∈ L, 0 ≤ x ∧ x < 4294967296 := fun x hx => ⟨(h x hx).1, by have := (h x hx).2; omega⟩
/-- one round of divisions by ten -/
theorem rd_in {X : List (List Value × TypeId)} (hX : X.length = 1 ∨ X.length = 2) (a : Value) (l : List UInt8) (i : Value) {L : List Int} (hL : ∀ x ∈ L, Dg 65536 x) (hN : L.length < 1073741824) (hl : l.length < 9223372036854775000) (g : Nat → Value) (sc : List Dec) :
    RunsW (tabH Tryz.prog extY conN hcRd) (.seq (.seq (e8 Tryz.f32) (.block 2 (.loop (eI Tryz.f32)))) (eZ Tryz.f32)) (eF a (bS l) (.slice (some ⟨X.length, 0, none⟩) L.length grown) (uu 0) i ++ tl 39 g, hQd X (wU L), sc) fun e z => e = none ∧ ∃ Q : List Int, Q.length = L.length ∧ (∀ x ∈ Q, Dg 65536 x) ∧ vb 65536 Q = vb 65536 L / 10 ∧ z.2.1 = hQd X (wU Q) ∧ ∃ (j : Int) (g : Nat → Value), z.1 = eF (sl X.length 0 (trimN Q) (trimN Q)) (bS (a8 ((vb 65536 L % 10 : Nat) : Int) :: l)) (.slice (some ⟨X.length, 0, none⟩) L.length grown) (uu ((vb 65536 L % 10 : Nat) : Int)) (.int .i64 j) ++ tl 39 g := by
  refine RunsW.seq (P1 := fun e z => e = none ∧ ∃ Q : List Int, Q.length = L.length ∧ (∀ x ∈ Q, Dg 65536 x) ∧ vb 65536 Q = vb 65536 L / 10 ∧ z.2.1 = hQd X (wU Q) ∧ ∃ (j : Int) (g : Nat → Value), z.1 = eF a (bS l) (.slice (some ⟨X.length, 0, none⟩) L.length grown) (uu ((vb 65536 L % 10 : Nat) : Int)) (.int .i64 j) ++ tl 39 g) ?_ ?_ (fun e y he => by cases he.1)
  · refine RunsW.seq (goesT_runsW (s0 := sc) tabRd (rd_8 a (bS l) (uu 0) i X.length L.length _ g) okN9) ?_ (fun e y he => by cases he.1)
    rintro ⟨t, hh, s⟩ ⟨_, ⟨g', e1⟩, e2⟩
    have ew : IntKind.i64.wrap ((L.length : Int) - 1) = (L.length : Int) - 1 := wrapI (by omega) (by omega)
    rw [ew] at e1
    refine (RunsW.forLoop (R := fun _ => False) (P := fun z => ∃ Q : List Int, Q.length = L.length ∧ (∀ x ∈ Q, Dg 65536 x) ∧ vb 65536 Q = vb 65536 L / 10 ∧ z.2.1 = hQd X (wU Q) ∧ ∃ (j : Int) (g : Nat → Value), z.1 = eF a (bS l) (.slice (some ⟨X.length, 0, none⟩) L.length grown) (uu ((vb 65536 L % 10 : Nat) : Int)) (.int .i64 j) ++ tl 39 g)
      (fun m y => ∃ (A Q H : List Int) (r : Nat) (g : Nat → Value), y.1 = eF a (bS l) (.slice (some ⟨X.length, 0, none⟩) L.length grown) (uu (r : Nat)) (.int .i64 ((A.length : Int) - 1)) ++ tl 39 g ∧ y.2.1 = hQd X (wU (A ++ Q)) ∧ L = A ++ H ∧ H.length = Q.length ∧ (∀ x ∈ Q, Dg 65536 x) ∧ r < 10 ∧ vb 65536 H = vb 65536 Q * 10 + r ∧ m = A.length)
      ?_ (n := L.length) ⟨L, [], [], 0, g', e1, by rw [List.append_nil]; exact e2, by simp, rfl, (fun x hx => by cases hx), by omega, rfl, rfl⟩).mono fun e z hz => ?_
    · rintro m ⟨t, h', s'⟩ ⟨A, Q, H, r, g, ht, hh, hLA, hHQ, wQ, hr, hv, hm⟩
      simp only at ht hh
      subst ht hh
      rcases List.eq_nil_or_concat A with rfl | ⟨A', x, rfl⟩
      · refine (goesT_runsW (s0 := s') tabRd (rd_x a (bS l) _ X.length L.length _ _ g) (okL1 (decide_eq_false (by simp)))).mono fun e z he => ?_
        obtain ⟨rfl, ⟨g', z1⟩, z2⟩ := he
        have eH : L = H := by simpa using hLA
        rw [← eH] at hv hHQ
        refine ⟨rfl, Q, hHQ.symm, wQ, by omega, z2, ((([] : List Int).length : Nat) : Int) - 1, g', ?_⟩
        rw [show vb 65536 L % 10 = r by omega]
        exact z1
      · rw [List.concat_eq_append] at *
        have hlen : L.length = A'.length + 1 + H.length := by rw [hLA]; simp; omega
        have hx := hL x (by rw [hLA]; simp)
        have hx' : 0 ≤ x ∧ x < 65536 := ⟨hx.1, by have := hx.2; omega⟩
        obtain ⟨n1, n2, n3, n4⟩ := rd_num (r := ((r : Nat) : Int)) ⟨by omega, by omega⟩ hx'
        have ei : (((A' ++ [x]).length : Nat) : Int) - 1 = (A'.length : Nat) := by simp
        have eS : wU (A' ++ [x] ++ Q) = wU (A' ++ x :: Q) := by simp
        have cS : (wU (A' ++ x :: Q))[0 + A'.length]? = some (uu x) := by
          rw [Nat.zero_add]
          exact wU_get A' x Q
        have l1 : decide (0 + ((A'.length : Nat) : Int).toNat * 1 < (wU (A' ++ x :: Q)).length) = true := decide_eq_true (by unfold wU; simp)
        have l2 : (inR (A'.length : Nat) L.length).1 = (inR (A'.length : Nat) L.length).2 := decide_eq_true (by omega)
        have l3 : (celR (wU (A' ++ x :: Q)) 0 (A'.length : Nat) x).1 = (celR (wU (A' ++ x :: Q)) 0 (A'.length : Nat) x).2 := cel_ok cS
        rw [ei, eS]
        refine (goesT_runsW (s0 := s') tabRd (rd_go hX a (bS l) L.length (r : Nat) (A'.length : Nat) x (wU (A' ++ x :: Q)) g) (okCons l1 (okCons l2 (okCons l3 (okCons l2 (okL1 (decide_eq_true (by omega)))))))).mono fun e z he => ?_
        obtain ⟨rfl, ⟨g', z1⟩, z2⟩ := he
        obtain ⟨r', hr'⟩ := Int.eq_ofNat_of_zero_le (show 0 ≤ rdR9 (r : Nat) x by rw [n2]; omega)
        rw [hr'] at z1 n2
        refine ⟨A'.length, by rw [hm]; simp, A', rdQ9 (r : Nat) x :: Q, x :: H, r', g', ?_, ?_, by rw [hLA]; simp, by simp [hHQ], ?_, by omega, ?_, rfl⟩
        · rw [z1, wrapI (by omega) (by omega)]
        · rw [z2, Int.toNat_natCast, Nat.mul_one, Nat.zero_add, wU_set]
          simp
        · intro y hy
          rcases List.mem_cons.1 hy with rfl | hy
          · exact ⟨n3, by omega⟩
          · exact wQ y hy
        · show x.toNat + 65536 * vb 65536 H = ((rdQ9 (r : Nat) x).toNat + 65536 * vb 65536 Q) * 10 + r'
          rw [hv]
          omega
    · match e, hz with
      | none, hz => exact ⟨rfl, hz⟩
  · rintro ⟨t, hh, s⟩ ⟨_, Q, q1, q2, q3, q4, j, g', q5⟩
    simp only at q4 q5
    subst q4 q5
    obtain ⟨c1, c2, c3⟩ := conc_eq (r := ((vb 65536 L % 10 : Nat) : Int)) ⟨by omega, by omega⟩ l
    have ec : cutI (wU Q) 0 L.length = Q := by rw [cutI_wT, ← q1, List.take_length]
    have lc : rowC tU (wU Q) 0 L.length grown = true := by
      rw [← q1]
      exact rowC_wU (dg65 q2) (by omega) (by rfl)
    have hG : GoesT (evC (tabH Tryz.prog extY conN hcRd) 100 false (eZ Tryz.f32) (eF a (bS l) (.slice (some ⟨X.length, 0, none⟩) L.length grown) (uu ((vb 65536 L % 10 : Nat) : Int)) (.int .i64 j) ++ tl 39 g', hQd X (wU Q), [sam true, sam true]) ⟨[], [], []⟩) 7 39 none (eF (sl X.length 0 (trimN (cutI (wU Q) 0 L.length)) (trimN (cutI (wU Q) 0 L.length))) (bS (conc ((vb 65536 L % 10 : Nat) : Int) l)) (.slice (some ⟨X.length, 0, none⟩) L.length grown) (uu ((vb 65536 L % 10 : Nat) : Int)) (.int .i64 j)) (hQd X (wU Q)) [(rowC tU (wU Q) 0 L.length grown, true), (decide (((digS.drop (((vb 65536 L % 10 : Nat) : Int)).toNat).take ((IntKind.u32.wrap (((vb 65536 L % 10 : Nat) : Int) + 1)).toNat - (((vb 65536 L % 10 : Nat) : Int)).toNat)).length + l.length ≤ 9223372036854775807), true), (decide (0 ≤ ((vb 65536 L % 10 : Nat) : Int) ∧ ((vb 65536 L % 10 : Nat) : Int) ≤ IntKind.u32.wrap (((vb 65536 L % 10 : Nat) : Int) + 1) ∧ IntKind.u32.wrap (((vb 65536 L % 10 : Nat) : Int) + 1) ≤ ((digS.length : Nat) : Int)), true)] := by
      match X, hX with
      | [x1], _ => exact rd_z1 a _ l L.length _ x1 (wU Q) g'
      | [x1, x2], _ => exact rd_z2 a _ l L.length _ x1 x2 (wU Q) g'
    rw [c1, ec] at hG
    refine (goesT_runsW (s0 := s) tabRd hG (okCons lc (okCons (decide_eq_true (by rw [c2]; omega)) (okL1 (decide_eq_true ⟨by omega, by rw [c3]; omega, by rw [c3, show digS.length = 10 from rfl]; omega⟩))))).mono fun e z he => ?_
    obtain ⟨rfl, ⟨g2, z1⟩, z2⟩ := he
    exact ⟨rfl, Q, q1, q2, q3, z2, j, g2, z1⟩
/-- the letters of what is left, and those that are written -/
def rdI (V0 V : Nat) (l : List UInt8) : Prop := ((db 10 V).reverse.map a8) ++ l = decS V0
theorem rdI_step {V0 V : Nat} {l : List UInt8} (hV : 0 < V) (h : rdI V0 V l) : rdI V0 (V / 10) (a8 ((V % 10 : Nat) : Int) :: l) := by
  unfold rdI at *
  rw [db_pos (by omega) (by omega), List.reverse_cons, List.map_append, List.append_assoc] at h
  exact h
theorem rdI_len {V0 V : Nat} {l : List UInt8} (h : rdI V0 V l) : l.length ≤ (decS V0).length := by
  unfold rdI at h
  rw [← h, List.length_append]
  omega
theorem decS_len {V n : Nat} (h : V < 65536 ^ n) (hn : 0 < n) : (decS V).length ≤ 5 * n := by
  unfold decS decL
  by_cases h0 : V = 0
  · rw [if_pos h0]; simp; omega
  · rw [if_neg h0, List.length_map, List.length_reverse]
    refine db_len (by omega) _ V (Nat.lt_of_lt_of_le h ?_)
    rw [Nat.pow_mul]
    exact Nat.pow_le_pow_left (by decide) n
def rdO (V0 : Nat) (z : Lf) : Prop := ∃ (a q r i : Value) (g : Nat → Value), z.1 = eF a (bS (decS V0)) q r i ++ tl 39 g
def rdS1 (la : List Value) (V0 : Nat) (m : Nat) (z : Lf) : Prop := ∃ (Q : List Int) (l : List UInt8) (k j : Nat) (r i : Int) (g : Nat → Value), z.1 = eF (sl 1 0 (trimN Q) (trimN Q)) (bS l) (.slice (some ⟨1, 0, none⟩) k grown) (uu r) (.int .i64 i) ++ tl 39 g ∧ z.2.1 = ⟨2, [(wU Q, tU), (la, tR)]⟩ ∧ (∀ x ∈ Q, Dg 65536 x) ∧ Q.length < 1073741824 ∧ rdI V0 (vb 65536 Q) l ∧ m = vb 65536 Q ∧ j = 0
theorem appChn_wU {L : List Int} {n : Nat} (h0 : 0 < n) (hn : n ≤ L.length) (hb : n < 1073741824) : appChn (wU L, tU) 0 n = true := by
  unfold appChn
  rw [show tomb tU = false from by kernel_rfl, Nat.ble_eq_true_of_le (show 0 + n ≤ (wU L).length by unfold wU; simp; omega), blt_iff.2 h0, Nat.ble_eq_true_of_le (by omega)]
  have : (((wU L).drop 0).take n).all one = true := by
    rw [List.drop_zero, List.all_eq_true]
    exact fun v hv => List.all_eq_true.1 (wU_one L) v (List.mem_of_mem_take hv)
  rw [this]
  rfl
theorem rd_round {la : List Value} (hla : la.all still = true) {V0 : Nat} (hV0 : (decS V0).length < 9223372036854775000) (m : Nat) (z : Lf) (h : rdS1 la V0 m z) :
    RunsW (tabH Tryz.prog extY conN hcRd) (.seq (eA Tryz.f32) (.block 1 (seqs (eQ Tryz.f32) (.seq (.seq (e8 Tryz.f32) (.block 2 (.loop (eI Tryz.f32)))) (eZ Tryz.f32))))) z fun e y => match e with | none => ∃ m', m' < m ∧ rdS1 la V0 m' y | some none => False | some (some id') => id' = 0 ∧ rdO V0 y := by
  obtain ⟨Q, l, k, j, r, i, g, ht, hh, hDQ, hQl, hI, hm, hj⟩ := h
  obtain ⟨t, h', sc⟩ := z
  simp only at ht hh
  subst ht hh
  have htr := trim_len (b := 65536) (by omega) hDQ
  have hle := trimN_le Q
  have hpos : 0 < trimN Q ↔ 0 < vb 65536 Q := by
    rw [htr, List.length_pos_iff, ne_eq, db_nil (by omega)]
    omega
  by_cases h0 : 0 < trimN Q
  · have hV := hpos.1 h0
    have hll := rdI_len hI
    refine RunsW.seq (P1 := fun e y => e = none ∧ (∃ g, y.1 = eF (sl 1 0 (trimN Q) (trimN Q)) (bS l) (.slice (some ⟨1, 0, none⟩) k grown) (uu r) (.int .i64 i) ++ tl 39 g) ∧ y.2.1 = ⟨2, [(wU Q, tU), (la, tR)]⟩) (goesT_runsW (s0 := sc) tabRd (rd_a 1 0 (trimN Q) (trimN Q) true _ _ _ _ _ g) (okL1 (decide_eq_true (by omega)))) ?_ (fun e y he => by cases he.1)
    rintro ⟨t, hh, s⟩ ⟨_, ⟨g1, e1⟩, e2⟩
    simp only at e1 e2
    subst e1 e2
    have hin : RunsW (tabH Tryz.prog extY conN hcRd) (seqs (eQ Tryz.f32) (.seq (.seq (e8 Tryz.f32) (.block 2 (.loop (eI Tryz.f32)))) (eZ Tryz.f32))) (eF (sl 1 0 (trimN Q) (trimN Q)) (bS l) (.slice (some ⟨1, 0, none⟩) k grown) (uu r) (.int .i64 i) ++ tl 39 g1, ⟨2, [(wU Q, tU), (la, tR)]⟩, s) fun e y => e = none ∧ ∃ Q' : List Int, Q'.length = trimN Q ∧ (∀ x ∈ Q', Dg 65536 x) ∧ vb 65536 Q' = vb 65536 Q / 10 ∧ ∃ (j : Int) (g : Nat → Value), y.1 = eF (sl 2 0 (trimN Q') (trimN Q')) (bS (a8 ((vb 65536 Q % 10 : Nat) : Int) :: l)) (.slice (some ⟨2, 0, none⟩) (trimN Q) grown) (uu ((vb 65536 Q % 10 : Nat) : Int)) (.int .i64 j) ++ tl 39 g ∧ y.2.1 = hQd [(wU Q, tU), (la, tR)] (wU Q') := by
      refine goesT_listW tabRd (rd_q1 (trimN Q) (trimN Q) (bS l) _ _ _ (wU Q) (la, tR) g1) (okL1 (appChn_wU h0 hle (by omega))) fun g2 => ?_
      have ecp : ((wU Q).drop 0).take (trimN Q) = wU (db 65536 (vb 65536 Q)) := by
        rw [List.drop_zero, ← take_trim (by omega) Q hDQ]
        unfold wU
        rw [List.map_take]
      rw [ecp]
      have hr := rd_in (X := [(wU Q, tU), (la, tR)]) (.inr rfl) (sl 1 0 (trimN Q) (trimN Q)) l (.int .i64 i) (L := db 65536 (vb 65536 Q)) (db_dg (by omega) _) (by rw [← htr]; omega) (by omega) g2 []
      rw [vb_db (by omega), ← htr] at hr
      refine hr.mono fun e y he => ?_
      obtain ⟨rfl, Q', p1, p2, p3, p4, j', g3, p5⟩ := he
      exact ⟨rfl, Q', p1, p2, p3, j', g3, p5, p4⟩
    have hblk := RunsW.block (id := 1) (P := fun e y => e = none ∧ ∃ Q' : List Int, Q'.length = trimN Q ∧ (∀ x ∈ Q', Dg 65536 x) ∧ vb 65536 Q' = vb 65536 Q / 10 ∧ ∃ (j : Int) (g : Nat → Value), y.1 = eF (sl 2 0 (trimN Q') (trimN Q')) (bS (a8 ((vb 65536 Q % 10 : Nat) : Int) :: l)) (.slice (some ⟨2, 0, none⟩) (trimN Q) grown) (uu ((vb 65536 Q % 10 : Nat) : Int)) (.int .i64 j) ++ tl 39 g ∧ y.2.1 = hQd [(wU Q, tU), (la, tR)] (wU Q')) hin (fun y he => he) (fun y he => by cases he.1) (fun y he => by cases he.1) (fun id' y _ he => by cases he.1)
    refine hblk.small (P' := fun e y => match e with | none => ∃ m', m' < m ∧ rdS1 la V0 m' y | some none => False | some (some id') => id' = 0 ∧ rdO V0 y) fun e y he => .inr ?_
    obtain ⟨rfl, Q', p1, p2, p3, j', g3, p5, p4⟩ := he
    obtain ⟨t, hh, s3⟩ := y
    simp only at p4 p5
    subst p4 p5
    refine ⟨eF (sl 2 0 (trimN Q') (trimN Q')) (bS (a8 ((vb 65536 Q % 10 : Nat) : Int) :: l)) (.slice (some ⟨2, 0, none⟩) (trimN Q) grown) (uu ((vb 65536 Q % 10 : Nat) : Int)) (.int .i64 j'), eF (sl 1 0 (trimN Q') (trimN Q')) (bS (a8 ((vb 65536 Q % 10 : Nat) : Int) :: l)) (.slice (some ⟨1, 0, none⟩) (trimN Q) grown) (uu ((vb 65536 Q % 10 : Nat) : Int)) (.int .i64 j'), tl 39 g3, _, ⟨2, [(wU Q', tU), (la, tR)]⟩, s3, keepK 1 2, rfl, by kernel_rfl, rfl, Nat.succ_pos 1, fun i x hx => ?_, fun i j x y hi hj _ _ hij => ?_, ?_, fun g4 => ?_⟩
    · have hi2 : i < 2 := Hp.blk_lt hx
      have h01 : i = 0 ∨ i = 1 := by omega
      rcases h01 with rfl | rfl
      · obtain rfl := (Option.some.inj hx).symm
        exact ⟨List.all_eq_true.1 hla, (la, tR), [], rfl, rfl, (List.append_nil _).symm⟩
      · obtain rfl := (Option.some.inj hx).symm
        exact ⟨List.all_eq_true.1 (wU_allS _), (wU Q', tU), [], rfl, rfl, (List.append_nil _).symm⟩
    · have hi2 : i < 2 := Hp.blk_lt hi
      have hj2 : j < 2 := Hp.blk_lt hj
      have h01 : i = 0 ∨ i = 1 := by omega
      have h02 : j = 0 ∨ j = 1 := by omega
      rcases h01 with rfl | rfl <;> rcases h02 with rfl | rfl
      · rfl
      · exact absurd hij (by decide)
      · exact absurd hij (by decide)
      · rfl
    · intro v hv
      simp only [eF, List.mem_cons, List.not_mem_nil, or_false] at hv
      rcases hv with rfl | rfl | rfl | rfl | rfl | rfl | rfl <;> rfl
    · have hl39 : (tl 39 g3).length = 39 := by simp [tl]
      refine ⟨vb 65536 Q', by rw [hm, p3]; exact Nat.div_lt_self hV (by omega), Q', a8 ((vb 65536 Q % 10 : Nat) : Int) :: l, trimN Q, 0, ((vb 65536 Q % 10 : Nat) : Int), j', g4, by rw [hl39], rfl, p2, by omega, ?_, rfl, rfl⟩
      rw [p3]
      exact rdI_step hV hI
  · have hz : vb 65536 Q = 0 := by
      rcases Nat.eq_zero_or_pos (vb 65536 Q) with h1 | h1
      · exact h1
      · exact absurd (hpos.2 h1) h0
    refine RunsW.seq (P1 := fun e y => e = some (some 0) ∧ rdO V0 y) ((goesT_runsW (s0 := sc) tabRd (rd_a 1 0 (trimN Q) (trimN Q) false _ _ _ _ _ g) (okL1 (decide_eq_false (by omega)))).mono fun e y he => ?_) (fun y he => by cases he.1) (fun e y he => ?_)
    · obtain ⟨rfl, ⟨g', z1⟩, z2⟩ := he
      unfold rdI at hI
      rw [hz, db_zero] at hI
      have : l = decS V0 := by simpa using hI
      rw [this] at z1
      exact ⟨rfl, _, _, _, _, g', z1⟩
    · obtain ⟨h1, h2⟩ := he
      cases h1
      exact ⟨rfl, h2⟩
theorem rdec_runs {la : List Value} {o n c : Nat} {L : List Int} (hR : Row la o L) (hn : L.length = n) (hla : la.all still = true) (hD : ∀ x ∈ L, Dg 65536 x) (h0 : 0 < n) (hb : n < 1073741824) (hV : 0 < vb 65536 L) :
    RunsW (tabH Tryz.prog extY conN hcRd) (seqs (eP Tryz.f32) (.seq (.block 0 (.loop (.seq (eA Tryz.f32) (.block 1 (seqs (eQ Tryz.f32) (.seq (.seq (e8 Tryz.f32) (.block 2 (.loop (eI Tryz.f32)))) (eZ Tryz.f32))))))) (eE Tryz.f32))) ([sl 0 o n c] ++ List.replicate 45 undef, h1R la, []) fun e z => (e = none ∨ e = some none) ∧ resS Tryz.prog Tryz.f32 z.1 z.2.1 = some (bS (decS (vb 65536 L))) := by
  have hV0 : (decS (vb 65536 L)).length < 9223372036854775000 := by
    have := decS_len (V := vb 65536 L) (n := L.length) (vb_lt (by omega) L hD) (by omega)
    omega
  have hI0 : rdI (vb 65536 L) (vb 65536 L) [] := by
    unfold rdI decS decL
    rw [if_neg (by omega), List.append_nil]
    rfl
  refine goesT_listW tabRd (rd_pre n c o _) (okL1 (by simp; omega)) fun g => ?_
  refine RunsW.seq (P1 := fun e y => e = none ∧ rdO (vb 65536 L) y) ?_ ?_ (fun e y he => by cases he.1)
  · -- the first round is on the argument's own row
    refine (RunsW.forLoop (R := fun _ => False) (P := rdO (vb 65536 L)) (fun m z => (m = vb 65536 L + 1 ∧ (∃ g, z.1 = eF (sl 0 o n c) (bS []) undef undef undef ++ tl 39 g) ∧ z.2.1 = h1R la) ∨ (m ≤ vb 65536 L ∧ rdS1 la (vb 65536 L) m z)) ?_ (n := vb 65536 L + 1) (.inl ⟨rfl, ⟨g, rfl⟩, rfl⟩)).mono fun e z hz => ?_
    · rintro m z (⟨hm, ⟨g, ht⟩, hh⟩ | ⟨hm, hS⟩)
      · obtain ⟨t, h', sc⟩ := z
        simp only at ht hh
        subst ht hh
        refine RunsW.seq (P1 := fun e y => e = none ∧ (∃ g, y.1 = eF (sl 0 o n c) (bS []) undef undef undef ++ tl 39 g) ∧ y.2.1 = h1R la) (goesT_runsW (s0 := sc) tabRd (rd_a 0 o n c true _ _ _ _ _ g) (okL1 (decide_eq_true (by omega)))) ?_ (fun e y he => by cases he.1)
        rintro ⟨t, hh, s⟩ ⟨_, ⟨g1, e1⟩, e2⟩
        simp only at e1 e2
        subst e1 e2
        have lc : appChn (la, tR) o n = true := by
          have h1 := hR.cut
          have h2 := hR.len
          unfold cutV at h1
          rw [hn] at h1 h2
          unfold appChn
          simp only
          rw [show tomb tR = false from by kernel_rfl, Nat.ble_eq_true_of_le h2, blt_iff.2 h0, h1, wU_one, Nat.ble_eq_true_of_le (by omega)]
          rfl
        have hin : RunsW (tabH Tryz.prog extY conN hcRd) (seqs (eQ Tryz.f32) (.seq (.seq (e8 Tryz.f32) (.block 2 (.loop (eI Tryz.f32)))) (eZ Tryz.f32))) (eF (sl 0 o n c) (bS []) undef undef undef ++ tl 39 g1, h1R la, s) fun e y => e = none ∧ ∃ m', m' < m ∧ (m' ≤ vb 65536 L ∧ rdS1 la (vb 65536 L) m' y) := by
          refine goesT_listW tabRd (rd_q0 o n c (bS []) undef undef undef la tR g1) (okL1 lc) fun g2 => ?_
          have ecp : (la.drop o).take n = wU L := by
            have h1 := hR.cut
            unfold cutV at h1
            rw [hn] at h1
            exact h1
          rw [ecp]
          have hr := rd_in (X := [(la, tR)]) (.inl rfl) (sl 0 o n c) [] undef hD (by omega) (by decide) g2 []
          rw [hn] at hr
          refine hr.mono fun e y he => ?_
          obtain ⟨rfl, Q', p1, p2, p3, p4, j', g3, p5⟩ := he
          refine ⟨rfl, vb 65536 Q', by rw [hm, p3]; have := Nat.div_le_self (vb 65536 L) 10; omega, by rw [p3]; exact Nat.div_le_self _ _, Q', _, n, 0, _, j', g3, p5, p4, p2, by omega, ?_, rfl, rfl⟩
          rw [p3]
          exact rdI_step hV hI0
        refine (RunsW.block (id := 1) (P := fun e y => e = none ∧ ∃ m', m' < m ∧ (m' ≤ vb 65536 L ∧ rdS1 la (vb 65536 L) m' y)) hin (fun y he => he) (fun y he => by cases he.1) (fun y he => by cases he.1) (fun id' y _ he => by cases he.1)).mono fun e y he => ?_
        obtain ⟨rfl, m', h1, h2⟩ := he
        exact ⟨m', h1, .inr h2⟩
      · refine (rd_round hla hV0 m z hS).mono fun e y he => ?_
        match e, he with
        | none, he =>
          obtain ⟨m', h1, h2⟩ := he
          exact ⟨m', h1, .inr ⟨by omega, h2⟩⟩
        | some (some id'), he => exact he
    · match e, hz with
      | none, hz => exact ⟨rfl, hz⟩
  · rintro ⟨t, hh, s⟩ ⟨_, a, q, r, i, g', e1⟩
    simp only at e1
    subst e1
    refine (goesT_runsW (s0 := s) tabRd (rd_end a _ q r i hh g') okN9).mono fun e z he => ?_
    obtain ⟨rfl, ⟨g2, z1⟩, z2⟩ := he
    refine ⟨.inr rfl, ?_⟩
    rw [z1]
    rfl
/-- the document's Decimal: the text is told ahead -/
def gRd9 : AnsH := fun vals h s =>
  match vals, s with
  | [.slice p n c], .inr (.inr (.inr (.inr (.inr (.string b))))) :: s' => some (.string b, h, s', [(rowP h p n c && canB (rowOf h p n) && Nat.blt n 1073741824, true), (decide (decS (vO h p n) = b.data.toList), true)])
  | _, _ => none
theorem gRd9_ok : AnsHOk 32 gRd9 := by
  intro vals h s v h' s' lg hg hl m B w E hv
  unfold gRd9 at hg
  split at hg
  · rename_i p n c b s2
    cases hg
    obtain ⟨q, q0⟩ := logB hl
    obtain ⟨l3, _⟩ := logB q0
    have l3 := of_decide_eq_true l3
    have et : Value.string b = bS b.data.toList := rfl
    rw [et, ← l3]
    simp only [Bool.and_eq_true] at q
    obtain ⟨⟨q1, q2⟩, q3⟩ := q
    have q2 := canB_of q2
    have q3 := blt_iff.1 q3
    have hlen := rowOf_len q1
    by_cases hn : n = 0
    · subst hn
      have e0 : rowOf h p 0 = [] := List.length_eq_zero_iff.1 hlen
      have ev : vO h p 0 = 0 := by unfold vO; rw [e0]; rfl
      obtain ⟨x, p', a, NA, eA, fA⟩ := nu_of 0 q1
      have hr : Runs (tabH Tryz.prog extY conN hcRd) (cBody Tryz.f32) ([.slice p' 0 c] ++ List.replicate 45 undef, ⟨1, [x]⟩, []) fun e z => (e = none ∨ e = some none) ∧ resS Tryz.prog Tryz.f32 z.1 z.2.1 = some (bS (decS (vO h p 0))) := by
        refine (goesT_runs tabRd (rd_zeroD p' 0 c _) (okL1 rfl)).mono fun e z he => ?_
        obtain ⟨rfl, ⟨g, e2⟩, e3⟩ := he
        refine ⟨.inr rfl, ?_⟩
        rw [e2, e3, ev]
        rfl
      have := row_calls0 (T := (tabH Tryz.prog extY conN hcRd)) Tryz.func32 rd_body1 (h0 := ⟨1, [x]⟩) ⟨rfl, fun b z hz => by obtain ⟨_, rfl⟩ := b1_of hz; exact ⟨NA.ros.1, NA.lt0, NA.ros.2⟩⟩ (vals := [.slice p' 0 c]) (fun v hv => by rw [List.mem_singleton.1 hv]; exact NA.lt (by show 0 < 1; omega)) (by rfl) hr.w E (s := fun _ => a) (fun i z hz ht => by obtain ⟨_, rfl⟩ := b1_of hz; exact fA ht)
      simp only [List.map_cons, List.map_nil] at this
      rw [eA _ rfl] at this
      exact this
    · rcases rowP_cases q1 with ⟨rfl, rfl, rfl, e0⟩ | ⟨bk, o, x, rfl, hx, r1, _, e0⟩
      · exact absurd rfl hn
      · rw [e0] at q2 hlen
        obtain ⟨h1, h2, h3, h4, h5, h6, h7⟩ := rowC_of r1
        have ev : vO h (some ⟨bk, o, none⟩) n = vb 65536 (cutI x.1 o n) := by unfold vO; rw [e0]
        rw [ev]
        have hVp : 0 < vb 65536 (cutI x.1 o n) := by
          rcases Nat.eq_zero_or_pos (vb 65536 (cutI x.1 o n)) with hz | hz
          · exfalso
            have := db_can (by omega) q2
            rw [hz, db_zero] at this
            rw [← this] at hlen
            exact hn hlen.symm
          · exact hz
        exact row_calls0 (T := (tabH Tryz.prog extY conN hcRd)) Tryz.func32 rd_body (rows1 h7) (vals := [sl 0 o n c]) (fun v hv => by rw [List.mem_singleton.1 hv]; rfl) (by rfl) (rdec_runs h1 h2 (List.all_eq_true.2 h7) q2.1 (by omega) q3 hVp) E (s := fun _ => bk) (fitsR1 hx h5 h6 rfl)
  · cases hg
/-! ### Of -/
def f4 (n : Int) : List Int := [IntKind.u32.wrap (n.tmod 65536), IntKind.u32.wrap ((IntKind.u64.wrap (n.tdiv 65536)).tmod 65536), IntKind.u32.wrap ((IntKind.u64.wrap (n.tdiv 4294967296)).tmod 65536), IntKind.u32.wrap (IntKind.u64.wrap (n.tdiv 281474976710656))]
theorem uof_body : Tryz.f34.body = some (cBody Tryz.f34) := by kernel_rfl
theorem uof_go (n : Int) : GoesT (evC (tabH Tryz.prog extY conN hcV) 100 false (cBody Tryz.f34) ([.int .u64 n] ++ List.replicate 18 undef, ⟨0, []⟩, [cmp true, cmp true, cmp true]) ⟨[], [], []⟩) 3 16 (some none) [.int .u64 n, undef, sl 0 0 (trimN (cutI (wU (f4 n)) 0 4)) (trimN (cutI (wU (f4 n)) 0 4))] ⟨1, [(wU (f4 n), tU)]⟩ [(rowC tU (wU (f4 n)) 0 4 4, true), (decide ((65536 : Int) = 0), false), (decide ((65536 : Int) = 0), false), (decide ((65536 : Int) = 0), false)] := ⟨by kernel_rfl, by kernel_rfl, by kernel_rfl⟩
theorem wrap64 {n : Int} (h0 : 0 ≤ n) (h1 : n < 18446744073709551616) : IntKind.u64.wrap n = n := by simp [IntKind.wrap, IntKind.bits, IntKind.signed]; omega
theorem f4_eq {n : Int} (h0 : 0 ≤ n) (h1 : n < 18446744073709551616) : f4 n = [n % 65536, n / 65536 % 65536, n / 4294967296 % 65536, n / 281474976710656] := by
  unfold f4
  rw [Int.tmod_eq_emod_of_nonneg h0, Int.tdiv_eq_ediv_of_nonneg h0, Int.tdiv_eq_ediv_of_nonneg h0, Int.tdiv_eq_ediv_of_nonneg h0, wrap64 (n := n / 65536) (by omega) (by omega), wrap64 (n := n / 4294967296) (by omega) (by omega), wrap64 (n := n / 281474976710656) (by omega) (by omega), Int.tmod_eq_emod_of_nonneg (by omega), Int.tmod_eq_emod_of_nonneg (by omega), wrap32 (n := n % 65536) (by omega) (by omega), wrap32 (n := n / 65536 % 65536) (by omega) (by omega), wrap32 (n := n / 4294967296 % 65536) (by omega) (by omega), wrap32 (by omega) (by omega)]
theorem f4_dg {n : Int} (h0 : 0 ≤ n) (h1 : n < 18446744073709551616) : ∀ x ∈ f4 n, Dg 65536 x := by
  rw [f4_eq h0 h1]
  intro x hx
  simp only [List.mem_cons, List.not_mem_nil, or_false] at hx
  rcases hx with rfl | rfl | rfl | rfl <;> exact ⟨by omega, by omega⟩
theorem f4_val {n : Int} (h0 : 0 ≤ n) (h1 : n < 18446744073709551616) : vb 65536 (f4 n) = n.toNat := by
  rw [f4_eq h0 h1]
  simp only [vb]
  omega
def gUof : AnsH := fun vals h s =>
  match vals with
  | [.int .u64 n] => mk16 n.toNat h s [(decide (0 ≤ n ∧ n < 18446744073709551616), true)]
  | _ => none
theorem gUof_ok : AnsHOk 34 gUof := by
  intro vals h s v h' s' lg hg hl m B w E hv
  unfold gUof at hg
  split at hg
  · rename_i n
    unfold mk16 at hg
    cases hg
    have q := of_decide_eq_true (hl _ (List.mem_singleton.2 rfl))
    have hd := f4_dg q.1 q.2
    have hv4 := f4_val q.1 q.2
    have hl4 : (f4 n).length = 4 := rfl
    have ec : cutI (wU (f4 n)) 0 4 = f4 n := by
      have := cut_wU (f4 n)
      rw [hl4] at this
      exact this
    have et : trimN (f4 n) = (d16 n.toNat).length := by
      rw [trim_len (by omega) hd, hv4]
      rfl
    have hrow : rowC tU (wU (f4 n)) 0 4 4 = true := by
      have := rowC_wU (L := f4 n) (fun x hx => ⟨(hd x hx).1, by have := (hd x hx).2; omega⟩) (by rw [hl4]; omega) (c := 4) (by rw [hl4]; rfl)
      rw [hl4] at this
      exact this
    have hr : Runs (tabH Tryz.prog extY conN hcV) (cBody Tryz.f34) ([.int .u64 n] ++ List.replicate 18 undef, ⟨0, []⟩, []) fun e z => (e = none ∨ e = some none) ∧ resS Tryz.prog Tryz.f34 z.1 z.2.1 = some (sl 0 0 (d16 n.toNat).length (d16 n.toNat).length) ∧ ∃ r, z.2.1.blk? 0 = some (wU (d16 n.toNat) ++ r, tU) := by
      refine (goesT_runs (tabH_ok conN_ok hcV_ok) (uof_go n) (okTwo hrow (okTwo rfl (okTwo rfl (okOne rfl))))).mono fun e z he => ?_
      obtain ⟨rfl, ⟨g, e1⟩, e2⟩ := he
      refine ⟨.inr rfl, ?_, ?_⟩
      · rw [e1, e2, ec, et]
        rfl
      · rw [e2]
        refine ⟨wU ((f4 n).drop (trimN (f4 n))), ?_⟩
        have e3 : wU (d16 n.toNat) ++ wU ((f4 n).drop (trimN (f4 n))) = wU (f4 n) := by
          unfold d16
          rw [← hv4, ← take_trim (by omega) _ hd, ← wU_append, List.take_append_drop]
        rw [e3]
        rfl
    have := row_calls1 (T := tabH Tryz.prog extY conN hcV) Tryz.func34 uof_body (h0 := ⟨0, []⟩) ⟨rfl, fun b x hx => by have : b < 0 := Hp.blk_lt hx; omega⟩ (vals := [.int .u64 n]) (fun v hv => by rw [List.mem_singleton.1 hv]; rfl) (k := 0) (cs := wU (d16 n.toNat)) (ty := tU) (wU_lt _) (by kernel_rfl) hr.w (by rfl) E (s := fun i => i) (fun i x hx _ => by have : i < 0 := Hp.blk_lt hx; omega)
    exact this
  · cases hg
/-! ### Low -/
/-! ### what is asked of a row that is the number V -/
/-- a block, by its number -/
def aP16 (b : Nat) : Option Addr := some ⟨b, 0, none⟩
def w16 (X : Nat) : List Value × TypeId := (wU (d16 X), tU)
section
variable {h : Hp} {b V : Nat}
theorem vO_aP (hb : h.blk? b = some (wU (d16 V), tU)) : vO h (aP16 b) (d16 V).length = V := vO_d16 hb
end
end Go.Proofs.YtgefjidphfdhdaaGreatDoor
namespace Go.Proofs.YtgefjidphfdhdaaGreatDoor
open Go.KRun Go.Nt Go.Rd
set_option maxRecDepth 100000
def hcSh : Hc := altH 34 gUof (altH 32 gRd9 hcN)
theorem hcSh_ok : HcOk hcSh := altH_ok Tryz.func34 rfl gUof_ok (altH_ok Tryz.func32 rfl gRd9_ok hcN_ok)
def conSp : Con := alt 47 (gU vT) conN
theorem conSp_ok : ConOk conSp := alt_ok Tryz.func47 rfl ref_ok conN_ok
def hD1 (x : Int) : Hp := ⟨1, [w16 x.toNat]⟩
theorem ln_dS {h : Hp} {b V : Nat} (hb : h.blk? b = some (wU (d16 V), tU)) (hl : (d16 V).length < 100000) : (rowP h (aP16 b) (d16 V).length (d16 V).length && canB (rowOf h (aP16 b) (d16 V).length) && Nat.blt (d16 V).length 1073741824) = true := by
  unfold aP16
  rw [rowP_d16 hb (by omega), rowOf_d16 hb, show canB (d16 V) = true from canB_mk (can_db (by omega) _), blt_iff.2 (by omega)]
  rfl
theorem dcm_m (n : Int) (b : List UInt8) : Fits (reckon (tabH Tryz.prog extY conN hcSh) 300 49 [.int .i64 n] [cmp true, val (bR b), sam true]) (bR (45 :: b)) [(decide (1 + b.length ≤ 9223372036854775807), true), (rowP (hD1 (IntKind.u64.wrap (IntKind.i64.wrap (0 - n)))) (aP16 0) (d16 (IntKind.u64.wrap (IntKind.i64.wrap (0 - n))).toNat).length (d16 (IntKind.u64.wrap (IntKind.i64.wrap (0 - n))).toNat).length && canB (rowOf (hD1 (IntKind.u64.wrap (IntKind.i64.wrap (0 - n)))) (aP16 0) (d16 (IntKind.u64.wrap (IntKind.i64.wrap (0 - n))).toNat).length) && Nat.blt (d16 (IntKind.u64.wrap (IntKind.i64.wrap (0 - n))).toNat).length 1073741824, true), (decide (decS (vO (hD1 (IntKind.u64.wrap (IntKind.i64.wrap (0 - n)))) (aP16 0) (d16 (IntKind.u64.wrap (IntKind.i64.wrap (0 - n))).toNat).length) = b), true), (decide (0 ≤ (IntKind.u64.wrap (IntKind.i64.wrap (0 - n))) ∧ (IntKind.u64.wrap (IntKind.i64.wrap (0 - n))) < 18446744073709551616), true), (decide (n < 0), true)] := ⟨by kernel_rfl, by kernel_rfl, by kernel_rfl, by kernel_rfl⟩
theorem dcm_p (n : Int) (b : List UInt8) : Fits (reckon (tabH Tryz.prog extY conN hcSh) 300 49 [.int .i64 n] [cmp false, val (bR b)]) (bR b) [(rowP (hD1 (IntKind.u64.wrap n)) (aP16 0) (d16 (IntKind.u64.wrap n).toNat).length (d16 (IntKind.u64.wrap n).toNat).length && canB (rowOf (hD1 (IntKind.u64.wrap n)) (aP16 0) (d16 (IntKind.u64.wrap n).toNat).length) && Nat.blt (d16 (IntKind.u64.wrap n).toNat).length 1073741824, true), (decide (decS (vO (hD1 (IntKind.u64.wrap n)) (aP16 0) (d16 (IntKind.u64.wrap n).toNat).length) = b), true), (decide (0 ≤ (IntKind.u64.wrap n) ∧ (IntKind.u64.wrap n) < 18446744073709551616), true), (decide (n < 0), false)] := ⟨by kernel_rfl, by kernel_rfl, by kernel_rfl, by kernel_rfl⟩
theorem decimal_calls (n : Int) (hn : n.natAbs ≤ 2000000) (w : World) : Calls Tryz.prog 49 #[.int .i64 n] w fun r w' => r = .returned (bR (expL n)) ∧ Tidy w w' := by
  have T := tabH_ok conN_ok hcSh_ok
  have lb := dcL_len n.natAbs
  have ls : (d16 n.natAbs).length ≤ 4 := d16_len (A := n.natAbs) (k := 4) (Nat.lt_of_le_of_lt hn (by decide))
  obtain ⟨b, hb0⟩ : ∃ b, b = dcL n.natAbs := ⟨_, rfl⟩
  have hb : decS n.natAbs = b := by rw [hb0]; exact decS_dcL (by omega)
  rw [← hb0] at lb
  unfold expL
  rw [← hb0]
  by_cases h : n < 0
  · rw [if_pos h]
    have e : (IntKind.u64.wrap (IntKind.i64.wrap (0 - n))) = (n.natAbs : Nat) := by
      rw [wrapI (n := 0 - n) (by omega) (by omega)]
      simp [IntKind.wrap, IntKind.bits, IntKind.signed]
      omega
    have hf := dcm_m n b
    rw [e, Int.toNat_natCast] at hf
    exact fits_calls T hf (okCons (decide_eq_true (by omega)) (okCons (ln_dS (h := hD1 _) (b := 0) rfl (by omega)) (okCons (decide_eq_true (by rw [vO_aP (V := _) rfl]; exact hb)) (okCons (decide_eq_true ⟨by omega, by omega⟩) (okL1 (decide_eq_true h)))))) (by rfl) (by rfl) w
  · rw [if_neg h]
    have e : (IntKind.u64.wrap n) = (n.natAbs : Nat) := by
      simp [IntKind.wrap, IntKind.bits, IntKind.signed]
      omega
    have hf := dcm_p n b
    rw [e, Int.toNat_natCast] at hf
    exact fits_calls T hf (okCons (ln_dS (h := hD1 _) (b := 0) rfl (by omega)) (okCons (decide_eq_true (by rw [vO_aP (V := _) rfl]; exact hb)) (okCons (decide_eq_true ⟨by omega, by omega⟩) (okL1 (decide_eq_false h))))) (by rfl) (by rfl) w
def gDcm : Ans := fun vals s =>
  match vals with
  | [.int .i64 n] => some (bR (expL n), s, [(decide (n.natAbs ≤ 2000000), true)])
  | _ => none
theorem gDcm_ok : AnsOk 49 gDcm := by
  intro vals s v s' lg h hl w
  unfold gDcm at h
  split at h
  · cases h
    exact decimal_calls _ (of_decide_eq_true (hl _ (List.mem_singleton.2 rfl))) w
  · cases h
theorem spc_n (p : Int) : Fits (reckon (tabOf Tryz.prog extY conSp true) 300 25 [.int .u64 p] [cmp true]) (bR [110, 97, 110]) [(decide (Go.Pt.cl p > 3), true), (decide (Go.Pt.U p), true)] := ⟨by kernel_rfl, by kernel_rfl, by kernel_rfl, by kernel_rfl⟩
theorem spc_i (p : Int) : Fits (reckon (tabOf Tryz.prog extY conSp true) 300 25 [.int .u64 p] [cmp false, cmp true]) (bR [105, 110, 102]) [(p == 9218868437227405312, true), (decide (Go.Pt.cl p > 3), false), (decide (Go.Pt.U p), true)] := ⟨by kernel_rfl, by kernel_rfl, by kernel_rfl, by kernel_rfl⟩
theorem spc_m (p : Int) : Fits (reckon (tabOf Tryz.prog extY conSp true) 300 25 [.int .u64 p] [cmp false, cmp false, cmp true]) (bR [45, 105, 110, 102]) [(p == 18442240474082181120, true), (p == 9218868437227405312, false), (decide (Go.Pt.cl p > 3), false), (decide (Go.Pt.U p), true)] := ⟨by kernel_rfl, by kernel_rfl, by kernel_rfl, by kernel_rfl⟩
theorem spc_e (p : Int) : Fits (reckon (tabOf Tryz.prog extY conSp true) 300 25 [.int .u64 p] [cmp false, cmp false, cmp false]) (bR []) [(p == 18442240474082181120, false), (p == 9218868437227405312, false), (decide (Go.Pt.cl p > 3), false), (decide (Go.Pt.U p), true)] := ⟨by kernel_rfl, by kernel_rfl, by kernel_rfl, by kernel_rfl⟩
/-- of what is no finite number: 0: a finite one, 1: none, 2, 3: endless -/
def spK (p : Int) : Int := if 3 < Go.Pt.cl p then 1 else if p = 9218868437227405312 then 2 else if p = 18442240474082181120 then 3 else 0
def spL (k : Int) : List UInt8 := if k = 1 then [110, 97, 110] else if k = 2 then [105, 110, 102] else if k = 3 then [45, 105, 110, 102] else []
theorem special_calls (p : Int) (hp : Go.Pt.U p) (w : World) : Calls Tryz.prog 25 #[.int .u64 p] w fun r w' => r = .returned (bR (spL (spK p))) ∧ Tidy w w' := by
  have T := tabY_ok conSp_ok
  unfold spK
  by_cases h0 : 3 < Go.Pt.cl p
  · rw [if_pos h0]
    exact fits_calls T (spc_n p) (okCons (decide_eq_true (by omega)) (okL1 (decide_eq_true hp))) (by rfl) (by rfl) w
  rw [if_neg h0]
  by_cases h1 : p = 9218868437227405312
  · rw [if_pos h1]
    exact fits_calls T (spc_i p) (okCons (beqR_t h1) (okCons (decide_eq_false (by omega)) (okL1 (decide_eq_true hp)))) (by rfl) (by rfl) w
  rw [if_neg h1]
  by_cases h2 : p = 18442240474082181120
  · rw [if_pos h2]
    exact fits_calls T (spc_m p) (okCons (beqR_t h2) (okCons (beqR_f h1) (okCons (decide_eq_false (by omega)) (okL1 (decide_eq_true hp))))) (by rfl) (by rfl) w
  rw [if_neg h2]
  exact fits_calls T (spc_e p) (okCons (beqR_f h2) (okCons (beqR_f h1) (okCons (decide_eq_false (by omega)) (okL1 (decide_eq_true hp))))) (by rfl) (by rfl) w
/-- told ahead which it is -/
def gSpc : Ans := fun vals s =>
  match vals, s with
  | [.int .u64 p], .inr (.inl k) :: s' => some (bR (spL k), s', [(decide (spK p = k), true), (decide (Go.Pt.U p), true)])
  | _, _ => none
theorem gSpc_ok : AnsOk 25 gSpc := by
  intro vals s v s' lg h hl w
  unfold gSpc at h
  split at h
  · cases h
    rw [okCs, okCs] at hl
    obtain ⟨l1, l2, _⟩ := hl
    have l1 := of_decide_eq_true l1
    rw [← l1]
    exact special_calls _ (of_decide_eq_true l2) w
  · cases h
end Go.Proofs.YtgefjidphfdhdaaGreatDoor
namespace Go.Proofs.YtgefjidphfdhdaaGreatDoor
open Go.KRun Go.Nt
def vRN (m : Bool) (e : Int) (v : Value) : Value := .agg #[.bool m, .int .i64 e, v]
end Go.Proofs.YtgefjidphfdhdaaGreatDoor
namespace Go.Proofs.YtgefjidphfdhdaaGreatDoor
open Go.KRun Go.Nt Go.Wd
set_option maxRecDepth 100000
set_option linter.unusedVariables false
abbrev pX9 (neg : Bool) (E N M : Int) (o n c : Nat) (r : List Value) : List Value := vRN neg E (sl 0 o n c) :: .int .i64 N :: .int .i64 M :: .pointer (some ⟨1, 0, none⟩) :: undef :: undef :: r
end Go.Proofs.YtgefjidphfdhdaaGreatDoor
namespace Go.Proofs.YtgefjidphfdhdaaGreatDoor
open Go.KRun Go.Nt Go.Rd Go.Pt
set_option maxRecDepth 100000
theorem hexR14_ok : AnsOk 48 (gU fun p => .string (hxW p)) := gU_ok refHex_calls
def conHx : Con := alt 25 gSpc (alt 47 (gU vT) (alt 48 (gU fun p => .string (hxW p)) (alt 49 gDcm conN)))
theorem conHx_ok : ConOk conHx := alt_ok Tryz.func25 rfl gSpc_ok (alt_ok Tryz.func47 rfl ref_ok (alt_ok Tryz.func48 rfl hexR14_ok (alt_ok Tryz.func49 rfl gDcm_ok conN_ok)))
def hTk (p : Int) : Hp := ⟨1, [([.bool (sgn p), .int .i64 (cl p), .int .i64 (xp p), .int .u64 (sg p)], 77)]⟩
def h14F (p : Int) (s : List UInt8) : List Value := [.int .u64 p, undef, bR [], .pointer (some ⟨0, 0, none⟩), bR s]
def h14G (p : Int) (s : List UInt8) (f : Int) (l : List UInt8) : List Value := [.int .u64 p, undef, bR [], .pointer (some ⟨0, 0, none⟩), bR s, .int .u64 f, bR l]
def h14P (F : Func) : List Code := [sP F 0, sP F 1, sP F 2, sP F 3]
def h14Q (F : Func) : List Code := [sP F 5, sP F 6, sP F 7]
def h14L (F : Func) : Code := cIn (cIn (sP F 8))
theorem h14_body1 : Tryz.f16.body = some (cBody Tryz.f16) := by kernel_rfl
theorem h14_body : cBody Tryz.f16 = seqs (h14P Tryz.f16) (.seq (sP Tryz.f16 4) (sK Tryz.f16 5)) := by kernel_rfl
theorem h14_body5 : sK Tryz.f16 5 = seqs (h14Q Tryz.f16) (.seq (.block 0 (.loop (h14L Tryz.f16))) (sK Tryz.f16 9)) := by kernel_rfl
def fr14 (p : Int) : Int := (sg p).tmod 4503599627370496
def hd14 (p : Int) : List UInt8 := (hxW (fr14 p)).data.toList.drop 3
theorem h14_sp (p k : Int) : GoesT (evC (tabOf Tryz.prog extY conHx true) 200 false (cBody Tryz.f16) ([.int .u64 p] ++ List.replicate 64 undef, ⟨0, []⟩, [num k, sam true, num k]) ⟨[], [], []⟩) 3 62 (some none) [.int .u64 p, undef, bR (spL k)] ⟨0, []⟩ [(decide (spK p = k), true), (decide (U p), true), (!((⟨⟨spL k⟩⟩ : ByteArray) == ⟨⟨[]⟩⟩), true), (decide (spK p = k), true), (decide (U p), true)] := ⟨by kernel_rfl, by kernel_rfl, by kernel_rfl⟩
theorem h14_pre (p : Int) : GoesT (evL (tabOf Tryz.prog extY conHx true) 200 (h14P Tryz.f16) ([.int .u64 p] ++ List.replicate 64 undef, ⟨0, []⟩, [num 0, sam false]) ⟨[], [], []⟩) 5 60 none (h14F p []) (hTk p) [(decide (U p), true), (!((⟨⟨spL 0⟩⟩ : ByteArray) == ⟨⟨[]⟩⟩), false), (decide (spK p = 0), true), (decide (U p), true)] := ⟨by kernel_rfl, by kernel_rfl, by kernel_rfl⟩
theorem h14_mit (p : Int) (g : Nat → Value) : GoesT (evC (tabOf Tryz.prog extY conHx true) 200 false (sP Tryz.f16 4) (h14F p [] ++ tl 60 g, hTk p, [tst true]) ⟨[], [], []⟩) 5 60 none (h14F p [45]) (hTk p) [(sgn p, true)] := ⟨by kernel_rfl, by kernel_rfl, by kernel_rfl⟩
theorem h14_mif (p : Int) (g : Nat → Value) : GoesT (evC (tabOf Tryz.prog extY conHx true) 200 false (sP Tryz.f16 4) (h14F p [] ++ tl 60 g, hTk p, [tst false]) ⟨[], [], []⟩) 5 60 none (h14F p []) (hTk p) [(sgn p, false)] := ⟨by kernel_rfl, by kernel_rfl, by kernel_rfl⟩
theorem h14_z (p : Int) (s : List UInt8) (g : Nat → Value) : GoesT (evC (tabOf Tryz.prog extY conHx true) 200 false (sK Tryz.f16 5) (h14F p s ++ tl 60 g, hTk p, [cmp true, sam true]) ⟨[], [], []⟩) 3 62 (some none) [.int .u64 p, undef, bR (s ++ [48, 120, 48, 112, 48])] (hTk p) [(decide (s.length + 5 ≤ 9223372036854775807), true), (cl p == 0, true)] := ⟨by kernel_rfl, by kernel_rfl, by kernel_rfl⟩
theorem h14_m (p : Int) (s : List UInt8) (g : Nat → Value) : GoesT (evL (tabOf Tryz.prog extY conHx true) 200 (h14Q Tryz.f16) (h14F p s ++ tl 60 g, hTk p, [cmp false, sam true]) ⟨[], [], []⟩) 7 58 none (h14G p s (fr14 p) (hd14 p)) (hTk p) [(decide ((0 : Int) ≤ 3 ∧ (3 : Int) ≤ (((hxW (fr14 p)).data.toList.length : Nat) : Int)), true), (decide (U (fr14 p)), true), (cl p == 0, false)] := ⟨by kernel_rfl, by kernel_rfl, by kernel_rfl⟩
theorem h14_lx (p f : Int) (s l : List UInt8) (g : Nat → Value) : GoesT (evC (tabOf Tryz.prog extY conHx true) 200 false (h14L Tryz.f16) (h14G p s f l ++ tl 58 g, hTk p, [cmp false]) ⟨[], [], []⟩) 7 58 (some (some 0)) (h14G p s f l) (hTk p) [(decide (((l.length : Nat) : Int) > 0), false)] := ⟨by kernel_rfl, by kernel_rfl, by kernel_rfl⟩
theorem h14_ls (p f : Int) (s l : List UInt8) (g : Nat → Value) : GoesT (evC (tabOf Tryz.prog extY conHx true) 200 false (h14L Tryz.f16) (h14G p s f l ++ tl 58 g, hTk p, [cmp true, cmp false]) ⟨[], [], []⟩) 7 58 (some (some 0)) (h14G p s f l) (hTk p) [(lq8 (l.getD (IntKind.i64.wrap (((l.length : Nat) : Int) - 1)).toNat 0) == 48, false), (decide (0 ≤ IntKind.i64.wrap (((l.length : Nat) : Int) - 1) ∧ (IntKind.i64.wrap (((l.length : Nat) : Int) - 1)).toNat < l.length), true), (decide (((l.length : Nat) : Int) > 0), true)] := ⟨by kernel_rfl, by kernel_rfl, by kernel_rfl⟩
theorem h14_lg (p f : Int) (s l : List UInt8) (g : Nat → Value) : GoesT (evC (tabOf Tryz.prog extY conHx true) 200 false (h14L Tryz.f16) (h14G p s f l ++ tl 58 g, hTk p, [cmp true, cmp true, sam true]) ⟨[], [], []⟩) 7 58 none (h14G p s f (l.take (IntKind.i64.wrap (((l.length : Nat) : Int) - 1)).toNat)) (hTk p) [(decide (0 ≤ IntKind.i64.wrap (((l.length : Nat) : Int) - 1) ∧ IntKind.i64.wrap (((l.length : Nat) : Int) - 1) ≤ ((l.length : Nat) : Int)), true), (lq8 (l.getD (IntKind.i64.wrap (((l.length : Nat) : Int) - 1)).toNat 0) == 48, true), (decide (0 ≤ IntKind.i64.wrap (((l.length : Nat) : Int) - 1) ∧ (IntKind.i64.wrap (((l.length : Nat) : Int) - 1)).toNat < l.length), true), (decide (((l.length : Nat) : Int) > 0), true)] := ⟨by kernel_rfl, by kernel_rfl, by kernel_rfl⟩
theorem h14_te1 (p f : Int) (s l : List UInt8) (g : Nat → Value) : GoesT (evC (tabOf Tryz.prog extY conHx true) 200 false (sK Tryz.f16 9) (h14G p s f l ++ tl 58 g, hTk p, [sam true, sam true, cmp true, sam true, sam true, sam true]) ⟨[], [], []⟩) 3 62 (some none) [.int .u64 p, undef, bR (((s ++ [48, 120, 48]) ++ ([46] ++ l)) ++ [112, 45, 49, 48, 50, 50])] (hTk p) [(decide (((s ++ [48, 120, 48]) ++ ([46] ++ l)).length + ([112, 45, 49, 48, 50, 50]).length ≤ 9223372036854775807), true), (decide ((s ++ [48, 120, 48]).length + (([46] ++ l)).length ≤ 9223372036854775807), true), (decide ((s).length + ([48, 120, 48]).length ≤ 9223372036854775807), true), (cl p == 1, true), (decide (([46]).length + (l).length ≤ 9223372036854775807), true), (!((⟨⟨l⟩⟩ : ByteArray) == ⟨⟨[]⟩⟩), true)] := ⟨by kernel_rfl, by kernel_rfl, by kernel_rfl⟩
theorem h14_te0 (p f : Int) (s l : List UInt8) (g : Nat → Value) : GoesT (evC (tabOf Tryz.prog extY conHx true) 200 false (sK Tryz.f16 9) (h14G p s f l ++ tl 58 g, hTk p, [sam false, cmp true, sam true, sam true, sam true]) ⟨[], [], []⟩) 3 62 (some none) [.int .u64 p, undef, bR (((s ++ [48, 120, 48]) ++ l) ++ [112, 45, 49, 48, 50, 50])] (hTk p) [(decide (((s ++ [48, 120, 48]) ++ l).length + ([112, 45, 49, 48, 50, 50]).length ≤ 9223372036854775807), true), (decide ((s ++ [48, 120, 48]).length + (l).length ≤ 9223372036854775807), true), (decide ((s).length + ([48, 120, 48]).length ≤ 9223372036854775807), true), (cl p == 1, true), (!((⟨⟨l⟩⟩ : ByteArray) == ⟨⟨[]⟩⟩), false)] := ⟨by kernel_rfl, by kernel_rfl, by kernel_rfl⟩
theorem h14_tn1 (p f : Int) (s l : List UInt8) (g : Nat → Value) : GoesT (evC (tabOf Tryz.prog extY conHx true) 200 false (sK Tryz.f16 9) (h14G p s f l ++ tl 58 g, hTk p, [sam true, sam true, cmp false, sam true, sam true, sam true, sam true]) ⟨[], [], []⟩) 3 62 (some none) [.int .u64 p, undef, bR ((((s ++ [48, 120, 49]) ++ ([46] ++ l)) ++ [112]) ++ expL (IntKind.i64.wrap (xp p + 52)))] (hTk p) [(decide ((((s ++ [48, 120, 49]) ++ ([46] ++ l)) ++ [112]).length + (expL (IntKind.i64.wrap (xp p + 52))).length ≤ 9223372036854775807), true), (decide ((IntKind.i64.wrap (xp p + 52)).natAbs ≤ 2000000), true), (decide (((s ++ [48, 120, 49]) ++ ([46] ++ l)).length + ([112]).length ≤ 9223372036854775807), true), (decide ((s ++ [48, 120, 49]).length + (([46] ++ l)).length ≤ 9223372036854775807), true), (decide ((s).length + ([48, 120, 49]).length ≤ 9223372036854775807), true), (cl p == 1, false), (decide (([46]).length + (l).length ≤ 9223372036854775807), true), (!((⟨⟨l⟩⟩ : ByteArray) == ⟨⟨[]⟩⟩), true)] := ⟨by kernel_rfl, by kernel_rfl, by kernel_rfl⟩
theorem h14_tn0 (p f : Int) (s l : List UInt8) (g : Nat → Value) : GoesT (evC (tabOf Tryz.prog extY conHx true) 200 false (sK Tryz.f16 9) (h14G p s f l ++ tl 58 g, hTk p, [sam false, cmp false, sam true, sam true, sam true, sam true]) ⟨[], [], []⟩) 3 62 (some none) [.int .u64 p, undef, bR ((((s ++ [48, 120, 49]) ++ l) ++ [112]) ++ expL (IntKind.i64.wrap (xp p + 52)))] (hTk p) [(decide ((((s ++ [48, 120, 49]) ++ l) ++ [112]).length + (expL (IntKind.i64.wrap (xp p + 52))).length ≤ 9223372036854775807), true), (decide ((IntKind.i64.wrap (xp p + 52)).natAbs ≤ 2000000), true), (decide (((s ++ [48, 120, 49]) ++ l).length + ([112]).length ≤ 9223372036854775807), true), (decide ((s ++ [48, 120, 49]).length + (l).length ≤ 9223372036854775807), true), (decide ((s).length + ([48, 120, 49]).length ≤ 9223372036854775807), true), (cl p == 1, false), (!((⟨⟨l⟩⟩ : ByteArray) == ⟨⟨[]⟩⟩), false)] := ⟨by kernel_rfl, by kernel_rfl, by kernel_rfl⟩
end Go.Proofs.YtgefjidphfdhdaaGreatDoor
namespace Go.Proofs.YtgefjidphfdhdaaGreatDoor
open Go.KRun Go.Nt Go.Rd Go.Pt
set_option maxRecDepth 100000
set_option linter.unusedSimpArgs false
/-- the text of base 16 -/
def hx14 (p : Int) : List UInt8 := if spK p ≠ 0 then spL (spK p) else if cl p = 0 then (if sgn p = true then [45] else []) ++ [48, 120, 48, 112, 48] else if cl p = 1 then hexT (sgn p) 48 (trR (hd14 p)) (-1022) else hexT (sgn p) 49 (trR (hd14 p)) (xp p + 52)
def h14S (p f : Int) (s l0 l : List UInt8) (y : Lf) : Prop := trR l = trR l0 ∧ l.length ≤ 16 ∧ ∃ g, y.1 = h14G p s f l ++ tl 58 g ∧ y.2.1 = hTk p
theorem h14_round {p f : Int} {s l0 : List UInt8} (r : Nat) (y : Lf) (h : ∃ l, r = l.length ∧ h14S p f s l0 l y) :
    Runs (tabOf Tryz.prog extY conHx true) (h14L Tryz.f16) y fun e z => match e with | none => ∃ r', r' < r ∧ ∃ l, r' = l.length ∧ h14S p f s l0 l z | some none => False | some (some id') => id' = 0 ∧ h14S p f s l0 (trR l0) z := by
  have hT := tabY_ok conHx_ok
  obtain ⟨l, hr, hz, hl, g, ht, hh⟩ := h
  obtain ⟨t, h', sc⟩ := y
  simp only at ht hh
  subst ht hh
  rcases List.eq_nil_or_concat l with rfl | ⟨l', c, rfl⟩
  · refine (goesT_runs (s0 := sc) hT (h14_lx p f s [] g) (okL1 rfl)).mono fun e z he => ?_
    obtain ⟨rfl, ⟨g', z1⟩, z2⟩ := he
    have e0 : trR l0 = [] := hz.symm
    rw [e0]
    exact ⟨rfl, by rw [e0]; rfl, by simp, g', z1, z2⟩
  · have eL : (l' ++ [c]).length = l'.length + 1 := by simp
    rw [List.concat_eq_append] at *
    have ew : IntKind.i64.wrap ((((l' ++ [c]).length : Nat) : Int) - 1) = ((l'.length : Nat) : Int) := by rw [eL, wrapI (by omega) (by omega)]; omega
    have eg : (l' ++ [c]).getD l'.length 0 = c := by simp
    have a1 : decide ((((l' ++ [c]).length : Nat) : Int) > 0) = true := decide_eq_true (by rw [eL]; omega)
    have a2 : decide ((0 : Int) ≤ ((l'.length : Nat) : Int) ∧ ((l'.length : Nat) : Int).toNat < (l' ++ [c]).length) = true := decide_eq_true ⟨by omega, by rw [eL]; omega⟩
    by_cases hc : lq8 c = 48
    · have hg := h14_lg p f s (l' ++ [c]) g
      rw [ew, Int.toNat_natCast, eg] at hg
      refine (goesT_runs (s0 := sc) hT hg (okCons (decide_eq_true ⟨by omega, by rw [eL]; omega⟩) (okCons (beqR_t hc) (okCons a2 (okL1 a1))))).mono fun e z he => ?_
      obtain ⟨rfl, ⟨g', z1⟩, z2⟩ := he
      rw [List.take_left] at z1
      rw [trR_snoc, if_pos hc] at hz
      exact ⟨l'.length, by rw [hr, eL]; omega, l', rfl, hz, by omega, g', z1, z2⟩
    · have hg := h14_ls p f s (l' ++ [c]) g
      rw [ew, Int.toNat_natCast, eg] at hg
      refine (goesT_runs (s0 := sc) hT hg (okCons (beqR_f hc) (okCons a2 (okL1 a1)))).mono fun e z he => ?_
      obtain ⟨rfl, ⟨g', z1⟩, z2⟩ := he
      have e0 : trR l0 = l' ++ [c] := by rw [← hz, trR_snoc, if_neg hc]
      rw [e0]
      refine ⟨rfl, ?_, by omega, g', z1, z2⟩
      rw [trR_snoc, if_neg hc, e0]
theorem exp_1022 : expL (-1022) = [45, 49, 48, 50, 50] := by decide
/-- behind the loop -/
theorem h14_tail {p f : Int} {s l : List UInt8} (hs : s = if sgn p = true then [45] else []) (hl : l.length ≤ 16) (hx : -3000 ≤ xp p ∧ xp p ≤ 3000) (g : Nat → Value) (sc : List Dec) :
    Runs (tabOf Tryz.prog extY conHx true) (sK Tryz.f16 9) (h14G p s f l ++ tl 58 g, hTk p, sc) fun e y => (e = none ∨ e = some none) ∧ resS Tryz.prog Tryz.f16 y.1 y.2.1 = some (bR (if cl p = 1 then hexT (sgn p) 48 l (-1022) else hexT (sgn p) 49 l (xp p + 52))) := by
  have hT := tabY_ok conHx_ok
  have ls : s.length ≤ 1 := by rw [hs]; split <;> simp
  have lx := expL_len (xp p + 52)
  have ew : IntKind.i64.wrap (xp p + 52) = xp p + 52 := wrapI (by omega) (by omega)
  by_cases hn : l = []
  · have em : (!((⟨⟨l⟩⟩ : ByteArray) == ⟨⟨[]⟩⟩)) = false := by rw [bs_eqR, decide_eq_true hn]; rfl
    by_cases h1 : cl p = 1
    · refine (goesT_runs (s0 := sc) hT (h14_te0 p f s l g) (okCons (decide_eq_true (by simp only [List.length_append, List.length_cons, List.length_nil]; omega)) (okCons (decide_eq_true (by simp only [List.length_append, List.length_cons, List.length_nil]; omega)) (okCons (decide_eq_true (by simp only [List.length_append, List.length_cons, List.length_nil]; omega)) (okCons (beqR_t h1) (okL1 em)))))).mono fun e z he => ?_
      obtain ⟨rfl, ⟨g', z1⟩, z2⟩ := he
      refine ⟨.inr rfl, ?_⟩
      rw [z1, z2, if_pos h1]
      unfold hexT
      rw [← hs, exp_1022, if_pos hn, hn]
      simp only [List.append_assoc, List.nil_append, List.cons_append, List.append_nil]
      rfl
    · have hg := h14_tn0 p f s l g
      rw [ew] at hg
      refine (goesT_runs (s0 := sc) hT hg (okCons (decide_eq_true (by simp only [List.length_append, List.length_cons, List.length_nil]; omega)) (okCons (decide_eq_true (by omega)) (okCons (decide_eq_true (by simp only [List.length_append, List.length_cons, List.length_nil]; omega)) (okCons (decide_eq_true (by simp only [List.length_append, List.length_cons, List.length_nil]; omega)) (okCons (decide_eq_true (by simp only [List.length_append, List.length_cons, List.length_nil]; omega)) (okCons (beqR_f h1) (okL1 em)))))))).mono fun e z he => ?_
      obtain ⟨rfl, ⟨g', z1⟩, z2⟩ := he
      refine ⟨.inr rfl, ?_⟩
      rw [z1, z2, if_neg h1]
      unfold hexT
      rw [← hs, if_pos hn, hn]
      simp only [List.append_assoc, List.nil_append, List.cons_append, List.append_nil]
      rfl
  · have em : (!((⟨⟨l⟩⟩ : ByteArray) == ⟨⟨[]⟩⟩)) = true := by rw [bs_eqR, decide_eq_false hn]; rfl
    by_cases h1 : cl p = 1
    · refine (goesT_runs (s0 := sc) hT (h14_te1 p f s l g) (okCons (decide_eq_true (by simp only [List.length_append, List.length_cons, List.length_nil]; omega)) (okCons (decide_eq_true (by simp only [List.length_append, List.length_cons, List.length_nil]; omega)) (okCons (decide_eq_true (by simp only [List.length_append, List.length_cons, List.length_nil]; omega)) (okCons (beqR_t h1) (okCons (decide_eq_true (by simp only [List.length_append, List.length_cons, List.length_nil]; omega)) (okL1 em))))))).mono fun e z he => ?_
      obtain ⟨rfl, ⟨g', z1⟩, z2⟩ := he
      refine ⟨.inr rfl, ?_⟩
      rw [z1, z2, if_pos h1]
      unfold hexT
      rw [← hs, exp_1022, if_neg hn]
      simp only [List.append_assoc, List.nil_append, List.cons_append, List.append_nil]
      rfl
    · have hg := h14_tn1 p f s l g
      rw [ew] at hg
      refine (goesT_runs (s0 := sc) hT hg (okCons (decide_eq_true (by simp only [List.length_append, List.length_cons, List.length_nil]; omega)) (okCons (decide_eq_true (by omega)) (okCons (decide_eq_true (by simp only [List.length_append, List.length_cons, List.length_nil]; omega)) (okCons (decide_eq_true (by simp only [List.length_append, List.length_cons, List.length_nil]; omega)) (okCons (decide_eq_true (by simp only [List.length_append, List.length_cons, List.length_nil]; omega)) (okCons (beqR_f h1) (okCons (decide_eq_true (by simp only [List.length_append, List.length_cons, List.length_nil]; omega)) (okL1 em))))))))).mono fun e z he => ?_
      obtain ⟨rfl, ⟨g', z1⟩, z2⟩ := he
      refine ⟨.inr rfl, ?_⟩
      rw [z1, z2, if_neg h1]
      unfold hexT
      rw [← hs, if_neg hn]
      simp only [List.append_assoc, List.nil_append, List.cons_append, List.append_nil]
      rfl
theorem h14_calls (p : Int) (hp : U p) (w : World) : Calls Tryz.prog 16 #[.int .u64 p] w fun r w' => r = .returned (bR (hx14 p)) ∧ Tidy w w' := by
  have hT := tabY_ok conHx_ok
  refine calls_of_runs (T := tabOf Tryz.prog extY conHx true) Tryz.func16 h14_body1 (vals := [.int .u64 p]) (by rfl) (by rfl) ?_ w
  have hU : decide (U p) = true := decide_eq_true hp
  unfold hx14
  by_cases hk : spK p = 0
  · rw [if_neg (fun h => h hk), h14_body]
    refine goesT_list hT (h14_pre p) (okCons hU (okCons rfl (okCons (decide_eq_true hk) (okL1 hU)))) fun g => ?_
    obtain ⟨s, hs⟩ : ∃ s : List UInt8, s = if sgn p = true then [45] else [] := ⟨_, rfl⟩
    have mi : Runs (tabOf Tryz.prog extY conHx true) (sP Tryz.f16 4) (h14F p [] ++ tl 60 g, hTk p, []) fun e y => e = none ∧ (∃ g, y.1 = h14F p s ++ tl 60 g) ∧ y.2.1 = hTk p := by
      cases hm : sgn p with
      | true =>
        rw [hm, if_pos rfl] at hs
        rw [hs]
        exact goesT_runs hT (h14_mit p g) (okL1 hm)
      | false =>
        rw [hm, if_neg (by decide)] at hs
        rw [hs]
        exact goesT_runs hT (h14_mif p g) (okL1 hm)
    refine Runs.seq mi ?_ (fun e y he => by cases he.1)
    rintro ⟨t, hh, sc⟩ ⟨_, ⟨g', e1⟩, e2⟩
    simp only at e1 e2
    subst e1 e2
    have ls : s.length ≤ 1 := by rw [hs]; split <;> simp
    by_cases h0 : cl p = 0
    · rw [if_pos h0]
      refine (goesT_runs (s0 := sc) hT (h14_z p s g') (okCons (decide_eq_true (by omega)) (okL1 (beqR_t h0)))).mono fun e z he => ?_
      obtain ⟨rfl, ⟨g2, z1⟩, z2⟩ := he
      refine ⟨.inr rfl, ?_⟩
      rw [z1, z2, ← hs]
      rfl
    · rw [if_neg h0, h14_body5]
      have hu : U (fr14 p) := by
        unfold fr14 U
        have := fr_lt p
        have h3 : 0 ≤ sg p := by
          unfold sg
          split
          · omega
          · split <;> omega
        rw [Int.tmod_eq_emod_of_nonneg h3]
        omega
      refine goesT_list (s0 := sc) hT (h14_m p s g') (okCons (decide_eq_true ⟨by omega, by show (3 : Int) ≤ ((16 : Nat) : Int); omega⟩) (okCons (decide_eq_true hu) (okL1 (beqR_f h0)))) fun g2 => ?_
      have l13 : (hd14 p).length = 13 := rfl
      refine Runs.seq (P1 := fun e y => match e with | none => h14S p (fr14 p) s (hd14 p) (trR (hd14 p)) y | some none => False | some (some _) => False) (Runs.forLoop (R := fun _ => False) (P := h14S p (fr14 p) s (hd14 p) (trR (hd14 p))) (fun r y => ∃ l, r = l.length ∧ h14S p (fr14 p) s (hd14 p) l y) h14_round (n := (hd14 p).length) ⟨hd14 p, rfl, rfl, by omega, g2, rfl, rfl⟩) ?_ (fun e y he => by match e, he with | none, he => exact he.elim | some _, he => exact he.elim)
      rintro ⟨t, hh, sc2⟩ ⟨_, hl, g3, e1, e2⟩
      simp only at e1 e2
      subst e1 e2
      exact h14_tail hs hl (by
        have := ex_lt p
        unfold xp
        split
        · omega
        · split <;> omega) g3 sc2
  · rw [if_pos hk]
    have hn : (!((⟨⟨spL (spK p)⟩⟩ : ByteArray) == ⟨⟨[]⟩⟩)) = true := by
      rw [bs_eqR, decide_eq_false]
      · rfl
      · unfold spK at hk ⊢
        split
        · decide
        · split
          · decide
          · split
            · decide
            · rename_i a b c
              rw [if_neg a, if_neg b, if_neg c] at hk
              exact absurd rfl hk
    refine (goesT_runs hT (h14_sp p (spK p)) (okCons (decide_eq_true rfl) (okCons hU (okCons hn (okCons (decide_eq_true rfl) (okL1 hU)))))).mono fun e z he => ?_
    obtain ⟨rfl, ⟨g2, z1⟩, z2⟩ := he
    refine ⟨.inr rfl, ?_⟩
    rw [z1, z2]
    rfl
theorem hx14_ok : AnsOk 16 (gU fun p => bR (hx14 p)) := gU_ok h14_calls
end Go.Proofs.YtgefjidphfdhdaaGreatDoor
