/-
  NumTy, TxL, PwD, ConVM, SlH, SlM, ConO1, NumTo, ConO2
-/
import Derived.Test.YtjlponbdflkbjaaGreatDoorG10
import Derived.Test.YtjlponbdflkbjaaGreatDoorG11
import Derived.Test.YtjlponbdflkbjaaGreatDoorG07
import Derived.Test.YtjlponbdflkbjaaGreatDoorG08
import Derived.Test.YtjlponbdflkbjaaGreatDoorG06
import Derived.Test.YtjlponbdflkbjaaGreatDoorG09
namespace Go.Nt
theorem dg_plus : ∀ (m k : Nat) (V : Int), dg (m + k) V = dg m V ++ dg k (V / 4294967296 ^ m)
  | 0, k, V => by simp [dg]
  | m + 1, k, V => by
    rw [show m + 1 + k = (m + k) + 1 by omega]
    show V % 4294967296 :: dg (m + k) (V / 4294967296) = (V % 4294967296 :: dg m (V / 4294967296)) ++ dg k (V / 4294967296 ^ (m + 1))
    rw [dg_plus m k, List.cons_append, Int.ediv_ediv_of_nonneg (by omega), pw]
theorem dg_drop (m k : Nat) (V : Int) : (dg (m + k) V).drop m = dg k (V / 4294967296 ^ m) := by
  rw [dg_plus, List.drop_left' (dg_len _ _)]
theorem dg_take (m k : Nat) (V : Int) : (dg (m + k) V).take m = dg m V := by
  rw [dg_plus, List.take_left' (dg_len _ _)]
theorem pw_nat (m : Nat) : (4294967296 : Int) ^ m = ((4294967296 ^ m : Nat) : Int) := by rw [Int.natCast_pow]; rfl
/-- a number's own digits, and how many -/
theorem dg_db (V : Nat) : dg (db 4294967296 V).length (V : Int) = db 4294967296 V := by
  have hw : wds (db 4294967296 V) := fun x hx => by
    have := db_dg (b := 4294967296) (by omega) V x hx
    exact ⟨this.1, by have := this.2; omega⟩
  have h := dg_vN (db 4294967296 V) hw
  rw [vN_vb hw, vb_db (by omega)] at h
  exact h
theorem lt_len (V : Nat) : V < 4294967296 ^ (db 4294967296 V).length := by
  have h := vb_lt (b := 4294967296) (by omega) (db 4294967296 V) (db_dg (by omega) V)
  rwa [vb_db (by omega)] at h
theorem len_iff {V k : Nat} : (db 4294967296 V).length ≤ k ↔ V < 4294967296 ^ k :=
  ⟨fun h => Nat.lt_of_lt_of_le (lt_len V) (Nat.pow_le_pow_right (by omega) h), fun h => db_len (by omega) k V h⟩
/-- the words behind a piece, where nothing is carried on, and where a word is -/
theorem pp_num {V P C : Nat} (hP : P < 1000000000) (hC : V * 1000000000 + P < 4294967296 ^ C) :
    let n := (db 4294967296 V).length
    let V' := V * 1000000000 + P
    (dg C (V : Int)).take n = db 4294967296 V ∧ n ≤ C ∧
    (((V' : Nat) : Int) / 4294967296 ^ n = 0 → dg n ((V' : Nat) : Int) ++ (dg C (V : Int)).drop n = dg C ((V' : Nat) : Int) ∧ (db 4294967296 V').length = n) ∧
    (((V' : Nat) : Int) / 4294967296 ^ n ≠ 0 → n < C ∧ dg n ((V' : Nat) : Int) ++ [((V' : Nat) : Int) / 4294967296 ^ n] ++ (dg C (V : Int)).drop (n + 1) = dg C ((V' : Nat) : Int) ∧ (db 4294967296 V').length = n + 1) := by
  intro n V'
  have hV := lt_len V
  have hVC : V < 4294967296 ^ C := Nat.lt_of_le_of_lt (by omega) hC
  have hn : n ≤ C := len_iff.2 hVC
  obtain ⟨k, hk⟩ : ∃ k, C = n + k := ⟨C - n, by omega⟩
  have hz : (V : Int) / 4294967296 ^ n = 0 := by
    rw [pw_nat]
    exact Int.ediv_eq_zero_of_lt (by omega) (by exact_mod_cast hV)
  have hq : ((V' : Nat) : Int) / 4294967296 ^ n = ((V' / 4294967296 ^ n : Nat) : Int) := by rw [pw_nat]; rfl
  have h0 : n = 0 → V = 0 := fun h => by
    rw [show (db 4294967296 V).length = 0 from h, Nat.pow_zero] at hV
    omega
  have ge : n ≤ (db 4294967296 V').length := by
    rcases Nat.lt_or_ge (db 4294967296 V').length n with h | h
    · exfalso
      have h1 : V' < 4294967296 ^ (n - 1) := len_iff.1 (by omega)
      have h2 : (db 4294967296 V).length ≤ n - 1 := len_iff.2 (by omega)
      have : n ≤ n - 1 := h2
      omega
    · exact h
  refine ⟨?_, hn, fun h => ?_, fun h => ?_⟩
  · rw [hk, dg_take]
    exact dg_db V
  · rw [hk, dg_drop, hz, dg_plus, h]
    refine ⟨rfl, ?_⟩
    rw [hq] at h
    have h1 : V' / 4294967296 ^ n = 0 := Int.ofNat.inj h
    have h2 : V' < 4294967296 ^ n := by
      rcases Nat.lt_or_ge V' (4294967296 ^ n) with h3 | h3
      · exact h3
      · have := Nat.div_pos h3 (Nat.pow_pos (by omega)); omega
    have := len_iff.2 h2
    omega
  · rw [hq] at h
    have hqp : 0 < V' / 4294967296 ^ n := Nat.pos_of_ne_zero fun h' => h (by rw [h']; rfl)
    have hge : 4294967296 ^ n ≤ V' := by
      rcases Nat.lt_or_ge V' (4294967296 ^ n) with h3 | h3
      · rw [Nat.div_eq_of_lt h3] at hqp; omega
      · exact h3
    have hlt : V' < 4294967296 ^ (n + 1) := by
      rw [Nat.pow_succ]
      have : V < 4294967296 ^ n := hV
      show V * 1000000000 + P < _
      omega
    have hnC : n < C := by
      rcases Nat.lt_or_ge n C with h3 | h3
      · exact h3
      · have : (4294967296 : Nat) ^ C ≤ 4294967296 ^ n := Nat.pow_le_pow_right (by omega) h3
        have hC' : V' < 4294967296 ^ C := hC
        omega
    obtain ⟨j, hj⟩ : ∃ j, k = j + 1 := ⟨k - 1, by omega⟩
    have hqB : V' / 4294967296 ^ n < 4294967296 := by
      rw [Nat.pow_succ] at hlt
      exact Nat.div_lt_of_lt_mul hlt
    refine ⟨hnC, ?_, ?_⟩
    · have hz1 : (V : Int) / 4294967296 ^ (n + 1) = 0 := by
        rw [pw_nat]
        have : V < 4294967296 ^ (n + 1) := Nat.lt_of_lt_of_le hV (Nat.pow_le_pow_right (by omega) (by omega))
        exact Int.ediv_eq_zero_of_lt (by omega) (by exact_mod_cast this)
      have hz2 : ((V' : Nat) : Int) / 4294967296 ^ (n + 1) = 0 := by
        rw [pw_nat]
        exact Int.ediv_eq_zero_of_lt (by omega) (by exact_mod_cast hlt)
      rw [hk, hj, show n + (j + 1) = (n + 1) + j by omega, dg_drop, hz1, dg_plus (n + 1) j, hz2, dg_plus n 1, hq]
      show dg n _ ++ [_] ++ dg j 0 = dg n _ ++ [((V' / 4294967296 ^ n : Nat) : Int) % 4294967296] ++ dg j 0
      rw [Int.emod_eq_of_lt (by omega) (by omega)]
    · have h1 := len_iff.2 hlt
      rcases Nat.lt_or_ge n (db 4294967296 V').length with h3 | h3
      · omega
      · have := len_iff.1 h3
        omega
theorem rdV10_congr {f g : Nat → Int} : ∀ k, (∀ j, j < k → f j = g j) → rdV10 f k = rdV10 g k
  | 0, _ => rfl
  | k + 1, h => by
    simp only [rdV10]
    rw [rdV10_congr k (fun j hj => h j (by omega)), h k (by omega)]
theorem ten_cap {m C : Nat} (h : m ≤ 9 * C) : (10 : Nat) ^ m ≤ 4294967296 ^ C := by
  have h1 : (10 : Nat) ^ m ≤ 10 ^ (9 * C) := Nat.pow_le_pow_right (by omega) h
  have h2 : (10 : Nat) ^ (9 * C) ≤ 4294967296 ^ C := by
    rw [Nat.pow_mul]
    exact Nat.pow_le_pow_left (by decide) C
  omega
end Go.Nt
namespace Go.Proofs.YtjlponbdflkbjaaGreatDoor.Na
open Go.KRun Go.Nt
set_option maxRecDepth 100000
def psN (s : ByteArray) : Nat := s.size / 9 + 1
def psV (s : ByteArray) : Nat := rdV10 (dgF s) s.size
theorem capP_eq {s : ByteArray} (h : s.size ≤ 20000) : capP s = (psN s : Nat) := by
  have e1 : IntKind.i64.wrap ((s.size : Int) / 9) = (s.size : Int) / 9 := wrapI (by omega) (by omega)
  unfold capP psN
  rw [Int.tdiv_eq_ediv_of_nonneg (by omega), e1, wrapI (by omega) (by omega)]
  omega
theorem enP_eq {l : List UInt8} (h0 : 0 < l.length) (h : l.length ≤ 20000) : enP l = (((l.length - 1) % 9 + 1 : Nat) : Int) := by
  have e1 : IntKind.i64.wrap ((l.length : Int) - 1) = (l.length : Int) - 1 := wrapI (by omega) (by omega)
  unfold enP
  rw [e1, Int.tmod_eq_emod_of_nonneg (by omega), wrapI (by omega) (by omega)]
  omega
theorem okApp {a b : Log} (h1 : okLog a) (h2 : okLog b) : okLog (a ++ b) := fun x hx => (List.mem_append.1 hx).elim (h1 x) (h2 x)
/-- the letters m to m + e -/
def pieceB (s : ByteArray) (m e : Nat) : ByteArray := ⟨⟨(s.data.toList.drop m).take e⟩⟩
theorem piece_size {s : ByteArray} {m e : Nat} (h : m + e ≤ s.size) : (pieceB s m e).size = e := by
  show ((s.data.toList.drop m).take e).length = e
  have : s.data.toList.length = s.size := rfl
  rw [List.length_take, List.length_drop]
  omega
theorem piece_at {s : ByteArray} {m e j : Nat} (hj : j < e) : byT (pieceB s m e) j = byT s (m + j) := by
  unfold byT pieceB
  have : ((s.data.toList.drop m).take e).getD j 0 = s.data.toList.getD (m + j) 0 := by
    simp only [List.getD, List.getElem?_take, List.getElem?_drop, if_pos hj]
  show ((((s.data.toList.drop m).take e).getD j 0).toNat : Int) = _
  rw [this]
def pInv9 (s : ByteArray) (r : Nat) (y : Lf) : Prop := ∃ (m : Nat) (v : Value) (g : Nat → Value), y.1 = qF9 (bS (s.data.toList.drop m)) (sl 0 0 (db 4294967296 (rdV10 (dgF s) m)).length (psN s)) v ++ tl 34 g ∧ y.2.1 = hW1 (wU (dg (psN s) ((rdV10 (dgF s) m : Nat) : Int))) ∧ m ≤ s.size ∧ (m = 0 ∨ (s.size - m) % 9 = 0) ∧ r = s.size - m
def pOut (s : ByteArray) (y : Lf) : Prop := ∃ (v : Value) (g : Nat → Value), y.1 = qF9 (bS []) (sl 0 0 (db 4294967296 (psV s)).length (psN s)) v ++ tl 34 g ∧ y.2.1 = hW1 (wU (dg (psN s) ((psV s : Nat) : Int)))
theorem p_round {s : ByteArray} (hs : allD s) (h2 : s.size ≤ 20000) (r : Nat) (y : Lf) (h : pInv9 s r y) :
    Runs (tabH Tryz.prog extY conPr hcPr) (qL9 Tryz.f75) y fun e z => match e with | none => ∃ r', r' < r ∧ pInv9 s r' z | some none => False | some (some id') => id' = 0 ∧ pOut s z := by
  obtain ⟨m, v, g, ht, hh, hm, hm9, hr⟩ := h
  obtain ⟨t, h', sc⟩ := y
  simp only at ht hh
  subst ht hh
  have hsz : s.data.toList.length = s.size := rfl
  by_cases hc : m < s.size
  · obtain ⟨l, hl⟩ : ∃ l, l = s.data.toList.drop m := ⟨_, rfl⟩
    have ll : l.length = s.size - m := by rw [hl, List.length_drop, hsz]
    have eE := enP_eq (l := l) (by omega) (by omega)
    obtain ⟨e, he⟩ : ∃ e : Nat, e = (l.length - 1) % 9 + 1 := ⟨_, rfl⟩
    rw [← he] at eE
    have e1 : m + e ≤ s.size := by omega
    have e9 : e ≤ 9 := by omega
    have hps := piece_size e1
    have eT : (enP l).toNat = e := by rw [eE, Int.toNat_natCast]
    have hdig : ∀ j, j < e → dgF (pieceB s m e) j = dgF s (m + j) := fun j hj => by unfold dgF; rw [piece_at hj]
    have hall : allD (pieceB s m e) := fun j hj => by
      rw [hps] at hj
      rw [piece_at hj]
      exact hs (m + j) (by omega)
    have eP : rdV10 (dgF (pieceB s m e)) (pieceB s m e).size = rdV10 (fun j => dgF s (m + j)) e := by
      rw [hps]
      exact rdV10_congr e hdig
    obtain ⟨V, hV⟩ : ∃ V, V = rdV10 (dgF s) m := ⟨_, rfl⟩
    obtain ⟨P, hP⟩ : ∃ P, P = rdV10 (fun j => dgF s (m + j)) e := ⟨_, rfl⟩
    have hadd := rdV10_add (f := dgF s) m e
    rw [← hV, ← hP] at hadd
    have hPlt : P < 10 ^ e := by
      rw [hP]
      exact rdV10_lt e fun j hj => (dgF_bd hs (show m + j < s.size by omega)).2
    have hP9 : P < 1000000000 := Nat.lt_of_lt_of_le hPlt (pw10 e9)
    have hVe : V * 10 ^ e = V * 1000000000 := by
      rcases hm9 with h0 | h9
      · have : V = 0 := by rw [hV, h0]; rfl
        rw [this, Nat.zero_mul, Nat.zero_mul]
      · have : e = 9 := by omega
        rw [this]
    rw [hVe] at hadd
    have hVlt : V * 1000000000 + P < 4294967296 ^ psN s := by
      rw [← hadd]
      have h3 := rdV10_lt (f := dgF s) (m + e) fun j hj => (dgF_bd hs (show j < s.size by omega)).2
      exact Nat.lt_of_lt_of_le h3 (ten_cap (by unfold psN; omega))
    obtain ⟨n1, n2, n3, n4⟩ := pp_num hP9 hVlt
    have hC : psN s < 10000 := by unfold psN; omega
    have hsm : smallC (psN s) = true := blt_iff.2 (by unfold dead; omega)
    have ec : cutI (wU (dg (psN s) (V : Int))) 0 (db 4294967296 V).length = db 4294967296 V := by rw [cutI_wT, n1]
    have eV : vN (db 4294967296 V) = (V : Int) := by rw [vN_vb (wds_db V), vb_db (by omega)]
    have hpT : ppT (cutI (wU (dg (psN s) (V : Int))) 0 (db 4294967296 V).length) (pieceB s m e) = ((V * 1000000000 + P : Nat) : Int) := by
      unfold ppT
      rw [ec, eV, eP, ← hP]
      omega
    have hpQ : ppQ (wU (dg (psN s) (V : Int))) (db 4294967296 V).length (pieceB s m e) = ((V * 1000000000 + P : Nat) : Int) / 4294967296 ^ (db 4294967296 V).length := by
      unfold ppQ
      rw [hpT]
    have hlog : okLog (ppLg (wU (dg (psN s) (V : Int))) tU (db 4294967296 V).length (psN s) (pieceB s m e)) := by
      refine okCons (Nat.beq_refl _) (okCons ?_ (okCons (decide_eq_true ((ix_digits _).2 hall)) (okL1 ?_)))
      · exact wU_rowAt (dg_wds _ _) (by rw [dg_len]; omega) n2 hsm
      · rw [hps, Nat.ble_eq_true_of_le e9, blt_iff.2 (by omega)]
        rfl
    have l1 : decide (0 ≤ enP l ∧ enP l ≤ (l.length : Nat)) = true := decide_eq_true ⟨by rw [eE]; omega, by rw [eE]; omega⟩
    have l2 : (!(eqN ⟨⟨l⟩⟩)) = true := by
      unfold eqN
      rw [bs_eq, decide_eq_false (by intro hn; rw [hn] at ll; simp at ll; omega)]
      rfl
    have hdr : l.drop e = s.data.toList.drop (m + e) := by rw [hl, List.drop_drop]
    have htk : (⟨⟨l.take e⟩⟩ : ByteArray) = pieceB s m e := by rw [hl]; rfl
    have hstep : ∀ z : Lf, (∃ g, z.1 = qF9 (bS (l.drop (enP l).toNat)) (sl 0 0 (db 4294967296 (V * 1000000000 + P)).length (psN s)) (.int .i64 (enP l)) ++ tl 34 g) → z.2.1 = hW1 (wU (dg (psN s) ((V * 1000000000 + P : Nat) : Int))) → ∃ r', r' < r ∧ pInv9 s r' z := fun z hz1 hz2 => by
      obtain ⟨g', hz1⟩ := hz1
      refine ⟨s.size - (m + e), by omega, m + e, .int .i64 (enP l), g', ?_, ?_, e1, .inr (by omega), rfl⟩
      · rw [hz1, eT, hdr, hadd]
      · rw [hz2, hadd]
    rw [← hV]
    rw [← hl]
    have hG := fun d => pr_go l d (db 4294967296 V).length (psN s) v (wU (dg (psN s) (V : Int))) g
    rw [eT, htk] at hG
    by_cases hq : ((V * 1000000000 + P : Nat) : Int) / 4294967296 ^ (db 4294967296 V).length = 0
    · obtain ⟨q1, q2⟩ := n3 hq
      have hG := hG false
      simp only [hpT] at hG
      have eM : wU (dg (db 4294967296 V).length ((V * 1000000000 + P : Nat) : Int)) ++ (wU (dg (psN s) (V : Int))).drop (db 4294967296 V).length = wU (dg (psN s) ((V * 1000000000 + P : Nat) : Int)) := by
        rw [← q1]
        unfold wU
        rw [List.map_append, List.map_drop]
      rw [eM] at hG
      refine (goesT_runs tabPr hG (okApp (okCons l1 (okCons (decide_eq_true (hpQ.trans hq)) hlog)) (okCons l1 (okL1 l2)))).mono fun e z he => ?_
      obtain ⟨rfl, hz1, hz2⟩ := he
      refine hstep z ?_ hz2
      rw [q2, eT]
      exact hz1
    · obtain ⟨q0, q1, q2⟩ := n4 hq
      have hG := hG true
      simp only [hpT, hpQ] at hG
      have eM : wU (dg (db 4294967296 V).length ((V * 1000000000 + P : Nat) : Int)) ++ [uu (((V * 1000000000 + P : Nat) : Int) / 4294967296 ^ (db 4294967296 V).length)] ++ (wU (dg (psN s) (V : Int))).drop ((db 4294967296 V).length + 1) = wU (dg (psN s) ((V * 1000000000 + P : Nat) : Int)) := by
        rw [← q1]
        unfold wU
        rw [List.map_append, List.map_append, List.map_drop]
        rfl
      rw [eM] at hG
      have l3 : (Nat.blt (db 4294967296 V).length (psN s) && Nat.blt (db 4294967296 V).length (wU (dg (psN s) (V : Int))).length) = true := by
        rw [blt_iff.2 q0, blt_iff.2 (by unfold wU; rw [List.length_map, dg_len]; exact q0)]
        rfl
      refine (goesT_runs tabPr hG (okApp (okCons l1 (okCons (decide_eq_true hq) (okCons l3 hlog))) (okCons l1 (okL1 l2)))).mono fun e z he => ?_
      obtain ⟨rfl, hz1, hz2⟩ := he
      refine hstep z ?_ hz2
      rw [q2, eT]
      exact hz1
  · have hms : m = s.size := by omega
    have hd : s.data.toList.drop m = [] := List.drop_eq_nil_of_le (by rw [hsz]; omega)
    rw [hd]
    refine (goesT_runs tabPr (pr_out _ v _ g) (okL1 rfl)).mono fun e z he => ?_
    obtain ⟨rfl, ⟨g', hz1⟩, hz2⟩ := he
    rw [hms] at hz1 hz2
    exact ⟨rfl, v, g', hz1, hz2⟩
theorem parse_runs {s : ByteArray} (h0 : 0 < s.size) (hs : allD s) (h2 : s.size ≤ 20000) :
    Runs (tabH Tryz.prog extY conPr hcPr) (seqs (qP9 Tryz.f75) (.seq (.block 0 (.loop (qL9 Tryz.f75))) (qE9 Tryz.f75))) ([.string s] ++ List.replicate 40 undef, ⟨0, []⟩, []) fun e z => (e = none ∨ e = some none) ∧ resS Tryz.prog Tryz.f75 z.1 z.2.1 = some (.tuple #[sl 0 0 (db 4294967296 (psV s)).length (psN s), .nilIface]) ∧ ∃ r, z.2.1.blk? 0 = some (wU (dg (psN s) ((psV s : Nat) : Int)) ++ r, tU) := by
  have hcp := capP_eq h2
  have hC : psN s < 10000 := by unfold psN; omega
  have eN : (capP s).toNat = psN s := by rw [hcp, Int.toNat_natCast]
  have hix : decide (ixV s ≥ 0) = false := decide_eq_false ((ix_digits s).2 hs)
  have hne : eqN s = false := by
    show ((⟨⟨s.data.toList⟩⟩ : ByteArray) == ⟨⟨[]⟩⟩) = false
    rw [bs_eq]
    refine decide_eq_false fun h => ?_
    have : s.size = 0 := by show s.data.toList.length = 0; rw [h]; rfl
    omega
  have hpre := pr_pre s
  rw [eN] at hpre
  have lm : okMakeB 4 0 (capP s) = true := by rw [hcp]; unfold okMakeB; exact decide_eq_true ⟨by omega, by omega, by omega, by omega⟩
  refine goesT_list tabPr hpre (okCons lm (okCons (decide_eq_false (by omega)) (okCons hix (okCons rfl (okL1 hne))))) fun g => ?_
  have z0 : ∀ n, wU (dg n 0) = List.replicate n (.int .u32 0) := by
    intro n
    induction n with
    | zero => rfl
    | succ n ih =>
      rw [List.replicate_succ, ← ih]
      rfl
  refine Runs.seq (P1 := fun e y => e = none ∧ pOut s y) ?_ ?_ (fun e y he => by cases he.1)
  · refine (Runs.forLoop (R := fun _ => False) (P := pOut s) (pInv9 s) (p_round hs h2) (n := s.size) ⟨0, undef, g, ?_, ?_, by omega, .inl rfl, rfl⟩).mono fun e z hz => ?_
    · rw [show rdV10 (dgF s) 0 = 0 from rfl, db_zero]
      rfl
    · show hW1 _ = _
      rw [show rdV10 (dgF s) 0 = 0 from rfl, show (((0 : Nat) : Nat) : Int) = 0 from rfl, z0]
    · match e, hz with
      | none, hz => exact ⟨rfl, hz⟩
  · rintro ⟨t, hh, sc⟩ ⟨_, v, g', e1, e2⟩
    simp only at e1 e2
    subst e1 e2
    have hlt : psV s < 4294967296 ^ psN s := Nat.lt_of_lt_of_le (rdV10_lt (f := dgF s) s.size fun j hj => (dgF_bd hs hj).2) (ten_cap (by unfold psN; omega))
    have hle := len_iff.2 hlt
    obtain ⟨k, hk⟩ : ∃ k, psN s = (db 4294967296 (psV s)).length + k := ⟨psN s - (db 4294967296 (psV s)).length, by omega⟩
    have ec : cutI (wU (dg (psN s) ((psV s : Nat) : Int))) 0 (db 4294967296 (psV s)).length = db 4294967296 (psV s) := by
      rw [cutI_wT, hk, dg_take]
      exact dg_db _
    have etr : trimN (cutI (wU (dg (psN s) ((psV s : Nat) : Int))) 0 (db 4294967296 (psV s)).length) = (db 4294967296 (psV s)).length := by
      rw [ec]
      exact (can_db (by omega) _).2
    have hsm : smallC (psN s) = true := blt_iff.2 (by unfold dead; omega)
    refine (goesT_runs tabPr (pr_end _ v _ _ _ g') (okL1 (wU_rowAt (dg_wds _ _) (by rw [dg_len]; omega) hle hsm))).mono fun e z he => ?_
    obtain ⟨rfl, ⟨g2, z1⟩, z2⟩ := he
    rw [etr] at z1
    refine ⟨.inr rfl, by rw [z1, z2]; rfl, [], by rw [z2, List.append_nil]; rfl⟩
/-- whether a text is digits -/
def okP (s : ByteArray) : Bool := decide (0 < s.size) && decide (¬ ixV s ≥ 0)
theorem okP_iff (s : ByteArray) : okP s = true ↔ 0 < s.size ∧ allD s := by
  unfold okP
  rw [Bool.and_eq_true, decide_eq_true_eq, decide_eq_true_eq, ix_digits]
def gPs : AnsH := fun vals h s =>
  match vals, s with
  | [.string b], .inr (.inr (.inr (.inl false))) :: s' => some (.tuple #[nilS, errV 3], h, s', [(okP b, false)])
  | [.string b], .inr (.inr (.inr (.inl true))) :: .inr (.inl V) :: s' => some (.tuple #[sl h.n 0 (db 4294967296 V.toNat).length (psN b), .nilIface], h.push (wU (dg (psN b) (V.toNat : Nat))) tU, s', [(decide (psV b = V.toNat), true), (okP b, true), (Nat.ble b.size 20000, true)])
  | _, _ => none
theorem rows0 : (⟨0, []⟩ : Hp).rows := ⟨rfl, fun b x hx => by have : b < 0 := Hp.blk_lt hx; omega⟩
theorem gPs_ok : AnsHOk 75 gPs := by
  intro vals h s v h' s' lg hg hl m B w E hv
  unfold gPs at hg
  split at hg
  · rename_i b s2
    cases hg
    have l1 := hl _ (List.mem_singleton.2 rfl)
    have hw : ∀ w, Calls Tryz.prog 75 #[.string b] w fun r w' => r = .returned (.tuple #[nilS, errV 3]) ∧ Tidy w w' := fun w => by
      by_cases h0 : b.data.toList = []
      · refine fits_calls tabPr (pr_e b) (okL1 ?_) (by rfl) (by rfl) w
        show ((⟨⟨b.data.toList⟩⟩ : ByteArray) == ⟨⟨[]⟩⟩) = true
        rw [bs_eq]
        exact decide_eq_true h0
      · have hne : eqN b = false := by
          show ((⟨⟨b.data.toList⟩⟩ : ByteArray) == ⟨⟨[]⟩⟩) = false
          rw [bs_eq]
          exact decide_eq_false h0
        have hsz : 0 < b.size := List.length_pos_iff.2 h0
        have hix : ixV b ≥ 0 := by
          rcases Classical.em (ixV b ≥ 0) with h1 | h1
          · exact h1
          · exfalso
            have : okP b = true := (okP_iff b).2 ⟨hsz, (ix_digits b).1 h1⟩
            rw [this] at l1
            cases l1
        exact fits_calls tabPr (pr_o b) (okCons (decide_eq_true hix) (okCons rfl (okL1 hne))) (by rfl) (by rfl) w
    refine (hw w).mono fun r w' hr => ?_
    obtain ⟨rfl, hc⟩ := hr
    obtain ⟨E', hb⟩ := clean_emb E hc
    exact ⟨m, by rw [mv_still (by rfl)], Agree.refl _ _, E', hb, Nat.le_refl _, by rfl⟩
  · rename_i b V s2
    cases hg
    obtain ⟨l1, q⟩ := logB hl
    obtain ⟨l2, q⟩ := logB q
    obtain ⟨l3, _⟩ := logB q
    have l1 := of_decide_eq_true l1
    obtain ⟨h0, hd⟩ := (okP_iff b).1 l2
    have h2 := Nat.le_of_ble_eq_true l3
    rw [← l1]
    have e : rn (fun _ => h.n) (Value.tuple #[sl 0 0 (db 4294967296 (psV b)).length (psN b), .nilIface]) = .tuple #[sl h.n 0 (db 4294967296 (psV b)).length (psN b), .nilIface] := by kernel_rfl
    have := row_calls1 (T := tabH Tryz.prog extY conPr hcPr) Tryz.func75 pr_body (h0 := ⟨0, []⟩) rows0 (vals := [.string b]) (fun v hv => by rw [List.mem_singleton.1 hv]; rfl) (k := 0) (cs := wU (dg (psN b) ((psV b : Nat) : Int))) (ty := tU) (wU_lt _) (by kernel_rfl) (parse_runs h0 hd h2).w (by rfl) E (s := fun i => i) (fun i x hx => by have : i < 0 := Hp.blk_lt hx; omega)
    rw [e] at this
    exact this
  · cases hg
end Go.Proofs.YtjlponbdflkbjaaGreatDoor.Na
namespace Go.Proofs.YtjlponbdflkbjaaGreatDoor.Na
open Go.KRun Go.Nt
set_option maxRecDepth 100000
set_option linter.unusedVariables false
theorem lns_0 (u : Int) : Fits (reckon (tabOf Tryz.prog extY conN true) 3000 114 [.int .u64 u] [tst false, tst false, tst false, tst false]) (lenE 0 u) [lt8 u, geq u 256 false, geq u 65536 false, geq u 4294967296 false, nz] := ⟨by kernel_rfl, by kernel_rfl, by kernel_rfl, by kernel_rfl⟩
theorem lns_1 (u : Int) : Fits (reckon (tabOf Tryz.prog extY conN true) 3000 114 [.int .u64 u] [tst false, tst false, tst false, tst true]) (lenE 8 (shd u 8)) [lt8 (shd u 8), nz, geq u 256 true, geq u 65536 false, geq u 4294967296 false, nz] := ⟨by kernel_rfl, by kernel_rfl, by kernel_rfl, by kernel_rfl⟩
theorem lns_calls (u : Int) (h0 : 0 ≤ u) (h1 : u < 65536) (w : World) : Calls Tryz.prog 114 #[.int .u64 u] w fun e w' => e = .returned (.int .i64 (bitLen u.toNat : Nat)) ∧ Tidy w w' := by
  obtain ⟨U, rfl⟩ := Int.eq_ofNat_of_zero_le h0
  rw [Int.toNat_natCast]
  have p8 : (2 : Nat) ^ 8 = 256 := rfl
  have step : ∀ {v : Value} {s : List Dec} {cs : Log}, Fits (reckon (tabOf Tryz.prog extY conN true) 3000 114 [.int .u64 (U : Int)] s) v cs → okLog cs → v = .int .i64 (bitLen U : Nat) → Calls Tryz.prog 114 #[.int .u64 (U : Int)] w fun e w' => e = .returned (.int .i64 (bitLen U : Nat)) ∧ Tidy w w' :=
    fun {v s cs} hf hc hv => by subst hv; exact fits_calls (tabY_ok conN_ok) hf hc (by rfl) (by rfl) w
  by_cases c : U < 256
  · obtain ⟨e1, e2⟩ := lenE_eq (m := 0) (by omega) (by omega) c
    exact step (lns_0 U) (okTwo e2 (okTwo (geq_f (by omega)) (okTwo (geq_f (by omega)) (okTwo (geq_f (by omega)) (okOne nz_ok))))) (by rw [e1]; congr 1; omega)
  · have l := len_up U 8 (by omega)
    obtain ⟨e1, e2⟩ := lenE_eq (m := 8) (Z := U / 2 ^ 8) (by omega) (by omega) (by omega)
    rw [← shd_eq] at e1 e2
    exact step (lns_1 U) (okTwo e2 (okTwo nz_ok (okTwo (geq_t (by omega)) (okTwo (geq_f (by omega)) (okTwo (geq_f (by omega)) (okOne nz_ok)))))) (by rw [e1]; congr 1; omega)
def gLenS : Ans := fun vals s =>
  match vals with
  | [.int .u64 x] => some (.int .i64 (bitLen x.toNat : Nat), s, [(decide (0 ≤ x ∧ x < 65536), true)])
  | _ => none
theorem gLenS_ok : AnsOk 114 gLenS := by
  intro vals s v s' lg h hl w
  unfold gLenS at h
  split at h
  · cases h
    have hr := hl _ (List.mem_singleton.2 rfl)
    simp only [decide_eq_true_eq] at hr
    exact lns_calls _ hr.1 hr.2 w
  · cases h
def conPw : Con := alt 114 gLenS conN
theorem conPw_ok : ConOk conPw := alt_ok Tryz.func114 rfl gLenS_ok conN_ok
/-! ### nat.Of -/
def hcOf : Hc := altH 112 gTrim hcN
theorem hcOf_ok : HcOk hcOf := altH_ok Tryz.func112 rfl gTrim_ok hcN_ok
theorem of_body : Tryz.f113.body = some (cBody Tryz.f113) := by kernel_rfl
end Go.Proofs.YtjlponbdflkbjaaGreatDoor.Na
namespace Go.Proofs.YtjlponbdflkbjaaGreatDoor
open Go.KRun Go.Nt
set_option maxRecDepth 100000
set_option linter.unusedVariables false
/-! ### rows of numbers -/
/-- what is known of the two rows -/
structure Two (la lb : List Value) (o o' c' : Nat) (A L : List Int) : Prop where
  ra : Row la o A
  rb : Row lb o' L
  dA : ∀ x ∈ A, Dg 65536 x
  cL : Canon 65536 L
  n1 : 1 ≤ L.length
  n2 : L.length < 1000000
  a1 : 1 ≤ A.length
  a2 : A.length < 1000000
  cb : rowC tR lb o' L.length c' = true
  sb : ∀ v ∈ lb, still v = true
  sa : ∀ v ∈ la, still v = true
  eb : cutI lb o' L.length = L
end Go.Proofs.YtjlponbdflkbjaaGreatDoor
namespace Go.Proofs.YtjlponbdflkbjaaGreatDoor.Na
open Go.KRun Go.Nt
set_option maxRecDepth 100000
set_option linter.unusedVariables false
/-! ### rows of the document's digits, rows of words -/
def Is32 (H : Hp) (p : Option Addr) (n c V : Nat) : Prop := rowP H p n c = true ∧ rowOf H p n = d32 V
theorem d32_wds (V : Nat) : wds (d32 V) := db_dg (by omega) V
theorem cut_take {L : List Int} (n : Nat) : cutI (wU L) 0 n = L.take n := by
  unfold cutI cutV wU
  rw [List.drop_zero, ← List.map_take, List.map_map]
  exact (List.map_congr_left fun z _ => rfl).trans (List.map_id' _)
theorem is32d {H : Hp} {b V m : Nat} (hb : H.blk? b = some (wU (dg m (V : Int)), tU)) (hV : V < 4294967296 ^ m) (hm : m ≤ 1000) : Is32 H (some ⟨b, 0, none⟩) (trimN (dg m (V : Int))) m V := by
  have hw := dg_wds m (V : Int)
  have hl := dg_len m (V : Int)
  have ht := trimN_le (dg m (V : Int))
  refine ⟨?_, ?_⟩
  · unfold rowP
    simp only [hb]
    unfold rowC
    have e1 : tomb tU = false := by kernel_rfl
    have e2 : Nat.beq (rt tU) tU = true := by kernel_rfl
    have e3 : Nat.ble (0 + trimN (dg m (V : Int))) (wU (dg m (V : Int))).length = true := Nat.ble_eq_true_of_le (by rw [wU_len]; omega)
    have e4 : Nat.blt (trimN (dg m (V : Int))) 4611686018427387904 = true := blt_iff.2 (by omega)
    have e5 : ((cutV (wU (dg m (V : Int))) 0 (trimN (dg m (V : Int)))).all isU) = true := by
      unfold cutV
      rw [List.drop_zero]
      refine List.all_eq_true.2 fun v hv => ?_
      have hv := List.mem_of_mem_take hv
      unfold wU at hv
      obtain ⟨x, hx, rfl⟩ := List.mem_map.1 hv
      exact decide_eq_true (hw x hx)
    have e6 : capOk 0 (trimN (dg m (V : Int))) m = true := by
      unfold capOk
      rw [show smallC m = true from blt_iff.2 (by have : dead = 4611686018427387904 := rfl; omega), Nat.ble_eq_true_of_le (by omega)]
      rfl
    rw [e1, e2, e3, e4, e5, e6, List.all_eq_true.2 (wU_still _)]
    rfl
  · unfold rowOf
    simp only [hb]
    rw [cut_take]
    refine take_dg ?_
    have : ((4294967296 ^ m : Nat) : Int) = 4294967296 ^ m := by rw [Int.natCast_pow]; rfl
    rw [← this]
    omega
def gPdN : AnsH := fun vals h s =>
  match vals, s with
  | [.slice p n c, .slice q n' c'], .inr (.inr (.inr (.inl true))) :: s' => some (.tuple #[nilS, .nilIface], h, s', [(decide (n = 0 ∨ n' = 0), true)])
  | [.slice p n c, .slice q n' c'], .inr (.inr (.inr (.inl false))) :: .inr (.inl V) :: s' => some (.tuple #[sl h.n 0 (trimN (dg (n + n') V)) (n + n'), .nilIface], h.push (wU (dg (n + n') V)) tU, s', [(decide (mulR (rowOf h p n) (rowOf h q n') = dg (n + n') V), true), (rowX h p n c, true), (rowX h q n' c', true), (!decide (n = 0 ∨ n' = 0) && Nat.ble (n + n') 8192, true)])
  | _, _ => none
theorem gPdN_ok : AnsHOk 115 gPdN := by
  intro vals h s v h' s' lg hg hl
  unfold gPdN at hg
  split at hg
  · cases hg
    exact gPdU_ok _ h [cmp true] _ _ [] _ rfl hl
  · rename_i p n c q n' c' V s3
    cases hg
    obtain ⟨l1, l2⟩ := log_tl hl
    have l1 := of_decide_eq_true l1
    refine gPdU_ok _ h [cmp false] _ _ [] _ ?_ l2
    simp only [gPdU, l1]
  · cases hg
theorem mul_lt {x y m k : Nat} (hx : x < 4294967296 ^ m) (hy : y < 4294967296 ^ k) : x * y < 4294967296 ^ (m + k) := by
  rw [Nat.pow_add]
  exact Nat.mul_lt_mul'' hx hy
def h5 (la lb R Y Q : List Value) : Hp := ⟨5, [(Q, tU), (Y, tU), (R, tU), (lb, tR), (la, tR)]⟩
def toT (k x d : Int) : Int := IntKind.u64.wrap (k + IntKind.u64.wrap (IntKind.u64.wrap x * IntKind.u64.wrap d))
def toW (k x d : Int) : Int := IntKind.u32.wrap (toT k x d)
def toC (k x d : Int) : Int := (toT k x d).fdiv (2 ^ min (Int.toNat 32) 64)
def toP (F : Func) : List Code := [cFst (sn 0 F), cFst (sn 1 F), cFst (sn 2 F), cFst (sn 3 F), cFst (sn 4 F)]
def toB (F : Func) : Code := cFst (sn 5 F)
def toL (F : Func) : Code := cIn (cIn (cSnd (toB F)))
def toF (o m c n k : Nat) (d cy b : Int) (v11 v12 : Value) : List Value := [sl 2 o m c, sl 3 0 n k, uu d, undef, undef, undef, .bool false, i6' n, sl 2 o n c, .int .u64 cy, uu b, v11, v12]
theorem to_body : Tryz.f136.body = some (seqs (toP Tryz.f136) (.seq (.seq (cFst (toB Tryz.f136)) (.block 0 (.loop (toL Tryz.f136)))) (sn 6 Tryz.f136))) := by kernel_rfl
theorem to_pre (o m c n k : Nat) (d : Int) (la lb R Y Q : List Value) : GoesT (evL (tabOf Tryz.prog extY conB true) 100 (toP Tryz.f136) ([sl 2 o m c, sl 3 0 n k, uu d] ++ List.replicate 62 undef, h5 la lb R Y Q, [num 0]) ⟨[], [], []⟩) 13 52 none (toF o m c n k d 0 0 undef undef) (h5 la lb R Y Q) [(smallC c, true), (okPart 0 n c c, true), (decide ((c : Int) = 0 ∧ (0 : Int) ≠ 0), false)] := ⟨by kernel_rfl, by kernel_rfl, by kernel_rfl⟩
theorem to_r (o m c n k : Nat) (d cy b : Int) (v11 v12 : Value) (h : Hp) (g : Nat → Value) : GoesM (evC (tabOf Tryz.prog extY conB true) 100 false (cFst (toB Tryz.f136)) (toF o m c n k d cy b v11 v12 ++ tl 52 g, h, []) ⟨[], [], []⟩) 13 5 3 44 none (toF o m c n k d cy b v11 v12) [sl 3 0 n k, i6' n, i6' 0] h [] := ⟨by kernel_rfl, by kernel_rfl, by kernel_rfl⟩
theorem to_out (o m c n k : Nat) (d cy b j : Int) (v11 v12 : Value) (h : Hp) (g g' : Nat → Value) : GoesM (evC (tabOf Tryz.prog extY conB true) 100 false (toL Tryz.f136) (ml (toF o m c n k d cy b v11 v12) 5 g [sl 3 0 n k, i6' n, i6' j] 44 g', h, [cmp false]) ⟨[], [], []⟩) 13 5 3 44 (some (some 0)) (toF o m c n k d cy b v11 v12) [sl 3 0 n k, i6' n, i6' j] h [(decide (j < n), false)] := ⟨by kernel_rfl, by kernel_rfl, by kernel_rfl⟩
theorem to_go (o m c n k : Nat) (d cy b j x y : Int) (v11 v12 : Value) (la lb R Y Q : List Value) (g g' : Nat → Value) : GoesM (evC (tabOf Tryz.prog extY conB true) 100 false (toL Tryz.f136) (ml (toF o m c n k d cy b v11 v12) 5 g [sl 3 0 n k, i6' n, i6' j] 44 g', h5 la lb R Y Q, [cmp true, at_, val (uu x), at_, val (uu y), at_, at_]) ⟨[], [], []⟩) 13 5 3 44 none (toF o m c n k d (toC cy x d) (subB y (toW cy x d) b) (i6' j) (uu x)) [sl 3 0 n k, i6' n, i6' (IntKind.i64.wrap (j + 1))] (h5 la lb (R.set (o + j.toNat * 1) (uu (subD y (toW cy x d) b))) Y Q)
    [(decide ((32 : Int) < 0), false), (decide (o + j.toNat * 1 < R.length), true), inR j n, (wd4 y (toW cy x d) b, true), celR R o j y, inR j n, celR Y 0 j x, inR j n, (decide (j < n), true)] := ⟨by kernel_rfl, by kernel_rfl, by kernel_rfl⟩
theorem to_end (e : Bool) (o m c n k : Nat) (d cy b y : Int) (v11 v12 u1 u2 u3 : Value) (la lb R Y Q : List Value) (g g' : Nat → Value) : GoesT (evC (tabOf Tryz.prog extY conB true) 100 false (sn 6 Tryz.f136) (ml (toF o m c n k d cy b v11 v12) 5 g [u1, u2, u3] 44 g', h5 la lb R Y Q, [at_, val (uu y), at_, at_, cmp e]) ⟨[], [], []⟩) 7 58 (some none) [sl 2 o m c, sl 3 0 n k, uu d, undef, undef, undef, .bool e] (h5 la lb (R.set (o + ((n : Int)).toNat * 1) (uu (subD y (IntKind.u32.wrap cy) b))) Y Q)
    [(subB y (IntKind.u32.wrap cy) b != 0, e), (decide (o + ((n : Int)).toNat * 1 < R.length), true), inR n m, (wd4 y (IntKind.u32.wrap cy) b, true), celR R o n y, inR n m] := by
  cases e <;> exact ⟨by kernel_rfl, by kernel_rfl, by kernel_rfl⟩
end Go.Proofs.YtjlponbdflkbjaaGreatDoor.Na
namespace Go.Nt
theorem to_step {P a b x y k br d e l A B D W : Int} (hk : k + x * d = W + 4294967296 * e) (hs : y - W - br = D - 4294967296 * l) (h : a + P * ((y + 4294967296 * A) - d * (x + 4294967296 * B) - k - br) = b) : a + P * D + 4294967296 * P * (A - d * B - e - l) = b := by
  rw [← h]
  have e1 : (y + 4294967296 * A) - d * (x + 4294967296 * B) - k - br = D + 4294967296 * (A - d * B - e - l) := by
    rw [Int.mul_add d x, ← Int.mul_assoc d 4294967296 B, Int.mul_comm d 4294967296, Int.mul_assoc 4294967296 d B, Int.mul_comm d x]
    omega
  rw [e1]
  generalize A - d * B - e - l = Z
  rw [Int.mul_add P D, ← Int.mul_assoc P 4294967296 Z, Int.mul_comm P 4294967296]
  omega
theorem pb_step {P a b x y br e A B D : Int} (hs : y + x + br = D + 4294967296 * e) (h : a + P * ((y + 4294967296 * A) + (x + 4294967296 * B) + br) = b) : a + P * D + 4294967296 * P * (A + B + e) = b := by
  rw [← h]
  have e1 : (y + 4294967296 * A) + (x + 4294967296 * B) + br = D + 4294967296 * (A + B + e) := by omega
  rw [e1]
  generalize A + B + e = Z
  rw [Int.mul_add P D, ← Int.mul_assoc P 4294967296 Z, Int.mul_comm P 4294967296]
  omega
/-- the last word: what comes, and whether it went below 0 or beyond -/
theorem last_word {dx : List Int} {D l V : Int} (hd : wds dx) (hD : 0 ≤ D ∧ D < 4294967296) (h : vN dx + 4294967296 ^ dx.length * (D + 4294967296 * l) = V) : dx ++ [D] = dg (dx.length + 1) V ∧ V / 4294967296 ^ (dx.length + 1) = l := by
  have hw : wds (dx ++ [D]) := wds_app hd (fun x hx => by rw [List.mem_singleton.1 hx]; exact hD)
  have hv : vN (dx ++ [D]) + 4294967296 ^ (dx.length + 1) * l = V := by
    rw [vN_snoc, ← h, pw, Int.mul_add, ← Int.mul_assoc, Int.mul_comm (4294967296 ^ dx.length) 4294967296]
    omega
  have hl : (dx ++ [D]).length = dx.length + 1 := by simp
  have hb := vN_bd (dx ++ [D]) hw
  rw [hl] at hb
  constructor
  · rw [← hv, dg_mod, ← hl]
    exact (dg_vN _ hw).symm
  · rw [← hv, Int.add_mul_ediv_left _ _ (by have := pw_pos (dx.length + 1); omega), Int.ediv_eq_zero_of_lt hb.1 hb.2, Int.zero_add]
theorem neg_div {V Q l : Int} (hQ : 0 < Q) (h : V / Q = l) : V < 0 ↔ l < 0 := by
  subst h
  constructor
  · intro hv
    exact Int.ediv_lt_of_lt_mul hQ (by omega)
  · intro hl
    refine Decidable.byContradiction fun hn => ?_
    have := Int.ediv_nonneg (a := V) (b := Q) (by omega) (by omega)
    omega
end Go.Nt
namespace Go.Proofs.YtjlponbdflkbjaaGreatDoor.Na
open Go.KRun Go.Nt
set_option maxRecDepth 100000
set_option linter.unusedVariables false
theorem to_word {k x d : Int} (hk : 0 ≤ k ∧ k < 4294967296) (hx : 0 ≤ x ∧ x < 4294967296) (hd : 0 ≤ d ∧ d < 4294967296) :
    (0 ≤ toW k x d ∧ toW k x d < 4294967296) ∧ (0 ≤ toC k x d ∧ toC k x d < 4294967296) ∧ k + x * d = toW k x d + 4294967296 * toC k x d := by
  have hxy := xy_bd hx hd
  have e : toT k x d = k + x * d := by
    unfold toT
    simp only [u64w]
    rw [Int.emod_eq_of_lt hx.1 (by omega), Int.emod_eq_of_lt hd.1 (by omega), Int.emod_eq_of_lt hxy.1 (by omega), Int.emod_eq_of_lt (by omega) (by omega)]
  unfold toW toC
  rw [e, u32w, show ((2 : Int) ^ min (Int.toNat 32) 64) = 4294967296 from by decide, Int.fdiv_eq_ediv_of_nonneg _ (by omega)]
  generalize x * d = W at *
  omega
theorem wd4_ok {x y c : Int} (hx : 0 ≤ x ∧ x < 4294967296) (hy : 0 ≤ y ∧ y < 4294967296) (hc : 0 ≤ c ∧ c ≤ 1) : wd4 x y c = true := by
  unfold wd4
  simp only [decide_eq_true_eq]
  omega
theorem to_runs {F G la lb Y Q : List Value} {o c k : Nat} {M LB : List Int} {d : Int} (hF : F.length = o) (hM : wds M) (RB : Row Y 0 LB) (hl : M.length = LB.length + 1) (hN : M.length < 1099511627776) (hd : 0 ≤ d ∧ d < 4294967296) (hc : M.length ≤ c) (hs : smallC c = true) (e : Bool) (he : decide (vN M - d * vN LB < 0) = e) :
    Runs (tabOf Tryz.prog extY conB true) (seqs (toP Tryz.f136) (.seq (.seq (cFst (toB Tryz.f136)) (.block 0 (.loop (toL Tryz.f136)))) (sn 6 Tryz.f136))) ([sl 2 o M.length c, sl 3 0 LB.length k, uu d] ++ List.replicate 62 undef, h5 la lb (F ++ (wU M ++ G)) Y Q, []) fun e' y => (e' = none ∨ e' = some none) ∧ resS Tryz.prog Tryz.f136 y.1 y.2.1 = some (.bool e) ∧ y.2.1.cut 5 = h5 la lb (F ++ (wU (dg M.length (vN M - d * vN LB)) ++ G)) Y Q := by
  have hwB := RB.rng
  have hcs : c < 4611686018427387904 := blt_iff.1 hs
  have hT := tabY_ok conB_ok
  refine goesT_list hT (to_pre o M.length c LB.length k d la lb _ Y Q) (okTwo hs (okTwo (by unfold okPart; exact decide_eq_true (by omega)) (okOne (decide_eq_false (by omega))))) fun g => ?_
  refine Runs.seq (P1 := fun e' y => e' = none ∧ ∃ (dx : List Int) (t cy b : Int) (v11 v12 u1 u2 u3 : Value) (g g' : Nat → Value), dx.length = LB.length ∧ wds dx ∧ (0 ≤ t ∧ t < 4294967296) ∧ (0 ≤ cy ∧ cy < 4294967296) ∧ (0 ≤ b ∧ b ≤ 1) ∧ y.1 = ml (toF o M.length c LB.length k d cy b v11 v12) 5 g [u1, u2, u3] 44 g' ∧ y.2.1 = h5 la lb (F ++ (wU (dx ++ t :: []) ++ G)) Y Q ∧ vN dx + 4294967296 ^ dx.length * (t - cy - b) = vN M - d * vN LB) ?_ ?_ (fun e y he => by cases he.1)
  · refine Runs.seq (P1 := fun e' y => e' = none ∧ (∃ g g', y.1 = ml (toF o M.length c LB.length k d 0 0 undef undef) 5 g [sl 3 0 LB.length k, i6' LB.length, i6' 0] 44 g') ∧ y.2.1 = h5 la lb (F ++ (wU M ++ G)) Y Q) (goesM_runs hT (to_r o M.length c LB.length k d 0 0 undef undef _ g) (fun x hx => by cases hx)) ?_ (fun e y he => by cases he.1)
    rintro ⟨t, h', s'⟩ ⟨_, ⟨g1, g2, ht⟩, hh⟩
    simp only at ht hh
    subst ht hh
    refine (Runs.forLoop (R := fun _ => False) (P := fun y => ∃ (dx : List Int) (t cy b : Int) (v11 v12 u1 u2 u3 : Value) (g g' : Nat → Value), dx.length = LB.length ∧ wds dx ∧ (0 ≤ t ∧ t < 4294967296) ∧ (0 ≤ cy ∧ cy < 4294967296) ∧ (0 ≤ b ∧ b ≤ 1) ∧ y.1 = ml (toF o M.length c LB.length k d cy b v11 v12) 5 g [u1, u2, u3] 44 g' ∧ y.2.1 = h5 la lb (F ++ (wU (dx ++ t :: []) ++ G)) Y Q ∧ vN dx + 4294967296 ^ dx.length * (t - cy - b) = vN M - d * vN LB)
      (fun r y => ∃ (dx px bx : List Int) (cy b : Int) (v11 v12 : Value) (g g' : Nat → Value), px.length = r + 1 ∧ dx.length + px.length = M.length ∧ wds dx ∧ wds px ∧ bx = LB.drop dx.length ∧ (0 ≤ cy ∧ cy < 4294967296) ∧ (0 ≤ b ∧ b ≤ 1) ∧ y.1 = ml (toF o M.length c LB.length k d cy b v11 v12) 5 g [sl 3 0 LB.length k, i6' LB.length, i6' dx.length] 44 g' ∧ y.2.1 = h5 la lb (F ++ (wU (dx ++ px) ++ G)) Y Q ∧ vN dx + 4294967296 ^ dx.length * (vN px - d * vN bx - cy - b) = vN M - d * vN LB)
      ?_ (n := LB.length) ⟨[], M, LB, 0, 0, undef, undef, g1, g2, by omega, by simp, (fun x hx => by cases hx), hM, rfl, by omega, by omega, rfl, rfl, by simp [vN]⟩).mono fun e' y he => ?_
    · rintro r ⟨t, h', s'⟩ ⟨dx, px, bx, cy, b, v11, v12, g, g', hr, hlen, wd1, wd2, hb, hcy, hbb, ht, hh, hv⟩
      simp only at ht hh
      subst ht hh
      cases r with
      | zero =>
        have hl' : dx.length = LB.length := by omega
        match px, hr, wd2, hv with
        | [t], hr, wd2, hv =>
          refine (goesM_runs hT (to_out o M.length c LB.length k d cy b dx.length v11 v12 _ g g') (okOne (decide_eq_false (by omega)))).mono fun e' y he => ?_
          obtain ⟨rfl, ⟨g1, g2, e2⟩, e3⟩ := he
          have hbx : bx = [] := by rw [hb, List.drop_eq_nil_of_le (by omega)]
          subst hbx
          refine ⟨rfl, dx, t, cy, b, v11, v12, _, _, _, g1, g2, hl', wd1, wd2 t (List.mem_singleton.2 rfl), hcy, hbb, e2, e3, ?_⟩
          simpa [vN] using hv
      | succ r =>
        match px, hr, hlen, wd2, hv with
        | y :: px, hr, hlen, wd2, hv =>
          obtain ⟨wy, wd2⟩ := wds_tail wd2
          have hl' : dx.length < LB.length := by simp at hlen hr; omega
          have hx := RB.cell (k := dx.length) (by omega)
          have hxr := hwB (LB.getD dx.length 0) (by simp [List.getD, List.getElem?_eq_getElem hl'])
          have hbx : bx = LB.getD dx.length 0 :: LB.drop (dx.length + 1) := by
            rw [hb, List.drop_eq_getElem_cons hl']
            simp [List.getD, List.getElem?_eq_getElem hl']
          generalize LB.getD dx.length 0 = x at *
          obtain ⟨k1, k2, k3⟩ := to_word hcy hxr hd
          obtain ⟨s1, s2, s3⟩ := borrow_ok wy k1 hbb
          have cS := fR_get hF dx y px G
          have lS : o + dx.length < (F ++ (wU (dx ++ y :: px) ++ G)).length := (List.getElem?_eq_some_iff.1 cS).1
          have l1 : decide (o + ((dx.length : Int)).toNat * 1 < (F ++ (wU (dx ++ y :: px) ++ G)).length) = true := by
            rw [Int.toNat_natCast, Nat.mul_one]
            exact decide_eq_true lS
          have l2 : (inR dx.length LB.length).1 = (inR dx.length LB.length).2 := decide_eq_true (by omega)
          refine (goesM_runs hT (to_go o M.length c LB.length k d cy b dx.length x y v11 v12 la lb _ Y Q g g') (okTwo (by decide) (okTwo l1 (okTwo l2 (okTwo (wd4_ok wy k1 hbb) (okTwo (cel_ok cS) (okTwo l2 (okTwo (cel_ok hx) (okTwo l2 (okOne (decide_eq_true (by omega))))))))))) ).mono fun e' z he => ?_
          obtain ⟨rfl, ⟨g1, g2, e2⟩, e3⟩ := he
          refine ⟨r, by omega, dx ++ [subD y (toW cy x d) b], px, LB.drop (dx.length + 1), toC cy x d, subB y (toW cy x d) b, i6' dx.length, uu x, g1, g2, by simp at hr; omega, by simp at hlen ⊢; omega, wds_app wd1 (fun u hu => by rw [List.mem_singleton.1 hu]; exact s1), wd2, by simp, k2, s2, ?_, ?_, ?_⟩
          · rw [e2, wrapI (by omega) (by omega)]
            simp
          · rw [e3, Int.toNat_natCast, Nat.mul_one, fR_set hF]
          · rw [hbx] at hv
            simp only [vN] at hv
            rw [vN_snoc, List.length_append, List.length_singleton, pw]
            exact to_step k3 s3 hv
    · match e', he with
      | none, he => exact ⟨rfl, he⟩
      | some none, he => exact he.elim
      | some (some _), he => exact he.elim
  · rintro ⟨t, h', s'⟩ ⟨_, dx, tw, cy, b, v11, v12, u1, u2, u3, g, g', hdl, wd1, wt, hcy, hbb, ht, hh, hv⟩
    simp only at ht hh
    subst ht hh
    have ew : IntKind.u32.wrap cy = cy := by rw [u32w, Int.emod_eq_of_lt hcy.1 hcy.2]
    obtain ⟨s1, s2, s3⟩ := borrow_ok wt hcy hbb
    have cS := fR_get hF dx tw [] G
    have lS : o + dx.length < (F ++ (wU (dx ++ tw :: []) ++ G)).length := (List.getElem?_eq_some_iff.1 cS).1
    obtain ⟨f1, f2⟩ := last_word (l := - subB tw cy b) (V := vN M - d * vN LB) wd1 s1 (by rw [← hv, s3]; congr 2; omega)
    have hn := neg_div (pw_pos (dx.length + 1)) f2
    have g0 := to_end e o M.length c LB.length k d cy b tw v11 v12 u1 u2 u3 la lb (F ++ (wU (dx ++ tw :: []) ++ G)) Y Q g g'
    rw [ew, ← hdl, Int.toNat_natCast, Nat.mul_one, fR_set hF] at g0
    have l0 : (subB tw cy b != 0) = e := by
      rw [← he]
      by_cases hneg : vN M - d * vN LB < 0
      · rw [decide_eq_true hneg]
        have := hn.1 hneg
        exact bne_iff_ne.2 (by omega)
      · rw [decide_eq_false hneg]
        have : subB tw cy b = 0 := Decidable.byContradiction fun h0 => hneg (hn.2 (by omega))
        rw [this]
        rfl
    have l2 : (inR dx.length M.length).1 = (inR dx.length M.length).2 := decide_eq_true (by omega)
    rw [← hdl]
    refine (goesT_runs hT g0 (okTwo l0 (okTwo (decide_eq_true lS) (okTwo l2 (okTwo (wd4_ok wt hcy hbb) (okTwo (cel_ok cS) (okOne l2))))))).mono fun e' y he => ?_
    obtain ⟨rfl, ⟨g1, e2⟩, e3⟩ := he
    refine ⟨.inr rfl, ?_, ?_⟩
    · rw [e2, e3]; rfl
    · rw [e3, hl, ← hdl, ← f1, List.append_nil]; rfl
def okTo (la lb R Y Q : List Value) (t0 t1 t2 t3 t4 : TypeId) (o m c n k : Nat) : Bool := Nat.beq t0 tR && Nat.beq t1 tR && Nat.beq t2 tU && Nat.beq t3 tU && Nat.beq t4 tU && rowOk tU R o m c && rowOk tU Y 0 n k && Nat.beq m (n + 1) && Nat.blt m 1099511627776 && la.all still && lb.all still && Q.all still
theorem okTo_of {la lb R Y Q : List Value} {t0 t1 t2 t3 t4 : TypeId} {o m c n k : Nat} (q : okTo la lb R Y Q t0 t1 t2 t3 t4 o m c n k = true) : t0 = tR ∧ t1 = tR ∧ t2 = tU ∧ t3 = tU ∧ t4 = tU ∧ rowOk tU R o m c = true ∧ rowOk tU Y 0 n k = true ∧ m = n + 1 ∧ m < 1099511627776 ∧ la.all still = true ∧ lb.all still = true ∧ Q.all still = true := by
  unfold okTo at q
  simp only [Bool.and_eq_true] at q
  obtain ⟨⟨⟨⟨⟨⟨⟨⟨⟨⟨⟨q0, q1⟩, q2⟩, q3⟩, q4⟩, ra⟩, rb⟩, qn⟩, qN⟩, s0⟩, s1⟩, s2⟩ := q
  exact ⟨Nat.eq_of_beq_eq_true q0, Nat.eq_of_beq_eq_true q1, Nat.eq_of_beq_eq_true q2, Nat.eq_of_beq_eq_true q3, Nat.eq_of_beq_eq_true q4, ra, rb, Nat.eq_of_beq_eq_true qn, blt_iff.1 qN, s0, s1, s2⟩
theorem row_parts {R : List Value} {o m c : Nat} (ra : rowOk tU R o m c = true) : R = R.take o ++ (wU (cutI R o m) ++ R.drop (o + m)) ∧ (R.take o).length = o := by
  obtain ⟨a1, a2, a3, a4, a5, a6, a7⟩ := row_of ra
  constructor
  · have h1 := a1.cut
    rw [a2] at h1
    rw [← h1]
    unfold cutV
    rw [← List.drop_drop, List.take_append_drop, List.take_append_drop]
  · have := a1.len
    simp
    omega
theorem tight5 {la lb R Y Q : List Value} {o m c n k : Nat} {L : List Int} (ra : rowOk tU R o m c = true) (rb : rowOk tU Y 0 n k = true) (s0 : la.all still = true) (s1 : lb.all still = true) (s2 : Q.all still = true) : (h5 la lb (tmS R o m L) Y Q).tight = true := by
  obtain ⟨a1, a2, a3, a4, a5, a6, a7⟩ := row_of ra
  obtain ⟨b1, b2, b3, b4, b5, b6, b7⟩ := row_of rb
  unfold Hp.tight tmS h5
  simp only [List.all_cons, List.all_nil, List.all_append, Bool.and_true, Bool.and_eq_true]
  refine ⟨all_mono (by omega) s2, all_mono (by omega) (List.all_eq_true.2 b7), ⟨?_, wU_tight _ _, ?_⟩, all_mono (by omega) s1, all_mono (by omega) s0⟩
  · rw [List.all_eq_true]
    exact fun v hv => still_lt (by omega) (a7 v (List.mem_of_mem_take hv))
  · rw [List.all_eq_true]
    exact fun v hv => still_lt (by omega) (a7 v (List.mem_of_mem_drop hv))
def gTo5 : AnsH := fun vals h s =>
  match vals, h, s with
  | [.slice (some ⟨2, o, none⟩) m c, .slice (some ⟨3, 0, none⟩) n k, .int .u32 d], ⟨5, [(Q, t4), (Y, t3), (R, t2), (lb, t1), (la, t0)]⟩, .inr (.inr (.inr (.inl e))) :: s' => some (.bool e, h5 la lb (tmS R o m (dg m (vN (cutI R o m) - d * vN (cutI Y 0 n)))) Y Q, s', [(okTo la lb R Y Q t0 t1 t2 t3 t4 o m c n k && decide (0 ≤ d ∧ d < 4294967296), true), (decide (vN (cutI R o m) - d * vN (cutI Y 0 n) < 0), e)])
  | _, _, _ => none
theorem gTo5_ok : AnsHOk 136 gTo5 := by
  intro vals h s v h' s' lg hg hl m B w E hv
  unfold gTo5 at hg
  split at hg
  · rename_i o mm c n k d Q t4 Y t3 R t2 lb t1 la t0 e s2
    cases hg
    have l1 := hl _ List.mem_cons_self
    have l2 := hl _ (List.mem_cons_of_mem _ (List.mem_singleton.2 rfl))
    simp only [Bool.and_eq_true, decide_eq_true_eq] at l1 l2
    obtain ⟨l1, hd⟩ := l1
    obtain ⟨q0, q1, q2, q3, q4, ra, rb, qn, qN, st0, st1, st2⟩ := okTo_of l1
    subst q0 q1 q2 q3 q4
    obtain ⟨a1, a2, a3, a4, a5, a6, a7⟩ := row_of ra
    obtain ⟨b1, b2, b3, b4, b5, b6, b7⟩ := row_of rb
    obtain ⟨eS, hF⟩ := row_parts ra
    have r := to_runs (G := R.drop (o + mm)) (la := la) (lb := lb) (Q := Q) (c := c) (k := k) hF a1.rng b1 (by rw [a2, b2]; exact qn) (by rw [a2]; exact qN) hd (by rw [a2]; exact a3) a4 e l2
    rw [a2, b2, ← eS] at r
    exact hcalls_of_runs (T := tabOf Tryz.prog extY conB true) Tryz.func136 to_body (vals := [sl 2 o mm c, sl 3 0 n k, uu d]) (v := .bool e) (h := h5 la lb R Y Q) (by rfl) (tight5 ra rb st0 st1 st2) r m B w E hv
  · cases hg
end Go.Proofs.YtjlponbdflkbjaaGreatDoor.Na
