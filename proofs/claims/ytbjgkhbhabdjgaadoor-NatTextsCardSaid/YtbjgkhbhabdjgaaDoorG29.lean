/-
  PLAIN ARITHMETIC: words times 10^9 and a piece. No program is named here.
-/
import Derived.Test.YtbjgkhbhabdjgaaDoorG14
import Derived.Test.YtbjgkhbhabdjgaaDoorG24
import Derived.Test.YtbjgkhbhabdjgaaDoorG28
import Derived.Test.YtbjgkhbhabdjgaaDoorG19
import Derived.Test.YtbjgkhbhabdjgaaDoorG06
namespace Go.Nt

theorem dg_plus : ∀ (m k : Nat) (V : Int), dg (m + k) V = dg m V ++ dg k (V / 4294967296 ^ m)
  | 0, k, V => by simp [dg]
  | m + 1, k, V => by
    rw [show m + 1 + k = (m + k) + 1 by omega]
    show V % 4294967296 :: dg (m + k) (V / 4294967296) = (V % 4294967296 :: dg m (V / 4294967296)) ++ dg k (V / 4294967296 ^ (m + 1))
    rw [dg_plus m k, List.cons_append, Int.ediv_ediv_of_nonneg (by omega), pw]
theorem dg_drop (m k : Nat) (V : Int) : (dg (m + k) V).drop m = dg k (V / 4294967296 ^ m) := by
  rw [dg_plus, List.drop_left' (dg_len _ _)]
theorem dg_take (m k : Nat) (V : Int) : (dg (m + k) V).take m = dg m V := by
  rw [dg_plus, List.take_left' (dg_len _ _)]
theorem pw_nat (m : Nat) : (4294967296 : Int) ^ m = ((4294967296 ^ m : Nat) : Int) := by rw [Int.natCast_pow]; rfl
/-- a number's own digits, and how many -/
theorem dg_db (V : Nat) : dg (db 4294967296 V).length (V : Int) = db 4294967296 V := by
  have hw : wds (db 4294967296 V) := fun x hx => by
    have := db_dg (b := 4294967296) (by omega) V x hx
    exact ⟨this.1, by have := this.2; omega⟩
  have h := dg_vN (db 4294967296 V) hw
  rw [vN_vb hw, vb_db (by omega)] at h
  exact h
theorem lt_len (V : Nat) : V < 4294967296 ^ (db 4294967296 V).length := by
  have h := vb_lt (b := 4294967296) (by omega) (db 4294967296 V) (db_dg (by omega) V)
  rwa [vb_db (by omega)] at h
theorem len_iff {V k : Nat} : (db 4294967296 V).length ≤ k ↔ V < 4294967296 ^ k :=
  ⟨fun h => Nat.lt_of_lt_of_le (lt_len V) (Nat.pow_le_pow_right (by omega) h), fun h => db_len (by omega) k V h⟩
/-- the words behind a piece, where nothing is carried on, and where a word is -/
theorem pp_num {V P C : Nat} (hP : P < 1000000000) (hC : V * 1000000000 + P < 4294967296 ^ C) :
    let n := (db 4294967296 V).length
    let V' := V * 1000000000 + P
    (dg C (V : Int)).take n = db 4294967296 V ∧ n ≤ C ∧
    (((V' : Nat) : Int) / 4294967296 ^ n = 0 → dg n ((V' : Nat) : Int) ++ (dg C (V : Int)).drop n = dg C ((V' : Nat) : Int) ∧ (db 4294967296 V').length = n) ∧
    (((V' : Nat) : Int) / 4294967296 ^ n ≠ 0 → n < C ∧ dg n ((V' : Nat) : Int) ++ [((V' : Nat) : Int) / 4294967296 ^ n] ++ (dg C (V : Int)).drop (n + 1) = dg C ((V' : Nat) : Int) ∧ (db 4294967296 V').length = n + 1) := by
  intro n V'
  have hV := lt_len V
  have hVC : V < 4294967296 ^ C := Nat.lt_of_le_of_lt (by omega) hC
  have hn : n ≤ C := len_iff.2 hVC
  obtain ⟨k, hk⟩ : ∃ k, C = n + k := ⟨C - n, by omega⟩
  have hz : (V : Int) / 4294967296 ^ n = 0 := by
    rw [pw_nat]
    exact Int.ediv_eq_zero_of_lt (by omega) (by exact_mod_cast hV)
  have hq : ((V' : Nat) : Int) / 4294967296 ^ n = ((V' / 4294967296 ^ n : Nat) : Int) := by rw [pw_nat]; rfl
  have h0 : n = 0 → V = 0 := fun h => by
    rw [show (db 4294967296 V).length = 0 from h, Nat.pow_zero] at hV
    omega
  have ge : n ≤ (db 4294967296 V').length := by
    rcases Nat.lt_or_ge (db 4294967296 V').length n with h | h
    · exfalso
      have h1 : V' < 4294967296 ^ (n - 1) := len_iff.1 (by omega)
      have h2 : (db 4294967296 V).length ≤ n - 1 := len_iff.2 (by omega)
      have : n ≤ n - 1 := h2
      omega
    · exact h
  refine ⟨?_, hn, fun h => ?_, fun h => ?_⟩
  · rw [hk, dg_take]
    exact dg_db V
  · rw [hk, dg_drop, hz, dg_plus, h]
    refine ⟨rfl, ?_⟩
    rw [hq] at h
    have h1 : V' / 4294967296 ^ n = 0 := Int.ofNat.inj h
    have h2 : V' < 4294967296 ^ n := by
      rcases Nat.lt_or_ge V' (4294967296 ^ n) with h3 | h3
      · exact h3
      · have := Nat.div_pos h3 (Nat.pow_pos (by omega)); omega
    have := len_iff.2 h2
    omega
  · rw [hq] at h
    have hqp : 0 < V' / 4294967296 ^ n := Nat.pos_of_ne_zero fun h' => h (by rw [h']; rfl)
    have hge : 4294967296 ^ n ≤ V' := by
      rcases Nat.lt_or_ge V' (4294967296 ^ n) with h3 | h3
      · rw [Nat.div_eq_of_lt h3] at hqp; omega
      · exact h3
    have hlt : V' < 4294967296 ^ (n + 1) := by
      rw [Nat.pow_succ]
      have : V < 4294967296 ^ n := hV
      show V * 1000000000 + P < _
      omega
    have hnC : n < C := by
      rcases Nat.lt_or_ge n C with h3 | h3
      · exact h3
      · have : (4294967296 : Nat) ^ C ≤ 4294967296 ^ n := Nat.pow_le_pow_right (by omega) h3
        have hC' : V' < 4294967296 ^ C := hC
        omega
    obtain ⟨j, hj⟩ : ∃ j, k = j + 1 := ⟨k - 1, by omega⟩
    have hqB : V' / 4294967296 ^ n < 4294967296 := by
      rw [Nat.pow_succ] at hlt
      exact Nat.div_lt_of_lt_mul hlt
    refine ⟨hnC, ?_, ?_⟩
    · have hz1 : (V : Int) / 4294967296 ^ (n + 1) = 0 := by
        rw [pw_nat]
        have : V < 4294967296 ^ (n + 1) := Nat.lt_of_lt_of_le hV (Nat.pow_le_pow_right (by omega) (by omega))
        exact Int.ediv_eq_zero_of_lt (by omega) (by exact_mod_cast this)
      have hz2 : ((V' : Nat) : Int) / 4294967296 ^ (n + 1) = 0 := by
        rw [pw_nat]
        exact Int.ediv_eq_zero_of_lt (by omega) (by exact_mod_cast hlt)
      rw [hk, hj, show n + (j + 1) = (n + 1) + j by omega, dg_drop, hz1, dg_plus (n + 1) j, hz2, dg_plus n 1, hq]
      show dg n _ ++ [_] ++ dg j 0 = dg n _ ++ [((V' / 4294967296 ^ n : Nat) : Int) % 4294967296] ++ dg j 0
      rw [Int.emod_eq_of_lt (by omega) (by omega)]
    · have h1 := len_iff.2 hlt
      rcases Nat.lt_or_ge n (db 4294967296 V').length with h3 | h3
      · omega
      · have := len_iff.1 h3
        omega
theorem rdV10_congr {f g : Nat → Int} : ∀ k, (∀ j, j < k → f j = g j) → rdV10 f k = rdV10 g k
  | 0, _ => rfl
  | k + 1, h => by
    simp only [rdV10]
    rw [rdV10_congr k (fun j hj => h j (by omega)), h k (by omega)]
theorem ten_cap {m C : Nat} (h : m ≤ 9 * C) : (10 : Nat) ^ m ≤ 4294967296 ^ C := by
  have h1 : (10 : Nat) ^ m ≤ 10 ^ (9 * C) := Nat.pow_le_pow_right (by omega) h
  have h2 : (10 : Nat) ^ (9 * C) ≤ 4294967296 ^ C := by
    rw [Nat.pow_mul]
    exact Nat.pow_le_pow_left (by decide) C
  omega
end Go.Nt

/-
  nat.Parse, as a contract: the number of any digits, or the error; told ahead whether they are digits, and the number.
-/
namespace Go.Proofs.YtbjgkhbhabdjgaaDoor
open Go.KRun Go.Nt
set_option maxRecDepth 100000

def psN (s : ByteArray) : Nat := s.size / 9 + 1
def psV (s : ByteArray) : Nat := rdV10 (dgF s) s.size
theorem capP_eq {s : ByteArray} (h : s.size ≤ 20000) : capP s = (psN s : Nat) := by
  have e1 : IntKind.i64.wrap ((s.size : Int) / 9) = (s.size : Int) / 9 := wrapI (by omega) (by omega)
  unfold capP psN
  rw [Int.tdiv_eq_ediv_of_nonneg (by omega), e1, wrapI (by omega) (by omega)]
  omega
theorem enP_eq {l : List UInt8} (h0 : 0 < l.length) (h : l.length ≤ 20000) : enP l = (((l.length - 1) % 9 + 1 : Nat) : Int) := by
  have e1 : IntKind.i64.wrap ((l.length : Int) - 1) = (l.length : Int) - 1 := wrapI (by omega) (by omega)
  unfold enP
  rw [e1, Int.tmod_eq_emod_of_nonneg (by omega), wrapI (by omega) (by omega)]
  omega
theorem okApp {a b : Log} (h1 : okLog a) (h2 : okLog b) : okLog (a ++ b) := fun x hx => (List.mem_append.1 hx).elim (h1 x) (h2 x)
/-- the letters m to m + e -/
def pieceB (s : ByteArray) (m e : Nat) : ByteArray := ⟨⟨(s.data.toList.drop m).take e⟩⟩
theorem piece_size {s : ByteArray} {m e : Nat} (h : m + e ≤ s.size) : (pieceB s m e).size = e := by
  show ((s.data.toList.drop m).take e).length = e
  have : s.data.toList.length = s.size := rfl
  rw [List.length_take, List.length_drop]
  omega
theorem piece_at {s : ByteArray} {m e j : Nat} (hj : j < e) : byT (pieceB s m e) j = byT s (m + j) := by
  unfold byT pieceB
  have : ((s.data.toList.drop m).take e).getD j 0 = s.data.toList.getD (m + j) 0 := by
    simp only [List.getD, List.getElem?_take, List.getElem?_drop, if_pos hj]
  show ((((s.data.toList.drop m).take e).getD j 0).toNat : Int) = _
  rw [this]
def pInv9 (s : ByteArray) (r : Nat) (y : Lf) : Prop := ∃ (m : Nat) (v : Value) (g : Nat → Value), y.1 = qF9 (bS (s.data.toList.drop m)) (sl 0 0 (db 4294967296 (rdV10 (dgF s) m)).length (psN s)) v ++ tl 34 g ∧ y.2.1 = hW1 (wU (dg (psN s) ((rdV10 (dgF s) m : Nat) : Int))) ∧ m ≤ s.size ∧ (m = 0 ∨ (s.size - m) % 9 = 0) ∧ r = s.size - m
def pOut (s : ByteArray) (y : Lf) : Prop := ∃ (v : Value) (g : Nat → Value), y.1 = qF9 (bS []) (sl 0 0 (db 4294967296 (psV s)).length (psN s)) v ++ tl 34 g ∧ y.2.1 = hW1 (wU (dg (psN s) ((psV s : Nat) : Int)))
theorem p_round {s : ByteArray} (hs : allD s) (h2 : s.size ≤ 20000) (r : Nat) (y : Lf) (h : pInv9 s r y) :
    Runs (tabH Tryd.prog extY conPr hcPr) (qL9 Tryd.f33) y fun e z => match e with | none => ∃ r', r' < r ∧ pInv9 s r' z | some none => False | some (some id') => id' = 0 ∧ pOut s z := by
  obtain ⟨m, v, g, ht, hh, hm, hm9, hr⟩ := h
  obtain ⟨t, h', sc⟩ := y
  simp only at ht hh
  subst ht hh
  have hsz : s.data.toList.length = s.size := rfl
  by_cases hc : m < s.size
  · obtain ⟨l, hl⟩ : ∃ l, l = s.data.toList.drop m := ⟨_, rfl⟩
    have ll : l.length = s.size - m := by rw [hl, List.length_drop, hsz]
    have eE := enP_eq (l := l) (by omega) (by omega)
    obtain ⟨e, he⟩ : ∃ e : Nat, e = (l.length - 1) % 9 + 1 := ⟨_, rfl⟩
    rw [← he] at eE
    have e1 : m + e ≤ s.size := by omega
    have e9 : e ≤ 9 := by omega
    have hps := piece_size e1
    have eT : (enP l).toNat = e := by rw [eE, Int.toNat_natCast]
    have hdig : ∀ j, j < e → dgF (pieceB s m e) j = dgF s (m + j) := fun j hj => by unfold dgF; rw [piece_at hj]
    have hall : allD (pieceB s m e) := fun j hj => by
      rw [hps] at hj
      rw [piece_at hj]
      exact hs (m + j) (by omega)
    have eP : rdV10 (dgF (pieceB s m e)) (pieceB s m e).size = rdV10 (fun j => dgF s (m + j)) e := by
      rw [hps]
      exact rdV10_congr e hdig
    obtain ⟨V, hV⟩ : ∃ V, V = rdV10 (dgF s) m := ⟨_, rfl⟩
    obtain ⟨P, hP⟩ : ∃ P, P = rdV10 (fun j => dgF s (m + j)) e := ⟨_, rfl⟩
    have hadd := rdV10_add (f := dgF s) m e
    rw [← hV, ← hP] at hadd
    have hPlt : P < 10 ^ e := by
      rw [hP]
      exact rdV10_lt e fun j hj => (dgF_bd hs (show m + j < s.size by omega)).2
    have hP9 : P < 1000000000 := Nat.lt_of_lt_of_le hPlt (pw10 e9)
    have hVe : V * 10 ^ e = V * 1000000000 := by
      rcases hm9 with h0 | h9
      · have : V = 0 := by rw [hV, h0]; rfl
        rw [this, Nat.zero_mul, Nat.zero_mul]
      · have : e = 9 := by omega
        rw [this]
    rw [hVe] at hadd
    have hVlt : V * 1000000000 + P < 4294967296 ^ psN s := by
      rw [← hadd]
      have h3 := rdV10_lt (f := dgF s) (m + e) fun j hj => (dgF_bd hs (show j < s.size by omega)).2
      exact Nat.lt_of_lt_of_le h3 (ten_cap (by unfold psN; omega))
    obtain ⟨n1, n2, n3, n4⟩ := pp_num hP9 hVlt
    have hC : psN s < 10000 := by unfold psN; omega
    have hsm : smallC (psN s) = true := blt_iff.2 (by unfold dead; omega)
    have ec : cutI (wU (dg (psN s) (V : Int))) 0 (db 4294967296 V).length = db 4294967296 V := by rw [cutI_wT, n1]
    have eV : vN (db 4294967296 V) = (V : Int) := by rw [vN_vb (wds_db V), vb_db (by omega)]
    have hpT : ppT (cutI (wU (dg (psN s) (V : Int))) 0 (db 4294967296 V).length) (pieceB s m e) = ((V * 1000000000 + P : Nat) : Int) := by
      unfold ppT
      rw [ec, eV, eP, ← hP]
      omega
    have hpQ : ppQ (wU (dg (psN s) (V : Int))) (db 4294967296 V).length (pieceB s m e) = ((V * 1000000000 + P : Nat) : Int) / 4294967296 ^ (db 4294967296 V).length := by
      unfold ppQ
      rw [hpT]
    have hlog : okLog (ppLg (wU (dg (psN s) (V : Int))) tU (db 4294967296 V).length (psN s) (pieceB s m e)) := by
      refine okCons (Nat.beq_refl _) (okCons ?_ (okCons (decide_eq_true ((ix_digits _).2 hall)) (okL1 ?_)))
      · exact wU_rowAt (dg_wds _ _) (by rw [dg_len]; omega) n2 hsm
      · rw [hps, Nat.ble_eq_true_of_le e9, blt_iff.2 (by omega)]
        rfl
    have l1 : decide (0 ≤ enP l ∧ enP l ≤ (l.length : Nat)) = true := decide_eq_true ⟨by rw [eE]; omega, by rw [eE]; omega⟩
    have l2 : (!(eqN ⟨⟨l⟩⟩)) = true := by
      unfold eqN
      rw [bs_eq, decide_eq_false (by intro hn; rw [hn] at ll; simp at ll; omega)]
      rfl
    have hdr : l.drop e = s.data.toList.drop (m + e) := by rw [hl, List.drop_drop]
    have htk : (⟨⟨l.take e⟩⟩ : ByteArray) = pieceB s m e := by rw [hl]; rfl
    have hstep : ∀ z : Lf, (∃ g, z.1 = qF9 (bS (l.drop (enP l).toNat)) (sl 0 0 (db 4294967296 (V * 1000000000 + P)).length (psN s)) (.int .i64 (enP l)) ++ tl 34 g) → z.2.1 = hW1 (wU (dg (psN s) ((V * 1000000000 + P : Nat) : Int))) → ∃ r', r' < r ∧ pInv9 s r' z := fun z hz1 hz2 => by
      obtain ⟨g', hz1⟩ := hz1
      refine ⟨s.size - (m + e), by omega, m + e, .int .i64 (enP l), g', ?_, ?_, e1, .inr (by omega), rfl⟩
      · rw [hz1, eT, hdr, hadd]
      · rw [hz2, hadd]
    rw [← hV]
    rw [← hl]
    have hG := fun d => pr_go l d (db 4294967296 V).length (psN s) v (wU (dg (psN s) (V : Int))) g
    rw [eT, htk] at hG
    by_cases hq : ((V * 1000000000 + P : Nat) : Int) / 4294967296 ^ (db 4294967296 V).length = 0
    · obtain ⟨q1, q2⟩ := n3 hq
      have hG := hG false
      simp only [hpT] at hG
      have eM : wU (dg (db 4294967296 V).length ((V * 1000000000 + P : Nat) : Int)) ++ (wU (dg (psN s) (V : Int))).drop (db 4294967296 V).length = wU (dg (psN s) ((V * 1000000000 + P : Nat) : Int)) := by
        rw [← q1]
        unfold wU
        rw [List.map_append, List.map_drop]
      rw [eM] at hG
      refine (goesT_runs tabPr hG (okApp (okCons l1 (okCons (decide_eq_true (hpQ.trans hq)) hlog)) (okCons l1 (okL1 l2)))).mono fun e z he => ?_
      obtain ⟨rfl, hz1, hz2⟩ := he
      refine hstep z ?_ hz2
      rw [q2, eT]
      exact hz1
    · obtain ⟨q0, q1, q2⟩ := n4 hq
      have hG := hG true
      simp only [hpT, hpQ] at hG
      have eM : wU (dg (db 4294967296 V).length ((V * 1000000000 + P : Nat) : Int)) ++ [uu (((V * 1000000000 + P : Nat) : Int) / 4294967296 ^ (db 4294967296 V).length)] ++ (wU (dg (psN s) (V : Int))).drop ((db 4294967296 V).length + 1) = wU (dg (psN s) ((V * 1000000000 + P : Nat) : Int)) := by
        rw [← q1]
        unfold wU
        rw [List.map_append, List.map_append, List.map_drop]
        rfl
      rw [eM] at hG
      have l3 : (Nat.blt (db 4294967296 V).length (psN s) && Nat.blt (db 4294967296 V).length (wU (dg (psN s) (V : Int))).length) = true := by
        rw [blt_iff.2 q0, blt_iff.2 (by unfold wU; rw [List.length_map, dg_len]; exact q0)]
        rfl
      refine (goesT_runs tabPr hG (okApp (okCons l1 (okCons (decide_eq_true hq) (okCons l3 hlog))) (okCons l1 (okL1 l2)))).mono fun e z he => ?_
      obtain ⟨rfl, hz1, hz2⟩ := he
      refine hstep z ?_ hz2
      rw [q2, eT]
      exact hz1
  · have hms : m = s.size := by omega
    have hd : s.data.toList.drop m = [] := List.drop_eq_nil_of_le (by rw [hsz]; omega)
    rw [hd]
    refine (goesT_runs tabPr (pr_out _ v _ g) (okL1 rfl)).mono fun e z he => ?_
    obtain ⟨rfl, ⟨g', hz1⟩, hz2⟩ := he
    rw [hms] at hz1 hz2
    exact ⟨rfl, v, g', hz1, hz2⟩
theorem parse_runs {s : ByteArray} (h0 : 0 < s.size) (hs : allD s) (h2 : s.size ≤ 20000) :
    Runs (tabH Tryd.prog extY conPr hcPr) (seqs (qP9 Tryd.f33) (.seq (.block 0 (.loop (qL9 Tryd.f33))) (qE9 Tryd.f33))) ([.string s] ++ List.replicate 40 undef, ⟨0, []⟩, []) fun e z => (e = none ∨ e = some none) ∧ resS Tryd.prog Tryd.f33 z.1 z.2.1 = some (.tuple #[sl 0 0 (db 4294967296 (psV s)).length (psN s), .nilIface]) ∧ ∃ r, z.2.1.blk? 0 = some (wU (dg (psN s) ((psV s : Nat) : Int)) ++ r, tU) := by
  have hcp := capP_eq h2
  have hC : psN s < 10000 := by unfold psN; omega
  have eN : (capP s).toNat = psN s := by rw [hcp, Int.toNat_natCast]
  have hix : decide (ixV s ≥ 0) = false := decide_eq_false ((ix_digits s).2 hs)
  have hne : eqN s = false := by
    show ((⟨⟨s.data.toList⟩⟩ : ByteArray) == ⟨⟨[]⟩⟩) = false
    rw [bs_eq]
    refine decide_eq_false fun h => ?_
    have : s.size = 0 := by show s.data.toList.length = 0; rw [h]; rfl
    omega
  have hpre := pr_pre s
  rw [eN] at hpre
  have lm : okMakeB 4 0 (capP s) = true := by rw [hcp]; unfold okMakeB; exact decide_eq_true ⟨by omega, by omega, by omega, by omega⟩
  refine goesT_list tabPr hpre (okCons lm (okCons (decide_eq_false (by omega)) (okCons hix (okCons rfl (okL1 hne))))) fun g => ?_
  have z0 : ∀ n, wU (dg n 0) = List.replicate n (.int .u32 0) := by
    intro n
    induction n with
    | zero => rfl
    | succ n ih =>
      rw [List.replicate_succ, ← ih]
      rfl
  refine Runs.seq (P1 := fun e y => e = none ∧ pOut s y) ?_ ?_ (fun e y he => by cases he.1)
  · refine (Runs.forLoop (R := fun _ => False) (P := pOut s) (pInv9 s) (p_round hs h2) (n := s.size) ⟨0, undef, g, ?_, ?_, by omega, .inl rfl, rfl⟩).mono fun e z hz => ?_
    · rw [show rdV10 (dgF s) 0 = 0 from rfl, db_zero]
      rfl
    · show hW1 _ = _
      rw [show rdV10 (dgF s) 0 = 0 from rfl, show (((0 : Nat) : Nat) : Int) = 0 from rfl, z0]
    · match e, hz with
      | none, hz => exact ⟨rfl, hz⟩
  · rintro ⟨t, hh, sc⟩ ⟨_, v, g', e1, e2⟩
    simp only at e1 e2
    subst e1 e2
    have hlt : psV s < 4294967296 ^ psN s := Nat.lt_of_lt_of_le (rdV10_lt (f := dgF s) s.size fun j hj => (dgF_bd hs hj).2) (ten_cap (by unfold psN; omega))
    have hle := len_iff.2 hlt
    obtain ⟨k, hk⟩ : ∃ k, psN s = (db 4294967296 (psV s)).length + k := ⟨psN s - (db 4294967296 (psV s)).length, by omega⟩
    have ec : cutI (wU (dg (psN s) ((psV s : Nat) : Int))) 0 (db 4294967296 (psV s)).length = db 4294967296 (psV s) := by
      rw [cutI_wT, hk, dg_take]
      exact dg_db _
    have etr : trimN (cutI (wU (dg (psN s) ((psV s : Nat) : Int))) 0 (db 4294967296 (psV s)).length) = (db 4294967296 (psV s)).length := by
      rw [ec]
      exact (can_db (by omega) _).2
    have hsm : smallC (psN s) = true := blt_iff.2 (by unfold dead; omega)
    refine (goesT_runs tabPr (pr_end _ v _ _ _ g') (okL1 (wU_rowAt (dg_wds _ _) (by rw [dg_len]; omega) hle hsm))).mono fun e z he => ?_
    obtain ⟨rfl, ⟨g2, z1⟩, z2⟩ := he
    rw [etr] at z1
    refine ⟨.inr rfl, by rw [z1, z2]; rfl, [], by rw [z2, List.append_nil]; rfl⟩
/-- whether a text is digits -/
def okP (s : ByteArray) : Bool := decide (0 < s.size) && decide (¬ ixV s ≥ 0)
theorem okP_iff (s : ByteArray) : okP s = true ↔ 0 < s.size ∧ allD s := by
  unfold okP
  rw [Bool.and_eq_true, decide_eq_true_eq, decide_eq_true_eq, ix_digits]
def gPs : AnsH := fun vals h s =>
  match vals, s with
  | [.string b], .inr (.inr (.inr (.inl false))) :: s' => some (.tuple #[nilS, errV 3], h, s', [(okP b, false)])
  | [.string b], .inr (.inr (.inr (.inl true))) :: .inr (.inl V) :: s' => some (.tuple #[sl h.n 0 (db 4294967296 V.toNat).length (psN b), .nilIface], h.push (wU (dg (psN b) (V.toNat : Nat))) tU, s', [(decide (psV b = V.toNat), true), (okP b, true), (Nat.ble b.size 20000, true)])
  | _, _ => none
theorem rows0 : (⟨0, []⟩ : Hp).rows := ⟨rfl, fun b x hx => by have : b < 0 := Hp.blk_lt hx; omega⟩
theorem gPs_ok : AnsHOk 33 gPs := by
  intro vals h s v h' s' lg hg hl m B w E hv
  unfold gPs at hg
  split at hg
  · rename_i b s2
    cases hg
    have l1 := hl _ (List.mem_singleton.2 rfl)
    have hw : ∀ w, Calls Tryd.prog 33 #[.string b] w fun r w' => r = .returned (.tuple #[nilS, errV 3]) ∧ Tidy w w' := fun w => by
      by_cases h0 : b.data.toList = []
      · refine fits_calls tabPr (pr_e b) (okL1 ?_) (by rfl) (by rfl) w
        show ((⟨⟨b.data.toList⟩⟩ : ByteArray) == ⟨⟨[]⟩⟩) = true
        rw [bs_eq]
        exact decide_eq_true h0
      · have hne : eqN b = false := by
          show ((⟨⟨b.data.toList⟩⟩ : ByteArray) == ⟨⟨[]⟩⟩) = false
          rw [bs_eq]
          exact decide_eq_false h0
        have hsz : 0 < b.size := List.length_pos_iff.2 h0
        have hix : ixV b ≥ 0 := by
          rcases Classical.em (ixV b ≥ 0) with h1 | h1
          · exact h1
          · exfalso
            have : okP b = true := (okP_iff b).2 ⟨hsz, (ix_digits b).1 h1⟩
            rw [this] at l1
            cases l1
        exact fits_calls tabPr (pr_o b) (okCons (decide_eq_true hix) (okCons rfl (okL1 hne))) (by rfl) (by rfl) w
    refine (hw w).mono fun r w' hr => ?_
    obtain ⟨rfl, hc⟩ := hr
    obtain ⟨E', hb⟩ := clean_emb E hc
    exact ⟨m, by rw [mv_still (by rfl)], Agree.refl _ _, E', hb, Nat.le_refl _, by rfl⟩
  · rename_i b V s2
    cases hg
    obtain ⟨l1, q⟩ := logB hl
    obtain ⟨l2, q⟩ := logB q
    obtain ⟨l3, _⟩ := logB q
    have l1 := of_decide_eq_true l1
    obtain ⟨h0, hd⟩ := (okP_iff b).1 l2
    have h2 := Nat.le_of_ble_eq_true l3
    rw [← l1]
    have e : rn (fun _ => h.n) (Value.tuple #[sl 0 0 (db 4294967296 (psV b)).length (psN b), .nilIface]) = .tuple #[sl h.n 0 (db 4294967296 (psV b)).length (psN b), .nilIface] := by kernel_rfl
    have := row_calls1 (T := tabH Tryd.prog extY conPr hcPr) Tryd.func33 pr_body (h0 := ⟨0, []⟩) rows0 (vals := [.string b]) (fun v hv => by rw [List.mem_singleton.1 hv]; rfl) (k := 0) (cs := wU (dg (psN b) ((psV b : Nat) : Int))) (ty := tU) (wU_lt _) (by kernel_rfl) (parse_runs h0 hd h2).w (by rfl) E (s := fun i => i) (fun i x hx => by have : i < 0 := Hp.blk_lt hx; omega)
    rw [e] at this
    exact this
  · cases hg
end Go.Proofs.YtbjgkhbhabdjgaaDoor

/-
  The document's product by a small number (tillerref02.Small): its pieces.
-/
namespace Go.Proofs.YtbjgkhbhabdjgaaDoor
open Go.KRun Go.Nt
set_option maxRecDepth 100000
set_option linter.unusedVariables false

def sPre (F : Func) : List Code := [cFst (cBody F), cFst (cSnd (cBody F)), cFst (cSnd (cSnd (cBody F)))]
def sR3J (F : Func) : Code := cFst (cFst (cSnd (cSnd (cSnd (cBody F)))))
def sLoop (F : Func) : Code := cIn (cIn (cSnd (cFst (cSnd (cSnd (cSnd (cBody F)))))))
def sEnd (F : Func) : Code := cSnd (cSnd (cSnd (cSnd (cBody F))))
theorem usm_body : Tryd.f50.body = some (seqs (sPre Tryd.f50) (.seq (.seq (sR3J Tryd.f50) (.block 0 (.loop (sLoop Tryd.f50)))) (sEnd Tryd.f50))) := by kernel_rfl
def sv (A : List Int) (b c i : Int) : Int := IntKind.u64.wrap (c + IntKind.u64.wrap (IntKind.u64.wrap (atN A i) * IntKind.u64.wrap b))
def hs1' (x : List Value × TypeId) : Hp := ⟨1, [x]⟩
def hs2' (lo : List Value) (x : List Value × TypeId) : Hp := ⟨2, [(lo, tU), x]⟩
def sScr (w : Nat) : List Dec := match w with | 0 => [cmp true] | _ => [cmp false, cmp true]
def sLog (w : Nat) (n : Nat) (k i : Int) : Log := match w with | 0 => [(decide (i < n), true)] | _ => [(decide (k > 0), true), (decide (i < n), false)]
def rP' (h : Hp) (p : Option Addr) (n c : Nat) : Bool × Bool := (rowP h p n c, true)
theorem usm_pre (p : Option Addr) (n c : Nat) (b e : Int) (h : Hp) : GoesT (evL (tabH Tryd.prog extY conN hcV) 100 (sPre Tryd.f50) ([.slice p n c, .int .u32 b, .int .u32 e] ++ List.replicate 38 undef, h, []) ⟨[], [], []⟩) 9 32 none [.slice p n c, .int .u32 b, .int .u32 e, undef, undef, undef, nilS, nilS, .int .u64 (IntKind.u64.wrap e)] h [] := ⟨by kernel_rfl, by kernel_rfl, by kernel_rfl⟩
theorem usm_r3 (p : Option Addr) (n c : Nat) (b e k : Int) (h : Hp) (g : Nat → Value) : GoesT (evC (tabH Tryd.prog extY conN hcV) 100 false (sR3J Tryd.f50) ([.slice p n c, .int .u32 b, .int .u32 e, undef, undef, undef, nilS, nilS, .int .u64 k] ++ tl 32 g, h, []) ⟨[], [], []⟩) 10 31 none [.slice p n c, .int .u32 b, .int .u32 e, undef, undef, undef, nilS, nilS, .int .u64 k, .int .i64 0] h [] := ⟨by kernel_rfl, by kernel_rfl, by kernel_rfl⟩
theorem usm_nil0 (p : Option Addr) (n c : Nat) (b e k i : Int) (x : List Value × TypeId) (g : Nat → Value) : GoesT (evC (tabH Tryd.prog extY conN hcV) 100 false (sLoop Tryd.f50) ([.slice p n c, .int .u32 b, .int .u32 e, undef, undef, undef, nilS, nilS, .int .u64 k, .int .i64 i] ++ tl 31 g, hs1' x, sScr 0 ++ [cmp true]) ⟨[], [], []⟩) 10 31 none [.slice p n c, .int .u32 b, .int .u32 e, undef, undef, undef, nilS, sl 2 0 1 grown, .int .u64 (IntKind.u64.wrap ((sv (rowOf (hs1' x) p n) b k i).tdiv 65536)), .int .i64 (IntKind.i64.wrap (i + 1))] ⟨3, [([.int .u32 (IntKind.u32.wrap ((sv (rowOf (hs1' x) p n) b k i).tmod 65536))], tU), ([.int .u32 (IntKind.u32.wrap ((sv (rowOf (hs1' x) p n) b k i).tmod 65536))], tU), x]⟩ ((decide ((65536 : Int) = 0), false) :: rP' (hs1' x) p n c :: sLog 0 n k i) := ⟨by kernel_rfl, by kernel_rfl, by kernel_rfl⟩
theorem usm_nil1 (p : Option Addr) (n c : Nat) (b e k i : Int) (x : List Value × TypeId) (g : Nat → Value) : GoesT (evC (tabH Tryd.prog extY conN hcV) 100 false (sLoop Tryd.f50) ([.slice p n c, .int .u32 b, .int .u32 e, undef, undef, undef, nilS, nilS, .int .u64 k, .int .i64 i] ++ tl 31 g, hs1' x, sScr 1 ++ [cmp true]) ⟨[], [], []⟩) 10 31 none [.slice p n c, .int .u32 b, .int .u32 e, undef, undef, undef, nilS, sl 2 0 1 grown, .int .u64 (IntKind.u64.wrap ((sv (rowOf (hs1' x) p n) b k i).tdiv 65536)), .int .i64 (IntKind.i64.wrap (i + 1))] ⟨3, [([.int .u32 (IntKind.u32.wrap ((sv (rowOf (hs1' x) p n) b k i).tmod 65536))], tU), ([.int .u32 (IntKind.u32.wrap ((sv (rowOf (hs1' x) p n) b k i).tmod 65536))], tU), x]⟩ ((decide ((65536 : Int) = 0), false) :: rP' (hs1' x) p n c :: sLog 1 n k i) := ⟨by kernel_rfl, by kernel_rfl, by kernel_rfl⟩
theorem usm_some0 (p : Option Addr) (n c z : Nat) (b e k i : Int) (x : List Value × TypeId) (lo : List Value) (g : Nat → Value) : GoesT (evC (tabH Tryd.prog extY conN hcV) 100 false (sLoop Tryd.f50) ([.slice p n c, .int .u32 b, .int .u32 e, undef, undef, undef, nilS, sl 1 0 z grown, .int .u64 k, .int .i64 i] ++ tl 31 g, hs2' lo x, sScr 0 ++ [cmp true, at_]) ⟨[], [], []⟩) 10 31 none [.slice p n c, .int .u32 b, .int .u32 e, undef, undef, undef, nilS, sl 3 0 (z + 1) grown, .int .u64 (IntKind.u64.wrap ((sv (rowOf (hs2' lo x) p n) b k i).tdiv 65536)), .int .i64 (IntKind.i64.wrap (i + 1))] ⟨4, [(lo ++ [.int .u32 (IntKind.u32.wrap ((sv (rowOf (hs2' lo x) p n) b k i).tmod 65536))], tU), ([.int .u32 (IntKind.u32.wrap ((sv (rowOf (hs2' lo x) p n) b k i).tmod 65536))], tU), ([], 2 * dead), x]⟩ ((appChk tU (lo, tU) ([.int .u32 (IntKind.u32.wrap ((sv (rowOf (hs2' lo x) p n) b k i).tmod 65536))], tU) z 0 1, true) :: (decide ((65536 : Int) = 0), false) :: rP' (hs2' lo x) p n c :: sLog 0 n k i) := ⟨by kernel_rfl, by kernel_rfl, by kernel_rfl⟩
theorem usm_some1 (p : Option Addr) (n c z : Nat) (b e k i : Int) (x : List Value × TypeId) (lo : List Value) (g : Nat → Value) : GoesT (evC (tabH Tryd.prog extY conN hcV) 100 false (sLoop Tryd.f50) ([.slice p n c, .int .u32 b, .int .u32 e, undef, undef, undef, nilS, sl 1 0 z grown, .int .u64 k, .int .i64 i] ++ tl 31 g, hs2' lo x, sScr 1 ++ [cmp true, at_]) ⟨[], [], []⟩) 10 31 none [.slice p n c, .int .u32 b, .int .u32 e, undef, undef, undef, nilS, sl 3 0 (z + 1) grown, .int .u64 (IntKind.u64.wrap ((sv (rowOf (hs2' lo x) p n) b k i).tdiv 65536)), .int .i64 (IntKind.i64.wrap (i + 1))] ⟨4, [(lo ++ [.int .u32 (IntKind.u32.wrap ((sv (rowOf (hs2' lo x) p n) b k i).tmod 65536))], tU), ([.int .u32 (IntKind.u32.wrap ((sv (rowOf (hs2' lo x) p n) b k i).tmod 65536))], tU), ([], 2 * dead), x]⟩ ((appChk tU (lo, tU) ([.int .u32 (IntKind.u32.wrap ((sv (rowOf (hs2' lo x) p n) b k i).tmod 65536))], tU) z 0 1, true) :: (decide ((65536 : Int) = 0), false) :: rP' (hs2' lo x) p n c :: sLog 1 n k i) := ⟨by kernel_rfl, by kernel_rfl, by kernel_rfl⟩
theorem usm_out (p : Option Addr) (n c : Nat) (b e k i : Int) (v : Value) (h : Hp) (g : Nat → Value) : GoesT (evC (tabH Tryd.prog extY conN hcV) 100 false (sLoop Tryd.f50) ([.slice p n c, .int .u32 b, .int .u32 e, undef, undef, undef, nilS, v, .int .u64 k, .int .i64 i] ++ tl 31 g, h, [cmp false, cmp false]) ⟨[], [], []⟩) 10 31 (some (some 0)) [.slice p n c, .int .u32 b, .int .u32 e, undef, undef, undef, nilS, v, .int .u64 k, .int .i64 i] h [(decide (k > 0), false), (decide (i < n), false)] := ⟨by kernel_rfl, by kernel_rfl, by kernel_rfl⟩
theorem usm_end (p : Option Addr) (n c z : Nat) (b e k i : Int) (x : List Value × TypeId) (lo : List Value) (g : Nat → Value) : GoesT (evC (tabH Tryd.prog extY conN hcV) 100 false (sEnd Tryd.f50) ([.slice p n c, .int .u32 b, .int .u32 e, undef, undef, undef, nilS, sl 1 0 z grown, .int .u64 k, .int .i64 i] ++ tl 31 g, hs2' lo x, []) ⟨[], [], []⟩) 7 34 (some none) [.slice p n c, .int .u32 b, .int .u32 e, undef, undef, undef, sl 1 0 (trimN (cutI lo 0 z)) (trimN (cutI lo 0 z))] (hs2' lo x) [(rowC tU lo 0 z grown, true)] := ⟨by kernel_rfl, by kernel_rfl, by kernel_rfl⟩
theorem usm_empty (p : Option Addr) (n c : Nat) (b e : Int) (h : Hp) : GoesT (evC (tabH Tryd.prog extY conN hcV) 100 false (cBody Tryd.f50) ([.slice p n c, .int .u32 b, .int .u32 e] ++ List.replicate 38 undef, h, [cmp false, cmp false]) ⟨[], [], []⟩) 7 34 (some none) [.slice p n c, .int .u32 b, .int .u32 e, undef, undef, undef, nilS] h [(decide (IntKind.u64.wrap e > 0), false), (decide ((0 : Int) < n), false)] := ⟨by kernel_rfl, by kernel_rfl, by kernel_rfl⟩
end Go.Proofs.YtbjgkhbhabdjgaaDoor
