/-
  ShR, ShS, ShT, ShV, RowN
-/
import Derived.Test.YtgefjidphfdhdaaGreatDoorG21
import Derived.Lib.LaidTab
import Derived.ChangeSame
import Derived.RowKit
namespace Go.Proofs.YtgefjidphfdhdaaGreatDoor
open Go.KRun Go.Nt Go.Rd Go.Wd Go.Pt
set_option maxRecDepth 100000
def errV14 (k : Int) : Value := .iface 69 (.int .i64 k)
theorem dg14_a (p n m : Int) : Fits (reckonAt (tabH Tryz.prog extY conSS hcSS) hT0 200 12 [.int .u64 p, .int .i64 n, .int .i64 m] [cmp true]) (.tuple #[bR [], errV14 1]) [(decide (n < 1), true)] := ⟨by kernel_rfl, by kernel_rfl, by kernel_rfl, by kernel_rfl⟩
theorem dg14_b (p n m : Int) : Fits (reckonAt (tabH Tryz.prog extY conSS hcSS) hT0 200 12 [.int .u64 p, .int .i64 n, .int .i64 m] [cmp false, cmp true]) (.tuple #[bR [], errV14 1]) [(decide (n > 1000), true), (decide (n < 1), false)] := ⟨by kernel_rfl, by kernel_rfl, by kernel_rfl, by kernel_rfl⟩
theorem dg14_n (p n m : Int) : Fits (reckonAt (tabH Tryz.prog extY conSS hcSS) hT0 200 12 [.int .u64 p, .int .i64 n, .int .i64 m] [cmp false, cmp false, cmp false]) (.tuple #[bR (nmL (sgn p) (cl p)), .nilIface]) [(decide (cl p ≤ 2), false), (decide (U p), true), (decide (U p), true), (decide (n > 1000), false), (decide (n < 1), false)] := ⟨by kernel_rfl, by kernel_rfl, by kernel_rfl, by kernel_rfl⟩
theorem dg14_z (p n m : Int) : Fits (reckonAt (tabH Tryz.prog extY conSS hcSS) hT0 200 12 [.int .u64 p, .int .i64 n, .int .i64 m] [cmp false, cmp false, cmp true, cmp true]) (.tuple #[bR (txL (sgn p) (List.replicate n.toNat 48) 0), .nilIface]) [(decide (1 ≤ (List.replicate n.toNat (48 : UInt8)).length ∧ (List.replicate n.toNat (48 : UInt8)).length ≤ 100000 ∧ Int.natAbs 0 ≤ 2000000), true), (decide (0 ≤ n ∧ n ≤ 100000), true), (cl p == 0, true), (decide (cl p ≤ 2), true), (decide (U p), true), (decide (U p), true), (decide (n > 1000), false), (decide (n < 1), false)] := ⟨by kernel_rfl, by kernel_rfl, by kernel_rfl, by kernel_rfl⟩
def aD (p : Int) : List UInt8 := decS (wAll (sg p).toNat (xp p))
def aE (p : Int) : Int := ((aD p).length : Int) - 1 - (wzN (xp p) : Nat)
def aR (p n m : Int) : List UInt8 × Int := rnD (aD p) (aE p) n.toNat (sgn p) m
theorem dg14_f (p n m : Int) : Fits (reckonAt (tabH Tryz.prog extY conSS hcSS) hT0 200 12 [.int .u64 p, .int .i64 n, .int .i64 m] [cmp false, cmp false, cmp true, cmp false]) (.tuple #[bR (txL (sgn p) (aR p n m).1 (aR p n m).2), .nilIface]) [(decide (1 ≤ (aR p n m).1.length ∧ (aR p n m).1.length ≤ 100000 ∧ (aR p n m).2.natAbs ≤ 2000000), true), (allB 10 (aD p), true), (decide ((1 ≤ (aD p).length ∧ (aD p).length ≤ 90000) ∧ (1 ≤ n ∧ n ≤ 1000) ∧ (-100000 ≤ aE p ∧ aE p ≤ 100000)), true), (decide (1 ≤ sg p ∧ sg p < 9007199254740992 ∧ -1074 ≤ xp p ∧ xp p ≤ 972), true), (cl p == 0, false), (decide (cl p ≤ 2), true), (decide (U p), true), (decide (U p), true), (decide (n > 1000), false), (decide (n < 1), false)] := ⟨by kernel_rfl, by kernel_rfl, by kernel_rfl, by kernel_rfl⟩
/-- the text of n digits of any pattern -/
def dgT14 (p : Int) (n : Nat) (m : Int) : List UInt8 := if spK p ≠ 0 then spL (spK p) else if cl p = 0 then txL (sgn p) (List.replicate n 48) 0 else dgS14 p n m
theorem rnD_bd {D : List UInt8} {e : Int} {n : Nat} {mn : Bool} {m : Int} : (rnD D e n mn m).1.length = n ∧ e ≤ (rnD D e n mn m).2 ∧ (rnD D e n mn m).2 ≤ e + 1 := by
  unfold rnD
  by_cases h : D.length ≤ n
  · rw [if_pos h]
    refine ⟨?_, Int.le_refl _, by omega⟩
    show (D ++ List.replicate (n - D.length) 48).length = n
    rw [List.length_append, List.length_replicate]
    omega
  · rw [if_neg h]
    have lt : (D.take n).length = n := by rw [List.length_take]; omega
    split
    · obtain ⟨n1, n2⟩ := nxt_len (l := D.take n)
      refine ⟨?_, ?_, ?_⟩
      · show ((nxt14 (D.take n)).take n).length = n
        rw [List.length_take]
        omega
      · show e ≤ e + ((nxt14 (D.take n)).length : Nat) - n
        omega
      · show e + ((nxt14 (D.take n)).length : Nat) - n ≤ e + 1
        omega
    · refine ⟨?_, ?_, ?_⟩
      · show ((D.take n).take n).length = n
        rw [List.length_take]
        omega
      · show e ≤ e + ((D.take n).length : Nat) - n
        omega
      · show e + ((D.take n).length : Nat) - n ≤ e + 1
        omega
theorem dgT_calls (p : Int) (hp : U p) (n : Nat) (hn : 1 ≤ n ∧ n ≤ 1000) (m : Int) (w : World) (hk : knT w) : Calls Tryz.prog 12 #[.int .u64 p, .int .i64 n, .int .i64 m] w fun e w' => e = .returned (.tuple #[bR (dgT14 p n m), .nilIface]) ∧ Tidy w w' := by
  have hu : decide (U p) = true := decide_eq_true hp
  have k0 : okLog [(decide (((n : Nat) : Int) > 1000), false), (decide (((n : Nat) : Int) < 1), false)] := okCons (decide_eq_false (by omega)) (okL1 (decide_eq_false (by omega)))
  have k0 := okCons hu (okCons hu k0)
  unfold dgT14
  by_cases h2 : cl p ≤ 2
  · have k0 := okCons (show decide (cl p ≤ 2) = true from decide_eq_true h2) k0
    rw [if_neg (fun c => c (fin_sp h2))]
    by_cases h0 : cl p = 0
    · rw [if_pos h0]
      have f := dg14_z p n m
      rw [Int.toNat_natCast] at f
      exact fitsT tabSS f (okCons (decide_eq_true ⟨by rw [List.length_replicate]; omega, by rw [List.length_replicate]; omega, by decide⟩) (okCons (decide_eq_true (by omega)) (okCons (beqR_t h0) k0))) (by rfl) (by rfl) hk
    · rw [if_neg h0]
      have hf := fin14_B (fin_of h2 h0)
      have hW := all_ne (xp p) hf.ne
      obtain ⟨l1, l2, l3⟩ := decS_len14 hW
      have hT := rnD_is hf hn.1 m l1 l2 l3
      rw [← decS_decF hW] at hT
      have f := dg14_f p n m
      have et : txL (sgn p) (aR p n m).1 (aR p n m).2 = dgS14 p n m := by
        unfold aR
        rw [Int.toNat_natCast]
        exact hT
      rw [et] at f
      have q0 := Go.Rn.sg_lt p
      have q1 := hf.ne
      have x0 := hf.e0
      have x1 := hf.e1
      obtain ⟨K, hK⟩ : ∃ K, K = 1074 := ⟨_, rfl⟩
      have wl := wAll_lt hf.s1 ⟨x0, x1⟩ K hK
      have lb : (aD p).length ≤ 16 + K := by
        rcases Nat.lt_or_ge (16 + K) (aD p).length with c | c
        · have := Nat.pow_le_pow_right (n := 10) (by omega) (show 16 + K ≤ (aD p).length - 1 by omega)
          have l2' : 10 ^ ((aD p).length - 1) ≤ wAll (sg p).toNat (xp p) := l2
          omega
        · exact c
      have zb : wzN (xp p) ≤ 1074 := by unfold wzN; omega
      have l1' : 1 ≤ (aD p).length := l1
      have eb : -2000 ≤ aE p ∧ aE p ≤ 2000 := by unfold aE; omega
      obtain ⟨r1, r2, r3⟩ := rnD_bd (D := aD p) (e := aE p) (n := (n : Int).toNat) (mn := sgn p) (m := m)
      rw [Int.toNat_natCast] at r1
      have al : allB 10 (aD p) = true := by
        have : aD p = decF (aD p).length (wAll (sg p).toNat (xp p)) := decS_decF hW
        rw [this]
        exact decF_all _ _ 10
      refine fitsT tabSS f (okCons (decide_eq_true ?_) (okCons al (okCons (decide_eq_true ⟨⟨l1', by omega⟩, ⟨by omega, by omega⟩, by omega, by omega⟩) (okCons (decide_eq_true ⟨by omega, by omega, x0, x1⟩) (okCons (beqR_f h0) k0))))) (by rfl) (by rfl) hk
      have e1 : (aR p n m).1.length = n := by unfold aR; rw [Int.toNat_natCast]; exact r1
      have e2 : aE p ≤ (aR p n m).2 ∧ (aR p n m).2 ≤ aE p + 1 := ⟨r2, r3⟩
      omega
  · obtain ⟨a, b⟩ := nm_sp hp h2
    rw [if_pos a, ← b]
    exact fitsT tabSS (dg14_n p n m) (okCons (decide_eq_false h2) k0) (by rfl) (by rfl) hk
/-- told ahead whether there may be so many digits -/
def gDgT : Ans := fun vals s =>
  match vals, s with
  | [.int .u64 p, .int .i64 n, .int .i64 m], .inr (.inr (.inr (.inl true))) :: s' => some (.tuple #[bR (dgT14 p n.toNat m), .nilIface], s', [(decide (1 ≤ n ∧ n ≤ 1000), true), (decide (U p), true)])
  | [.int .u64 _, .int .i64 n, .int .i64 _], .inr (.inr (.inr (.inl false))) :: s' => some (.tuple #[bR [], errV14 1], s', [(decide (1 ≤ n ∧ n ≤ 1000), false)])
  | _, _ => none
theorem gDgT_ok : AnsTOk 12 gDgT := by
  intro vals s v s' lg h hl w hk
  unfold gDgT at h
  split at h
  · rename_i p n m s2
    cases h
    obtain ⟨l1, l2⟩ := of_decide_eq_true (hl _ List.mem_cons_self)
    have l3 := of_decide_eq_true (hl _ (List.mem_cons_of_mem _ (List.mem_singleton.2 rfl)))
    obtain ⟨k, rfl⟩ : ∃ k : Nat, n = k := ⟨n.toNat, by omega⟩
    exact dgT_calls p l3 k (by omega) m w hk
  · rename_i p n m s2
    cases h
    have l1 := of_decide_eq_false (hl _ (List.mem_singleton.2 rfl))
    by_cases c : n < 1
    · exact fitsT tabSS (dg14_a p n m) (okL1 (decide_eq_true c)) (by rfl) (by rfl) hk
    · exact fitsT tabSS (dg14_b p n m) (okCons (decide_eq_true (by omega)) (okL1 (decide_eq_false c))) (by rfl) (by rfl) hk
  · cases h
theorem hex14_ok : AnsOk 43 (gU fun p => .string (hxW p)) := gU_ok hex_calls
def conHH : Con := alt 20 (gU vT) (alt 22 gNam (alt 44 gSgn (alt 45 gPtd (alt 43 (gU fun p => .string (hxW p)) (alt 42 gTrA conN)))))
theorem conHH_ok : ConOk conHH := alt_ok Tryz.func20 rfl take14_ok (alt_ok Tryz.func22 rfl gNam_ok (alt_ok Tryz.func44 rfl gSgn_ok (alt_ok Tryz.func45 rfl gPtd_ok (alt_ok Tryz.func43 rfl hex14_ok (alt_ok Tryz.func42 rfl gTrA_ok conN_ok)))))
theorem tabHH : TabOk (tabH Tryz.prog extY conHH hcDt) := tabH_ok conHH_ok hcDt_ok
/-- the digits of the fraction, and what is written of them -/
def hfD (p : Int) : List UInt8 := (hxW p).data.toList.drop 3
def hfT (p : Int) (c : UInt8) : List UInt8 := ptL ([c] ++ trC 48 (hfD p))
def hfW (p : Int) (c : UInt8) (x : Int) : List UInt8 := (((mnL (sgn p) ++ [48, 120]) ++ hfT p c) ++ [112]) ++ expL x
def lHf (p : Int) (c : UInt8) (x : Int) (l : Log) : Log := (decide ((((mnL (sgn p) ++ [48, 120]) ++ hfT p c) ++ [112]).length + (expL x).length ≤ 9223372036854775807), true) :: (decide (x.natAbs ≤ 2000000), true) :: (decide (((mnL (sgn p) ++ [48, 120]) ++ hfT p c).length + 1 ≤ 9223372036854775807), true) :: (decide ((mnL (sgn p) ++ [48, 120]).length + (hfT p c).length ≤ 9223372036854775807), true) :: (decide (1 ≤ ([c] ++ trC 48 (hfD p)).length ∧ ([c] ++ trC 48 (hfD p)).length ≤ 100000), true) :: (decide (1 + (trC 48 (hfD p)).length ≤ 9223372036854775807), true) :: (decide ((mnL (sgn p)).length + 2 ≤ 9223372036854775807), true) :: (true, true) :: (decide ((hfD p).length ≤ 100000), true) :: (true, true) :: (decide (U p), true) :: l
theorem hx14_n (p : Int) : Fits (reckonAt (tabH Tryz.prog extY conHH hcDt) hT0 200 15 [.int .u64 p] [cmp false, cmp false, cmp false]) (bR (nmL (sgn p) (cl p))) [(cl p == 2, false), (cl p == 1, false), (cl p == 0, false), (decide (U p), true)] := ⟨by kernel_rfl, by kernel_rfl, by kernel_rfl, by kernel_rfl⟩
theorem hx14_z (p : Int) : Fits (reckonAt (tabH Tryz.prog extY conHH hcDt) hT0 200 15 [.int .u64 p] [cmp true, sam true, sam true, sam true, sam true, sam true, sam true]) (bR (hfW p 48 0)) (lHf p 48 0 [(cl p == 0, true), (decide (U p), true)]) := ⟨by kernel_rfl, by kernel_rfl, by kernel_rfl, by kernel_rfl⟩
theorem hx14_t (p : Int) : Fits (reckonAt (tabH Tryz.prog extY conHH hcDt) hT0 200 15 [.int .u64 p] [cmp false, cmp true, sam true, sam true, sam true, sam true, sam true, sam true]) (bR (hfW p 48 (IntKind.i64.wrap (xp p + 52)))) (lHf p 48 (IntKind.i64.wrap (xp p + 52)) [(cl p == 1, true), (cl p == 0, false), (decide (U p), true)]) := ⟨by kernel_rfl, by kernel_rfl, by kernel_rfl, by kernel_rfl⟩
theorem hx14_p (p : Int) : Fits (reckonAt (tabH Tryz.prog extY conHH hcDt) hT0 200 15 [.int .u64 p] [cmp false, cmp false, cmp true, sam true, sam true, sam true, sam true, sam true, sam true]) (bR (hfW p 49 (IntKind.i64.wrap (xp p + 52)))) (lHf p 49 (IntKind.i64.wrap (xp p + 52)) [(cl p == 2, true), (cl p == 1, false), (cl p == 0, false), (decide (U p), true)]) := ⟨by kernel_rfl, by kernel_rfl, by kernel_rfl, by kernel_rfl⟩
theorem hSn_div (p : Int) : ∀ k : Nat, hSn p k = p / 16 ^ k
  | 0 => by show p = p / 16 ^ 0; rw [Int.pow_zero, Int.ediv_one]
  | k + 1 => by
    show hSx (hSn p k) = _
    rw [hSn_div p k]
    unfold hSx
    have e : (2 : Int) ^ min (Int.toNat 4) 64 = 16 := rfl
    rw [e, Int.fdiv_eq_ediv_of_nonneg _ (by omega), Int.ediv_ediv_of_nonneg (Int.le_of_lt (Int.pow_pos (by omega))), Int.pow_succ]
theorem hBx_mod {q r : Int} (hq : U q) (hr : U r) (h : q % 16 = r % 16) : hBx q = hBx r := by
  unfold hBx hC
  have e : ∀ q : Int, U q → bAnd q 15 = q % 16 := fun q hq => by
    rw [bAnd_mask 0 4 hq (by rfl) (by decide)]
    have e0 : (2 : Int) ^ 0 = 1 := rfl
    have e4 : (2 : Int) ^ 4 = 16 := rfl
    rw [e0, e4]
    omega
  rw [e q hq, e r hr, h]
theorem U_div14 {p : Int} (hp : U p) (k : Nat) : U (p / 16 ^ k) := by
  have h1 : (0 : Int) < 16 ^ k := Int.pow_pos (by omega)
  unfold U at hp ⊢
  exact ⟨Int.ediv_nonneg hp.1 (by omega), Int.lt_of_le_of_lt (Int.ediv_le_self _ hp.1) hp.2⟩
theorem hfD_fr {p : Int} (hp : U p) : hfD p = hd14 p := by
  have key : ∀ k : Nat, k ≤ 12 → hBx (hSn p k) = hBx (hSn (fr14 p) k) := fun k hk => by
    rw [hSn_div, hSn_div]
    have hf : fr14 p = p % 4503599627370496 := by
      unfold fr14
      have h1 := fr_lt p
      have h2 : fr p = p % 4503599627370496 := rfl
      have h3 : 0 ≤ sg p := (Go.Rn.sg_lt p).1
      rw [Int.tmod_eq_emod_of_nonneg h3, ← h2]
      unfold sg
      split
      · omega
      · split <;> omega
    have hu : U (fr14 p) := by rw [hf]; unfold U; omega
    refine hBx_mod (U_div14 hp k) (U_div14 hu k) ?_
    rw [hf]
    rcases (show k = 0 ∨ k = 1 ∨ k = 2 ∨ k = 3 ∨ k = 4 ∨ k = 5 ∨ k = 6 ∨ k = 7 ∨ k = 8 ∨ k = 9 ∨ k = 10 ∨ k = 11 ∨ k = 12 by omega) with rfl | rfl | rfl | rfl | rfl | rfl | rfl | rfl | rfl | rfl | rfl | rfl | rfl
    all_goals
      simp only [show (16 : Int) ^ 0 = 1 from rfl, show (16 : Int) ^ 1 = 16 from rfl, show (16 : Int) ^ 2 = 256 from rfl, show (16 : Int) ^ 3 = 4096 from rfl, show (16 : Int) ^ 4 = 65536 from rfl, show (16 : Int) ^ 5 = 1048576 from rfl, show (16 : Int) ^ 6 = 16777216 from rfl, show (16 : Int) ^ 7 = 268435456 from rfl, show (16 : Int) ^ 8 = 4294967296 from rfl, show (16 : Int) ^ 9 = 68719476736 from rfl, show (16 : Int) ^ 10 = 1099511627776 from rfl, show (16 : Int) ^ 11 = 17592186044416 from rfl, show (16 : Int) ^ 12 = 281474976710656 from rfl]
      omega
  unfold hfD hd14 hxW
  show [hBx (hSn p 12), hBx (hSn p 11), hBx (hSn p 10), hBx (hSn p 9), hBx (hSn p 8), hBx (hSn p 7), hBx (hSn p 6), hBx (hSn p 5), hBx (hSn p 4), hBx (hSn p 3), hBx (hSn p 2), hBx (hSn p 1), hBx (hSn p 0)] = [hBx (hSn (fr14 p) 12), hBx (hSn (fr14 p) 11), hBx (hSn (fr14 p) 10), hBx (hSn (fr14 p) 9), hBx (hSn (fr14 p) 8), hBx (hSn (fr14 p) 7), hBx (hSn (fr14 p) 6), hBx (hSn (fr14 p) 5), hBx (hSn (fr14 p) 4), hBx (hSn (fr14 p) 3), hBx (hSn (fr14 p) 2), hBx (hSn (fr14 p) 1), hBx (hSn (fr14 p) 0)]
  rw [key 12 (by omega), key 11 (by omega), key 10 (by omega), key 9 (by omega), key 8 (by omega), key 7 (by omega), key 6 (by omega), key 5 (by omega), key 4 (by omega), key 3 (by omega), key 2 (by omega), key 1 (by omega), key 0 (by omega)]
theorem hfW_is {p : Int} (hp : U p) (c : UInt8) (x : Int) : hfW p c x = hexT (sgn p) c (trR (hd14 p)) x := by
  unfold hfW hfT hexT mnL
  rw [hfD_fr hp, trC_48]
  cases trR (hd14 p) with
  | nil => simp [ptL]
  | cons a r => simp [ptL]
theorem hd_zero {p : Int} (h : fr14 p = 0) : trR (hd14 p) = [] := by
  unfold hd14
  rw [h]
  decide
theorem lHf_ok {p : Int} (hp : U p) (c : UInt8) {x : Int} (hx : x.natAbs ≤ 2000000) {l : Log} (hl : okLog l) : okLog (lHf p c x l) := by
  have l0 : (hfD p).length = 13 := rfl
  have l1 := mnL_len (sgn p)
  have l2 := trC_len 48 (hfD p)
  have l3 := ptL_len ([c] ++ trC 48 (hfD p))
  have l4 := expL_len x
  have l5 : ([c] ++ trC 48 (hfD p)).length = 1 + (trC 48 (hfD p)).length := by rw [List.length_append]; rfl
  have l6 : (hfT p c).length ≤ ([c] ++ trC 48 (hfD p)).length + 1 := l3
  have l7 : (mnL (sgn p) ++ [48, 120]).length = (mnL (sgn p)).length + 2 := by rw [List.length_append]; rfl
  have l8 : ((mnL (sgn p) ++ [48, 120]) ++ hfT p c).length = (mnL (sgn p)).length + 2 + (hfT p c).length := by rw [List.length_append, l7]
  have l9 : (((mnL (sgn p) ++ [48, 120]) ++ hfT p c) ++ [112]).length = (mnL (sgn p)).length + 2 + (hfT p c).length + 1 := by rw [List.length_append, l8]; rfl
  exact okCons (decide_eq_true (by omega)) (okCons (decide_eq_true hx) (okCons (decide_eq_true (by omega)) (okCons (decide_eq_true (by omega)) (okCons (decide_eq_true (by omega)) (okCons (decide_eq_true (by omega)) (okCons (decide_eq_true (by omega)) (okCons rfl (okCons (decide_eq_true (by omega)) (okCons rfl (okCons (decide_eq_true hp) hl))))))))))
theorem hxP_calls (p : Int) (hp : U p) (w : World) (hk : knT w) : Calls Tryz.prog 15 #[.int .u64 p] w fun e w' => e = .returned (bR (hx14 p)) ∧ Tidy w w' := by
  have hu : decide (U p) = true := decide_eq_true hp
  have xb := Go.Rn.xp_bd p
  have ew : IntKind.i64.wrap (xp p + 52) = xp p + 52 := wrapI (by omega) (by omega)
  unfold hx14
  by_cases h2 : cl p ≤ 2
  · rw [if_neg (fun c => c (fin_sp h2))]
    by_cases h0 : cl p = 0
    · have hf : fr14 p = 0 := by
        unfold fr14
        have : sg p = 0 := by
          unfold cl at h0
          unfold sg
          split at h0
          · rename_i c
            rw [if_pos c]
            split at h0
            · assumption
            · omega
          · split at h0
            · split at h0
              · omega
              · split at h0 <;> omega
            · omega
        rw [this]
        rfl
      have f := hx14_z p
      rw [hfW_is hp, hd_zero hf] at f
      rw [if_pos h0]
      have e : hexT (sgn p) 48 [] 0 = (if sgn p = true then [45] else []) ++ [48, 120, 48, 112, 48] := by
        unfold hexT
        rfl
      rw [e] at f
      exact fitsT tabHH f (lHf_ok hp 48 (by decide) (okCons (beqR_t h0) (okL1 hu))) (by rfl) (by rfl) hk
    · rw [if_neg h0]
      by_cases h1 : cl p = 1
      · have ex0 : xp p = -1074 := by
          have := cl_cases p
          unfold xp
          rcases this with ⟨a, _⟩ | ⟨a, b⟩ | ⟨a, b, c⟩
          · rw [if_pos a]
          · omega
          · omega
        have f := hx14_t p
        rw [hfW_is hp, ew, show xp p + 52 = -1022 by omega] at f
        rw [if_pos h1]
        exact fitsT tabHH f (lHf_ok hp 48 (by decide) (okCons (beqR_t h1) (okCons (beqR_f h0) (okL1 hu)))) (by rfl) (by rfl) hk
      · rw [if_neg h1]
        have h3 : cl p = 2 := by have := cl_cases p; omega
        have f := hx14_p p
        rw [hfW_is hp, ew] at f
        have lk := lHf_ok hp 49 (x := xp p + 52) (by omega) (okCons (beqR_t h3) (okCons (beqR_f h1) (okCons (beqR_f h0) (okL1 hu))))
        exact fitsT tabHH f lk (by rfl) (by rfl) hk
  · obtain ⟨a, b⟩ := nm_sp hp h2
    rw [if_pos a, ← b]
    exact fitsT tabHH (hx14_n p) (okCons (beqR_f (by omega)) (okCons (beqR_f (by omega)) (okCons (beqR_f (by omega)) (okL1 hu)))) (by rfl) (by rfl) hk
/-! ### as contracts -/
def gSoT : Ans := gU fun p => bR (shT p)
theorem gSoT_ok : AnsTOk 9 gSoT := by
  intro vals s v s' lg h hl w hk
  unfold gSoT gU at h
  split at h
  · cases h
    exact so_calls _ (of_decide_eq_true (hl _ (List.mem_singleton.2 rfl))) w hk
  · cases h
def gHxT : Ans := gU fun p => bR (hx14 p)
theorem gHxT_ok : AnsTOk 15 gHxT := by
  intro vals s v s' lg h hl w hk
  unfold gHxT gU at h
  split at h
  · cases h
    exact hxP_calls _ (of_decide_eq_true (hl _ (List.mem_singleton.2 rfl))) w hk
  · cases h
end Go.Proofs.YtgefjidphfdhdaaGreatDoor
namespace Go.Proofs.YtgefjidphfdhdaaGreatDoor
open Go.KRun Go.Nt Go.Rd Go.Pt
set_option maxRecDepth 100000
def hcSw : Hc := altH 9 (gT gSoT) (altH 12 (gT gDgT) (altH 15 (gT gHxT) hcN))
theorem hcSw_ok : HcOk hcSw := altH_ok Tryz.func9 rfl (gT_ok gSoT_ok) (altH_ok Tryz.func12 rfl (gT_ok gDgT_ok) (altH_ok Tryz.func15 rfl (gT_ok gHxT_ok) hcN_ok))
theorem su_1 : shT 4591870180066957722 = [49, 101, 45, 49] := by decide +kernel
theorem su_2 : dgT14 4607182418800017408 3 0 = [49, 46, 48, 48, 101, 48] := by decide +kernel
theorem su_3 : hx14 4609434218613702656 = [48, 120, 49, 46, 56, 112, 48] := by decide +kernel
theorem su14 : Fits (reckonAt (tabH Tryz.prog extY conN hcSw) hT0 200 11 [] [cmp true, sam true, sam true, sam true]) (.bool true) [lEqB (hx14 4609434218613702656) [48, 120, 49, 46, 56, 112, 48] true, (decide (U 4609434218613702656), true), lEqB (dgT14 4607182418800017408 3 0) [49, 46, 48, 48, 101, 48] true, lEqB (shT 4591870180066957722) [49, 101, 45, 49] true, (decide (U 4591870180066957722), true), (decide ((1 : Int) ≤ 3 ∧ (3 : Int) ≤ 1000), true), (decide (U 4607182418800017408), true)] := ⟨by kernel_rfl, by kernel_rfl, by kernel_rfl, by kernel_rfl⟩
def gSu14 : Ans := fun vals s =>
  match vals with
  | [] => some (.bool true, s, [])
  | _ => none
theorem gSu14_ok : AnsTOk 11 gSu14 := by
  intro vals s v s' lg h hl w hk
  unfold gSu14 at h
  split at h
  · cases h
    exact fitsT (tabH_ok conN_ok hcSw_ok) su14 (okCons (ok_lEqB (by rw [su_3]; rfl)) (okCons (by decide) (okCons (ok_lEqB (by rw [su_2]; rfl)) (okCons (ok_lEqB (by rw [su_1]; rfl)) (okCons (by decide) (okCons (by decide) (okL1 (by decide)))))))) (by rfl) (by rfl) hk
  · cases h
def hcLw : Hc := altH 11 (gT gSu14) hcSw
theorem hcLw_ok : HcOk hcLw := altH_ok Tryz.func11 rfl (gT_ok gSu14_ok) hcSw_ok
theorem tx_len14 (b : Bool) (s : List UInt8) (e : Int) : (txL b s e).length ≤ s.length + 24 := by
  rw [← tx_is, List.length_append, List.length_append, List.length_append]
  have l1 := mnL_len b
  have l2 := ptL_len s
  have l3 := expL_len e
  have l4 : ([101] : List UInt8).length = 1 := rfl
  omega
theorem hi_len14 (b : Bool) (n q : Nat) (f : Int) : (hiX b n q f).length ≤ n + 24 := by
  unfold hiX
  split
  · exact Nat.le_trans (tx_len14 _ _ _) (Nat.add_le_add_right (decF_len _ _) 24)
  · exact Nat.le_trans (tx_len14 _ _ _) (Nat.add_le_add_right (decF_len _ _) 24)
theorem sp_len14 (k : Int) : (spL k).length ≤ 4 := by
  unfold spL
  repeat' split
  all_goals decide
theorem sh_len14 {p : Int} (hp : U p) : (shT p).length ≤ 100 := by
  unfold shT
  split
  · exact Nat.le_trans (sp_len14 _) (by omega)
  · rename_i h
    split
    · exact Nat.le_trans (tx_len14 _ _ _) (by simp)
    · rename_i h0
      have h2 : cl p ≤ 2 := by
        rcases Int.lt_or_le 2 (cl p) with c | c
        · exact absurd (nm_sp hp (by omega)).1 h
        · exact c
      have hf := fin14_B (fin_of h2 h0)
      obtain ⟨a, b, _⟩ := short_is hf
      rw [a]
      unfold shO
      split
      · exact Nat.le_trans (Nat.le_trans (tx_len14 _ _ _) (Nat.add_le_add_right (decF_len _ _) 24)) (by omega)
      · exact Nat.le_trans (hi_len14 _ _ _ _) (by omega)
theorem dg_len14 (p : Int) (n : Nat) (m : Int) : (dgT14 p n m).length ≤ n + 24 := by
  unfold dgT14
  split
  · exact Nat.le_trans (sp_len14 _) (by omega)
  · split
    · exact Nat.le_trans (tx_len14 _ _ _) (by rw [List.length_replicate]; omega)
    · unfold dgS14
      split
      · exact hi_len14 _ _ _ _
      · exact Nat.le_trans (tx_len14 _ _ _) (Nat.add_le_add_right (decF_len _ _) 24)
theorem hexT_minus (c : UInt8) (h : List UInt8) (x : Int) : hexT true c h x = 45 :: hexT false c h x := rfl
theorem hexT_len (b : Bool) (c : UInt8) (h : List UInt8) (x : Int) : (hexT b c h x).length ≤ h.length + 30 := by
  have e := expL_len x
  unfold hexT
  cases b <;> by_cases h0 : h = [] <;> simp [h0] <;> omega
theorem hd_len14 (p : Int) : (trR (hd14 p)).length ≤ 13 := Nat.le_trans (trR_len _) (show (hd14 p).length ≤ 13 from Nat.le_of_eq rfl)
theorem hx_len14 (p : Int) : (hx14 p).length ≤ 100 := by
  have hd := hd_len14 p
  unfold hx14
  split
  · exact Nat.le_trans (sp_len14 _) (by omega)
  · split
    · cases sgn p <;> decide
    · split
      · exact Nat.le_trans (hexT_len _ _ _ _) (by omega)
      · exact Nat.le_trans (hexT_len _ _ _ _) (by omega)
/-! ### the other sign -/
structure Oth14 (P q : Int) : Prop where
  ex : ex P = ex q
  fr : fr P = fr q
  mag : mag P = mag q
  sg : sg P = sg q
  xp : xp P = xp q
  cl : cl P = cl q
  s1 : sgn P = true
  s0 : sgn q = false
theorem oth14 {q : Int} (h0 : 0 ≤ q) (h1 : q < 9223372036854775808) : Oth14 (9223372036854775808 + q) q := by
  have e : ex (9223372036854775808 + q) = ex q := by unfold Go.Pt.ex; omega
  have f : fr (9223372036854775808 + q) = fr q := by unfold Go.Pt.fr; omega
  refine ⟨e, f, by unfold Go.Pt.mag; omega, by unfold Go.Pt.sg; rw [e, f], by unfold Go.Pt.xp; rw [e], by unfold Go.Pt.cl; rw [e, f], decide_eq_true (by omega), decide_eq_false (by omega)⟩
theorem sp_oth {q : Int} (h0 : 0 ≤ q) (h1 : q ≤ 9218868437227405312) : (spK q = 0 ∧ spK (9223372036854775808 + q) = 0) ∨ (q = 9218868437227405312) := by
  by_cases h : q = 9218868437227405312
  · exact .inr h
  · have o := oth14 h0 (by omega)
    have c : cl q ≤ 2 := by
      have hl : ex q ≠ 2047 := by unfold ex; omega
      unfold cl
      rw [if_neg hl]
      split
      · split <;> omega
      · omega
    exact .inl ⟨fin_sp c, fin_sp (by rw [o.cl]; exact c)⟩
theorem shO_minus (M : Int) (S : Nat) (E f : Int) (n : Nat) : shO true M S E f n = 45 :: shO false M S E f n := by
  unfold shO
  rw [loK_sign true false, tx_minus, hi_minus]
  split <;> rfl
theorem sh_oth {q : Int} (h0 : 0 ≤ q) (h1 : q ≤ 9218868437227405312) : shT (9223372036854775808 + q) = 45 :: shT q := by
  have o := oth14 h0 (by omega)
  rcases sp_oth h0 h1 with ⟨a, b⟩ | rfl
  · unfold shT
    rw [if_neg (show ¬ spK (9223372036854775808 + q) ≠ 0 from fun c => c b), if_neg (show ¬ spK q ≠ 0 from fun c => c a), o.cl, o.s1, o.s0]
    by_cases hc : cl q = 0
    · rw [if_pos hc, if_pos hc]; rfl
    · rw [if_neg hc, if_neg hc]
      have hq : cl q ≤ 2 := by
        rcases Int.lt_or_le 2 (cl q) with c | c
        · exact absurd a (nm_sp ⟨h0, by omega⟩ (by omega)).1
        · exact c
      have f1 := fin14_B (fin_of hq hc)
      have f2 := fin14_B (fin_of (p := 9223372036854775808 + q) (by rw [o.cl]; exact hq) (by rw [o.cl]; exact hc))
      obtain ⟨a1, _⟩ := short_is f1
      obtain ⟨a2, _⟩ := short_is f2
      have en : nP (9223372036854775808 + q) = nP q := by unfold nP frP; rw [o.mag, o.sg, o.xp]
      rw [a1, a2, en, show frP (9223372036854775808 + q) = frP q by unfold frP; rw [o.sg, o.xp], o.mag, o.sg, o.xp, decide_eq_true (show (9223372036854775808 : Int) ≤ 9223372036854775808 + q by omega), decide_eq_false (show ¬ (9223372036854775808 : Int) ≤ q by omega)]
      exact shO_minus _ _ _ _ _
  · rfl
theorem dgS_oth {q : Int} (h0 : 0 ≤ q) (h1 : q < 9223372036854775808) (n : Nat) : dgS14 (9223372036854775808 + q) n 0 = 45 :: dgS14 q n 0 := by
  have o := oth14 h0 h1
  unfold dgS14
  rw [show frP (9223372036854775808 + q) = frP q by unfold frP; rw [o.sg, o.xp], o.sg, o.xp, decide_eq_true (show (9223372036854775808 : Int) ≤ 9223372036854775808 + q by omega), decide_eq_false (show ¬ (9223372036854775808 : Int) ≤ q by omega), tx_minus, hi_minus]
  have e : ∀ x r b, upD14 0 true x r b = upD14 0 false x r b := fun x r b => rfl
  rw [e]
  split <;> rfl
theorem dg_oth {q : Int} (h0 : 0 ≤ q) (h1 : q ≤ 9218868437227405312) (n : Nat) : dgT14 (9223372036854775808 + q) n 0 = 45 :: dgT14 q n 0 := by
  have o := oth14 h0 (by omega)
  rcases sp_oth h0 h1 with ⟨a, b⟩ | rfl
  · unfold dgT14
    rw [if_neg (show ¬ spK (9223372036854775808 + q) ≠ 0 from fun c => c b), if_neg (show ¬ spK q ≠ 0 from fun c => c a), o.cl, o.s1, o.s0]
    by_cases hc : cl q = 0
    · rw [if_pos hc, if_pos hc]; rfl
    · rw [if_neg hc, if_neg hc]
      exact dgS_oth h0 (by omega) n
  · rfl
theorem hx_oth {q : Int} (h0 : 0 ≤ q) (h1 : q ≤ 9218868437227405312) : hx14 (9223372036854775808 + q) = 45 :: hx14 q := by
  have o := oth14 h0 (by omega)
  have ed : hd14 (9223372036854775808 + q) = hd14 q := by unfold hd14 fr14; rw [o.sg]
  rcases sp_oth h0 h1 with ⟨a, b⟩ | rfl
  · unfold hx14
    rw [if_neg (show ¬ spK (9223372036854775808 + q) ≠ 0 from fun c => c b), if_neg (show ¬ spK q ≠ 0 from fun c => c a), o.cl, o.s1, o.s0, ed, o.xp, hexT_minus, hexT_minus]
    split
    · rfl
    · split <;> rfl
  · rfl
/-! ### the statement -/
def qS14 (p : Int) : Int := bNot p 9223372036854775808
def qT14 (p : Int) : Int := bOr (qS14 p) 9223372036854775808
def kS14 (n : Int) : Int := IntKind.i64.wrap (1 + IntKind.i64.wrap ((IntKind.u64.wrap n).tmod 20))
theorem sga (p n : Int) : Fits (reckonAt (tabH Tryz.prog extY conN hcLw) hT0 200 8 [.int .u64 p, .int .i64 n] [cmp true, sam true, sam true]) (.bool true) [lEqB (hx14 p) [110, 97, 110] true, (decide (U p), true), lEqB (shT p) [110, 97, 110] true, (decide (U p), true), (decide (qS14 p > 9218868437227405312), true)] := ⟨by kernel_rfl, by kernel_rfl, by kernel_rfl, by kernel_rfl⟩
theorem sgb (p n : Int) : Fits (reckonAt (tabH Tryz.prog extY conN hcLw) hT0 200 8 [.int .u64 p, .int .i64 n] [cmp false, cmp false, cmp true, cmp true, sam true, sam true, sam true, sam true, sam true, sam true]) (.bool true) [lEqB (hx14 (qT14 p)) ([45] ++ hx14 (qS14 p)) true, (decide ([45].length + (hx14 (qS14 p)).length ≤ 9223372036854775807), true), (decide (U (qS14 p)), true), (decide (U (qT14 p)), true), lEqB (shT (qT14 p)) ([45] ++ shT (qS14 p)) true, (decide ([45].length + (shT (qS14 p)).length ≤ 9223372036854775807), true), (decide (U (qS14 p)), true), (decide (U (qT14 p)), true), lEqB (dgT14 (qT14 p) (kS14 n).toNat 0) ([45] ++ dgT14 (qS14 p) (kS14 n).toNat 0) true, (decide ([45].length + (dgT14 (qS14 p) (kS14 n).toNat 0).length ≤ 9223372036854775807), true), (decide (1 ≤ kS14 n ∧ kS14 n ≤ 1000), true), (decide (U (qT14 p)), true), (decide (1 ≤ kS14 n ∧ kS14 n ≤ 1000), true), (decide (U (qS14 p)), true), (decide ((20 : Int) = 0), false), (decide (qS14 p > 9218868437227405312), false)] := ⟨by kernel_rfl, by kernel_rfl, by kernel_rfl, by kernel_rfl⟩
theorem sign_or14 {x : Int} (h0 : 0 ≤ x) (h1 : x < 9223372036854775808) : bOr x 9223372036854775808 = 9223372036854775808 + x := or_low 63 (z := 1) (by omega) (by rfl) h0 h1 (by omega)
theorem sigL_calls (p n : Int) (hp : 0 ≤ p ∧ p < 18446744073709551616) (w : World) (hk : knT w) : Calls Tryz.prog 8 #[.int .u64 p, .int .i64 n] w fun e w' => e = .returned (.bool true) ∧ Tidy w w' := by
  have hu : decide (U p) = true := decide_eq_true hp
  have e1 : qS14 p = p % 9223372036854775808 := bNot_sign hp
  have b0 : 0 ≤ qS14 p := by omega
  have b1 : qS14 p < 9223372036854775808 := by omega
  have e2 : qT14 p = 9223372036854775808 + qS14 p := sign_or14 b0 b1
  by_cases h : qS14 p > 9218868437227405312
  · have hs : spK p = 1 := by
      unfold spK
      rw [if_pos]
      have x1 : ex p = 2047 := by unfold ex; omega
      have x2 : fr p ≠ 0 := by unfold fr; omega
      unfold cl
      rw [if_neg (by omega), if_pos x1, if_neg x2]
      split <;> omega
    have v1 : hx14 p = [110, 97, 110] := by unfold hx14; rw [hs]; rfl
    have v2 : shT p = [110, 97, 110] := by unfold shT; rw [hs]; rfl
    exact fitsT (tabH_ok conN_ok hcLw_ok) (sga p n) (okCons (ok_lEqB (decide_eq_true v1)) (okCons hu (okCons (ok_lEqB (decide_eq_true v2)) (okCons hu (okL1 (decide_eq_true h)))))) (by rfl) (by rfl) hk
  · have u1 : decide (U (qS14 p)) = true := decide_eq_true (by unfold U; omega)
    have u2 : decide (U (qT14 p)) = true := decide_eq_true (by unfold U; omega)
    have hq : qS14 p ≤ 9218868437227405312 := by omega
    have kk : 1 ≤ kS14 n ∧ kS14 n ≤ 20 := by
      have w1 : IntKind.u64.wrap n = n % 18446744073709551616 := wrapU n
      have w2 : (IntKind.u64.wrap n).tmod 20 = (n % 18446744073709551616) % 20 := by rw [w1, Int.tmod_eq_emod_of_nonneg (by omega)]
      unfold kS14
      have w3 : IntKind.i64.wrap ((n % 18446744073709551616) % 20) = (n % 18446744073709551616) % 20 := wrapI (by omega) (by omega)
      rw [w2, w3, wrapI (by omega) (by omega)]
      omega
    have lk : decide (1 ≤ kS14 n ∧ kS14 n ≤ 1000) = true := decide_eq_true (by omega)
    have l45 : ([45] : List UInt8).length = 1 := rfl
    have m1 := hx_len14 (qS14 p)
    have m2 := sh_len14 (p := qS14 p) (of_decide_eq_true u1)
    have m3 := dg_len14 (qS14 p) (kS14 n).toNat 0
    exact fitsT (tabH_ok conN_ok hcLw_ok) (sgb p n) (okCons (ok_lEqB (decide_eq_true (by rw [e2]; exact hx_oth b0 hq))) (okCons (decide_eq_true (by omega)) (okCons (u1) (okCons (u2) (okCons (ok_lEqB (decide_eq_true (by rw [e2]; exact sh_oth b0 hq))) (okCons (decide_eq_true (by omega)) (okCons (u1) (okCons (u2) (okCons (ok_lEqB (decide_eq_true (by rw [e2]; exact dg_oth b0 hq _))) (okCons (decide_eq_true (by omega)) (okCons (lk) (okCons (u2) (okCons (lk) (okCons (u1) (okCons ((by decide)) (okL1 (decide_eq_false h))))))))))))))))) (by rfl) (by rfl) hk
end Go.Proofs.YtgefjidphfdhdaaGreatDoor
namespace Go.Proofs.YtgefjidphfdhdaaGreatDoor
open Go.KRun Go.RowKit Go.ChangeShapes
set_option maxRecDepth 100000
theorem post_none {H : Type} {enc : TypeId × Value → H} {P : Program} {f : Func} {s : ChangeSpec} {apart fresh handsOn again : Bool} {W W' : World} {args : Array Value} {v : Value} {ds gs : List (DataW H)}
    (hW : DataW.Whole enc P f.params.toList s.vars apart W args.toList ds gs [])
    (hres : ∀ (b : Nat) (sp : Nat → Bool) (hd : Bool), DataW.TrodAll enc P W' b sp hd f.resultTypes.toList (v.resultList f.resultTypes.size) (s.fn H (ds ++ gs)).results [])
    (hargs : ∀ sp : Nat → Bool, DataW.TrodAll enc P W' 0 sp true f.params.toList args.toList (s.fn H (ds ++ gs)).args [])
    (hvars : ∀ sp : Nat → Bool, DataW.TrodVars enc P W' sp s.vars (s.fn H (ds ++ gs)).vars [])
    (hk : W.keptBut W' (· ∈ ([] : List MemPlace)))
    (hok : ∀ (j : Nat) (t : TypeId) (r : Value), f.resultTypes[j]? = some t → (v.resultList f.resultTypes.size)[j]? = some r → Value.okWide P W' .any 0 t r) :
    s.post enc P f apart fresh handsOn again W args v W' := by
  refine ⟨ds, gs, [], [], [], [], hW, hres _ _ _, hargs _, hvars _, World.keptBut_mono (fun p hp => absurd hp List.not_mem_nil) hk, fun _ => ?_⟩
  obtain ⟨_, _, _, _, _, _, hn⟩ := hW
  refine ⟨hok, _, _, ([] ++ []) ++ [], ⟨[] ++ [], [], trodAll_append (hargs _) (hres _ _ _), hvars _, rfl, ?_, ?_⟩, ?_⟩
  · intro b off hp
    exact absurd hp List.not_mem_nil
  · intro ha
    exact hn ha
  · intro p hp _
    exact absurd hp List.not_mem_nil
theorem laidV {P : Program} {w : World} : ∀ {l : List (String × DataW Unit)} {ps : List MemPlace}, DataW.LaidVars P w l ps → ∀ {n : String} {d : DataW Unit}, (n, d) ∈ l → ∃ g t cs fuel p, P.globalNamed n = some g ∧ (P.globals[g]?).map (·.type) = some t ∧ w.var? P n = some cs ∧ DataW.trod (fun _ => ()) P w 0 (fun _ => true) false fuel t cs.toList = some (d, p)
  | [], _, _, _, _, hm => absurd hm List.not_mem_nil
  | (n', d') :: r, ps, h, n, d, hm => by
    obtain ⟨g, t, cs, fuel, p, q, h1, h2, h3, h4, h5, _⟩ := h
    rcases List.mem_cons.1 hm with e | e
    · cases e
      exact ⟨g, t, cs, fuel, p, h1, h2, h3, h4⟩
    · exact laidV h5 e
theorem knT_laid {l : List (String × DataW Unit)} {W : World} (h : laidMet Tryz.prog l W) {n : String} {d : DataW Unit} (hm : (n, d) ∈ l) (hn : Tryz.prog.globalNamed n = some 2) (hd : d = Lib.tabData .u64 Lib.pow10Tab) : knT W := by
  obtain ⟨ps, hl, _⟩ := h
  obtain ⟨g, t, cs, fuel, p, h1, h2, h3, h4⟩ := laidV hl hm
  obtain rfl := Option.some.inj (hn.symm.trans h1)
  have ht : (Tryz.prog.globals[2]?).map (·.type) = some 255 := by kernel_rfl
  obtain rfl := Option.some.inj (ht.symm.trans h2)
  rw [hd] at h4
  have hc := Lib.cells_of_tab Tryz.underlying255 Tryz.underlying22 (by kernel_rfl) (by kernel_rfl) h4
  unfold World.var? at h3
  rw [hn] at h3
  simp only [Option.bind_some] at h3
  split at h3
  · rename_i c e z hb
    cases h3
    refine ⟨e, z, ?_⟩
    rw [hb]
    congr 2
    apply Array.toList_inj.1
    rw [hc]
    rfl
  · cases h3
end Go.Proofs.YtgefjidphfdhdaaGreatDoor
