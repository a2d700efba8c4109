/-
  PlP
-/
import Derived.Test.YtlmccannfocniaaDoorG16
namespace Go.Proofs.YtlmccannfocniaaDoor
open Go.KRun Go.RowKit Go.Pl
set_option maxRecDepth 100000
/-! ### the radices of a power of two -/
theorem cut_four {b : Nat} (hb : b = 1 ∨ b = 2) : ∀ a : Nat, cutR 4 (4 ^ a * b) = List.replicate a 4 ∧ lefR 4 (4 ^ a * b) = b
  | 0 => by
    rw [Nat.pow_zero, Nat.one_mul]
    exact cut_stop (by omega)
  | a + 1 => by
    have e : 4 ^ (a + 1) * b = 4 * (4 ^ a * b) := by rw [Nat.pow_succ, Nat.mul_comm (4 ^ a) 4, Nat.mul_assoc]
    have hp : 0 < 4 ^ a * b := Nat.mul_pos (Nat.pow_pos (by decide)) (by omega)
    obtain ⟨c1, c2⟩ := cut_go (r := 4) (m := 4 ^ (a + 1) * b) (by decide) (by rw [e]; omega) (by rw [e]; omega)
    rw [c1, c2, show 4 ^ (a + 1) * b / 4 = 4 ^ a * b from by rw [e]; omega, (cut_four hb a).1, (cut_four hb a).2]
    exact ⟨rfl, rfl⟩
theorem par_one : ∀ (rs : List Nat), (∀ r ∈ rs, 2 ≤ r) → parL rs 1 = [] ∧ parW rs 1 = 1
  | [], _ => ⟨rfl, rfl⟩
  | r :: rs, h => by
    have hr := h r (List.mem_cons_self ..)
    obtain ⟨c1, c2⟩ := cut_stop (r := r) (m := 1) (by rw [Nat.mod_eq_of_lt (by omega)]; decide)
    obtain ⟨i1, i2⟩ := par_one rs (fun x hx => h x (List.mem_cons_of_mem _ hx))
    exact ⟨by show cutR r 1 ++ parL rs (lefR r 1) = []; rw [c1, c2, i1]; rfl, by show parW rs (lefR r 1) = 1; rw [c2, i2]⟩
theorem par_two : parL [2, 3, 5, 7, 11, 13] 2 = [2] ∧ parW [2, 3, 5, 7, 11, 13] 2 = 1 := by
  obtain ⟨c1, c2⟩ := cut_go (r := 2) (m := 2) (by decide) (by decide) (by decide)
  obtain ⟨d1, d2⟩ := cut_stop (r := 2) (m := 2 / 2) (by decide)
  obtain ⟨i1, i2⟩ := par_one [3, 5, 7, 11, 13] (by decide)
  refine ⟨?_, ?_⟩
  · show cutR 2 2 ++ parL [3, 5, 7, 11, 13] (lefR 2 2) = [2]
    rw [c1, c2, d1, d2, i1]
    rfl
  · show parW [3, 5, 7, 11, 13] (lefR 2 2) = 1
    rw [c2, d2, i2]
theorem pl_pow (j : Nat) : plL (2 ^ j) = List.replicate (j / 2) 4 ++ List.replicate (j % 2) 2 ∧ plW (2 ^ j) = 1 := by
  have e : 2 ^ j = 4 ^ (j / 2) * 2 ^ (j % 2) := by
    rw [show (4 : Nat) = 2 ^ 2 from rfl, ← Nat.pow_mul, ← Nat.pow_add]
    congr 1
    omega
  have hj : j % 2 = 0 ∨ j % 2 = 1 := by omega
  rw [e]
  rcases hj with h | h
  · rw [h, Nat.pow_zero]
    obtain ⟨c1, c2⟩ := cut_four (.inl rfl) (j / 2)
    obtain ⟨i1, i2⟩ := par_one [2, 3, 5, 7, 11, 13] (by decide)
    refine ⟨?_, ?_⟩
    · show cutR 4 _ ++ parL [2, 3, 5, 7, 11, 13] (lefR 4 _) = _
      rw [c1, c2, i1]
      rfl
    · show parW [2, 3, 5, 7, 11, 13] (lefR 4 _) = 1
      rw [c2, i2]
  · rw [h, Nat.pow_one]
    obtain ⟨c1, c2⟩ := cut_four (.inr rfl) (j / 2)
    refine ⟨?_, ?_⟩
    · show cutR 4 _ ++ parL [2, 3, 5, 7, 11, 13] (lefR 4 _) = _
      rw [c1, c2, par_two.1]
      rfl
    · show parW [2, 3, 5, 7, 11, 13] (lefR 4 _) = 1
      rw [c2, par_two.2]
theorem plI_pow (j : Nat) : plI ((2 ^ j : Nat) : Int) = (List.replicate (j / 2) 4 ++ List.replicate (j % 2) 2).map fun r => ((r : Nat) : Int) := by
  unfold plI
  rw [Int.toNat_natCast, (pl_pow j).1]
/-! ### the run -/
def hcDb : Hc := altH 18 gDk (altH 8 gMk (altH 30 gDs hcN))
theorem hcDb_ok : HcOk hcDb := altH_ok Tryd.func18 rfl gDk_ok (altH_ok Tryd.func8 rfl gMk_ok (altH_ok Tryd.func30 rfl gDs_ok hcN_ok))
theorem T9_ok : TabOk (tabH Tryd.prog extY conN hcDb) := tabH_ok conN_ok hcDb_ok
def mnP (P : Int) : Int := if 16777216 < P then 16777216 else P
def l13a : List Value := [.int .i64 4, .int .i64 4, .int .i64 4, .int .i64 4, .int .i64 4, .int .i64 4, .int .i64 4, .int .i64 4, .int .i64 4, .int .i64 4, .int .i64 4, .int .i64 4, .int .i64 2]
def l13b : List Value := [.int .i64 4, .int .i64 4, .int .i64 4, .int .i64 4, .int .i64 4, .int .i64 4, .int .i64 4, .int .i64 4, .int .i64 4, .int .i64 4, .int .i64 4, .int .i64 4, .int .i64 4]
def db3 (F : Func) : Code := cSnd (cSnd (cBody F))
def dbA (F : Func) : Code := cThn (cSnd (cFst (db3 F)))
def dA5 (F : Func) : Code := cFst (cSnd (dbA F))
def dA7 (F : Func) : Code := cFst (cSnd (cSnd (dbA F)))
def dA9 (F : Func) : Code := cFst (cSnd (cSnd (cSnd (dbA F))))
def dA10 (F : Func) : Code := cFst (cSnd (cSnd (cSnd (cSnd (dbA F)))))
def dAL (F : Func) : Code := cIn (cIn (cFst (cSnd (cSnd (cSnd (cSnd (cSnd (dbA F))))))))
def dAE (F : Func) : Code := cSnd (cSnd (cSnd (cSnd (cSnd (cSnd (dbA F))))))
def dAA (F : Func) : Code := .seq (cFst (dbA F)) (.seq (dA5 F) (.seq (dA7 F) (.seq (dA9 F) (.seq (dA10 F) (.seq (.block 0 (.loop (dAL F))) (dAE F))))))
def dbAll (F : Func) : Code := .seq (cFst (cBody F)) (.seq (cFst (cSnd (cBody F))) (.seq (.seq (cFst (cFst (db3 F))) (.cond (.tmp 13) (dAA F) .skip)) (cSnd (db3 F))))
theorem db_body : Tryd.f15.body = some (dbAll Tryd.f15) := by kernel_rfl
theorem db_body0 : Tryd.f15.body = some (cBody Tryd.f15) := by kernel_rfl
theorem db_f (x : List Value × TypeId) (p : Option Addr) (n c : Nat) (N P : Int) : GoesT (evC (tabH Tryd.prog extY conN hcDb) 100 false (cBody Tryd.f15) ([plnV N p n c P] ++ List.replicate 51 undef, hTR x, [cmp false, cmp true]) ⟨[], [], []⟩) 4 48 (some none) ([plnV N p n c P, .pointer (some ⟨2, 0, none⟩), .int .i64 0, .int .i64 10]) (hC3 N P p n c x) [(true, true), (ckB N P (rowO (hC3 N P p n c x) p n), false), (rowIP (hC3 N P p n c x) p n, true)] := ⟨by kernel_rfl, by kernel_rfl, by kernel_rfl⟩
theorem db_p (x : List Value × TypeId) (p : Option Addr) (n c : Nat) (N P : Int) : GoesT (evC (tabH Tryd.prog extY conN hcDb) 100 false (cBody Tryd.f15) ([plnV N p n c P] ++ List.replicate 51 undef, hTR x, [cmp true, cmp false, cmp false]) ⟨[], [], []⟩) 4 48 (some none) ([plnV N p n c P, .pointer (some ⟨2, 0, none⟩), .int .i64 (sumF wrR (rowO (hC3 N P p n c x) p n)), .int .i64 0]) (hC3 N P p n c x) [(okRs (hC3 N P p n c x) p n, true), (decide (P > 0), false), (false, false), (ckB N P (rowO (hC3 N P p n c x) p n), true), (rowIP (hC3 N P p n c x) p n, true)] := ⟨by kernel_rfl, by kernel_rfl, by kernel_rfl⟩
theorem db_0 (x : List Value × TypeId) (p : Option Addr) (n c : Nat) (N P : Int) : GoesT (evC (tabH Tryd.prog extY conN hcDb) 100 false (cFst (cBody Tryd.f15)) ([plnV N p n c P] ++ List.replicate 51 undef, hTR x, []) ⟨[], [], []⟩) 4 48 none ([plnV N p n c P, .pointer (some ⟨2, 0, none⟩), .int .i64 0, .int .i64 0]) (hC3 N P p n c x) [] := ⟨by kernel_rfl, by kernel_rfl, by kernel_rfl⟩
theorem db_1 (x : List Value × TypeId) (p : Option Addr) (n c : Nat) (N P : Int) (g : Nat → Value) : GoesT (evC (tabH Tryd.prog extY conN hcDb) 100 false (cFst (cSnd (cBody Tryd.f15))) ([plnV N p n c P, .pointer (some ⟨2, 0, none⟩), .int .i64 0, .int .i64 0] ++ tl 48 g, hC3 N P p n c x, [cmp true, cmp false]) ⟨[], [], []⟩) 4 48 none ([plnV N p n c P, .pointer (some ⟨2, 0, none⟩), .int .i64 0, .int .i64 0]) (hC3 N P p n c x) [(false, false), (ckB N P (rowO (hC3 N P p n c x) p n), true), (rowIP (hC3 N P p n c x) p n, true)] := ⟨by kernel_rfl, by kernel_rfl, by kernel_rfl⟩
theorem db_3 (x : List Value × TypeId) (p : Option Addr) (n c : Nat) (N P : Int) (g : Nat → Value) : GoesT (evC (tabH Tryd.prog extY conN hcDb) 100 false (cFst (cFst (db3 Tryd.f15))) ([plnV N p n c P, .pointer (some ⟨2, 0, none⟩), .int .i64 0, .int .i64 0] ++ tl 48 g, hC3 N P p n c x, [cmp true]) ⟨[], [], []⟩) 14 38 none ([plnV N p n c P, .pointer (some ⟨2, 0, none⟩), .int .i64 0, .int .i64 0] ++ [g 0, g 1, g 2, g 3, g 4, g 5, g 6, .pointer (some ⟨2, 2, none⟩), .int .i64 P, .bool true]) (hC3 N P p n c x) [(decide (P > 0), true)] := ⟨by kernel_rfl, by kernel_rfl, by kernel_rfl⟩
theorem db_4 (x : List Value × TypeId) (p : Option Addr) (n c : Nat) (N P : Int) (l : List Value) (g : Nat → Value) : GoesT (evC (tabH Tryd.prog extY conN hcDb) 100 false (cFst (dbA Tryd.f15)) ([plnV N p n c P, .pointer (some ⟨2, 0, none⟩), .int .i64 0, .int .i64 0] ++ tl 48 g, hC3 N P p n c x, [cmp false, cmp true, cmp true, val (.agg ⟨l⟩)]) ⟨[], [], []⟩) 6 46 none ([plnV N p n c P, .pointer (some ⟨2, 0, none⟩), .int .i64 0, .int .i64 0, .pointer (some ⟨4, 0, none⟩), .int .i64 0]) ⟨5, [([.int .i64 (mnP P), .slice (some ⟨3, 0, none⟩) l.length grown, .int .i64 0], 29), (l, tIn), hD N P p n c, x, (rdV, rdT)]⟩ [(eqI19 l (plI (mnP P)), true), (decide (plW (mnP P).toNat = 1), true), (okPl (mnP P) true, true), (mkBad (mnP P), false)] := ⟨by kernel_rfl, by kernel_rfl, by kernel_rfl⟩
theorem db_4n (x : List Value × TypeId) (p : Option Addr) (n c : Nat) (N P : Int) (g : Nat → Value) : GoesT (evC (tabH Tryd.prog extY conN hcDb) 100 false (cFst (dbA Tryd.f15)) ([plnV N p n c P, .pointer (some ⟨2, 0, none⟩), .int .i64 0, .int .i64 0] ++ tl 48 g, hC3 N P p n c x, [cmp false, cmp true, cmp false]) ⟨[], [], []⟩) 6 46 none ([plnV N p n c P, .pointer (some ⟨2, 0, none⟩), .int .i64 0, .int .i64 0, .pointer (some ⟨3, 0, none⟩), .int .i64 0]) ⟨4, [([.int .i64 (mnP P), .slice none 0 0, .int .i64 0], 29), hD N P p n c, x, (rdV, rdT)]⟩ [(decide (plW (mnP P).toNat = 1), true), (okPl (mnP P) false, true), (mkBad (mnP P), false)] := ⟨by kernel_rfl, by kernel_rfl, by kernel_rfl⟩
theorem db_5f (x : List Value × TypeId) (p : Option Addr) (n c : Nat) (N P : Int) (l : List Value) (g : Nat → Value) : GoesT (evC (tabH Tryd.prog extY conN hcDb) 100 false (dA5 Tryd.f15) ([plnV N p n c P, .pointer (some ⟨2, 0, none⟩), .int .i64 0, .int .i64 0, .pointer (some ⟨4, 0, none⟩), .int .i64 0] ++ tl 46 g, ⟨5, [([.int .i64 (mnP P), .slice (some ⟨3, 0, none⟩) l.length grown, .int .i64 0], 29), (l, tIn), hD N P p n c, x, (rdV, rdT)]⟩, [cmp false]) ⟨[], [], []⟩) 6 46 none ([plnV N p n c P, .pointer (some ⟨2, 0, none⟩), .int .i64 0, .int .i64 0, .pointer (some ⟨4, 0, none⟩), .int .i64 0]) ⟨5, [([.int .i64 (mnP P), .slice (some ⟨3, 0, none⟩) l.length grown, .int .i64 0], 29), (l, tIn), hD N P p n c, x, (rdV, rdT)]⟩ [(P == 33554432, false)] := ⟨by kernel_rfl, by kernel_rfl, by kernel_rfl⟩
theorem db_7f (x : List Value × TypeId) (p : Option Addr) (n c : Nat) (N P : Int) (l : List Value) (g : Nat → Value) : GoesT (evC (tabH Tryd.prog extY conN hcDb) 100 false (dA7 Tryd.f15) ([plnV N p n c P, .pointer (some ⟨2, 0, none⟩), .int .i64 0, .int .i64 0, .pointer (some ⟨4, 0, none⟩), .int .i64 0] ++ tl 46 g, ⟨5, [([.int .i64 (mnP P), .slice (some ⟨3, 0, none⟩) l.length grown, .int .i64 0], 29), (l, tIn), hD N P p n c, x, (rdV, rdT)]⟩, [cmp false]) ⟨[], [], []⟩) 6 46 none ([plnV N p n c P, .pointer (some ⟨2, 0, none⟩), .int .i64 0, .int .i64 0, .pointer (some ⟨4, 0, none⟩), .int .i64 0]) ⟨5, [([.int .i64 (mnP P), .slice (some ⟨3, 0, none⟩) l.length grown, .int .i64 0], 29), (l, tIn), hD N P p n c, x, (rdV, rdT)]⟩ [(P == 67108864, false)] := ⟨by kernel_rfl, by kernel_rfl, by kernel_rfl⟩
theorem db_5fn (x : List Value × TypeId) (p : Option Addr) (n c : Nat) (N P : Int) (g : Nat → Value) : GoesT (evC (tabH Tryd.prog extY conN hcDb) 100 false (dA5 Tryd.f15) ([plnV N p n c P, .pointer (some ⟨2, 0, none⟩), .int .i64 0, .int .i64 0, .pointer (some ⟨3, 0, none⟩), .int .i64 0] ++ tl 46 g, ⟨4, [([.int .i64 (mnP P), .slice none 0 0, .int .i64 0], 29), hD N P p n c, x, (rdV, rdT)]⟩, [cmp false]) ⟨[], [], []⟩) 6 46 none ([plnV N p n c P, .pointer (some ⟨2, 0, none⟩), .int .i64 0, .int .i64 0, .pointer (some ⟨3, 0, none⟩), .int .i64 0]) ⟨4, [([.int .i64 (mnP P), .slice none 0 0, .int .i64 0], 29), hD N P p n c, x, (rdV, rdT)]⟩ [(P == 33554432, false)] := ⟨by kernel_rfl, by kernel_rfl, by kernel_rfl⟩
theorem db_7fn (x : List Value × TypeId) (p : Option Addr) (n c : Nat) (N P : Int) (g : Nat → Value) : GoesT (evC (tabH Tryd.prog extY conN hcDb) 100 false (dA7 Tryd.f15) ([plnV N p n c P, .pointer (some ⟨2, 0, none⟩), .int .i64 0, .int .i64 0, .pointer (some ⟨3, 0, none⟩), .int .i64 0] ++ tl 46 g, ⟨4, [([.int .i64 (mnP P), .slice none 0 0, .int .i64 0], 29), hD N P p n c, x, (rdV, rdT)]⟩, [cmp false]) ⟨[], [], []⟩) 6 46 none ([plnV N p n c P, .pointer (some ⟨2, 0, none⟩), .int .i64 0, .int .i64 0, .pointer (some ⟨3, 0, none⟩), .int .i64 0]) ⟨4, [([.int .i64 (mnP P), .slice none 0 0, .int .i64 0], 29), hD N P p n c, x, (rdV, rdT)]⟩ [(P == 67108864, false)] := ⟨by kernel_rfl, by kernel_rfl, by kernel_rfl⟩
theorem db_5t (x : List Value × TypeId) (p : Option Addr) (n c : Nat) (N P : Int) (l : List Value) (g : Nat → Value) : GoesT (evC (tabH Tryd.prog extY conN hcDb) 100 false (dA5 Tryd.f15) ([plnV N p n c P, .pointer (some ⟨2, 0, none⟩), .int .i64 0, .int .i64 0, .pointer (some ⟨4, 0, none⟩), .int .i64 0] ++ tl 46 g, ⟨5, [([.int .i64 (mnP P), .slice (some ⟨3, 0, none⟩) l.length grown, .int .i64 0], 29), (l, tIn), hD N P p n c, x, (rdV, rdT)]⟩, [cmp true]) ⟨[], [], []⟩) 6 46 none ([plnV N p n c P, .pointer (some ⟨2, 0, none⟩), .int .i64 0, .int .i64 0, .pointer (some ⟨4, 0, none⟩), .int .i64 0]) ⟨6, [(l13a, tIn), ([.int .i64 (mnP P), .slice (some ⟨5, 0, none⟩) 13 13, .int .i64 0], 29), (l, tIn), hD N P p n c, x, (rdV, rdT)]⟩ [(P == 33554432, true)] := ⟨by kernel_rfl, by kernel_rfl, by kernel_rfl⟩
theorem db_7g (x : List Value × TypeId) (p : Option Addr) (n c : Nat) (N P : Int) (l : List Value) (g : Nat → Value) : GoesT (evC (tabH Tryd.prog extY conN hcDb) 100 false (dA7 Tryd.f15) ([plnV N p n c P, .pointer (some ⟨2, 0, none⟩), .int .i64 0, .int .i64 0, .pointer (some ⟨4, 0, none⟩), .int .i64 0] ++ tl 46 g, ⟨6, [(l13a, tIn), ([.int .i64 (mnP P), .slice (some ⟨5, 0, none⟩) 13 13, .int .i64 0], 29), (l, tIn), hD N P p n c, x, (rdV, rdT)]⟩, [cmp false]) ⟨[], [], []⟩) 6 46 none ([plnV N p n c P, .pointer (some ⟨2, 0, none⟩), .int .i64 0, .int .i64 0, .pointer (some ⟨4, 0, none⟩), .int .i64 0]) ⟨6, [(l13a, tIn), ([.int .i64 (mnP P), .slice (some ⟨5, 0, none⟩) 13 13, .int .i64 0], 29), (l, tIn), hD N P p n c, x, (rdV, rdT)]⟩ [(P == 67108864, false)] := ⟨by kernel_rfl, by kernel_rfl, by kernel_rfl⟩
theorem db_7t (x : List Value × TypeId) (p : Option Addr) (n c : Nat) (N P : Int) (l : List Value) (g : Nat → Value) : GoesT (evC (tabH Tryd.prog extY conN hcDb) 100 false (dA7 Tryd.f15) ([plnV N p n c P, .pointer (some ⟨2, 0, none⟩), .int .i64 0, .int .i64 0, .pointer (some ⟨4, 0, none⟩), .int .i64 0] ++ tl 46 g, ⟨5, [([.int .i64 (mnP P), .slice (some ⟨3, 0, none⟩) l.length grown, .int .i64 0], 29), (l, tIn), hD N P p n c, x, (rdV, rdT)]⟩, [cmp true]) ⟨[], [], []⟩) 6 46 none ([plnV N p n c P, .pointer (some ⟨2, 0, none⟩), .int .i64 0, .int .i64 0, .pointer (some ⟨4, 0, none⟩), .int .i64 0]) ⟨6, [(l13b, tIn), ([.int .i64 (mnP P), .slice (some ⟨5, 0, none⟩) 13 13, .int .i64 0], 29), (l, tIn), hD N P p n c, x, (rdV, rdT)]⟩ [(P == 67108864, true)] := ⟨by kernel_rfl, by kernel_rfl, by kernel_rfl⟩
theorem db_9 (x : List Value × TypeId) (p : Option Addr) (n c : Nat) (N P : Int) (l : List Value) (g : Nat → Value) : GoesT (evC (tabH Tryd.prog extY conN hcDb) 100 false (dA9 Tryd.f15) ([plnV N p n c P, .pointer (some ⟨2, 0, none⟩), .int .i64 0, .int .i64 0, .pointer (some ⟨4, 0, none⟩), .int .i64 0] ++ tl 46 g, ⟨5, [([.int .i64 (mnP P), .slice (some ⟨3, 0, none⟩) l.length grown, .int .i64 0], 29), (l, tIn), hD N P p n c, x, (rdV, rdT)]⟩, []) ⟨[], [], []⟩) 7 45 none ([plnV N p n c P, .pointer (some ⟨2, 0, none⟩), .int .i64 0, .int .i64 0, .pointer (some ⟨4, 0, none⟩), .int .i64 0, .int .i64 (sumF wrR (cutO l 0 l.length))]) ⟨5, [([.int .i64 (mnP P), .slice (some ⟨3, 0, none⟩) l.length grown, .int .i64 0], 29), (l, tIn), hD N P p n c, x, (rdV, rdT)]⟩ [(rowCO tIn l 0 l.length && ((cutO l 0 l.length).all isR && Nat.blt l.length 1073741824), true)] := ⟨by kernel_rfl, by kernel_rfl, by kernel_rfl⟩
theorem db_9n (x : List Value × TypeId) (p : Option Addr) (n c : Nat) (N P : Int) (g : Nat → Value) : GoesT (evC (tabH Tryd.prog extY conN hcDb) 100 false (dA9 Tryd.f15) ([plnV N p n c P, .pointer (some ⟨2, 0, none⟩), .int .i64 0, .int .i64 0, .pointer (some ⟨3, 0, none⟩), .int .i64 0] ++ tl 46 g, ⟨4, [([.int .i64 (mnP P), .slice none 0 0, .int .i64 0], 29), hD N P p n c, x, (rdV, rdT)]⟩, []) ⟨[], [], []⟩) 7 45 none ([plnV N p n c P, .pointer (some ⟨2, 0, none⟩), .int .i64 0, .int .i64 0, .pointer (some ⟨3, 0, none⟩), .int .i64 0, .int .i64 0]) ⟨4, [([.int .i64 (mnP P), .slice none 0 0, .int .i64 0], 29), hD N P p n c, x, (rdV, rdT)]⟩ [(true, true)] := ⟨by kernel_rfl, by kernel_rfl, by kernel_rfl⟩
theorem db_9a (x : List Value × TypeId) (p : Option Addr) (n c : Nat) (N P : Int) (l : List Value) (g : Nat → Value) : GoesT (evC (tabH Tryd.prog extY conN hcDb) 100 false (dA9 Tryd.f15) ([plnV N p n c P, .pointer (some ⟨2, 0, none⟩), .int .i64 0, .int .i64 0, .pointer (some ⟨4, 0, none⟩), .int .i64 0] ++ tl 46 g, ⟨6, [(l13a, tIn), ([.int .i64 (mnP P), .slice (some ⟨5, 0, none⟩) 13 13, .int .i64 0], 29), (l, tIn), hD N P p n c, x, (rdV, rdT)]⟩, []) ⟨[], [], []⟩) 7 45 none ([plnV N p n c P, .pointer (some ⟨2, 0, none⟩), .int .i64 0, .int .i64 0, .pointer (some ⟨4, 0, none⟩), .int .i64 0, .int .i64 152]) ⟨6, [(l13a, tIn), ([.int .i64 (mnP P), .slice (some ⟨5, 0, none⟩) 13 13, .int .i64 0], 29), (l, tIn), hD N P p n c, x, (rdV, rdT)]⟩ [(true, true)] := ⟨by kernel_rfl, by kernel_rfl, by kernel_rfl⟩
theorem db_9b (x : List Value × TypeId) (p : Option Addr) (n c : Nat) (N P : Int) (l : List Value) (g : Nat → Value) : GoesT (evC (tabH Tryd.prog extY conN hcDb) 100 false (dA9 Tryd.f15) ([plnV N p n c P, .pointer (some ⟨2, 0, none⟩), .int .i64 0, .int .i64 0, .pointer (some ⟨4, 0, none⟩), .int .i64 0] ++ tl 46 g, ⟨6, [(l13b, tIn), ([.int .i64 (mnP P), .slice (some ⟨5, 0, none⟩) 13 13, .int .i64 0], 29), (l, tIn), hD N P p n c, x, (rdV, rdT)]⟩, []) ⟨[], [], []⟩) 7 45 none ([plnV N p n c P, .pointer (some ⟨2, 0, none⟩), .int .i64 0, .int .i64 0, .pointer (some ⟨4, 0, none⟩), .int .i64 0, .int .i64 156]) ⟨6, [(l13b, tIn), ([.int .i64 (mnP P), .slice (some ⟨5, 0, none⟩) 13 13, .int .i64 0], 29), (l, tIn), hD N P p n c, x, (rdV, rdT)]⟩ [(true, true)] := ⟨by kernel_rfl, by kernel_rfl, by kernel_rfl⟩
theorem db_10 (x : List Value × TypeId) (p : Option Addr) (n c : Nat) (N P b : Int) (l : List Value) (g : Nat → Value) : GoesT (evC (tabH Tryd.prog extY conN hcDb) 100 false (dA10 Tryd.f15) ([plnV N p n c P, .pointer (some ⟨2, 0, none⟩), .int .i64 0, .int .i64 0, .pointer (some ⟨4, 0, none⟩), .int .i64 0, .int .i64 b] ++ tl 45 g, ⟨5, [([.int .i64 (mnP P), .slice (some ⟨3, 0, none⟩) l.length grown, .int .i64 0], 29), (l, tIn), hD N P p n c, x, (rdV, rdT)]⟩, []) ⟨[], [], []⟩) 8 44 none ([plnV N p n c P, .pointer (some ⟨2, 0, none⟩), .int .i64 0, .int .i64 0, .pointer (some ⟨4, 0, none⟩), .int .i64 0, .int .i64 b, .int .i64 1]) ⟨5, [([.int .i64 (mnP P), .slice (some ⟨3, 0, none⟩) l.length grown, .int .i64 0], 29), (l, tIn), hD N P p n c, x, (rdV, rdT)]⟩ [] := ⟨by kernel_rfl, by kernel_rfl, by kernel_rfl⟩
theorem db_10n (x : List Value × TypeId) (p : Option Addr) (n c : Nat) (N P b : Int) (g : Nat → Value) : GoesT (evC (tabH Tryd.prog extY conN hcDb) 100 false (dA10 Tryd.f15) ([plnV N p n c P, .pointer (some ⟨2, 0, none⟩), .int .i64 0, .int .i64 0, .pointer (some ⟨3, 0, none⟩), .int .i64 0, .int .i64 b] ++ tl 45 g, ⟨4, [([.int .i64 (mnP P), .slice none 0 0, .int .i64 0], 29), hD N P p n c, x, (rdV, rdT)]⟩, []) ⟨[], [], []⟩) 8 44 none ([plnV N p n c P, .pointer (some ⟨2, 0, none⟩), .int .i64 0, .int .i64 0, .pointer (some ⟨3, 0, none⟩), .int .i64 0, .int .i64 b, .int .i64 1]) ⟨4, [([.int .i64 (mnP P), .slice none 0 0, .int .i64 0], 29), hD N P p n c, x, (rdV, rdT)]⟩ [] := ⟨by kernel_rfl, by kernel_rfl, by kernel_rfl⟩
theorem db_10a (x : List Value × TypeId) (p : Option Addr) (n c : Nat) (N P b : Int) (l : List Value) (g : Nat → Value) : GoesT (evC (tabH Tryd.prog extY conN hcDb) 100 false (dA10 Tryd.f15) ([plnV N p n c P, .pointer (some ⟨2, 0, none⟩), .int .i64 0, .int .i64 0, .pointer (some ⟨4, 0, none⟩), .int .i64 0, .int .i64 b] ++ tl 45 g, ⟨6, [(l13a, tIn), ([.int .i64 (mnP P), .slice (some ⟨5, 0, none⟩) 13 13, .int .i64 0], 29), (l, tIn), hD N P p n c, x, (rdV, rdT)]⟩, []) ⟨[], [], []⟩) 8 44 none ([plnV N p n c P, .pointer (some ⟨2, 0, none⟩), .int .i64 0, .int .i64 0, .pointer (some ⟨4, 0, none⟩), .int .i64 0, .int .i64 b, .int .i64 1]) ⟨6, [(l13a, tIn), ([.int .i64 (mnP P), .slice (some ⟨5, 0, none⟩) 13 13, .int .i64 0], 29), (l, tIn), hD N P p n c, x, (rdV, rdT)]⟩ [] := ⟨by kernel_rfl, by kernel_rfl, by kernel_rfl⟩
theorem db_10b (x : List Value × TypeId) (p : Option Addr) (n c : Nat) (N P b : Int) (l : List Value) (g : Nat → Value) : GoesT (evC (tabH Tryd.prog extY conN hcDb) 100 false (dA10 Tryd.f15) ([plnV N p n c P, .pointer (some ⟨2, 0, none⟩), .int .i64 0, .int .i64 0, .pointer (some ⟨4, 0, none⟩), .int .i64 0, .int .i64 b] ++ tl 45 g, ⟨6, [(l13b, tIn), ([.int .i64 (mnP P), .slice (some ⟨5, 0, none⟩) 13 13, .int .i64 0], 29), (l, tIn), hD N P p n c, x, (rdV, rdT)]⟩, []) ⟨[], [], []⟩) 8 44 none ([plnV N p n c P, .pointer (some ⟨2, 0, none⟩), .int .i64 0, .int .i64 0, .pointer (some ⟨4, 0, none⟩), .int .i64 0, .int .i64 b, .int .i64 1]) ⟨6, [(l13b, tIn), ([.int .i64 (mnP P), .slice (some ⟨5, 0, none⟩) 13 13, .int .i64 0], 29), (l, tIn), hD N P p n c, x, (rdV, rdT)]⟩ [] := ⟨by kernel_rfl, by kernel_rfl, by kernel_rfl⟩
theorem db_go (x : List Value × TypeId) (p : Option Addr) (n c : Nat) (N P b s : Int) (j4 j5 : Value) (g : Nat → Value) : GoesT (evC (tabH Tryd.prog extY conN hcDb) 100 false (dAL Tryd.f15) ([plnV N p n c P, .pointer (some ⟨2, 0, none⟩), .int .i64 0, .int .i64 0, j4, j5, .int .i64 b, .int .i64 s] ++ tl 44 g, hC3 N P p n c x, [cmp true]) ⟨[], [], []⟩) 8 44 none ([plnV N p n c P, .pointer (some ⟨2, 0, none⟩), .int .i64 0, .int .i64 0, j4, j5, .int .i64 b, .int .i64 (IntKind.i64.wrap (s + 1))]) (hC3 N P p n c x) [(decide (IntKind.i64.wrap (s * s) < N), true)] := ⟨by kernel_rfl, by kernel_rfl, by kernel_rfl⟩
theorem db_out (x : List Value × TypeId) (p : Option Addr) (n c : Nat) (N P b s : Int) (j4 j5 : Value) (g : Nat → Value) : GoesT (evC (tabH Tryd.prog extY conN hcDb) 100 false (dAL Tryd.f15) ([plnV N p n c P, .pointer (some ⟨2, 0, none⟩), .int .i64 0, .int .i64 0, j4, j5, .int .i64 b, .int .i64 s] ++ tl 44 g, hC3 N P p n c x, [cmp false]) ⟨[], [], []⟩) 8 44 (some (some 0)) ([plnV N p n c P, .pointer (some ⟨2, 0, none⟩), .int .i64 0, .int .i64 0, j4, j5, .int .i64 b, .int .i64 s]) (hC3 N P p n c x) [(decide (IntKind.i64.wrap (s * s) < N), false)] := ⟨by kernel_rfl, by kernel_rfl, by kernel_rfl⟩
theorem db_e (x : List Value × TypeId) (p : Option Addr) (n c : Nat) (N P b s : Int) (j4 j5 : Value) (g : Nat → Value) : GoesT (evC (tabH Tryd.prog extY conN hcDb) 100 false (dAE Tryd.f15) ([plnV N p n c P, .pointer (some ⟨2, 0, none⟩), .int .i64 0, .int .i64 0, j4, j5, .int .i64 b, .int .i64 s] ++ tl 44 g, hC3 N P p n c x, []) ⟨[], [], []⟩) 4 48 (some none) ([plnV N p n c P, .pointer (some ⟨2, 0, none⟩), .int .i64 (bdE s b), .int .i64 0]) (hC3 N P p n c x) [] := ⟨by kernel_rfl, by kernel_rfl, by kernel_rfl⟩
def dbY (v : Int) : Lf → Prop := fun y => resS Tryd.prog Tryd.f15 y.1 y.2.1 = some (.tuple #[.int .i64 v, .int .i64 0])
theorem db_rest (x : List Value × TypeId) (p : Option Addr) (n c : Nat) {k : Nat} (h0 : 0 < k) (hn : k ≤ 16777216) (P b : Int) (j4 j5 : Value) (g : Nat → Value) :
    RunsW (tabH Tryd.prog extY conN hcDb) (.seq (.block 0 (.loop (dAL Tryd.f15))) (dAE Tryd.f15)) ([plnV (k : Nat) p n c P, .pointer (some ⟨2, 0, none⟩), .int .i64 0, .int .i64 0, j4, j5, .int .i64 b, .int .i64 1] ++ tl 44 g, hC3 (k : Nat) P p n c x, []) fun e y => e = some none ∧ dbY (bdE (rtK k : Nat) b) y := by
  refine RunsW.seq (P1 := fun e y => match e with | none => (∃ j4 j5 g, y.1 = [plnV (k : Nat) p n c P, .pointer (some ⟨2, 0, none⟩), .int .i64 0, .int .i64 0, j4, j5, .int .i64 b, .int .i64 (rtK k : Nat)] ++ tl 44 g) ∧ y.2.1 = hC3 (k : Nat) P p n c x | some none => False | some (some _) => False)
    (RunsW.forLoop (P := fun y => (∃ j4 j5 g, y.1 = [plnV (k : Nat) p n c P, .pointer (some ⟨2, 0, none⟩), .int .i64 0, .int .i64 0, j4, j5, .int .i64 b, .int .i64 (rtK k : Nat)] ++ tl 44 g) ∧ y.2.1 = hC3 (k : Nat) P p n c x) (R := fun _ => False) (fun z y => ∃ s : Nat, k + 1 ≤ z + s ∧ s ≤ k ∧ rtN z s k = rtK k ∧ (∃ j4 j5 g, y.1 = [plnV (k : Nat) p n c P, .pointer (some ⟨2, 0, none⟩), .int .i64 0, .int .i64 0, j4, j5, .int .i64 b, .int .i64 (s : Nat)] ++ tl 44 g) ∧ y.2.1 = hC3 (k : Nat) P p n c x) ?_ (n := k) ⟨1, by omega, by omega, rfl, ⟨j4, j5, g, rfl⟩, rfl⟩) ?_ ?_
  · rintro z ⟨t, h', s0⟩ ⟨s, hz, hs, he, ⟨j4, j5, g, h1⟩, h2⟩
    simp only at h1 h2
    subst h1 h2
    have hq := rt_sq (s := s) (n := k) (by omega)
    by_cases c1 : s * s < k
    · rw [decide_eq_true c1] at hq
      have hlt := rt_le c1
      cases z with
      | zero => omega
      | succ z =>
        rw [rtN_go c1] at he
        have hG := db_go x p n c (k : Nat) P b s j4 j5 g
        rw [show IntKind.i64.wrap ((s : Int) + 1) = ((s + 1 : Nat) : Int) from by rw [wrapI (by omega) (by omega)]; omega] at hG
        exact RunsW.ends T9_ok hG (okOne hq) fun g s' => ⟨z, by omega, s + 1, by omega, by omega, he, ⟨j4, j5, g, rfl⟩, rfl⟩
    · rw [decide_eq_false c1] at hq
      rw [rtN_stop c1] at he
      exact RunsW.ends T9_ok (db_out x p n c (k : Nat) P b s j4 j5 g) (okOne hq) fun g s' => ⟨rfl, ⟨j4, j5, g, by rw [← he]⟩, rfl⟩
  · rintro ⟨t, h', s⟩ ⟨⟨j4, j5, g, h1⟩, h2⟩
    simp only at h1 h2
    subst h1 h2
    exact RunsW.ends T9_ok (db_e x p n c (k : Nat) P b (rtK k : Nat) j4 j5 g) ok19 fun g s' => ⟨rfl, rfl⟩
  · intro e y he
    match e, he with
    | none, he => exact absurd he (by simp)
/-- behind the sum: the memory made small -/
theorem db_cut {x : List Value × TypeId} {p : Option Addr} {n : Nat} {L : List Int} (hR : RowAt 1 x p n L) (c : Nat) {k : Nat} (h0 : 0 < k) (hn : k ≤ 16777216) (P b : Int) (q : Nat) {h : Hp} (b0 : h.blk? 0 = some (rdV, rdT)) (b1 : h.blk? 1 = some x) (b2 : h.blk? 2 = some (hD (k : Nat) P p n c)) (g : Nat → Value) :
    RunsW (tabH Tryd.prog extY conN hcDb) (.seq (.block 0 (.loop (dAL Tryd.f15))) (dAE Tryd.f15)) ([plnV (k : Nat) p n c P, .pointer (some ⟨2, 0, none⟩), .int .i64 0, .int .i64 0, .pointer (some ⟨q, 0, none⟩), .int .i64 0, .int .i64 b, .int .i64 1] ++ tl 44 g, h, []) fun e y => e = some none ∧ dbY (bdE (rtK k : Nat) b) y := by
  refine RunsW.preP [some (plnV (k : Nat) p n c P), some (.pointer (some ⟨2, 0, none⟩)), some (.int .i64 0), some (.int .i64 0), none, none, some (.int .i64 b), some (.int .i64 1)] [0, 1, 2] [(rdV, rdT), x, hD (k : Nat) P p n c] (s' := []) (fun j g => ?_) rfl (by decide) ?_ (fun z hz => ?_) (by decide) ?_
  · exact db_rest x p n c h0 hn P b _ _ g
  · rcases hR.pos with ⟨rfl, _⟩ | ⟨o, rfl, _⟩
    · exact ⟨by kernel_rfl, rfl, rfl, rfl, rfl, rfl, trivial⟩
    · exact ⟨by kernel_rfl, rfl, rfl, rfl, rfl, rfl, trivial⟩
  · have hz' : z = (0, (rdV, rdT)) ∨ z = (1, x) ∨ z = (2, hD (k : Nat) P p n c) := by simpa using hz
    rcases hz' with rfl | rfl | rfl
    · exact ⟨by kernel_rfl, by rw [b0]; kernel_rfl⟩
    · exact kept_x19 hR.st (b := 1) b1 _ (by decide)
    · rcases hR.pos with ⟨rfl, _⟩ | ⟨o, rfl, _⟩
      · exact ⟨by kernel_rfl, by rw [b2]; kernel_rfl⟩
      · exact ⟨by kernel_rfl, by rw [b2]; kernel_rfl⟩
  · rcases hR.pos with ⟨rfl, _⟩ | ⟨o, rfl, _⟩ <;> kernel_rfl
theorem db_padded {x : List Value × TypeId} {p : Option Addr} {n : Nat} {L : List Int} (hR : RowAt 1 x p n L) (c : Nat) {k : Nat} (h0 : 0 < k) (hn : k ≤ 16777216) {j : Nat} (hj : j ≤ 26) (g : Nat → Value) :
    RunsW (tabH Tryd.prog extY conN hcDb) (dAA Tryd.f15) ([plnV (k : Nat) p n c ((2 ^ j : Nat) : Int), .pointer (some ⟨2, 0, none⟩), .int .i64 0, .int .i64 0] ++ tl 48 g, hC3 (k : Nat) ((2 ^ j : Nat) : Int) p n c x, []) fun e y => e = some none ∧ dbY (bdE (rtK k : Nat) (sumF wrR (plI ((2 ^ j : Nat) : Int)))) y := by
  obtain ⟨q1, q2⟩ := pl_pow 24
  have big : ∀ P : Int, 16777216 < P → mnP P = ((2 ^ 24 : Nat) : Int) := fun P h => by unfold mnP; rw [if_pos h]; rfl
  have t24 : (((2 ^ 24 : Nat) : Int)).toNat = 2 ^ 24 := Int.toNat_natCast _
  have w24 : decide (plW (((2 ^ 24 : Nat) : Int)).toNat = 1) = true := by rw [t24]; exact decide_eq_true q2
  have o24 : okPl ((2 ^ 24 : Nat) : Int) true = true := by
    unfold okPl
    rw [t24, q1]
    rfl
  have b24 : mkBad ((2 ^ 24 : Nat) : Int) = false := by decide
  by_cases h25 : j = 25
  · subst h25
    have e : ((2 ^ 25 : Nat) : Int) = 33554432 := rfl
    have es : sumF wrR (plI ((2 ^ 25 : Nat) : Int)) = 152 := by rw [plI_pow]; decide
    rw [es, e]
    have hG := db_4 x p n c (k : Nat) 33554432 (wN (plL (2 ^ 24))) g
    have hm := big 33554432 (by decide)
    rw [hm] at hG
    refine RunsW.goes T9_ok hG (okTwo (eqI_wN (2 ^ 24)) (okTwo w24 (okTwo o24 (okOne b24)))) fun g => ?_
    rw [← hm]
    refine RunsW.goes T9_ok (db_5t x p n c (k : Nat) 33554432 (wN (plL (2 ^ 24))) g) (okOne rfl) fun g => RunsW.goes T9_ok (db_7g x p n c (k : Nat) 33554432 (wN (plL (2 ^ 24))) g) (okOne (by decide)) fun g => RunsW.goes T9_ok (db_9a x p n c (k : Nat) 33554432 (wN (plL (2 ^ 24))) g) (okOne rfl) fun g => RunsW.goes T9_ok (db_10a x p n c (k : Nat) 33554432 152 (wN (plL (2 ^ 24))) g) ok19 fun g => ?_
    exact db_cut hR c h0 hn 33554432 152 4 rfl rfl rfl g
  · by_cases h26 : j = 26
    · subst h26
      have e : ((2 ^ 26 : Nat) : Int) = 67108864 := rfl
      have es : sumF wrR (plI ((2 ^ 26 : Nat) : Int)) = 156 := by rw [plI_pow]; decide
      rw [es, e]
      have hG := db_4 x p n c (k : Nat) 67108864 (wN (plL (2 ^ 24))) g
      have hm := big 67108864 (by decide)
      rw [hm] at hG
      refine RunsW.goes T9_ok hG (okTwo (eqI_wN (2 ^ 24)) (okTwo w24 (okTwo o24 (okOne b24)))) fun g => ?_
      rw [← hm]
      refine RunsW.goes T9_ok (db_5f x p n c (k : Nat) 67108864 (wN (plL (2 ^ 24))) g) (okOne (by decide)) fun g => RunsW.goes T9_ok (db_7t x p n c (k : Nat) 67108864 (wN (plL (2 ^ 24))) g) (okOne rfl) fun g => RunsW.goes T9_ok (db_9b x p n c (k : Nat) 67108864 (wN (plL (2 ^ 24))) g) (okOne rfl) fun g => RunsW.goes T9_ok (db_10b x p n c (k : Nat) 67108864 156 (wN (plL (2 ^ 24))) g) ok19 fun g => ?_
      exact db_cut hR c h0 hn 67108864 156 4 rfl rfl rfl g
    · have hj24 : j ≤ 24 := by omega
      have hle : 2 ^ j ≤ 16777216 := Nat.pow_le_pow_right (by decide) hj24
      have hpos : 0 < 2 ^ j := Nat.two_pow_pos j
      obtain ⟨r1, r2⟩ := pl_pow j
      generalize hQ : 2 ^ j = Q at *
      have hm : mnP (Q : Int) = (Q : Int) := by unfold mnP; rw [if_neg (by omega)]
      have et : ((Q : Int)).toNat = Q := Int.toNat_natCast Q
      have wQ : decide (plW ((Q : Int)).toNat = 1) = true := by rw [et]; exact decide_eq_true r2
      have bQ : mkBad (Q : Int) = false := decide_eq_false (by omega)
      have ok1 : decide (0 < (Q : Int) ∧ (Q : Int) ≤ 67108864) = true := decide_eq_true (by omega)
      have n1 : ((Q : Int) == 33554432) = false := beq_eq_false_iff_ne.2 (by omega)
      have n2 : ((Q : Int) == 67108864) = false := beq_eq_false_iff_ne.2 (by omega)
      cases hp : (plL Q).isEmpty with
      | true =>
        have e0 : plL Q = [] := by simpa using hp
        have o1 : okPl (Q : Int) false = true := by unfold okPl; rw [ok1, et]; simpa using hp
        have es : sumF wrR (plI (Q : Int)) = 0 := by unfold plI; rw [et, e0]; rfl
        rw [es]
        have hG := db_4n x p n c (k : Nat) (Q : Nat) g
        rw [hm] at hG
        refine RunsW.goes T9_ok hG (okTwo wQ (okTwo o1 (okOne bQ))) fun g => ?_
        have g5 := db_5fn x p n c (k : Nat) (Q : Nat)
        have g7 := db_7fn x p n c (k : Nat) (Q : Nat)
        have g9 := db_9n x p n c (k : Nat) (Q : Nat)
        have g10 := db_10n x p n c (k : Nat) (Q : Nat) 0
        rw [hm] at g5 g7 g9 g10
        refine RunsW.goes T9_ok (g5 g) (okOne n1) fun g => RunsW.goes T9_ok (g7 g) (okOne n2) fun g => RunsW.goes T9_ok (g9 g) (okOne rfl) fun g => RunsW.goes T9_ok (g10 g) ok19 fun g => ?_
        exact db_cut hR c h0 hn (Q : Nat) 0 3 rfl rfl rfl g
      | false =>
        have o1 : okPl (Q : Int) true = true := by unfold okPl; rw [ok1, et]; simpa using hp
        have hl := pl_len hpos
        have q3 : (((plL Q).map fun r => ((r : Nat) : Int)).all isR) = true := by
          rw [List.all_map]
          exact List.all_eq_true.2 fun y hy => (isR_of (pl_mem hpos y hy)).1
        have q4 : (rowCO tIn (wN (plL Q)) 0 (wN (plL Q)).length && ((cutO (wN (plL Q)) 0 (wN (plL Q)).length).all isR && Nat.blt (wN (plL Q)).length 1073741824)) = true := by
          rw [rowCO_wN (L := plL Q) (by omega), cutO_wN, q3, blt_iff.2 (show (wN (plL Q)).length < 1073741824 by rw [wN_len]; omega)]
          rfl
        have es : plI (Q : Int) = cutO (wN (plL Q)) 0 (wN (plL Q)).length := by rw [cutO_wN]; unfold plI; rw [et]
        have hG := db_4 x p n c (k : Nat) (Q : Nat) (wN (plL Q)) g
        have g5 := db_5f x p n c (k : Nat) (Q : Nat) (wN (plL Q))
        have g7 := db_7f x p n c (k : Nat) (Q : Nat) (wN (plL Q))
        have g9 := db_9 x p n c (k : Nat) (Q : Nat) (wN (plL Q))
        have g10 := db_10 x p n c (k : Nat) (Q : Nat) (sumF wrR (cutO (wN (plL Q)) 0 (wN (plL Q)).length)) (wN (plL Q))
        rw [hm] at hG g5 g7 g9 g10
        refine RunsW.goes T9_ok hG (okTwo (eqI_wN Q) (okTwo wQ (okTwo o1 (okOne bQ)))) fun g => RunsW.goes T9_ok (g5 g) (okOne n1) fun g => RunsW.goes T9_ok (g7 g) (okOne n2) fun g => RunsW.goes T9_ok (g9 g) (okOne q4) fun g => RunsW.goes T9_ok (g10 g) ok19 fun g => ?_
        rw [es]
        exact db_cut hR c h0 hn (Q : Nat) _ 4 rfl rfl rfl g
def gDb : AnsH := fun vals h s => match hasRd h, vals, s with
  | true, [.agg ⟨[.int .i64 N, .slice p n _, .int .i64 P]⟩], .inr (.inr (.inr (.inl true))) :: .inr (.inl v) :: s' => some (.tuple #[.int .i64 v, .int .i64 0], h, s', [(decide (bdV N P (rowO h p n) = v), true), (ckB N P (rowO h p n), true), (rowIP h p n, true)])
  | true, [.agg ⟨[.int .i64 N, .slice p n _, .int .i64 P]⟩], .inr (.inr (.inr (.inl false))) :: s' => some (.tuple #[.int .i64 0, .int .i64 10], h, s', [(ckB N P (rowO h p n), false), (rowIP h p n, true)])
  | _, _, _ => none
theorem gDb_ok : AnsHOk 15 gDb := by
  intro vals h s v h' s' lg hg hl m B w E hv
  unfold gDb at hg
  split at hg
  · rename_i N p n c P v0 s2 ht
    cases hg
    have l1 := of_decide_eq_true (show decide (bdV N P (rowO h p n) = v0) = true from hl _ (List.mem_cons_self ..))
    have l2 : ckB N P (rowO h p n) = true := hl (ckB N P (rowO h p n), true) (by simp)
    obtain ⟨x, p', f, E0, hR, hf⟩ := row_in E (hl (rowIP h p n, true) (by simp)) ht
    obtain ⟨e1, e2⟩ := rowO_at hR (h := hC3 N P p' n c x) rfl
    subst l1
    have hv := plnV_lt c N P hR
    have hlen := hR.len
    have fin : ∀ {co : Code}, Tryd.f15.body = some co → RunsW (tabH Tryd.prog extY conN hcDb) co ([plnV N p' n c P] ++ List.replicate (Tryd.f15.ntmps - [plnV N p' n c P].length) undef, hTR x, []) (fun e y => (e = none ∨ e = some none) ∧ dbY (bdV N P (rowO h p n)) y) → Calls Tryd.prog 15 ([plnV N p n c P].map (mv m)).toArray w fun e w' => ∃ m', e = .returned (mv m' (.tuple #[.int .i64 (bdV N P (rowO h p n)), .int .i64 0])) ∧ Came m B h w (.tuple #[.int .i64 (bdV N P (rowO h p n)), .int .i64 0]) h m' w' := fun hco hr => by
      have := row_calls0E (T := (tabH Tryd.prog extY conN hcDb)) Tryd.func15 hco (vals := [plnV N p' n c P]) hv (v := .tuple #[.int .i64 (bdV N P (rowO h p n)), .int .i64 0]) (by rfl) hr E E0
      simp only [List.map_cons, List.map_nil, plnV_rn (hf c)] at this
      exact this
    obtain ⟨hN, h2⟩ := ckB_of l2
    have k1 : ckB N P (rowO (hC3 N P p' n c x) p' n) = true := by rw [e1]; exact l2
    rcases h2 with ⟨h0, _, h4, h5⟩ | ⟨hL, ⟨j, hj, hj2⟩, _⟩
    · have k4 : okRs (hC3 N P p' n c x) p' n = true := by
        unfold okRs
        rw [e1, e2, List.all_eq_true.2 h4, blt_iff.2 (show n < 1073741824 by omega)]
        rfl
      refine fin db_body0 (RunsW.ends T9_ok (db_p x p' n c N P) (okTwo k4 (okTwo (decide_eq_false (by omega)) (okTwo rfl (okTwo k1 (okOne e2))))) fun g s' => ⟨.inr rfl, ?_⟩)
      have : bdV N P (rowO h p n) = sumF wrR (rowO (hC3 N P p' n c x) p' n) := by unfold bdV; rw [if_pos h0, e1]
      rw [this]
      exact rfl
    · obtain ⟨k, rfl⟩ : ∃ k : Nat, N = (k : Int) := ⟨N.toNat, by omega⟩
      subst hj
      have hpos : 0 < 2 ^ j := Nat.two_pow_pos j
      have hval : bdV (k : Int) ((2 ^ j : Nat) : Int) (rowO h p n) = bdE (rtK k : Nat) (sumF wrR (plI ((2 ^ j : Nat) : Int))) := by
        unfold bdV
        rw [if_neg (by omega), Int.toNat_natCast]
      refine fin db_body ?_
      rw [hval]
      refine RunsW.goes T9_ok (db_0 x p' n c (k : Nat) _) ok19 fun g => RunsW.goes T9_ok (db_1 x p' n c (k : Nat) _ g) (okTwo rfl (okTwo k1 (okOne e2))) fun g => ?_
      refine RunsW.seq (P1 := fun e y => e = some none ∧ dbY (bdE (rtK k : Nat) (sumF wrR (plI ((2 ^ j : Nat) : Int)))) y) ?_ (fun y hy => by cases hy.1) (fun e y hy => ⟨.inr hy.1, hy.2⟩)
      refine RunsW.goes T9_ok (db_3 x p' n c (k : Nat) _ g) (okOne (decide_eq_true (by omega))) fun g2 => ?_
      have h3 : RunsW (tabH Tryd.prog extY conN hcDb) (dAA Tryd.f15) ((([plnV (k : Nat) p' n c ((2 ^ j : Nat) : Int), .pointer (some ⟨2, 0, none⟩), .int .i64 0, .int .i64 0] ++ [g 0, g 1, g 2, g 3, g 4, g 5, g 6, .pointer (some ⟨2, 2, none⟩), .int .i64 ((2 ^ j : Nat) : Int), .bool true]) ++ tl 38 g2), hC3 (k : Nat) ((2 ^ j : Nat) : Int) p' n c x, []) fun e y => e = some none ∧ dbY (bdE (rtK k : Nat) (sumF wrR (plI ((2 ^ j : Nat) : Int)))) y := by
        rw [List.append_assoc]
        exact RunsW.refold19 (by simp [tl_len]) fun g3 => db_padded hR c (by omega) (by omega) hj2 g3
      exact RunsW.cond true (by rfl) (by rfl) h3
  · rename_i N p n c P s2 ht
    cases hg
    have l2 : ckB N P (rowO h p n) = false := hl _ (List.mem_cons_self ..)
    obtain ⟨x, p', f, E0, hR, hf⟩ := row_in E (hl (rowIP h p n, true) (by simp)) ht
    obtain ⟨e1, e2⟩ := rowO_at hR (h := hC3 N P p' n c x) rfl
    have := row_calls0E (T := (tabH Tryd.prog extY conN hcDb)) Tryd.func15 db_body0 (vals := [plnV N p' n c P]) (plnV_lt c N P hR) (v := .tuple #[.int .i64 0, .int .i64 10]) (by rfl) (RunsW.ends T9_ok (db_f x p' n c N P) (okTwo rfl (okTwo (by rw [e1]; exact l2) (okOne e2))) fun g s' => ⟨.inr rfl, rfl⟩) E E0
    simp only [List.map_cons, List.map_nil, plnV_rn (hf c)] at this
    exact this
  · cases hg
end Go.Proofs.YtlmccannfocniaaDoor
