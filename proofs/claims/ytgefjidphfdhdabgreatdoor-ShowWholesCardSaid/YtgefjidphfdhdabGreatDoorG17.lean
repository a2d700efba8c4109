/-
  Shl, RdX, RpA, RpB, NumSh, NumSi, NumSj, NumSk, NumRh, NumSm, NumSn, NumWh, NumRi, NumSo
-/
import Derived.Shelf.LaysM
import Derived.Shelf.Strconv.Itoa3
import Derived.Shelf.Small.Strs
import Derived.Shelf.Strings.Repeat
import Derived.Test.YtgefjidphfdhdabGreatDoorG16
namespace Go.Proofs.YtgefjidphfdhdabGreatDoor
open Go.Shelf
def lays106_ren : Go.Shelf.Ren := ⟨fun | 106 => 54 | 213 => 87 | 265 => 110 | n => n, fun | 9 => 9 | 3 => 3 | n => n, fun | n => n⟩
theorem lays106 : Go.Proofs.Lays.n106 Tryz.prog lays106_ren := {
  mixed := by kernel_rfl
  f106 := Tryz.func54.trans (congrArg some (by kernel_rfl))
  f213 := Tryz.func87.trans (congrArg some (by kernel_rfl))
  f265 := Tryz.func110.trans (congrArg some (by kernel_rfl))
  t3 := Tryz.underlying3
  a3 := Tryz.isAgg3
  z3 := Tryz.sizeOf3
  v3 := Tryz.zeroValue3
  t9 := Tryz.underlying9
  a9 := Tryz.isAgg9
  z9 := Tryz.sizeOf9
  v9 := Tryz.zeroValue9 }
def laysM171_ren : Go.Shelf.Ren := ⟨fun | 171 => 23 | 243 => 47 | 246 => 81 | 283 => 104 | 284 => 105 | 285 => 106 | 286 => 107 | 129 => 89 | 317 => 117 | 318 => 118 | 319 => 119 | 320 => 120 | 337 => 130 | 338 => 131 | n => n, fun | 3 => 3 | 9 => 9 | 2 => 2 | 4 => 4 | 171 => 143 | 0 => 0 | 53 => 22 | 37 => 83 | 5 => 5 | 173 => 145 | 212 => 156 | 51 => 62 | 20 => 20 | 213 => 157 | 46 => 78 | 232 => 170 | 233 => 171 | n => n, fun | 17 => 1 | 18 => 4 | 19 => 5 | n => n⟩
theorem laysM171 : Go.Proofs.LaysM.n171 Tryz.prog laysM171_ren := {
  mixed := by kernel_rfl
  f129 := Tryz.func89.trans (congrArg some (by kernel_rfl))
  f171 := Tryz.func23.trans (congrArg some (by kernel_rfl))
  f243 := Tryz.func47.trans (congrArg some (by kernel_rfl))
  f246 := Tryz.func81.trans (congrArg some (by kernel_rfl))
  f283 := Tryz.func104.trans (congrArg some (by kernel_rfl))
  f284 := Tryz.func105.trans (congrArg some (by kernel_rfl))
  f285 := Tryz.func106.trans (congrArg some (by kernel_rfl))
  f286 := Tryz.func107.trans (congrArg some (by kernel_rfl))
  f317 := Tryz.func117.trans (congrArg some (by kernel_rfl))
  f318 := Tryz.func118.trans (congrArg some (by kernel_rfl))
  f319 := Tryz.func119.trans (congrArg some (by kernel_rfl))
  f320 := Tryz.func120.trans (congrArg some (by kernel_rfl))
  f337 := Tryz.func130.trans (congrArg some (by kernel_rfl))
  f338 := Tryz.func131.trans (congrArg some (by kernel_rfl))
  t0 := Tryz.underlying0
  a0 := Tryz.isAgg0
  z0 := Tryz.sizeOf0
  v0 := Tryz.zeroValue0
  t2 := Tryz.underlying2
  a2 := Tryz.isAgg2
  z2 := Tryz.sizeOf2
  v2 := Tryz.zeroValue2
  t3 := Tryz.underlying3
  a3 := Tryz.isAgg3
  z3 := Tryz.sizeOf3
  v3 := Tryz.zeroValue3
  t4 := Tryz.underlying4
  a4 := Tryz.isAgg4
  z4 := Tryz.sizeOf4
  v4 := Tryz.zeroValue4
  t5 := Tryz.underlying5
  a5 := Tryz.isAgg5
  z5 := Tryz.sizeOf5
  v5 := Tryz.zeroValue5
  t9 := Tryz.underlying9
  a9 := Tryz.isAgg9
  z9 := Tryz.sizeOf9
  v9 := Tryz.zeroValue9
  t20 := Tryz.underlying20
  a20 := Tryz.isAgg20
  z20 := Tryz.sizeOf20
  v20 := Tryz.zeroValue20
  t37 := Tryz.underlying83
  a37 := Tryz.isAgg83
  z37 := Tryz.sizeOf83
  v37 := Tryz.zeroValue83
  t46 := Tryz.underlying78
  a46 := Tryz.isAgg78
  z46 := Tryz.sizeOf78
  v46 := Tryz.zeroValue78
  t51 := Tryz.underlying62
  a51 := Tryz.isAgg62
  z51 := Tryz.sizeOf62
  v51 := Tryz.zeroValue62
  t53 := Tryz.underlying22
  a53 := Tryz.isAgg22
  z53 := Tryz.sizeOf22
  v53 := Tryz.zeroValue22
  t171 := Tryz.underlying143
  a171 := Tryz.isAgg143
  z171 := Tryz.sizeOf143
  v171 := Tryz.zeroValue143
  t173 := Tryz.underlying145
  a173 := Tryz.isAgg145
  z173 := Tryz.sizeOf145
  v173 := Tryz.zeroValue145
  t212 := Tryz.underlying156
  a212 := Tryz.isAgg156
  z212 := Tryz.sizeOf156
  v212 := Tryz.zeroValue156
  t213 := Tryz.underlying157
  a213 := Tryz.isAgg157
  z213 := Tryz.sizeOf157
  t232 := Tryz.underlying170
  a232 := Tryz.isAgg170
  z232 := Tryz.sizeOf170
  v232 := Tryz.zeroValue170
  t233 := Tryz.underlying171
  a233 := Tryz.isAgg171
  z233 := Tryz.sizeOf171
  v233 := Tryz.zeroValue171
  g17 := by kernel_rfl
  g18 := by kernel_rfl
  g19 := by kernel_rfl
  i0 := by kernel_rfl
  i2 := by kernel_rfl
  i3 := by kernel_rfl
  i4 := by kernel_rfl
  i5 := by kernel_rfl
  i9 := by kernel_rfl
  i20 := by kernel_rfl
  i37 := by kernel_rfl
  i46 := by kernel_rfl
  i51 := by kernel_rfl
  i53 := by kernel_rfl
  i171 := by kernel_rfl
  i173 := by kernel_rfl
  i212 := by kernel_rfl
  i232 := by kernel_rfl
  i233 := by kernel_rfl
  m17 := by kernel_rfl
  m18 := by kernel_rfl
  m19 := by kernel_rfl }
def lays105_ren : Go.Shelf.Ren := ⟨fun | 105 => 24 | 212 => 48 | 99 => 49 | 165 => 50 | 166 => 51 | 170 => 52 | 169 => 53 | 263 => 82 | 264 => 83 | 206 => 84 | 240 => 85 | 241 => 86 | 276 => 108 | 277 => 109 | n => n, fun | 9 => 9 | 3 => 3 | 4 => 4 | 20 => 20 | 0 => 0 | 46 => 78 | 109 => 79 | 5 => 5 | 72 => 85 | 76 => 87 | 51 => 62 | 146 => 122 | 53 => 22 | 148 => 103 | 70 => 82 | 37 => 83 | 75 => 28 | 127 => 125 | 164 => 147 | 80 => 90 | n => n, fun | n => n⟩
theorem lays105 : Go.Proofs.Lays.n105 Tryz.prog lays105_ren := {
  mixed := by kernel_rfl
  f99 := Tryz.func49.trans (congrArg some (by kernel_rfl))
  f105 := Tryz.func24.trans (congrArg some (by kernel_rfl))
  f165 := Tryz.func50.trans (congrArg some (by kernel_rfl))
  f166 := Tryz.func51.trans (congrArg some (by kernel_rfl))
  f169 := Tryz.func53.trans (congrArg some (by kernel_rfl))
  f170 := Tryz.func52.trans (congrArg some (by kernel_rfl))
  f206 := Tryz.func84.trans (congrArg some (by kernel_rfl))
  f212 := Tryz.func48.trans (congrArg some (by kernel_rfl))
  f240 := Tryz.func85.trans (congrArg some (by kernel_rfl))
  f241 := Tryz.func86.trans (congrArg some (by kernel_rfl))
  f263 := Tryz.func82.trans (congrArg some (by kernel_rfl))
  f264 := Tryz.func83.trans (congrArg some (by kernel_rfl))
  f276 := Tryz.func108.trans (congrArg some (by kernel_rfl))
  f277 := Tryz.func109.trans (congrArg some (by kernel_rfl))
  t0 := Tryz.underlying0
  a0 := Tryz.isAgg0
  z0 := Tryz.sizeOf0
  v0 := Tryz.zeroValue0
  t3 := Tryz.underlying3
  a3 := Tryz.isAgg3
  z3 := Tryz.sizeOf3
  v3 := Tryz.zeroValue3
  t4 := Tryz.underlying4
  a4 := Tryz.isAgg4
  z4 := Tryz.sizeOf4
  v4 := Tryz.zeroValue4
  t5 := Tryz.underlying5
  a5 := Tryz.isAgg5
  z5 := Tryz.sizeOf5
  v5 := Tryz.zeroValue5
  t9 := Tryz.underlying9
  a9 := Tryz.isAgg9
  z9 := Tryz.sizeOf9
  v9 := Tryz.zeroValue9
  t20 := Tryz.underlying20
  a20 := Tryz.isAgg20
  z20 := Tryz.sizeOf20
  v20 := Tryz.zeroValue20
  t37 := Tryz.underlying83
  a37 := Tryz.isAgg83
  z37 := Tryz.sizeOf83
  v37 := Tryz.zeroValue83
  t46 := Tryz.underlying78
  a46 := Tryz.isAgg78
  z46 := Tryz.sizeOf78
  v46 := Tryz.zeroValue78
  t51 := Tryz.underlying62
  a51 := Tryz.isAgg62
  z51 := Tryz.sizeOf62
  v51 := Tryz.zeroValue62
  t53 := Tryz.underlying22
  a53 := Tryz.isAgg22
  z53 := Tryz.sizeOf22
  v53 := Tryz.zeroValue22
  t70 := Tryz.underlying82
  a70 := Tryz.isAgg82
  z70 := Tryz.sizeOf82
  v70 := Tryz.zeroValue82
  t72 := Tryz.underlying85
  a72 := Tryz.isAgg85
  z72 := Tryz.sizeOf85
  v72 := Tryz.zeroValue85
  t75 := Tryz.underlying28
  a75 := Tryz.isAgg28
  z75 := Tryz.sizeOf28
  v75 := Tryz.zeroValue28
  t76 := Tryz.underlying87
  a76 := Tryz.isAgg87
  z76 := Tryz.sizeOf87
  v76 := Tryz.zeroValue87
  t109 := Tryz.underlying79
  a109 := Tryz.isAgg79
  z109 := Tryz.sizeOf79
  v109 := Tryz.zeroValue79
  t127 := Tryz.underlying125
  a127 := Tryz.isAgg125
  z127 := Tryz.sizeOf125
  v127 := Tryz.zeroValue125
  t146 := Tryz.underlying122
  a146 := Tryz.isAgg122
  z146 := Tryz.sizeOf122
  v146 := Tryz.zeroValue122
  t148 := Tryz.underlying103
  a148 := Tryz.isAgg103
  z148 := Tryz.sizeOf103
  v148 := Tryz.zeroValue103
  t164 := Tryz.underlying147
  a164 := Tryz.isAgg147
  z164 := Tryz.sizeOf147
  v164 := Tryz.zeroValue147 }
theorem Builder_Extra_105 : Builder.Extra Tryz.prog lays105_ren := {
  sizeBuilder := by kernel_rfl
  liesBuilder := by kernel_rfl
  t5 := Tryz.underlying5
  a5 := Tryz.isAgg5
  z5 := Tryz.sizeOf5
  v5 := Tryz.zeroValue5
  infoByte := by kernel_rfl
  cellsByte := by kernel_rfl
  sizeByte := by kernel_rfl
  neB5 := by decide }
end Go.Proofs.YtgefjidphfdhdabGreatDoor
namespace Go.Proofs.YtgefjidphfdhdabGreatDoor
open Go.KRun Go.Rd
set_option maxRecDepth 100000
theorem okN9R : okLog [] := fun _ h => by cases h
def bR (l : List UInt8) : Value := .string ⟨⟨l⟩⟩
def byR (l : List UInt8) (i : Int) : Int := (((l.getD i.toNat 0).toNat : Nat) : Int)
def sK (F : Func) : Nat → Code
  | 0 => cBody F
  | n + 1 => cSnd (sK F n)
def sP (F : Func) (k : Nat) : Code := cFst (sK F k)
def pO (k : Nat) : Value := .pointer (some ⟨k, 0, none⟩)
theorem bs_eqR (l l' : List UInt8) : ((⟨⟨l⟩⟩ : ByteArray) == ⟨⟨l'⟩⟩) = decide (l = l') := by
  rw [beq_toListBytes, ByteArray.toList_eq, ByteArray.toList_eq]
  show (l == l') = decide (l = l')
  by_cases h : l = l'
  · rw [decide_eq_true h]; simpa using h
  · rw [decide_eq_false h]; simpa using h
theorem beqR_t {x y : Int} (h : x = y) : (x == y) = true := by simpa using h
theorem beqR_f {x y : Int} (h : x ≠ y) : (x == y) = false := by simpa using h
/-! ### a letter as a digit -/
theorem wrap8R {x : Int} (h0 : 0 ≤ x) (h1 : x < 256) : IntKind.u8.wrap x = x := by
  simp [IntKind.wrap, IntKind.bits, IntKind.signed]
  omega
/-! ### what a text begins with -/
def lEqB (u w : List UInt8) (d : Bool) : Bool × Bool := ((⟨⟨u⟩⟩ : ByteArray) == ⟨⟨w⟩⟩, d)
theorem ok_lEqB {u w : List UInt8} {d : Bool} (h : decide (u = w) = d) : (lEqB u w d).1 = (lEqB u w d).2 := by
  show ((⟨⟨u⟩⟩ : ByteArray) == ⟨⟨w⟩⟩) = d
  rw [bs_eqR]
  exact h
/-! ### the first point -/
end Go.Proofs.YtgefjidphfdhdabGreatDoor
namespace Go.Proofs.YtgefjidphfdhdabGreatDoor
open Go.KRun Go.Nt Go.Rd
set_option maxRecDepth 100000
/-! ### noughts at the end -/
def trP (F : Func) : Code := cFst (cBody F)
def trLp (F : Func) : Code := cIn (cIn (cFst (cSnd (cBody F))))
def trE (F : Func) : Code := cSnd (cSnd (cBody F))
theorem tr_body : Tryz.f69.body = some (seqs [trP Tryz.f69] (.seq (.block 0 (.loop (trLp Tryz.f69))) (trE Tryz.f69))) := by kernel_rfl
def trF (l : List UInt8) (c : Int) : List Value := [bR l, .int .u8 c, undef, undef, bR []]
def lm1 (l : List UInt8) : Int := IntKind.i64.wrap (((l.length : Nat) : Int) - 1)
theorem tr_pre (l : List UInt8) (c : Int) : GoesT (evL (tabOf Tryz.prog extY conN true) 100 [trP Tryz.f69] ([bR l, .int .u8 c] ++ List.replicate 21 undef, ⟨0, []⟩, []) ⟨[], [], []⟩) 5 18 none (trF l c) ⟨0, []⟩ [] := ⟨by kernel_rfl, by kernel_rfl, by kernel_rfl⟩
theorem tr_go (l : List UInt8) (c : Int) (g : Nat → Value) : GoesT (evC (tabOf Tryz.prog extY conN true) 100 false (trLp Tryz.f69) (trF l c ++ tl 18 g, ⟨0, []⟩, [cmp true, cmp true, sam true]) ⟨[], [], []⟩) 5 18 none (trF (l.take (lm1 l).toNat) c) ⟨0, []⟩ [(decide (0 ≤ lm1 l ∧ lm1 l ≤ (l.length : Nat)), true), (byR l (lm1 l) == c, true), (decide (0 ≤ lm1 l ∧ (lm1 l).toNat < l.length), true), (decide (((l.length : Nat) : Int) > 0), true)] := ⟨by kernel_rfl, by kernel_rfl, by kernel_rfl⟩
theorem tr_out (l : List UInt8) (c : Int) (g : Nat → Value) : GoesT (evC (tabOf Tryz.prog extY conN true) 100 false (trLp Tryz.f69) (trF l c ++ tl 18 g, ⟨0, []⟩, [cmp true, cmp false]) ⟨[], [], []⟩) 5 18 (some (some 0)) (trF l c) ⟨0, []⟩ [(byR l (lm1 l) == c, false), (decide (0 ≤ lm1 l ∧ (lm1 l).toNat < l.length), true), (decide (((l.length : Nat) : Int) > 0), true)] := ⟨by kernel_rfl, by kernel_rfl, by kernel_rfl⟩
theorem tr_nil (l : List UInt8) (c : Int) (g : Nat → Value) : GoesT (evC (tabOf Tryz.prog extY conN true) 100 false (trLp Tryz.f69) (trF l c ++ tl 18 g, ⟨0, []⟩, [cmp false]) ⟨[], [], []⟩) 5 18 (some (some 0)) (trF l c) ⟨0, []⟩ [(decide (((l.length : Nat) : Int) > 0), false)] := ⟨by kernel_rfl, by kernel_rfl, by kernel_rfl⟩
theorem tr_fin (l : List UInt8) (c : Int) (g : Nat → Value) : GoesT (evC (tabOf Tryz.prog extY conN true) 100 false (trE Tryz.f69) (trF l c ++ tl 18 g, ⟨0, []⟩, []) ⟨[], [], []⟩) 5 18 (some none) [bR l, .int .u8 c, undef, undef, bR l] ⟨0, []⟩ [] := ⟨by kernel_rfl, by kernel_rfl, by kernel_rfl⟩
/-! ### whole numbers -/
end Go.Proofs.YtgefjidphfdhdabGreatDoor
namespace Go.Rd
open Go.Rn Go.Pt
theorem dv_ge {A B u c : Nat} (hB : 0 < B) (h : c * B ≤ A * 2 ^ u) : 2 * c ≤ dvK A B u := by
  have := (Nat.le_div_iff_mul_le hB).2 h
  unfold dvK
  omega
theorem dv_le {A B u c : Nat} (h : A * 2 ^ u ≤ c * B) : dvK A B u ≤ 2 * c := by
  have h1 : A * 2 ^ u / B ≤ c := Nat.div_le_of_le_mul (by rw [Nat.mul_comm B c]; exact h)
  unfold dvK
  by_cases h2 : A * 2 ^ u / B = c
  · have h3 := Nat.div_add_mod (A * 2 ^ u) B
    have h4 : A * 2 ^ u % B = 0 := by
      rw [h2, Nat.mul_comm] at h3
      omega
    rw [if_pos h4, h2]
    omega
  · split <;> omega
theorem len_32 {S r : Nat} (h0 : S ≠ 0) (hr : r < 32) : bitLen (32 * S + r) = bitLen S + 5 := by
  have h1 := (bitLen_spec S).1
  have h2 := (bitLen_spec S).2 h0
  have h3 := len_pos h0
  refine len_uniq (k := bitLen S + 4) ?_ ?_
  · have e : 2 ^ (bitLen S + 4) = 2 ^ (bitLen S - 1) * 32 := by rw [show (32 : Nat) = 2 ^ 5 from rfl, ← Nat.pow_add]; congr 1; omega
    omega
  · have e : 2 ^ (bitLen S + 4 + 1) = 2 ^ bitLen S * 32 := by rw [show (32 : Nat) = 2 ^ 5 from rfl, ← Nat.pow_add]
    omega
theorem rq_32 (n : Bool) (S : Nat) : rq 0 n (32 * S + 15) 5 = S ∧ rq 0 n (32 * S + 17) 5 = S + 1 := by
  have e : (2 : Nat) ^ 5 = 32 := rfl
  unfold rq
  rw [e, show (32 * S + 15) / 32 = S by omega, show (32 * S + 15) % 32 = 15 by omega, show (32 * S + 17) / 32 = S by omega, show (32 * S + 17) % 32 = 17 by omega]
  have r1 : restC 15 32 = 1 := by decide
  have r2 : restC 17 32 = 3 := by decide
  have u1 : ∀ o, upR 0 n o 1 = false := fun o => by cases n <;> cases o <;> decide
  have u2 : ∀ o, upR 0 n o 3 = true := fun o => by cases n <;> cases o <;> decide
  rw [r1, r2, u1, u2]
  exact ⟨rfl, rfl⟩
/-- a little more -/
theorem anchor_up (n : Bool) {S : Nat} {x : Int} (hx : -1074 ≤ x) (hS : S < 9007199254740992) (h : x = -1074 ∨ 4503599627370496 ≤ S) (hb : (x + 1074) * 4503599627370496 + (S : Int) < 9218868437227405312) (h0 : S ≠ 0) : rnP 0 n (32 * S + 15) (x - 5) = (x + 1074) * 4503599627370496 + (S : Int) := by
  have hl := len_32 h0 (show 15 < 32 by omega)
  have l53 : bitLen S ≤ 53 := len_le (k := 53) (show S < 2 ^ 53 from hS)
  have he : lowE (32 * S + 15) (x - 5) = x := by
    unfold lowE lgN
    rw [hl]
    rcases h with h | h
    · rw [if_pos (by omega)]; omega
    · have : 53 ≤ bitLen S := le_len (k := 52) h
      split <;> omega
  have hq : toQ 0 n (32 * S + 15) (x - 5) x = S := by
    unfold toQ
    rw [if_neg (by omega), show (x - (x - 5)).toNat = 5 by omega]
    exact (rq_32 n S).1
  unfold rnP p0
  rw [if_neg (by omega), he, hq, if_neg (by omega)]
/-- a little less -/
theorem anchor_dn (n : Bool) {S : Nat} {x : Int} (hx : -1074 ≤ x) (hS : S < 9007199254740992) (h : x = -1074 ∨ 4503599627370496 < S) (hb : (x + 1074) * 4503599627370496 + (S : Int) < 9218868437227405312) (h0 : S ≠ 0) : rnP 0 n (32 * S - 15) (x - 5) = (x + 1074) * 4503599627370496 + (S : Int) := by
  have l53 : bitLen S ≤ 53 := len_le (k := 53) (show S < 2 ^ 53 from hS)
  have e1 : 32 * S - 15 = 32 * (S - 1) + 17 := by omega
  have he : lowE (32 * S - 15) (x - 5) = x := by
    unfold lowE lgN
    rcases h with h | h
    · have h58 : bitLen (32 * S - 15) ≤ bitLen S + 5 := by
        refine len_le ?_
        have h1 := (bitLen_spec S).1
        rw [Nat.pow_add]
        omega
      rw [if_pos (by omega)]
      omega
    · have h1 : bitLen (32 * S - 15) = 58 := by
        rw [e1, len_32 (by omega) (by omega)]
        have : bitLen (S - 1) = 53 := len_uniq (k := 52) (show 2 ^ 52 ≤ S - 1 from by have : (2 : Nat) ^ 52 = 4503599627370496 := rfl; omega) (show S - 1 < 2 ^ 53 from by have : (2 : Nat) ^ 53 = 9007199254740992 := rfl; omega)
        omega
      rw [h1]
      split <;> omega
  have hq : toQ 0 n (32 * S - 15) (x - 5) x = S := by
    unfold toQ
    rw [if_neg (by omega), show (x - (x - 5)).toNat = 5 by omega, e1, (rq_32 n (S - 1)).2]
    omega
  unfold rnP p0
  rw [if_neg (by omega), he, hq, if_neg (by omega)]
/-- a little less than a power of two -/
theorem anchor_tw (n : Bool) {x : Int} (hx : -1074 < x) (hb : (x + 1074) * 4503599627370496 + 4503599627370496 < 9218868437227405312) : rnP 0 n (64 * 4503599627370496 - 15) (x - 6) = (x + 1074) * 4503599627370496 + 4503599627370496 := by
  have e1 : 64 * 4503599627370496 - 15 = 32 * 9007199254740991 + 17 := by omega
  have h1 : bitLen (64 * 4503599627370496 - 15) = 58 := by
    rw [e1, len_32 (by omega) (by omega)]
    have : bitLen 9007199254740991 = 53 := len_uniq (k := 52) (by decide) (by decide)
    omega
  have he : lowE (64 * 4503599627370496 - 15) (x - 6) = x - 1 := by
    unfold lowE lgN
    rw [h1]
    split <;> omega
  have hq : toQ 0 n (64 * 4503599627370496 - 15) (x - 6) (x - 1) = 9007199254740992 := by
    unfold toQ
    rw [if_neg (by omega), show (x - 1 - (x - 6)).toNat = 5 by omega, e1, (rq_32 n 9007199254740991).2]
  unfold rnP p0
  rw [if_neg (by omega), he, hq, if_neg (by omega)]
  omega
/-- between two anchors -/
theorem rq_between {n : Bool} {A B T U : Nat} {e f P : Int} (hA : A ≠ 0) (hB : B ≠ 0) (he : -1200 ≤ e) (hf : -1200 ≤ f) (h1 : ∀ u : Nat, 1200 ≤ u → T * 2 ^ (e + u).toNat * B ≤ A * 2 ^ u) (h2 : ∀ u : Nat, 1200 ≤ u → A * 2 ^ u ≤ U * 2 ^ (f + u).toNat * B) (hT : rnP 0 n T e = P) (hU : rnP 0 n U f = P) : rqP 0 n A B = P := by
  obtain ⟨u, hu⟩ : ∃ u, u = 1200 + upN A B := ⟨_, rfl⟩
  have hbits : 54 ≤ bitLen (A * 2 ^ u / B) := by
    have h3 := upN_bits hA hB
    have h4 : A * 2 ^ upN A B / B ≤ A * 2 ^ u / B := Nat.div_le_div_right (Nat.mul_le_mul_left _ (Nat.pow_le_pow_right (by omega) (by omega)))
    have h5 : 2 ^ 79 ≤ A * 2 ^ upN A B / B := by
      rw [Nat.le_div_iff_mul_le (by omega)]
      exact up_big hA
    have := le_len (Nat.le_trans h5 h4)
    omega
  rw [← (rq_any (m := 0) (n := n) hA hB hbits).1]
  have a1 := dv_ge (by omega) (h1 u (by omega))
  have a2 := dv_le (h2 u (by omega))
  have m1 := rnP_mono (m := 0) (neg := n) (E := -(u : Int) - 1) a1
  have m2 := rnP_mono (m := 0) (neg := n) (E := -(u : Int) - 1) a2
  have s1 := rnP_scale 0 n T ((e + u).toNat + 1) e
  have s2 := rnP_scale 0 n U ((f + u).toNat + 1) f
  rw [show e - (((e + u).toNat + 1 : Nat) : Int) = -(u : Int) - 1 by omega, hT, Nat.pow_succ, ← Nat.mul_assoc, Nat.mul_comm _ 2] at s1
  rw [show f - (((f + u).toNat + 1 : Nat) : Int) = -(u : Int) - 1 by omega, hU, Nat.pow_succ, ← Nat.mul_assoc, Nat.mul_comm _ 2] at s2
  rw [s1] at m1
  rw [s2] at m2
  omega
/-- sizes in units of a power of two, brought together -/
theorem in_units {x : Int} {u : Nat} {d : Nat} (hd : d ≤ x + u) : 2 ^ (x - d + u).toNat * 2 ^ d * 2 ^ (-x).toNat = 2 ^ x.toNat * 2 ^ u := by
  rw [← Nat.pow_add, ← Nat.pow_add, ← Nat.pow_add]
  congr 1
  omega
/-- what is near a pattern's number, by a part of two times 10^16, is rounded to it, by Even -/
theorem near_pat {n : Bool} {p : Int} (hf : ex p ≠ 2047) (h0 : (sg p).toNat ≠ 0) {A B : Nat} (hA : A ≠ 0) (hB : B ≠ 0)
    (hi : 20000000000000000 * (A * 2 ^ (-(xp p)).toNat) ≤ 20000000000000001 * ((sg p).toNat * (2 ^ (xp p).toNat * B))) (hl : 19999999999999999 * ((sg p).toNat * (2 ^ (xp p).toNat * B)) ≤ 20000000000000000 * (A * 2 ^ (-(xp p)).toNat)) : rqP 0 n A B = mag p := by
  have xb := xp_bd p
  have sb := sg_lt p
  have hm : mag p = (xp p + 1074) * 4503599627370496 + (sg p).toNat ∧ (xp p = -1074 ∨ 4503599627370496 ≤ (sg p).toNat) ∧ mag p < 9218868437227405312 := by
    have h1 := ex_lt p
    have h2 := fr_lt p
    have h4 : mag p = 4503599627370496 * ex p + fr p := by unfold mag ex fr; omega
    by_cases he : ex p = 0
    · have e1 : sg p = fr p := by unfold sg; rw [if_pos he]
      have e2 : xp p = -1074 := by unfold xp; rw [if_pos he]
      rw [e1, e2]
      exact ⟨by omega, .inl rfl, by omega⟩
    · have e1 : sg p = fr p + 4503599627370496 := by unfold sg; rw [if_neg he, if_neg hf]
      have e2 : xp p = ex p - 1075 := by unfold xp; rw [if_neg he, if_neg hf]
      rw [e1, e2]
      exact ⟨by omega, .inr (by omega), by omega⟩
  obtain ⟨S, hS⟩ : ∃ S, S = (sg p).toNat := ⟨_, rfl⟩
  obtain ⟨x, hx⟩ : ∃ x, x = xp p := ⟨_, rfl⟩
  rw [← hS, ← hx] at hm
  rw [← hS, ← hx] at hi hl
  rw [← hS] at h0
  rw [← hx] at xb
  obtain ⟨m1, m2, m3⟩ := hm
  obtain ⟨M, hM⟩ : ∃ M, M = 2 ^ x.toNat * B := ⟨_, rfl⟩
  obtain ⟨Z, hZ⟩ : ∃ Z, Z = A * 2 ^ (-x).toNat := ⟨_, rfl⟩
  rw [← hM, ← hZ] at hi hl
  have hV : 0 < 2 ^ (-x).toNat := Nat.pow_pos (by omega)
  -- above
  have up : 32 * Z ≤ (32 * S + 15) * M := by
    have h1 : 32 * (20000000000000001 * S) * M ≤ 20000000000000000 * (32 * S + 15) * M := Nat.mul_le_mul_right M (by omega)
    have e1 : 32 * (20000000000000001 * S) * M = 32 * (20000000000000001 * (S * M)) := by rw [Nat.mul_assoc 32, Nat.mul_assoc 20000000000000001]
    have e2 : 20000000000000000 * (32 * S + 15) * M = 20000000000000000 * ((32 * S + 15) * M) := Nat.mul_assoc _ _ _
    rw [e1, e2] at h1
    omega
  have hup : ∀ u : Nat, 1200 ≤ u → A * 2 ^ u ≤ (32 * S + 15) * 2 ^ (x - 5 + u).toNat * B := fun u hu => by
    have e := in_units (x := x) (u := u) (d := 5) (by omega)
    rw [show ((5 : Nat) : Int) = 5 from rfl] at e
    refine Nat.le_of_mul_le_mul_right (c := 32 * 2 ^ (-x).toNat) ?_ (by omega)
    have l : A * 2 ^ u * (32 * 2 ^ (-x).toNat) = 32 * Z * 2 ^ u := by rw [hZ]; ac_rfl
    have r : (32 * S + 15) * 2 ^ (x - 5 + u).toNat * B * (32 * 2 ^ (-x).toNat) = (32 * S + 15) * M * 2 ^ u := by
      obtain ⟨K, hK⟩ : ∃ K, K = 32 * S + 15 := ⟨_, rfl⟩
      rw [← hK]
      have : K * 2 ^ (x - 5 + u).toNat * B * (32 * 2 ^ (-x).toNat) = K * (2 ^ (x - 5 + u).toNat * 2 ^ 5 * 2 ^ (-x).toNat) * B := by rw [show (32 : Nat) = 2 ^ 5 from rfl]; ac_rfl
      rw [this, e, hM]
      ac_rfl
    rw [l, r]
    exact Nat.mul_le_mul_right _ up
  have hU := anchor_up n (S := S) (x := x) (by omega) (by omega) m2 (by omega) h0
  rw [← m1] at hU
  by_cases ht : S = 4503599627370496 ∧ -1074 < x
  · have dn : (64 * S - 15) * M ≤ 64 * Z := by
      have h1 : 20000000000000000 * (64 * S - 15) * M ≤ 64 * (19999999999999999 * S) * M := Nat.mul_le_mul_right M (by omega)
      have e1 : 64 * (19999999999999999 * S) * M = 64 * (19999999999999999 * (S * M)) := by rw [Nat.mul_assoc 64, Nat.mul_assoc 19999999999999999]
      have e2 : 20000000000000000 * (64 * S - 15) * M = 20000000000000000 * ((64 * S - 15) * M) := Nat.mul_assoc _ _ _
      rw [e1, e2] at h1
      omega
    have hdn : ∀ u : Nat, 1200 ≤ u → (64 * S - 15) * 2 ^ (x - 6 + u).toNat * B ≤ A * 2 ^ u := fun u hu => by
      have e := in_units (x := x) (u := u) (d := 6) (by omega)
      rw [show ((6 : Nat) : Int) = 6 from rfl] at e
      refine Nat.le_of_mul_le_mul_right (c := 64 * 2 ^ (-x).toNat) ?_ (by omega)
      have l : A * 2 ^ u * (64 * 2 ^ (-x).toNat) = 64 * Z * 2 ^ u := by rw [hZ]; ac_rfl
      have r : (64 * S - 15) * 2 ^ (x - 6 + u).toNat * B * (64 * 2 ^ (-x).toNat) = (64 * S - 15) * M * 2 ^ u := by
        obtain ⟨K, hK⟩ : ∃ K, K = 64 * S - 15 := ⟨_, rfl⟩
        rw [← hK]
        have : K * 2 ^ (x - 6 + u).toNat * B * (64 * 2 ^ (-x).toNat) = K * (2 ^ (x - 6 + u).toNat * 2 ^ 6 * 2 ^ (-x).toNat) * B := by rw [show (64 : Nat) = 2 ^ 6 from rfl]; ac_rfl
        rw [this, e, hM]
        ac_rfl
      rw [l, r]
      exact Nat.mul_le_mul_right _ dn
    have hT := anchor_tw n (x := x) ht.2 (by omega)
    refine rq_between hA hB (e := x - 6) (f := x - 5) (by omega) (by omega) hdn hup ?_ hU
    rw [ht.1, hT, m1, ht.1]
    rfl
  · have dn : (32 * S - 15) * M ≤ 32 * Z := by
      have h1 : 20000000000000000 * (32 * S - 15) * M ≤ 32 * (19999999999999999 * S) * M := Nat.mul_le_mul_right M (by omega)
      have e1 : 32 * (19999999999999999 * S) * M = 32 * (19999999999999999 * (S * M)) := by rw [Nat.mul_assoc 32, Nat.mul_assoc 19999999999999999]
      have e2 : 20000000000000000 * (32 * S - 15) * M = 20000000000000000 * ((32 * S - 15) * M) := Nat.mul_assoc _ _ _
      rw [e1, e2] at h1
      omega
    have hdn : ∀ u : Nat, 1200 ≤ u → (32 * S - 15) * 2 ^ (x - 5 + u).toNat * B ≤ A * 2 ^ u := fun u hu => by
      have e := in_units (x := x) (u := u) (d := 5) (by omega)
      rw [show ((5 : Nat) : Int) = 5 from rfl] at e
      refine Nat.le_of_mul_le_mul_right (c := 32 * 2 ^ (-x).toNat) ?_ (by omega)
      have l : A * 2 ^ u * (32 * 2 ^ (-x).toNat) = 32 * Z * 2 ^ u := by rw [hZ]; ac_rfl
      have r : (32 * S - 15) * 2 ^ (x - 5 + u).toNat * B * (32 * 2 ^ (-x).toNat) = (32 * S - 15) * M * 2 ^ u := by
        obtain ⟨K, hK⟩ : ∃ K, K = 32 * S - 15 := ⟨_, rfl⟩
        rw [← hK]
        have : K * 2 ^ (x - 5 + u).toNat * B * (32 * 2 ^ (-x).toNat) = K * (2 ^ (x - 5 + u).toNat * 2 ^ 5 * 2 ^ (-x).toNat) * B := by rw [show (32 : Nat) = 2 ^ 5 from rfl]; ac_rfl
        rw [this, e, hM]
        ac_rfl
      rw [l, r]
      exact Nat.mul_le_mul_right _ dn
    have hT := anchor_dn n (S := S) (x := x) (by omega) (by omega) (by omega) (by omega) h0
    rw [← m1] at hT
    exact rq_between hA hB (e := x - 5) (f := x - 5) (by omega) (by omega) hdn hup hT hU
/-- S times 2^E times 10^j, as two numbers -/
def paN (S : Nat) (E j : Int) : Nat := S * 2 ^ E.toNat * 10 ^ j.toNat
def pbN (E j : Int) : Nat := 2 ^ (-E).toNat * 10 ^ (-j).toNat
theorem pbN_pos (E j : Int) : 0 < pbN E j := Nat.mul_pos (Nat.pow_pos (by omega)) (Nat.pow_pos (by omega))
/-- a power of ten more -/
theorem part_shift (S : Nat) (E j : Int) (c : Nat) : paN S E (j + c) * pbN E j = paN S E j * 10 ^ c * pbN E (j + c) := by
  unfold paN pbN
  have h : 10 ^ (j + c).toNat * 10 ^ (-j).toNat = 10 ^ j.toNat * 10 ^ c * 10 ^ (-(j + c)).toNat := by
    rw [← Nat.pow_add, ← Nat.pow_add, ← Nat.pow_add]
    congr 1
    omega
  have l : S * 2 ^ E.toNat * 10 ^ (j + c).toNat * (2 ^ (-E).toNat * 10 ^ (-j).toNat) = S * 2 ^ E.toNat * 2 ^ (-E).toNat * (10 ^ (j + c).toNat * 10 ^ (-j).toNat) := by ac_rfl
  rw [l, h]
  ac_rfl
/-- at least c times as great, and with a power of ten more -/
theorem part_ge {S : Nat} {E j : Int} {a : Nat} (c : Nat) (h : a * pbN E j ≤ paN S E j) : a * 10 ^ c * pbN E (j + c) ≤ paN S E (j + c) := by
  have hs := part_shift S E j c
  refine Nat.le_of_mul_le_mul_right (c := pbN E j) ?_ (pbN_pos E j)
  rw [hs]
  have e : a * 10 ^ c * pbN E (j + c) * pbN E j = a * pbN E j * (10 ^ c * pbN E (j + c)) := by ac_rfl
  rw [e, Nat.mul_assoc (paN S E j)]
  exact Nat.mul_le_mul_right _ h
theorem part_lt {S : Nat} {E j : Int} {a : Nat} (c : Nat) (h : paN S E j < a * pbN E j) : paN S E (j + c) < a * 10 ^ c * pbN E (j + c) := by
  have hs := part_shift S E j c
  refine Nat.lt_of_mul_lt_mul_right (a := pbN E j) ?_
  rw [hs]
  have e : a * 10 ^ c * pbN E (j + c) * pbN E j = a * pbN E j * (10 ^ c * pbN E (j + c)) := by ac_rfl
  rw [e, Nat.mul_assoc (paN S E j)]
  exact Nat.mul_lt_mul_of_pos_right h (Nat.mul_pos (Nat.pow_pos (by omega)) (pbN_pos _ _))
/-- f is the power of ten of the first digit -/
def isFirst (S : Nat) (E f : Int) : Prop := pbN E (-f) ≤ paN S E (-f) ∧ paN S E (-(f + 1)) < pbN E (-(f + 1))
/-- n digits, cut -/
theorem first_digits {S : Nat} {E f : Int} (h : isFirst S E f) {n : Nat} (hn : 1 ≤ n) : 10 ^ (n - 1) * pbN E ((n : Int) - 1 - f) ≤ paN S E ((n : Int) - 1 - f) ∧ paN S E ((n : Int) - 1 - f) < 10 ^ n * pbN E ((n : Int) - 1 - f) := by
  obtain ⟨h1, h2⟩ := h
  have a := part_ge (a := 1) (n - 1) (by rw [Nat.one_mul]; exact h1)
  have b := part_lt (a := 1) n (by rw [Nat.one_mul]; exact h2)
  rw [Nat.one_mul, show -f + ((n - 1 : Nat) : Int) = (n : Int) - 1 - f by omega] at a
  rw [Nat.one_mul, show -(f + 1) + (n : Int) = (n : Int) - 1 - f by omega] at b
  exact ⟨a, b⟩
/-- the power of the first digit is one alone -/
theorem first_one {S : Nat} {E f g : Int} (hf : isFirst S E f) (hg : isFirst S E g) : f = g := by
  have key : ∀ {f g : Int}, isFirst S E f → isFirst S E g → ¬ f < g := by
    intro f g hf hg hlt
    obtain ⟨_, h2⟩ := hf
    obtain ⟨h3, _⟩ := hg
    have a := part_ge (a := 1) (g - (f + 1)).toNat (by rw [Nat.one_mul]; exact h3)
    rw [show -g + (((g - (f + 1)).toNat : Nat) : Int) = -(f + 1) by omega, Nat.one_mul] at a
    have : pbN E (-(f + 1)) ≤ 10 ^ (g - (f + 1)).toNat * pbN E (-(f + 1)) := Nat.le_mul_of_pos_left _ (Nat.pow_pos (by omega))
    omega
  have h1 := key hf hg
  have h2 := key hg hf
  omega
/-- as far down as it goes -/
theorem first_of {S : Nat} {E f : Int} (h1 : pbN E (-f) ≤ paN S E (-f)) (h2 : ¬ pbN E (-(f + 1)) ≤ paN S E (-(f + 1))) : isFirst S E f := ⟨h1, by omega⟩
/-- seventeen digits, rounded to the nearest, are read as the pattern -/
theorem read_17 {n : Bool} {p : Int} (hf : ex p ≠ 2047) (h0 : (sg p).toNat ≠ 0) {f : Int} (h : isFirst (sg p).toNat (xp p) f) {q : Nat} (hq0 : q ≠ 0)
    (hi : 2 * (q * pbN (xp p) (16 - f)) ≤ 2 * paN (sg p).toNat (xp p) (16 - f) + pbN (xp p) (16 - f)) (hl : 2 * paN (sg p).toNat (xp p) (16 - f) ≤ 2 * (q * pbN (xp p) (16 - f)) + pbN (xp p) (16 - f)) : deP 0 n q (f - 16) = mag p := by
  have hd := (first_digits h (n := 17) (by omega)).1
  rw [show ((17 : Nat) : Int) - 1 - f = 16 - f by omega] at hd
  obtain ⟨a, ha⟩ : ∃ a, a = paN (sg p).toNat (xp p) (16 - f) := ⟨_, rfl⟩
  obtain ⟨b, hb⟩ : ∃ b, b = pbN (xp p) (16 - f) := ⟨_, rfl⟩
  rw [← ha, ← hb] at hi hl hd
  have e16 : 10 ^ (17 - 1) = 10000000000000000 := rfl
  rw [e16] at hd
  obtain ⟨Q, hQ⟩ : ∃ Q, Q = q * b := ⟨_, rfl⟩
  rw [← hQ] at hi hl
  unfold deP
  refine near_pat hf h0 (mul_ne hq0 (ten_ne _)) (ten_ne _) ?_ ?_
  · have l : q * 10 ^ (f - 16).toNat * 2 ^ (-(xp p)).toNat = Q := by
      rw [hQ, hb]
      unfold pbN
      rw [show (-(16 - f)).toNat = (f - 16).toNat by omega]
      ac_rfl
    have r : (sg p).toNat * (2 ^ (xp p).toNat * 10 ^ (-(f - 16)).toNat) = a := by
      rw [ha]
      unfold paN
      rw [show (-(f - 16)).toNat = (16 - f).toNat by omega]
      ac_rfl
    rw [l, r]
    omega
  · have l : q * 10 ^ (f - 16).toNat * 2 ^ (-(xp p)).toNat = Q := by
      rw [hQ, hb]
      unfold pbN
      rw [show (-(16 - f)).toNat = (f - 16).toNat by omega]
      ac_rfl
    have r : (sg p).toNat * (2 ^ (xp p).toNat * 10 ^ (-(f - 16)).toNat) = a := by
      rw [ha]
      unfold paN
      rw [show (-(f - 16)).toNat = (16 - f).toNat by omega]
      ac_rfl
    rw [l, r]
    omega
/-- where the document's search begins -/
def n0F (top : Int) : Int := (top * 30103).tdiv 100000 + 2
def n0K (k : Nat) : Bool := Nat.ble (2 ^ ((k : Int) - 1073).toNat * 10 ^ (-(n0F ((k : Int) - 1073) + 1)).toNat) (10 ^ (n0F ((k : Int) - 1073) + 1).toNat * 2 ^ (-((k : Int) - 1073)).toNat)
theorem n0_all : (List.range 2100).all n0K = true := by decide +kernel
/-- it begins above -/
theorem n0_ok {top : Int} (h0 : -1073 ≤ top) (h1 : top ≤ 1026) : 2 ^ top.toNat * 10 ^ (-(n0F top + 1)).toNat ≤ 10 ^ (n0F top + 1).toNat * 2 ^ (-top).toNat := by
  have h := List.all_eq_true.1 n0_all (top + 1073).toNat (List.mem_range.2 (by omega))
  unfold n0K at h
  rw [show (((top + 1073).toNat : Nat) : Int) - 1073 = top by omega] at h
  exact Nat.le_of_ble_eq_true h
/-- so the first place where the number is not less is the first digit's -/
theorem first_above {S : Nat} {E : Int} (h0 : S ≠ 0) (hE : -1074 ≤ E) (hE1 : E ≤ 972) (hS : S < 9007199254740992) : ¬ pbN E (-(n0F (E + (bitLen S : Nat)) + 1)) ≤ paN S E (-(n0F (E + (bitLen S : Nat)) + 1)) := by
  have hl := (bitLen_spec S).1
  have h1 := len_pos h0
  have h53 : bitLen S ≤ 53 := len_le (k := 53) (show S < 2 ^ 53 from hS)
  obtain ⟨top, ht⟩ : ∃ top, top = E + ((bitLen S : Nat) : Int) := ⟨_, rfl⟩
  rw [← ht]
  have hk := n0_ok (top := top) (by omega) (by omega)
  obtain ⟨N, hN⟩ : ∃ N, N = n0F top + 1 := ⟨_, rfl⟩
  rw [← hN] at hk ⊢
  intro h
  unfold pbN paN at h
  rw [show (- -N).toNat = N.toNat by omega] at h
  have e : 2 ^ top.toNat * 2 ^ (-E).toNat = 2 ^ E.toNat * 2 ^ bitLen S * 2 ^ (-top).toNat := by
    rw [← Nat.pow_add, ← Nat.pow_add, ← Nat.pow_add]
    congr 1
    omega
  have p1 : 0 < 2 ^ E.toNat * 10 ^ (-N).toNat * 2 ^ (-top).toNat := Nat.mul_pos (Nat.mul_pos (Nat.pow_pos (by omega)) (Nat.pow_pos (by omega))) (Nat.pow_pos (by omega))
  have a : S * 2 ^ E.toNat * 10 ^ (-N).toNat * 2 ^ (-top).toNat < 2 ^ bitLen S * (2 ^ E.toNat * 10 ^ (-N).toNat * 2 ^ (-top).toNat) := by
    have := Nat.mul_lt_mul_of_pos_right hl p1
    have e2 : S * (2 ^ E.toNat * 10 ^ (-N).toNat * 2 ^ (-top).toNat) = S * 2 ^ E.toNat * 10 ^ (-N).toNat * 2 ^ (-top).toNat := by ac_rfl
    rw [e2] at this
    exact this
  have b := Nat.mul_le_mul_right (2 ^ (-top).toNat) h
  have c := Nat.mul_le_mul_right (2 ^ (-E).toNat) hk
  have e3 : 2 ^ bitLen S * (2 ^ E.toNat * 10 ^ (-N).toNat * 2 ^ (-top).toNat) = 2 ^ top.toNat * 10 ^ (-N).toNat * 2 ^ (-E).toNat := by
    have : 2 ^ top.toNat * 10 ^ (-N).toNat * 2 ^ (-E).toNat = 2 ^ top.toNat * 2 ^ (-E).toNat * 10 ^ (-N).toNat := by ac_rfl
    rw [this, e]
    ac_rfl
  have e4 : 2 ^ (-E).toNat * 10 ^ N.toNat * 2 ^ (-top).toNat = 10 ^ N.toNat * 2 ^ (-top).toNat * 2 ^ (-E).toNat := by ac_rfl
  rw [e3] at a
  rw [e4] at b
  omega
/-- it ends: no number is less than 10^-324 -/
theorem first_low {S : Nat} {E f : Int} (h0 : S ≠ 0) (hE : -1074 ≤ E) (hf : f ≤ -324) : pbN E (-f) ≤ paN S E (-f) := by
  obtain ⟨J, hJ⟩ : ∃ J : Nat, J = 1074 := ⟨_, rfl⟩
  obtain ⟨K, hK⟩ : ∃ K : Nat, K = 1023 := ⟨_, rfl⟩
  obtain ⟨L, hL⟩ : ∃ L : Nat, L = 308 := ⟨_, rfl⟩
  have h1 : (2 : Nat) ^ J ≤ 10 ^ (-f).toNat := by
    have h2 : (2 : Nat) ^ K ≤ 10 ^ L := ten_two (i := 11) (by omega) (by omega)
    have h3 : (2 : Nat) ^ 51 ≤ 10 ^ 16 := by decide
    have h4 := Nat.mul_le_mul h2 h3
    rw [← Nat.pow_add, ← Nat.pow_add] at h4
    exact Nat.le_trans (Nat.pow_le_pow_right (by omega) (by omega)) (Nat.le_trans h4 (Nat.pow_le_pow_right (by omega) (by omega)))
  unfold pbN paN
  rw [show (- -f).toNat = 0 by omega, Nat.pow_zero, Nat.mul_one]
  refine Nat.le_trans (Nat.pow_le_pow_right (by omega) (show (-E).toNat ≤ J by omega)) (Nat.le_trans h1 ?_)
  exact Nat.le_mul_of_pos_left _ (Nat.mul_pos (by omega) (Nat.pow_pos (by omega)))
/-- from n down: the first power of ten that is not above the number -/
def frK (S : Nat) (E : Int) : Nat → Int → Int
  | 0, n => n
  | k + 1, n => if pbN E (-n) ≤ paN S E (-n) then n else frK S E k (n - 1)
theorem frK_is {S : Nat} {E : Int} : ∀ (k : Nat) (n : Int), ¬ pbN E (-(n + 1)) ≤ paN S E (-(n + 1)) → pbN E (-(n - k)) ≤ paN S E (-(n - k)) → isFirst S E (frK S E k n) ∧ n - k ≤ frK S E k n ∧ frK S E k n ≤ n
  | 0, n, h1, h2 => by
    rw [show n - ((0 : Nat) : Int) = n by omega] at h2
    exact ⟨first_of h2 h1, by unfold frK; omega, by unfold frK; omega⟩
  | k + 1, n, h1, h2 => by
    unfold frK
    by_cases h : pbN E (-n) ≤ paN S E (-n)
    · rw [if_pos h]
      exact ⟨first_of h h1, by omega, by omega⟩
    · rw [if_neg h]
      obtain ⟨a, b, c⟩ := frK_is k (n - 1) (by rw [show n - 1 + 1 = n by omega]; exact h) (by rw [show n - 1 - (k : Int) = n - ((k + 1 : Nat) : Int) by omega]; exact h2)
      exact ⟨a, by omega, by omega⟩
/-- the power of ten of the first digit -/
def frS (S : Nat) (E : Int) : Int := frK S E (n0F (E + (bitLen S : Nat)) + 324).toNat (n0F (E + (bitLen S : Nat)))
theorem n0_low {top : Int} (h : -1073 ≤ top) (h1 : top ≤ 1026) : -324 ≤ n0F top ∧ n0F top ≤ 400 := by
  unfold n0F
  have h2 : (top * 30103).tdiv 100000 = if 0 ≤ top then top * 30103 / 100000 else -((-top) * 30103 / 100000) := by
    split
    · rw [Int.tdiv_eq_ediv_of_nonneg (by omega)]
    · rw [show top * 30103 = -((-top) * 30103) by omega, Int.neg_tdiv, Int.tdiv_eq_ediv_of_nonneg (by omega)]
  rw [h2]
  split <;> omega
theorem frS_is {S : Nat} {E : Int} (h0 : S ≠ 0) (hE : -1074 ≤ E) (hE1 : E ≤ 972) (hS : S < 9007199254740992) : isFirst S E (frS S E) ∧ -324 ≤ frS S E ∧ frS S E ≤ 400 := by
  have hb : bitLen S ≤ 53 := len_le (k := 53) hS
  have hb1 := len_pos h0
  obtain ⟨l1, l2⟩ := n0_low (top := E + (bitLen S : Nat)) (by omega) (by omega)
  have ha := first_above h0 hE hE1 hS
  unfold frS
  obtain ⟨n, hn⟩ : ∃ n, n = n0F (E + (bitLen S : Nat)) := ⟨_, rfl⟩
  rw [← hn] at ha l1 l2 ⊢
  have hl := first_low (f := -324) h0 hE (by omega)
  have := frK_is (S := S) (E := E) (n + 324).toNat n ha (by rw [show n - ((n + 324).toNat : Nat) = -324 by omega]; exact hl)
  exact ⟨this.1, by omega, by omega⟩
end Go.Rd
namespace Go.Rd
open Go.Rn
/-! ### letters that are no x -/
/-! ### the four shapes -/
/-! ### the laws -/
theorem dcL_len (n : Nat) : (dcL n).length ≤ 20 := decF_len 20 n
theorem expL_len (x : Int) : (expL x).length ≤ 21 := by
  unfold expL
  split
  · rw [List.length_cons]; have := dcL_len x.natAbs; omega
  · have := dcL_len x.natAbs; omega
/-! ### with the other sign -/
end Go.Rd
namespace Go.Rd
open Go.Rn Go.Pt
/-- digits as a text -/
def txL (n : Bool) (s : List UInt8) (e : Int) : List UInt8 := (if n = true then [45] else []) ++ ((match s with | [] => [] | [c] => [c] | c :: r => c :: 46 :: r) ++ 101 :: expL e)
theorem decF_full {f n : Nat} (h : 10 ^ (f - 1) ≤ n) (hf : 1 ≤ f) : (decF f n).length = f := by
  induction f generalizing n with
  | zero => omega
  | succ f ih =>
    unfold decF
    by_cases h0 : f = 0
    · subst h0
      split
      · rfl
      · rfl
    · have e : 10 ^ (f + 1 - 1) = 10 * 10 ^ (f - 1) := by rw [Nat.mul_comm, ← Nat.pow_succ]; congr 1; omega
      have hp : 0 < 10 ^ (f - 1) := Nat.pow_pos (by omega)
      rw [e] at h
      rw [if_neg (by omega), List.length_append, ih (by omega) (by omega)]
      rfl
/-- the text of the next number of n digits: with one more it is the power of ten -/
def hiX (mn : Bool) (n q : Nat) (f : Int) : List UInt8 := if q + 1 = 10 ^ n then txL mn (decF n (10 ^ (n - 1))) (f + 1) else txL mn (decF n (q + 1)) f
/-! ### the shortest -/
def qD (S : Nat) (E f : Int) (n : Nat) : Nat := paN S E ((n : Int) - 1 - f) / pbN E ((n : Int) - 1 - f)
def rD14 (S : Nat) (E f : Int) (n : Nat) : Nat := paN S E ((n : Int) - 1 - f) % pbN E ((n : Int) - 1 - f)
theorem qD_bd {S : Nat} {E f : Int} (h : isFirst S E f) {n : Nat} (hn : 1 ≤ n) : 10 ^ (n - 1) ≤ qD S E f n ∧ qD S E f n < 10 ^ n := by
  obtain ⟨a, b⟩ := first_digits h hn
  have hp := pbN_pos E ((n : Int) - 1 - f)
  unfold qD
  exact ⟨(Nat.le_div_iff_mul_le hp).2 a, (Nat.div_lt_iff_lt_mul hp).2 b⟩
/-- whether the two texts of n digits are read as the pattern -/
def loB (mn : Bool) (M : Int) (S : Nat) (E f : Int) (n : Nat) : Bool := decide (deP 0 mn (qD S E f n) (f - ((n : Int) - 1)) = M)
def hiB (mn : Bool) (M : Int) (S : Nat) (E f : Int) (n : Nat) : Bool := decide (deP 0 mn (qD S E f n + 1) (f - ((n : Int) - 1)) = M)
/-- the lower one is taken -/
def loK (mn : Bool) (M : Int) (S : Nat) (E f : Int) (n : Nat) : Bool := loB mn M S E f n && (!hiB mn M S E f n || decide (2 * rD14 S E f n < pbN E ((n : Int) - 1 - f)) || (decide (2 * rD14 S E f n = pbN E ((n : Int) - 1 - f)) && decide (qD S E f n % 2 = 0)))
def shK (mn : Bool) (M : Int) (S : Nat) (E f : Int) : Nat → Nat → List UInt8
  | 0, _ => []
  | k + 1, n => if loK mn M S E f n = true then txL mn (decF n (qD S E f n)) f else if hiB mn M S E f n = true then hiX mn n (qD S E f n) f else shK mn M S E f k (n + 1)
/-- the shortest text of a finite pattern that is not 0 -/
def shS (p : Int) : List UInt8 := shK (decide (9223372036854775808 ≤ p)) (mag p) (sg p).toNat (xp p) (frS (sg p).toNat (xp p)) 17 1
/-- with seventeen digits one of the two is read as the pattern -/
theorem some_17 {mn : Bool} {p : Int} (hf : ex p ≠ 2047) (h0 : (sg p).toNat ≠ 0) {f : Int} (h : isFirst (sg p).toNat (xp p) f) : loB mn (mag p) (sg p).toNat (xp p) f 17 = true ∨ hiB mn (mag p) (sg p).toNat (xp p) f 17 = true := by
  have hb := (qD_bd h (n := 17) (by omega)).1
  have e : ((17 : Nat) : Int) - 1 - f = 16 - f := by omega
  have e2 : f - (((17 : Nat) : Int) - 1) = f - 16 := by omega
  have hq0 : qD (sg p).toNat (xp p) f 17 ≠ 0 := by
    have : 0 < 10 ^ (17 - 1) := Nat.pow_pos (by omega)
    omega
  have hdm := Nat.div_add_mod (paN (sg p).toNat (xp p) (16 - f)) (pbN (xp p) (16 - f))
  have hm := Nat.mod_lt (paN (sg p).toNat (xp p) (16 - f)) (pbN_pos (xp p) (16 - f))
  unfold loB hiB
  rw [e2]
  obtain ⟨q, hq⟩ : ∃ q, q = qD (sg p).toNat (xp p) f 17 := ⟨_, rfl⟩
  have eq : q = paN (sg p).toNat (xp p) (16 - f) / pbN (xp p) (16 - f) := by rw [hq]; unfold qD; rw [e]
  rw [← hq] at hq0 ⊢
  rw [← eq, Nat.mul_comm] at hdm
  by_cases hh : 2 * (paN (sg p).toNat (xp p) (16 - f) % pbN (xp p) (16 - f)) ≤ pbN (xp p) (16 - f)
  · exact .inl (decide_eq_true (read_17 hf h0 h hq0 (by omega) (by omega)))
  · refine .inr (decide_eq_true (read_17 hf h0 h (by omega) ?_ ?_))
    · rw [Nat.add_mul]; omega
    · rw [Nat.add_mul]; omega
/-- by Even the sign does not matter -/
theorem de_sign (n : Bool) (A : Nat) (j : Int) : deP 0 (!n) A j = deP 0 n A j := (de_swM 0 n A j).1
theorem de_signs (n k : Bool) (A : Nat) (j : Int) : deP 0 n A j = deP 0 k A j := by
  cases n <;> cases k
  · rfl
  · exact (de_sign false A j).symm
  · exact de_sign false A j
  · rfl
theorem loB_sign (n k : Bool) (M : Int) (S : Nat) (E f : Int) (i : Nat) : loB n M S E f i = loB k M S E f i := by unfold loB; rw [de_signs n k]
theorem hiB_sign (n k : Bool) (M : Int) (S : Nat) (E f : Int) (i : Nat) : hiB n M S E f i = hiB k M S E f i := by unfold hiB; rw [de_signs n k]
theorem loK_sign (n k : Bool) (M : Int) (S : Nat) (E f : Int) (i : Nat) : loK n M S E f i = loK k M S E f i := by unfold loK; rw [loB_sign n k, hiB_sign n k]
/-- how many digits the shortest text has -/
def shN (M : Int) (S : Nat) (E f : Int) : Nat → Nat → Nat
  | 0, n => n
  | k + 1, n => if loB false M S E f n = true ∨ hiB false M S E f n = true then n else shN M S E f k (n + 1)
theorem lo_of_K {n : Bool} {M : Int} {S : Nat} {E f : Int} {i : Nat} (h : loK n M S E f i = true) : loB n M S E f i = true := by
  unfold loK at h
  rw [Bool.and_eq_true] at h
  exact h.1
theorem K_of_lo {n : Bool} {M : Int} {S : Nat} {E f : Int} {i : Nat} (h : loB n M S E f i = true) (h2 : hiB n M S E f i = false) : loK n M S E f i = true := by
  unfold loK
  rw [h, h2]
  rfl
/-- one of the two texts of that many digits -/
def shO (mn : Bool) (M : Int) (S : Nat) (E f : Int) (n : Nat) : List UInt8 := if loK mn M S E f n = true then txL mn (decF n (qD S E f n)) f else hiX mn n (qD S E f n) f
theorem shK_is {mn : Bool} {M : Int} {S : Nat} {E f : Int} : ∀ (k n : Nat), (∃ i, n ≤ i ∧ i < n + k ∧ (loB false M S E f i = true ∨ hiB false M S E f i = true)) → shK mn M S E f k n = shO mn M S E f (shN M S E f k n) ∧ (n ≤ shN M S E f k n ∧ shN M S E f k n < n + k) ∧ (loB false M S E f (shN M S E f k n) = true ∨ hiB false M S E f (shN M S E f k n) = true) ∧ ∀ i, n ≤ i → i < shN M S E f k n → loB false M S E f i = false ∧ hiB false M S E f i = false
  | 0, n, h => by obtain ⟨i, h1, h2, _⟩ := h; omega
  | k + 1, n, h => by
    unfold shN shK
    by_cases hn : loB false M S E f n = true ∨ hiB false M S E f n = true
    · rw [if_pos hn]
      refine ⟨?_, ⟨Nat.le_refl _, by omega⟩, hn, fun i h1 h2 => by omega⟩
      unfold shO
      split
      · rfl
      · rename_i hk
        have hh : hiB mn M S E f n = true := by
          cases hh : hiB mn M S E f n with
          | true => rfl
          | false =>
            rcases hn with h1 | h1
            · rw [loB_sign false mn] at h1
              exact absurd (K_of_lo h1 hh) hk
            · rw [hiB_sign false mn, hh] at h1
              cases h1
        rw [if_pos hh]
    · rw [if_neg hn]
      have h3 : loB false M S E f n = false ∧ hiB false M S E f n = false := by
        constructor
        · cases hx : loB false M S E f n with
          | false => rfl
          | true => exact absurd (.inl hx) hn
        · cases hx : hiB false M S E f n with
          | false => rfl
          | true => exact absurd (.inr hx) hn
      have hk : ¬ loK mn M S E f n = true := fun hk => by
        have := lo_of_K hk
        rw [loB_sign mn false, h3.1] at this
        cases this
      rw [if_neg hk, if_neg (by rw [hiB_sign mn false, h3.2]; decide)]
      obtain ⟨i, h1, h2, hi⟩ := h
      have hni : i ≠ n := fun e => hn (by rw [← e]; exact hi)
      obtain ⟨a, b, c, d⟩ := shK_is (mn := mn) k (n + 1) ⟨i, by omega, by omega, hi⟩
      refine ⟨a, by omega, c, fun j j1 j2 => ?_⟩
      by_cases hj : j = n
      · rw [hj]; exact h3
      · exact d j (by omega) j2
/-- a finite pattern that is not 0 -/
structure Fin14 (p : Int) : Prop where
  fin : ex p ≠ 2047
  ne : (sg p).toNat ≠ 0
  e0 : -1074 ≤ xp p
  e1 : xp p ≤ 972
  s1 : (sg p).toNat < 9007199254740992
def frP (p : Int) : Int := frS (sg p).toNat (xp p)
def nP (p : Int) : Nat := shN (mag p) (sg p).toNat (xp p) (frP p) 17 1
theorem frP_is {p : Int} (h : Fin14 p) : isFirst (sg p).toNat (xp p) (frP p) ∧ -324 ≤ frP p ∧ frP p ≤ 400 := frS_is h.ne h.e0 h.e1 h.s1
/-- the shortest text: its number of digits, that it is one of the two, that none shorter is read so -/
theorem short_is {p : Int} (h : Fin14 p) : shS p = shO (decide (9223372036854775808 ≤ p)) (mag p) (sg p).toNat (xp p) (frP p) (nP p) ∧ (1 ≤ nP p ∧ nP p ≤ 17) ∧ (loB false (mag p) (sg p).toNat (xp p) (frP p) (nP p) = true ∨ hiB false (mag p) (sg p).toNat (xp p) (frP p) (nP p) = true) ∧ ∀ i, 1 ≤ i → i < nP p → loB false (mag p) (sg p).toNat (xp p) (frP p) i = false ∧ hiB false (mag p) (sg p).toNat (xp p) (frP p) i = false := by
  have := shK_is (mn := decide (9223372036854775808 ≤ p)) (M := mag p) (S := (sg p).toNat) (E := xp p) (f := frP p) 17 1 ⟨17, by omega, by omega, some_17 (mn := false) h.fin h.ne (frP_is h).1⟩
  obtain ⟨a, b, c, d⟩ := this
  exact ⟨a, ⟨b.1, by have := b.2; unfold nP; omega⟩, c, d⟩
/-! ### so many digits -/
/-- whether a rest is rounded up -/
def upD14 (m : Int) (mn : Bool) (q r b : Nat) : Bool := if m = 1 then decide (b ≤ 2 * r) else if m = 2 then false else if m = 3 then decide (0 < r) && !mn else if m = 4 then decide (0 < r) && mn else decide (b < 2 * r) || (decide (2 * r = b) && decide (q % 2 = 1))
/-- the text of n digits -/
def dgS14 (p : Int) (n : Nat) (m : Int) : List UInt8 := if upD14 m (decide (9223372036854775808 ≤ p)) (qD (sg p).toNat (xp p) (frP p) n) (rD14 (sg p).toNat (xp p) (frP p) n) (pbN (xp p) ((n : Int) - 1 - frP p)) = true then hiX (decide (9223372036854775808 ≤ p)) n (qD (sg p).toNat (xp p) (frP p) n) (frP p) else txL (decide (9223372036854775808 ≤ p)) (decF n (qD (sg p).toNat (xp p) (frP p) n)) (frP p)
end Go.Rd
namespace Go.Rn
open Go.Nt Go.Wd Go.Pt
/-! ### patterns and their numbers, in one order -/
theorem mag_self {p : Int} (h0 : 0 ≤ p) (h1 : p < 9223372036854775808) : mag p = p := by unfold mag; omega
theorem fin_small {p : Int} (h0 : 0 ≤ p) (h1 : p < 9218868437227405312) : ex p ≠ 2047 := by unfold ex; omega
theorem uV_lt {p q : Int} (hp : 0 ≤ p) (hpq : p < q) (hq : q < 9218868437227405312) : uV p < uV q := by
  rcases Nat.lt_or_ge (uV p) (uV q) with h | h
  · exact h
  · exfalso
    obtain ⟨a1, _⟩ := own_uV (m := 0) (n := false) (fin_small (p := p) hp (by omega))
    obtain ⟨b1, _⟩ := own_uV (m := 0) (n := false) (fin_small (p := q) (by omega) hq)
    have := rnP_mono (m := 0) (neg := false) (E := -1074) h
    rw [a1, b1, mag_self hp (by omega), mag_self (by omega) (by omega)] at this
    omega
theorem uV_le {p q : Int} (hq0 : 0 ≤ q) (hp : p < 9218868437227405312) (h : uV p ≤ uV q) : p ≤ q := by
  rcases Int.lt_or_le q p with hc | hc
  · have := uV_lt hq0 hc hp; omega
  · exact hc
theorem mag_lt2 (p : Int) : 0 ≤ mag p ∧ mag p < 9223372036854775808 := by unfold mag; omega
/-- few bits, at a unit that patterns have: nothing is rounded -/
theorem few_exact {D : Nat} {E : Int} (hE : -1074 ≤ E) (hD : D < 9007199254740992) {b : Int} (hb : ex b ≠ 2047) (hle : D * 2 ^ (E + 1074).toNat ≤ uV b) (m : Int) (n : Bool) :
    rnF m n D E = 0 ∧ rnP m n D E = rnP 0 false (D * 2 ^ (E + 1074).toNat) (-1074) ∧ 0 ≤ rnP m n D E ∧ rnP m n D E ≤ mag b ∧ uV (rnP m n D E) = D * 2 ^ (E + 1074).toNat := by
  have sp := rnP_scale m n D (E + 1074).toNat E
  have sf := rnF_scale m n D (E + 1074).toNat E
  rw [show E - ((E + 1074).toNat : Int) = -1074 by omega] at sp sf
  obtain ⟨N, hN⟩ : ∃ N, N = D * 2 ^ (E + 1074).toNat := ⟨_, rfl⟩
  rw [← hN] at sp sf hle ⊢
  have ob := own_uV (m := 0) (n := false) hb
  have mb := mag_lt2 b
  by_cases hz : D = 0
  · have hN0 : N = 0 := by rw [hN, hz, Nat.zero_mul]
    have p0' : rnP m n D E = 0 := by unfold rnP; rw [if_pos hz]
    have f0' : rnF m n D E = 0 := by unfold rnF; rw [if_pos hz]
    have q0 : rnP 0 false N (-1074) = 0 := by unfold rnP; rw [if_pos hN0]
    rw [p0', f0', q0, hN0]
    exact ⟨rfl, rfl, by omega, by omega, by decide⟩
  · have hU : uV b ≠ 0 := by
      have : 0 < 2 ^ (E + 1074).toNat := Nat.pow_pos (by omega)
      have : 0 < N := by rw [hN]; exact Nat.mul_pos (by omega) this
      omega
    have hpb : p0 0 false (uV b) (-1074) < 9218868437227405312 := (rn_num hU (.inl ob.2)).1
    have hF : ∀ m n, rnF m n D E = 0 := fun m n => by
      have hD2 : D ≤ N := by rw [hN]; exact Nat.le_mul_of_pos_right _ (Nat.pow_pos (by omega))
      have hk : p0 0 false (D) E < 9218868437227405312 := by
        have e := p0_scale (T := D) hz 0 false (E + 1074).toNat E
        rw [show E - ((E + 1074).toNat : Int) = -1074 by omega, ← hN] at e
        rw [← e]
        have := p0_mono (m := 0) (neg := false) (E := -1074) (T := N) (U := uV b) (by rw [hN]; exact Nat.mul_ne_zero hz (Nat.ne_of_gt (Nat.pow_pos (by omega)))) hle
        omega
      exact few_bits (k := 0) (s := false) (A := D) hE hD (Nat.le_refl _) hk
    have f1 := hF m n
    have f2 : rnF m n N (-1074) = 0 := by rw [sf]; exact f1
    have f3 : rnF 0 false N (-1074) = 0 := by
      have := rnF_scale 0 false D (E + 1074).toNat E
      rw [show E - ((E + 1074).toNat : Int) = -1074 by omega, ← hN] at this
      rw [this]
      exact hF 0 false
    obtain ⟨b1, b2⟩ := back_uV f2
    obtain ⟨c1, c2⟩ := back_uV f3
    have n0 := (rnP_bd m n N (-1074)).1
    have n1 := (rnP_bd 0 false N (-1074)).1
    have same : rnP m n N (-1074) = rnP 0 false N (-1074) := by
      have h1 := uV_le n1 b1 (Nat.le_of_eq (b2.trans c2.symm))
      have h2 := uV_le n0 c1 (Nat.le_of_eq (c2.trans b2.symm))
      omega
    have mono := rnP_mono (m := 0) (neg := false) (E := -1074) hle
    rw [ob.1] at mono
    rw [← sp]
    exact ⟨f1, same, n0, by rw [same]; exact mono, b2⟩
/-! ### rests -/
/-! ### rounded to a whole number -/
end Go.Rn
namespace Go.Rd
open Go.Rn Go.Pt
/-- a whole number of 53 bits, as a pattern, times a power of two -/
theorem small_pat (m : Int) {n : Nat} (h : n < 9007199254740992) : rnF m false n 0 = 0 ∧ 0 ≤ rnP m false n 0 ∧ rnP m false n 0 ≤ 4845873199050653696 ∧ (∀ k : Int, rnP m false (sg (rnP m false n 0)).toNat (xp (rnP m false n 0) + k) = rnP m false n k ∧ rnF m false (sg (rnP m false n 0)).toNat (xp (rnP m false n 0) + k) = rnF m false n k) ∧ (rnP m false n 0 = 0 ↔ n = 0) := by
  obtain ⟨J, hJ⟩ : ∃ J : Nat, J = 1074 := ⟨_, rfl⟩
  have e1 : xp 4845873199050653696 = 1 := by decide
  have e2 : (sg 4845873199050653696).toNat = 4503599627370496 := by decide
  have hle : n * 2 ^ (0 + 1074 : Int).toNat ≤ uV 4845873199050653696 := by
    unfold uV szF
    rw [e1, e2, show (0 + 1074 : Int).toNat = J by omega, show (1 - -1074 : Int).toNat = J + 1 by omega, Nat.pow_succ]
    have := Nat.mul_le_mul_right (2 ^ J) (show n ≤ 9007199254740992 by omega)
    omega
  obtain ⟨a1, a2, a3, a4, a5⟩ := few_exact (D := n) (E := 0) (by omega) h (b := 4845873199050653696) (by decide) hle m false
  have e3 : mag 4845873199050653696 = 4845873199050653696 := by decide
  rw [e3] at a4
  rw [show (0 + 1074 : Int).toNat = J by omega] at a5
  obtain ⟨p, hp⟩ : ∃ p, p = rnP m false n 0 := ⟨_, rfl⟩
  rw [← hp] at a3 a4 a5 ⊢
  have xb := xp_bd p
  refine ⟨a1, a3, a4, fun k => ?_, ?_⟩
  · have s1 := rnP_scale m false (sg p).toNat (xp p - -1074).toNat (xp p + k)
    have s2 := rnF_scale m false (sg p).toNat (xp p - -1074).toNat (xp p + k)
    have t1 := rnP_scale m false n J k
    have t2 := rnF_scale m false n J k
    unfold uV szF at a5
    rw [a5, show xp p + k - (((xp p - -1074).toNat : Nat) : Int) = k - (J : Int) by omega] at s1 s2
    exact ⟨s1.symm.trans t1, s2.symm.trans t2⟩
  · constructor
    · intro h0
      have hu : uV p = 0 := by rw [h0]; decide
      rw [hu] at a5
      rcases Nat.mul_eq_zero.1 a5.symm with h1 | h1
      · exact h1
      · exact absurd h1 (Nat.ne_of_gt (Nat.pow_pos (by omega)))
    · intro h0
      rw [hp, h0]
      unfold rnP
      rfl
/-! ### whole numbers -/
theorem whole_first {S k L : Nat} {E : Int} (he : S * 2 ^ E.toNat = k * 2 ^ (-E).toNat) (hL : 1 ≤ L) (h1 : 10 ^ (L - 1) ≤ k) (h2 : k < 10 ^ L) : isFirst S E ((L : Int) - 1) := by
  have hp : 0 < 2 ^ (-E).toNat := Nat.pow_pos (by omega)
  unfold isFirst paN pbN
  rw [show (-((L : Int) - 1)).toNat = 0 by omega, show (-(-((L : Int) - 1))).toNat = L - 1 by omega, show (-((L : Int) - 1 + 1)).toNat = 0 by omega, show (-(-((L : Int) - 1 + 1))).toNat = L by omega, Nat.pow_zero, Nat.mul_one, he]
  constructor
  · rw [Nat.mul_comm]; exact Nat.mul_le_mul_right _ h1
  · rw [Nat.mul_comm (2 ^ (-E).toNat)]; exact Nat.mul_lt_mul_of_pos_right h2 hp
theorem whole_digits {p : Int} (h : Fin14 p) {k L : Nat} (he : (sg p).toNat * 2 ^ (xp p).toNat = k * 2 ^ (-(xp p)).toNat) (hL : 1 ≤ L) (h1 : 10 ^ (L - 1) ≤ k) (h2 : k < 10 ^ L) : frP p = (L : Int) - 1 ∧ qD (sg p).toNat (xp p) (frP p) L = k ∧ rD14 (sg p).toNat (xp p) (frP p) L = 0 := by
  have hp : 0 < 2 ^ (-(xp p)).toNat := Nat.pow_pos (by omega)
  have e := first_one (frP_is h).1 (whole_first he hL h1 h2)
  rw [e]
  unfold qD rD14 paN pbN
  rw [show ((L : Int) - 1 - ((L : Int) - 1)).toNat = 0 by omega, show (-((L : Int) - 1 - ((L : Int) - 1))).toNat = 0 by omega, Nat.pow_zero, Nat.mul_one, Nat.mul_one, he, Nat.mul_div_cancel _ hp, Nat.mul_mod_left]
  exact ⟨rfl, rfl, rfl⟩
/-! ### base 16 -/
/-- a text of base 16 with or without a point -/
def hexT (mn : Bool) (c : UInt8) (h : List UInt8) (x : Int) : List UInt8 := (if mn = true then [45] else []) ++ (48 :: 120 :: c :: ((if h = [] then [] else 46 :: h) ++ 112 :: expL x))
end Go.Rd
