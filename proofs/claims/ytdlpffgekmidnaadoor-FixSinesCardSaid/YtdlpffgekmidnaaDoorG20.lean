/-
  FiZ, FiL, FiLw, Row, Flat
-/
import Derived.Test.YtdlpffgekmidnaaDoorG19
import Derived.ProofKit
import Derived.OpenShut
import Derived.Laws.IdiomArrays
import Derived.Lib.SmallJoins
namespace Go.Proofs.YtdlpffgekmidnaaDoor
open Go.KRun Go.Nt Go.Wd
set_option maxRecDepth 100000
theorem N6.shl {h : Hp} {p : Option Addr} {n c V : Nat} (A : N6 h p n c V) {k : Int} (hk : 0 ≤ k ∧ k < 100000) : okSh h p n c k = true := by
  have := A.lt
  unfold okSh
  rw [A.row, A.dg, blt_iff.2 (by omega), decide_eq_true hk.1]
  rfl
theorem N6.shlV {h : Hp} {p : Option Addr} {n c V k P : Nat} (A : N6 h p n c V) (hP : V * 2 ^ k = P) : decide (Go.Proofs.YtdlpffgekmidnaaDoor.vO h p n * 2 ^ k = P) = true := by
  rw [A.vO]
  exact decide_eq_true hP
theorem N6.cmpV {h : Hp} {p q : Option Addr} {n m c e V W : Nat} (A : N6 h p n c V) (B : N6 h q m e W) : decide (cmpZ (Go.Proofs.YtdlpffgekmidnaaDoor.vO h p n) (Go.Proofs.YtdlpffgekmidnaaDoor.vO h q m) = cmpZ V W) = true := by
  rw [A.vO, B.vO]
  exact decide_eq_true rfl
theorem bo_body : Tryd.f23.body = some (cBody Tryd.f23) := by kernel_rfl
theorem bo_res (a b c v : Value) (h : Hp) (g : Nat → Value) : resS Tryd.prog Tryd.f23 ([a, b, c, undef, undef, undef, v] ++ tl 18 g) h = some v := rfl
theorem th_len : (d16 1000).length < 100000 ∧ 0 < (d16 1000).length := by
  have := d16_len (A := 1000) (k := 1) (by decide)
  exact ⟨by omega, len_pos16 (by omega)⟩
section
variable {x y z : List Value × TypeId} {p q r : Option Addr} {n c m e k l a lo hi : Nat} {LA LB LC : List Int}
theorem bo_runs (NA : Nu 0 x p n c LA) (hA : LA = d16 a) (hn : n < 100000) (NB : Nu 1 y q m e LB) (hB : LB = d16 lo) (hm : m < 100000) (NC : Nu 2 z r k l LC) (hC : LC = d16 hi) (hk : k < 100000)
    (bA : a ≤ Go.Fx.uD) (bB : lo ≤ Go.Fx.uD) (bC : hi ≤ Go.Fx.uD) (hk0 : 0 < k) (h1 : lo * 2 ^ (72 : Int).toNat ≤ a + 1000) (h2 : a ≤ hi * 2 ^ (72 : Int).toNat + 1000) :
    Runs (tabH Tryd.prog extY conN hcBo) (cBody Tryd.f23) ([.slice p n c, .slice q m e, .slice r k l] ++ List.replicate 22 undef, bH 3 [] z y x, []) fun e z => (e = none ∨ e = some none) ∧ resS Tryd.prog Tryd.f23 z.1 z.2.1 = some (.bool true) := by
  have TT := tabH_ok conN_ok hcBo_ok
  have iA : ∀ h : Hp, h.blk? 0 = some x → N6 h p n c a := fun h hb => ⟨(NA.row h hb).1, (NA.row h hb).2.trans hA, hn⟩
  have iB : ∀ h : Hp, h.blk? 1 = some y → N6 h q m e lo := fun h hb => ⟨(NB.row h hb).1, (NB.row h hb).2.trans hB, hm⟩
  have iC : ∀ h : Hp, h.blk? 2 = some z → N6 h r k l hi := fun h hb => ⟨(NC.row h hb).1, (NC.row h hb).2.trans hC, hk⟩
  have t72 : ∀ {V : Nat}, V ≤ Go.Fx.uD → V * 2 ^ (72 : Int).toNat ≤ Go.Fx.uD * Go.Fx.uD ∧ V * 2 ^ (72 : Int).toNat + 1000 ≤ Go.Fx.uD * Go.Fx.uD := fun {V} hV => by
    have e1 : (2 : Nat) ^ (72 : Int).toNat + 1000 ≤ Go.Fx.uD := by decide +kernel
    have e2 := Nat.mul_le_mul hV (Nat.le_refl (2 ^ (72 : Int).toNat))
    have e3 := Nat.mul_le_mul (Nat.le_refl Go.Fx.uD) e1
    rw [Nat.mul_add] at e3
    have := Go.Fx.uD_pos
    omega
  obtain ⟨tl1, tp1⟩ := th_len
  have eO : decide ((0 : Int) ≤ 1000 ∧ (1000 : Int) < 18446744073709551616) = true := by decide
  obtain ⟨A, eA⟩ : ∃ A, lo * 2 ^ (72 : Int).toNat = A := ⟨_, rfl⟩
  obtain ⟨C, eC⟩ : ∃ C, hi * 2 ^ (72 : Int).toNat = C := ⟨_, rfl⟩
  have sA := (t72 bB).1
  have sC := (t72 bC).1
  have sD := (t72 bC).2
  rw [eA] at sA h1
  rw [eC] at sC sD h2
  have lA := sh41 sA
  have lC := sh41 sC
  have lD := sh41 sD
  have lB : (d16 (a + 1000)).length < 100000 := sh41 (by have := (t72 bA).2; have : a * 1 ≤ a * 2 ^ (72 : Int).toNat := Nat.mul_le_mul_left _ (by decide); omega)
  have hS : ∀ h : Hp, h.blk? 3 = some (w16 1000) → N6 h (aP16 3) (d16 1000).length (d16 1000).length 1000 := fun h hb => bN6 (V := 1000) hb tl1
  have or1 : ∀ u : Nat, decide (0 < u ∨ 0 < (d16 1000).length) = true := fun u => decide_eq_true (.inr tp1)
  have z1 := decide_eq_true (cmpZ_le h1)
  have z2 := decide_eq_true (cmpZ_le h2)
  by_cases hm0 : 0 < m
  · have g0 := bo_r p q r n c m e k l A (a + 1000) C (C + 1000) (cmpZ A (a + 1000)) (cmpZ a (C + 1000)) x y z
    have nA : ∀ h : Hp, h.blk? 4 = some (w16 A) → N6 h (aP16 4) (d16 A).length (d16 A).length A := fun h hb => bN6 (V := A) hb lA
    have nB : ∀ h : Hp, h.blk? 5 = some (w16 (a + 1000)) → N6 h (aP16 5) (d16 (a + 1000)).length (d16 (a + 1000)).length (a + 1000) := fun h hb => bN6 (V := a + 1000) hb lB
    have nC : ∀ h : Hp, h.blk? 6 = some (w16 C) → N6 h (aP16 6) (d16 C).length (d16 C).length C := fun h hb => bN6 (V := C) hb lC
    have nD : ∀ h : Hp, h.blk? 7 = some (w16 (C + 1000)) → N6 h (aP16 7) (d16 (C + 1000)).length (d16 (C + 1000)).length (C + 1000) := fun h hb => bN6 (V := C + 1000) hb lD
    refine (goesT_runs TT g0 (okPC z2 (okPC ((iA _ rfl).cmpV (nD _ rfl)) (okPC ((iA _ rfl).two (nD _ rfl)) (okPC ((nC _ rfl).addV (hS _ rfl) rfl) (okPC ((nC _ rfl).two (hS _ rfl)) (okPC (or1 _) (okPC ((iC _ rfl).shlV eC) (okPC ((iC _ rfl).shl (by decide)) (okPC (decide_eq_true hk0) (okPC z1 (okPC ((nA _ rfl).cmpV (nB _ rfl)) (okPC ((nA _ rfl).two (nB _ rfl)) (okPC ((iA _ rfl).addV (hS _ rfl) rfl) (okPC ((iA _ rfl).two (hS _ rfl)) (okPC (or1 _) (okPC ((iB _ rfl).shlV eA) (okPC ((iB _ rfl).shl (by decide)) (okPC (decide_eq_true hm0) (okP1 eO)))))))))))))))))))).mono fun e w he => ?_
    obtain ⟨rfl, ⟨g, e1⟩, e2⟩ := he
    refine ⟨.inr rfl, ?_⟩
    rw [e1]
    exact bo_res _ _ _ _ _ g
  · have lo0 : lo = 0 := len_zero (by have := (iB (bH 3 [] z y x) rfl).len; omega)
    rw [lo0, Nat.zero_mul] at eA
    subst eA
    have g0 := bo_n p q r n c m e k l (a + 1000) C (C + 1000) (cmpZ 0 (a + 1000)) (cmpZ a (C + 1000)) x y z
    have nB : ∀ h : Hp, h.blk? 4 = some (w16 (a + 1000)) → N6 h (aP16 4) (d16 (a + 1000)).length (d16 (a + 1000)).length (a + 1000) := fun h hb => bN6 (V := a + 1000) hb lB
    have nC : ∀ h : Hp, h.blk? 5 = some (w16 C) → N6 h (aP16 5) (d16 C).length (d16 C).length C := fun h hb => bN6 (V := C) hb lC
    have nD : ∀ h : Hp, h.blk? 6 = some (w16 (C + 1000)) → N6 h (aP16 6) (d16 (C + 1000)).length (d16 (C + 1000)).length (C + 1000) := fun h hb => bN6 (V := C + 1000) hb lD
    refine (goesT_runs TT g0 (okPC z2 (okPC ((iA _ rfl).cmpV (nD _ rfl)) (okPC ((iA _ rfl).two (nD _ rfl)) (okPC ((nC _ rfl).addV (hS _ rfl) rfl) (okPC ((nC _ rfl).two (hS _ rfl)) (okPC (or1 _) (okPC ((iC _ rfl).shlV eC) (okPC ((iC _ rfl).shl (by decide)) (okPC (decide_eq_true hk0) (okPC z1 (okPC ((nN6 _).cmpV (nB _ rfl)) (okPC ((nN6 _).two (nB _ rfl)) (okPC ((iA _ rfl).addV (hS _ rfl) rfl) (okPC ((iA _ rfl).two (hS _ rfl)) (okPC (or1 _) (okPC (iB _ rfl).row (okPC (decide_eq_false hm0) (okP1 eO))))))))))))))))))).mono fun e w he => ?_
    obtain ⟨rfl, ⟨g, e1⟩, e2⟩ := he
    refine ⟨.inr rfl, ?_⟩
    rw [e1]
    exact bo_res _ _ _ _ _ g
end
def tri3 (a b c i : Nat) : Nat := if Nat.beq i 0 = true then a else if Nat.beq i 1 = true then b else c
theorem blkThree {x y z w : List Value × TypeId} {i : Nat} (h : (bH 3 [] z y x).blk? i = some w) : (i = 0 ∧ w = x) ∨ (i = 1 ∧ w = y) ∨ (i = 2 ∧ w = z) := by
  have : i < 3 := Hp.blk_lt h
  have : i = 0 ∨ i = 1 ∨ i = 2 := by omega
  rcases this with rfl | rfl | rfl
  · exact .inl ⟨rfl, (Option.some.inj h).symm⟩
  · exact .inr (.inl ⟨rfl, (Option.some.inj h).symm⟩)
  · exact .inr (.inr ⟨rfl, (Option.some.inj h).symm⟩)
/-- true, where the number lies between the bounds -/
def gBo : AnsH := fun vals h s =>
  match vals with
  | [.slice p n c, .slice q m e, .slice r k l] => some (.bool true, h, s, [(decide (vO h q m * 2 ^ (72 : Int).toNat ≤ vO h p n + 1000 ∧ vO h p n ≤ vO h r k * 2 ^ (72 : Int).toNat + 1000 ∧ 0 < k), true), (okAn h r k l, true), (okAn h q m e, true), (okAn h p n c, true)])
  | _ => none
theorem gBo_ok : AnsHOk 23 gBo := by
  intro vals h s v h' s' lg hg hl m0 B w E hv
  unfold gBo at hg
  split at hg
  · rename_i p n c q m e r k l
    cases hg
    have l1 := of_decide_eq_true (hl _ List.mem_cons_self)
    have lC := hl _ (List.mem_cons_of_mem _ List.mem_cons_self)
    have lB := hl _ (List.mem_cons_of_mem _ (List.mem_cons_of_mem _ List.mem_cons_self))
    have lA := hl _ (List.mem_cons_of_mem _ (List.mem_cons_of_mem _ (List.mem_cons_of_mem _ (List.mem_singleton.2 rfl))))
    simp only at lA lB lC
    obtain ⟨a1, a2, a3, a4⟩ := an_ok lA
    obtain ⟨b1, b2, b3, b4⟩ := an_ok lB
    obtain ⟨c1, c2, c3, c4⟩ := an_ok lC
    obtain ⟨x, p', a, NA, eA, fA⟩ := nu_of 0 a1
    obtain ⟨y, q', b, NB, eB, fB⟩ := nu_of 1 b1
    obtain ⟨z, r', d, NC, eC, fC⟩ := nu_of 2 c1
    have rr := bo_runs NA a2 a3 NB b2 b3 NC c2 c3 a4 b4 c4 l1.2.2 l1.1 l1.2.1
    have := row_calls0 (T := tabH Tryd.prog extY conN hcBo) Tryd.func23 bo_body (h0 := bH 3 [] z y x) ⟨rfl, fun i u hu => by
      rcases blkThree hu with ⟨rfl, rfl⟩ | ⟨rfl, rfl⟩ | ⟨rfl, rfl⟩
      · exact ⟨NA.ros.1, NA.lt0, NA.ros.2⟩
      · exact ⟨NB.ros.1, NB.lt0, NB.ros.2⟩
      · exact ⟨NC.ros.1, NC.lt0, NC.ros.2⟩⟩ (vals := [.slice p' n c, .slice q' m e, .slice r' k l]) (fun v hv => by
      simp only [List.mem_cons, List.not_mem_nil, or_false] at hv
      rcases hv with rfl | rfl | rfl
      · exact NA.lt (by show 0 < 3; omega)
      · exact NB.lt (by show 1 < 3; omega)
      · exact NC.lt (by show 2 < 3; omega)) (v := .bool true) (by rfl) rr.w E (s := tri3 a b d) (fun i u hu ht => by
      rcases blkThree hu with ⟨rfl, rfl⟩ | ⟨rfl, rfl⟩ | ⟨rfl, rfl⟩
      · exact fA ht
      · exact fB ht
      · exact fC ht)
    simp only [List.map_cons, List.map_nil] at this
    rw [eA _ rfl, eB _ rfl, eC _ rfl] at this
    exact this
  · cases hg
theorem numz_fits : Fits (reckon (tabOf Tryd.prog extY conN true) 100 10 [.nilIface] []) (.int .i64 0) [] := ⟨by kernel_rfl, by kernel_rfl, by kernel_rfl, by kernel_rfl⟩
def gNumZ : Ans := fun vals s => match vals with | [.nilIface] => some (.int .i64 0, s, []) | _ => none
theorem gNumZ_ok : AnsOk 10 gNumZ := by
  intro vals s v s' lg h hl w
  unfold gNumZ at h
  split at h
  · cases h
    exact fits_calls (tabY_ok conN_ok) numz_fits okNil (by rfl) (by rfl) w
  · cases h
/-- a difference that is not below 0 -/
def gSubL : Ans := fun vals s =>
  match vals with
  | [x, y] =>
    match w4 x, w4 y with
    | some a, some b => some (.tuple #[vW (W4.of (a.val - b.val)), .bool false], s, [(decide (b.val ≤ a.val), true), q2 a b])
    | _, _ => none
  | _ => none
theorem gSubL_ok : AnsOk 19 gSubL := by
  intro vals s v s' lg h hl w
  unfold gSubL at h
  split at h
  · split at h
    · rename_i a b ha hb
      cases h
      have h1 := of_decide_eq_true (hl _ List.mem_cons_self)
      have h2 := of_decide_eq_true (hl _ (List.mem_cons_of_mem _ (List.mem_singleton.2 rfl)))
      rw [w4_spec ha, w4_spec hb]
      have := sub_calls a b h2.1 h2.2 w
      unfold subV4 at this
      rw [decide_eq_false (by omega)] at this
      exact this
    · cases h
  · cases h
theorem l1_fits : Fits (reckon (tabOf Tryd.prog extY conFO true) 300 18 [] []) (vW oneW) [] := ⟨by kernel_rfl, by kernel_rfl, by kernel_rfl, by kernel_rfl⟩
theorem l1_calls (w : World) : Calls Tryd.prog 18 #[] w fun e w' => e = .returned (vW oneW) ∧ Tidy w w' := fits_calls (tabY_ok conFO_ok) l1_fits okNil (by rfl) (by rfl) w
/-- 4096 -/
def w4096 : W4 := ⟨4096, 0, 0, 0⟩
theorem w4096_fits : Fits (reckon (tabOf Tryd.prog extY conN true) 300 22 [.int .u64 4096] []) (vW w4096) [] := ⟨by kernel_rfl, by kernel_rfl, by kernel_rfl, by kernel_rfl⟩
def g4096 : Ans := fun vals s => match vals with | [.int .u64 n] => some (vW w4096, s, [(decide (n = 4096), true)]) | _ => none
theorem g4096_ok : AnsOk 22 g4096 := by
  intro vals s v s' lg h hl w
  unfold g4096 at h
  split at h
  · cases h
    have h1 := of_decide_eq_true (hl _ (List.mem_singleton.2 rfl))
    subst h1
    exact fits_calls (tabY_ok conN_ok) w4096_fits okNil (by rfl) (by rfl) w
  · cases h
def conF9 : Con := alt 10 gNumZ (alt 19 gSubL (alt 18 (g0 (vW oneW)) (alt 22 g4096 (alt 21 (g1 lenV4) conF6))))
theorem conF9_ok : ConOk conF9 := alt_ok Tryd.func10 rfl gNumZ_ok (alt_ok Tryd.func19 rfl gSubL_ok (alt_ok Tryd.func18 rfl (g0_ok l1_calls) (alt_ok Tryd.func22 rfl g4096_ok (alt_ok Tryd.func21 rfl (g1_ok wlen_calls) conF6_ok))))
def hcSs : Hc := altH 12 gOf5 (altH 20 gUshlT (altH 24 gSiD (altH 25 gCoD (altH 23 gBo hcN))))
theorem hcSs_ok : HcOk hcSs := altH_ok Tryd.func12 rfl gOf5_ok (altH_ok Tryd.func20 rfl gUshlT_ok (altH_ok Tryd.func24 rfl gSiD_ok (altH_ok Tryd.func25 rfl gCoD_ok (altH_ok Tryd.func23 rfl gBo_ok hcN_ok))))
/-- with the errors' numbers -/
def hcSn : Hc := altH 10 gNum hcSs
theorem hcSn_ok : HcOk hcSn := altH_ok Tryd.func10 rfl gNum_ok hcSs_ok
theorem N5.an {h : Hp} {p : Option Addr} {n V : Nat} (A : N5 h p n V) (hV : V ≤ Go.Fx.uD) : okAn h p n n = true := by
  unfold okAn
  rw [A.row, A.can, blt_iff.2 A.lt, A.vO, decide_eq_true hV]
  rfl
theorem N5.siV {h : Hp} {p : Option Addr} {n X V : Nat} (A : N5 h p n X) (hp : 0 < X) (hV : seN (X * X / Go.Fx.uD) X 2 = V) : decide (0 < Go.Proofs.YtdlpffgekmidnaaDoor.vO h p n ∧ seN (Go.Proofs.YtdlpffgekmidnaaDoor.vO h p n * Go.Proofs.YtdlpffgekmidnaaDoor.vO h p n / Go.Fx.uD) (Go.Proofs.YtdlpffgekmidnaaDoor.vO h p n) 2 = V) = true := by
  rw [A.vO]
  exact decide_eq_true ⟨hp, hV⟩
theorem N5.si0 {h : Hp} {p : Option Addr} {n X : Nat} (A : N5 h p n X) (hp : X = 0) : decide (0 < Go.Proofs.YtdlpffgekmidnaaDoor.vO h p n) = false := by
  rw [A.vO]
  exact decide_eq_false (by omega)
theorem N5.coV {h : Hp} {p : Option Addr} {n X V : Nat} (A : N5 h p n X) (hV : seN (X * X / Go.Fx.uD) Go.Fx.uD 1 = V) : decide (seN (Go.Proofs.YtdlpffgekmidnaaDoor.vO h p n * Go.Proofs.YtdlpffgekmidnaaDoor.vO h p n / Go.Fx.uD) Go.Fx.uD 1 = V) = true := by
  rw [A.vO]
  exact decide_eq_true hV
theorem N5.boV {h : Hp} {p q r : Option Addr} {n m k A L H : Nat} (a : N5 h p n A) (b : N5 h q m L) (c : N5 h r k H) (h1 : L * 2 ^ (72 : Int).toNat ≤ A + 1000) (h2 : A ≤ H * 2 ^ (72 : Int).toNat + 1000) (h3 : 0 < k) : decide (Go.Proofs.YtdlpffgekmidnaaDoor.vO h q m * 2 ^ (72 : Int).toNat ≤ Go.Proofs.YtdlpffgekmidnaaDoor.vO h p n + 1000 ∧ Go.Proofs.YtdlpffgekmidnaaDoor.vO h p n ≤ Go.Proofs.YtdlpffgekmidnaaDoor.vO h r k * 2 ^ (72 : Int).toNat + 1000 ∧ 0 < k) = true := by
  rw [a.vO, b.vO, c.vO]
  exact decide_eq_true ⟨h1, h2, h3⟩
def bSi (x : W4) : List (List Value × TypeId) := [kFx (ch4 x), kFx (cl4 x), kFx (sh4 x), kFx (sl4 x), kX4 x, (kV, kT)]
theorem si_p (x : W4) (Y S C : Nat) : Fits (reckonAt (tabH Tryd.prog extY conF9 hcSn) hK 600 4 [vW x] [cmp false, cmp false, cmp false, cmp true, num Y, cmp true, cmp true, cmp true, cmp true, num S, num C]) (.bool true) [(decide (vO (hN5 (bSi x) [(ch4 x).nat, (cl4 x).nat, C, (sh4 x).nat, (sl4 x).nat, S, Y, x.nat]) (aP16 12) ((d16 (cl4 x).nat).length) * 2 ^ (72 : Int).toNat ≤ vO (hN5 (bSi x) [(ch4 x).nat, (cl4 x).nat, C, (sh4 x).nat, (sl4 x).nat, S, Y, x.nat]) (aP16 11) ((d16 C).length) + 1000 ∧ vO (hN5 (bSi x) [(ch4 x).nat, (cl4 x).nat, C, (sh4 x).nat, (sl4 x).nat, S, Y, x.nat]) (aP16 11) ((d16 C).length) ≤ vO (hN5 (bSi x) [(ch4 x).nat, (cl4 x).nat, C, (sh4 x).nat, (sl4 x).nat, S, Y, x.nat]) (aP16 13) ((d16 (ch4 x).nat).length) * 2 ^ (72 : Int).toNat + 1000 ∧ 0 < (d16 (ch4 x).nat).length), true), (okAn (hN5 (bSi x) [(ch4 x).nat, (cl4 x).nat, C, (sh4 x).nat, (sl4 x).nat, S, Y, x.nat]) (aP16 13) ((d16 (ch4 x).nat).length) ((d16 (ch4 x).nat).length), true), (okAn (hN5 (bSi x) [(ch4 x).nat, (cl4 x).nat, C, (sh4 x).nat, (sl4 x).nat, S, Y, x.nat]) (aP16 12) ((d16 (cl4 x).nat).length) ((d16 (cl4 x).nat).length), true), (okAn (hN5 (bSi x) [(ch4 x).nat, (cl4 x).nat, C, (sh4 x).nat, (sl4 x).nat, S, Y, x.nat]) (aP16 11) ((d16 C).length) ((d16 C).length), true), oW (ch4 x), oW (cl4 x), (decide (seN (vO (hN5 (bSi x) [(sh4 x).nat, (sl4 x).nat, S, Y, x.nat]) (aP16 7) ((d16 Y).length) * vO (hN5 (bSi x) [(sh4 x).nat, (sl4 x).nat, S, Y, x.nat]) (aP16 7) ((d16 Y).length) / Go.Fx.uD) Go.Fx.uD 1 = C), true), (okAn (hN5 (bSi x) [(sh4 x).nat, (sl4 x).nat, S, Y, x.nat]) (aP16 7) ((d16 Y).length) ((d16 Y).length), true), (decide (vO (hN5 (bSi x) [(sh4 x).nat, (sl4 x).nat, S, Y, x.nat]) (aP16 9) ((d16 (sl4 x).nat).length) * 2 ^ (72 : Int).toNat ≤ vO (hN5 (bSi x) [(sh4 x).nat, (sl4 x).nat, S, Y, x.nat]) (aP16 8) ((d16 S).length) + 1000 ∧ vO (hN5 (bSi x) [(sh4 x).nat, (sl4 x).nat, S, Y, x.nat]) (aP16 8) ((d16 S).length) ≤ vO (hN5 (bSi x) [(sh4 x).nat, (sl4 x).nat, S, Y, x.nat]) (aP16 10) ((d16 (sh4 x).nat).length) * 2 ^ (72 : Int).toNat + 1000 ∧ 0 < (d16 (sh4 x).nat).length), true), (okAn (hN5 (bSi x) [(sh4 x).nat, (sl4 x).nat, S, Y, x.nat]) (aP16 10) ((d16 (sh4 x).nat).length) ((d16 (sh4 x).nat).length), true), (okAn (hN5 (bSi x) [(sh4 x).nat, (sl4 x).nat, S, Y, x.nat]) (aP16 9) ((d16 (sl4 x).nat).length) ((d16 (sl4 x).nat).length), true), (okAn (hN5 (bSi x) [(sh4 x).nat, (sl4 x).nat, S, Y, x.nat]) (aP16 8) ((d16 S).length) ((d16 S).length), true), oW (sh4 x), oW (sl4 x), (decide (0 < vO (hN5 (bSi x) [Y, x.nat]) (aP16 7) ((d16 Y).length) ∧ seN (vO (hN5 (bSi x) [Y, x.nat]) (aP16 7) ((d16 Y).length) * vO (hN5 (bSi x) [Y, x.nat]) (aP16 7) ((d16 Y).length) / Go.Fx.uD) (vO (hN5 (bSi x) [Y, x.nat]) (aP16 7) ((d16 Y).length)) 2 = S), true), (okAn (hN5 (bSi x) [Y, x.nat]) (aP16 7) ((d16 Y).length) ((d16 Y).length), true), (decide (cmpI (W4.of ((ch4 x).val - (cl4 x).val)) w4096 ≤ 0), true), q2 (W4.of ((ch4 x).val - (cl4 x).val)) w4096, (decide ((4096 : Int) = 4096), true), (decide (cmpI (W4.of ((sh4 x).val - (sl4 x).val)) w4096 ≤ 0), true), q2 (W4.of ((sh4 x).val - (sl4 x).val)) w4096, (decide ((4096 : Int) = 4096), true), (decide (lenI (W4.of ((sh4 x).val - (sl4 x).val)) ≤ 13), true), oW (W4.of ((sh4 x).val - (sl4 x).val)), (decide (vO (hN5 (bSi x) [x.nat]) (aP16 6) ((d16 x.nat).length) * 2 ^ (72 : Int).toNat = Y), true), (okSh (hN5 (bSi x) [x.nat]) (aP16 6) ((d16 x.nat).length) ((d16 x.nat).length) 72, true), (decide (0 < (d16 x.nat).length), true), oW x, (decide ((cl4 x).val ≤ (ch4 x).val), true), q2 (ch4 x) (cl4 x), (decide ((sl4 x).val ≤ (sh4 x).val), true), q2 (sh4 x) (sl4 x), cg1 x false, q2 x oneW, (decide (Go.Fx.uP < x.nat), false), oW x, (decide (Go.Fx.uP < x.nat), false), oW x] := ⟨by kernel_rfl, by kernel_rfl, by kernel_rfl, by kernel_rfl⟩
theorem si_z (x : W4) (C : Nat) : Fits (reckonAt (tabH Tryd.prog extY conF9 hcSn) hK 600 4 [vW x] [cmp false, cmp false, cmp false, cmp false, cmp true, cmp true, cmp true, cmp false, num C]) (.bool true) [(decide (vO (hN5 (bSi x) [(ch4 x).nat, (cl4 x).nat, C, (sh4 x).nat, (sl4 x).nat, x.nat]) (aP16 10) ((d16 (cl4 x).nat).length) * 2 ^ (72 : Int).toNat ≤ vO (hN5 (bSi x) [(ch4 x).nat, (cl4 x).nat, C, (sh4 x).nat, (sl4 x).nat, x.nat]) (aP16 9) ((d16 C).length) + 1000 ∧ vO (hN5 (bSi x) [(ch4 x).nat, (cl4 x).nat, C, (sh4 x).nat, (sl4 x).nat, x.nat]) (aP16 9) ((d16 C).length) ≤ vO (hN5 (bSi x) [(ch4 x).nat, (cl4 x).nat, C, (sh4 x).nat, (sl4 x).nat, x.nat]) (aP16 11) ((d16 (ch4 x).nat).length) * 2 ^ (72 : Int).toNat + 1000 ∧ 0 < (d16 (ch4 x).nat).length), true), (okAn (hN5 (bSi x) [(ch4 x).nat, (cl4 x).nat, C, (sh4 x).nat, (sl4 x).nat, x.nat]) (aP16 11) ((d16 (ch4 x).nat).length) ((d16 (ch4 x).nat).length), true), (okAn (hN5 (bSi x) [(ch4 x).nat, (cl4 x).nat, C, (sh4 x).nat, (sl4 x).nat, x.nat]) (aP16 10) ((d16 (cl4 x).nat).length) ((d16 (cl4 x).nat).length), true), (okAn (hN5 (bSi x) [(ch4 x).nat, (cl4 x).nat, C, (sh4 x).nat, (sl4 x).nat, x.nat]) (aP16 9) ((d16 C).length) ((d16 C).length), true), oW (ch4 x), oW (cl4 x), (decide (seN (vO (hN5 (bSi x) [(sh4 x).nat, (sl4 x).nat, x.nat]) none (0) * vO (hN5 (bSi x) [(sh4 x).nat, (sl4 x).nat, x.nat]) none (0) / Go.Fx.uD) Go.Fx.uD 1 = C), true), (okAn (hN5 (bSi x) [(sh4 x).nat, (sl4 x).nat, x.nat]) none (0) (0), true), (decide (vO (hN5 (bSi x) [(sh4 x).nat, (sl4 x).nat, x.nat]) (aP16 7) ((d16 (sl4 x).nat).length) * 2 ^ (72 : Int).toNat ≤ vO (hN5 (bSi x) [(sh4 x).nat, (sl4 x).nat, x.nat]) none (0) + 1000 ∧ vO (hN5 (bSi x) [(sh4 x).nat, (sl4 x).nat, x.nat]) none (0) ≤ vO (hN5 (bSi x) [(sh4 x).nat, (sl4 x).nat, x.nat]) (aP16 8) ((d16 (sh4 x).nat).length) * 2 ^ (72 : Int).toNat + 1000 ∧ 0 < (d16 (sh4 x).nat).length), true), (okAn (hN5 (bSi x) [(sh4 x).nat, (sl4 x).nat, x.nat]) (aP16 8) ((d16 (sh4 x).nat).length) ((d16 (sh4 x).nat).length), true), (okAn (hN5 (bSi x) [(sh4 x).nat, (sl4 x).nat, x.nat]) (aP16 7) ((d16 (sl4 x).nat).length) ((d16 (sl4 x).nat).length), true), (okAn (hN5 (bSi x) [(sh4 x).nat, (sl4 x).nat, x.nat]) none (0) (0), true), oW (sh4 x), oW (sl4 x), (decide (0 < vO (hN5 (bSi x) [x.nat]) none (0)), false), (okAn (hN5 (bSi x) [x.nat]) none (0) (0), true), (decide (cmpI (W4.of ((ch4 x).val - (cl4 x).val)) w4096 ≤ 0), true), q2 (W4.of ((ch4 x).val - (cl4 x).val)) w4096, (decide ((4096 : Int) = 4096), true), (decide (cmpI (W4.of ((sh4 x).val - (sl4 x).val)) w4096 ≤ 0), true), q2 (W4.of ((sh4 x).val - (sl4 x).val)) w4096, (decide ((4096 : Int) = 4096), true), (decide (lenI (W4.of ((sh4 x).val - (sl4 x).val)) ≤ 13), true), oW (W4.of ((sh4 x).val - (sl4 x).val)), (rowP (hN5 (bSi x) [x.nat]) (aP16 6) ((d16 x.nat).length) ((d16 x.nat).length), true), (decide (0 < (d16 x.nat).length), false), oW x, (decide ((cl4 x).val ≤ (ch4 x).val), true), q2 (ch4 x) (cl4 x), (decide ((sl4 x).val ≤ (sh4 x).val), true), q2 (sh4 x) (sl4 x), cg1 x false, q2 x oneW, (decide (Go.Fx.uP < x.nat), false), oW x, (decide (Go.Fx.uP < x.nat), false), oW x] := ⟨by kernel_rfl, by kernel_rfl, by kernel_rfl, by kernel_rfl⟩
theorem si_big (x : W4) : Fits (reckonAt (tabH Tryd.prog extY conF9 hcSn) hK 600 4 [vW x] [cmp true, cmp true, cmp true, cmp true, cmp true]) (.bool true) [((1 : Int) == 1, true), (Nat.beq 57 57 && Nat.beq kT kT && kOk kV, true), ((1 : Int) == 1, true), (Nat.beq 57 57 && Nat.beq kT kT && kOk kV, true), cg1 x true, q2 x oneW, (decide (Go.Fx.uP < x.nat), true), oW x, (decide (Go.Fx.uP < x.nat), true), oW x] := ⟨by kernel_rfl, by kernel_rfl, by kernel_rfl, by kernel_rfl⟩
end Go.Proofs.YtdlpffgekmidnaaDoor
namespace Go.KRun
open Go.ChangeShapes Go.WideShapes Go.ChangeAt Go.RowKit Go.Joins
theorem tidy_frozen {w w' : World} (h : Tidy w w') (a : Addr) : w'.frozen? a = w.frozen? a := by
  unfold World.frozen?
  by_cases h1 : a.block < w.heap.size
  · rw [h.1.block _ h1]
  · rw [Array.getElem?_eq_none (by omega : w.heap.size ≤ a.block)]
    by_cases h2 : a.block < w'.heap.size
    · have h3 := h.2 a.block (by omega) h2
      unfold iced at h3
      split
      · rename_i c e lo hi hc
        have := h3 _ _ _ hc
        cases this
        simp
      · rfl
    · rw [Array.getElem?_eq_none (by omega : w'.heap.size ≤ a.block)]
theorem u64_bounds {n : Int} (h : (Lit.int .u64 n).wf = true) : 0 ≤ n ∧ n < 18446744073709551616 := by
  simp [Lit.wf, IntKind.min, IntKind.max, IntKind.signed, IntKind.bits] at h
  omega
/-- cells of known kinds: 'none': a truth -/
def okC : List (Option IntKind) → List Value → Prop
  | [], [] => True
  | none :: l, v :: vs => (∃ b, v = .bool b) ∧ okC l vs
  | some k :: l, v :: vs => (∃ n, v = .int k n ∧ (Lit.int k n).wf = true) ∧ okC l vs
  | _, _ => False
theorem okC_append : ∀ {l1 : List (Option IntKind)} {v1 : List Value} {l2 : List (Option IntKind)} {v2 : List Value}, okC l1 v1 → okC l2 v2 → okC (l1 ++ l2) (v1 ++ v2)
  | [], [], _, _, _, h2 => by simpa using h2
  | none :: l, v :: vs, _, _, h1, h2 => ⟨h1.1, okC_append (l1 := l) (v1 := vs) h1.2 h2⟩
  | some k :: l, v :: vs, _, _, h1, h2 => ⟨h1.1, okC_append (l1 := l) (v1 := vs) h1.2 h2⟩
  | [], _ :: _, _, _, h1, _ => h1.elim
  | none :: _, [], _, _, h1, _ => h1.elim
  | some _ :: _, [], _, _, h1, _ => h1.elim
theorem okC_length : ∀ {l : List (Option IntKind)} {vs : List Value}, okC l vs → vs.length = l.length
  | [], [], _ => rfl
  | none :: l, v :: vs, h => by simp [okC_length (l := l) h.2]
  | some k :: l, v :: vs, h => by simp [okC_length (l := l) h.2]
  | [], _ :: _, h => h.elim
  | none :: _, [], h => h.elim
  | some _ :: _, [], h => h.elim
def leavesF (P : Program) (q : TypeId → Option (List (Option IntKind))) : Nat → List Field → Option (List (Option IntKind))
  | _, [] => some []
  | off, f :: fs =>
    match q f.type with
    | some l =>
      if (Nat.beq f.offset off && Nat.beq (P.cellsOf f.type) l.length) = true then
        match leavesF P q (off + l.length) fs with
        | some r => some (l ++ r)
        | none => none
      else none
    | none => none
def leavesA (P : Program) (e : TypeId) (l : List (Option IntKind)) : Nat → List (Option IntKind)
  | 0 => []
  | n + 1 => l ++ leavesA P e l n
/-- the kinds of a type's cells -/
def leaves (P : Program) : Nat → TypeId → Option (List (Option IntKind))
  | 0, _ => none
  | n + 1, t =>
    match P.underlying t with
    | some .bool => some [none]
    | some (.int k) => some [some k]
    | some (.struct fs) =>
      match leavesF P (leaves P n) 0 fs.toList with
      | some l => if Nat.beq (P.cellsOf t) l.length = true then some l else none
      | none => none
    | some (.array m e) =>
      match leaves P n e with
      | some l => if (Nat.beq (P.cellsOf e) l.length && Nat.beq (P.cellsOf t) (leavesA P e l m).length) = true then some (leavesA P e l m) else none
      | none => none
    | _ => none
theorem cut_cs {α : Type} (cs : List α) (off a b : Nat) : ((cs.drop off).take (a + b)) = ((cs.drop off).take a) ++ ((cs.drop (off + a)).take b) := by
  rw [List.take_add, List.drop_drop]
section
variable {H : Type} {enc : TypeId × Value → H} {P : Program}
/-- what is said of a type's reading -/
def FlatAt (enc : TypeId × Value → H) (P : Program) (t : TypeId) (L : List (Option IntKind)) : Prop :=
  ∀ w base spare held fuel cs x, DataW.trod enc P w base spare held fuel t cs = some x → okC L cs ∧ x.2 = [] ∧ ∀ w' base' spare' held', DataW.trod enc P w' base' spare' held' fuel t cs = some x
theorem flat_fields {q : TypeId → Option (List (Option IntKind))} (hq : ∀ t L, q t = some L → FlatAt enc P t L) {w : World} {base : Nat} {spare : Nat → Bool} {held : Bool} {fuel : Nat} {cs : List Value} :
    ∀ (fs : List Field) (off : Nat) (L : List (Option IntKind)), leavesF P q off fs = some L → ∀ xs, fs.mapM (fun f => DataW.trod enc P w base spare held fuel f.type ((cs.drop f.offset).take (P.cellsOf f.type))) = some xs →
      okC L ((cs.drop off).take L.length) ∧ xs.flatMap (·.2) = [] ∧ ∀ w' base' spare' held', fs.mapM (fun f => DataW.trod enc P w' base' spare' held' fuel f.type ((cs.drop f.offset).take (P.cellsOf f.type))) = some xs
  | [], off, L, hL, xs, hx => by
    simp only [leavesF] at hL
    cases hL
    simp at hx
    subst hx
    exact ⟨by simp [okC], by simp, fun _ _ _ _ => by simp⟩
  | f :: fs, off, L, hL, xs, hx => by
    unfold leavesF at hL
    split at hL
    · rename_i l hl
      split at hL
      · rename_i hc
        simp only [Bool.and_eq_true] at hc
        have ho := Nat.eq_of_beq_eq_true hc.1
        have hs := Nat.eq_of_beq_eq_true hc.2
        split at hL
        · rename_i r hr
          cases hL
          rw [List.mapM_cons] at hx
          simp only [bind, Option.bind_eq_some_iff, pure, Option.some.injEq] at hx
          obtain ⟨y, hy, ys, hys, rfl⟩ := hx
          obtain ⟨a1, a2, a3⟩ := hq _ _ hl _ _ _ _ _ _ _ hy
          obtain ⟨b1, b2, b3⟩ := flat_fields hq fs (off + l.length) r hr ys hys
          rw [ho, hs] at a1
          refine ⟨?_, ?_, fun w' base' spare' held' => ?_⟩
          · rw [List.length_append, cut_cs]
            exact okC_append a1 b1
          · simp [a2, b2]
          · rw [List.mapM_cons, a3 w' base' spare' held', b3 w' base' spare' held']
            rfl
        · cases hL
      · cases hL
    · cases hL
theorem flat_items {e : TypeId} {l : List (Option IntKind)} (hl : FlatAt enc P e l) (hs : P.cellsOf e = l.length) {w : World} {base : Nat} {spare : Nat → Bool} {held : Bool} {fuel : Nat} {cs : List Value} :
    ∀ (n k : Nat) xs, (List.range' k n).mapM (fun i => DataW.trod enc P w base spare held fuel e ((cs.drop (i * P.cellsOf e)).take (P.cellsOf e))) = some xs →
      okC (leavesA P e l n) ((cs.drop (k * l.length)).take (leavesA P e l n).length) ∧ xs.flatMap (·.2) = [] ∧ ∀ w' base' spare' held', (List.range' k n).mapM (fun i => DataW.trod enc P w' base' spare' held' fuel e ((cs.drop (i * P.cellsOf e)).take (P.cellsOf e))) = some xs
  | 0, k, xs, hx => by
    simp at hx
    subst hx
    exact ⟨by simp [leavesA, okC], by simp, fun _ _ _ _ => by simp⟩
  | n + 1, k, xs, hx => by
    rw [List.range'_succ, List.mapM_cons] at hx
    simp only [bind, Option.bind_eq_some_iff, pure, Option.some.injEq] at hx
    obtain ⟨y, hy, ys, hys, rfl⟩ := hx
    obtain ⟨a1, a2, a3⟩ := hl _ _ _ _ _ _ _ hy
    obtain ⟨b1, b2, b3⟩ := flat_items hl hs n (k + 1) ys hys
    rw [hs] at a1
    refine ⟨?_, ?_, fun w' base' spare' held' => ?_⟩
    · show okC (l ++ leavesA P e l n) _
      rw [show (leavesA P e l (n + 1)).length = l.length + (leavesA P e l n).length by simp [leavesA], cut_cs]
      rw [Nat.add_mul, Nat.one_mul] at b1
      exact okC_append a1 b1
    · simp [a2, b2]
    · rw [List.range'_succ, List.mapM_cons, a3 w' base' spare' held', b3 w' base' spare' held']
      rfl
theorem flat_ok : ∀ (n : Nat) (t : TypeId) (L : List (Option IntKind)), leaves P n t = some L → FlatAt enc P t L
  | 0, t, L, h => by simp [leaves] at h
  | n + 1, t, L, h => by
    intro w base spare held fuel cs x hx
    cases fuel with
    | zero => simp [DataW.trod] at hx
    | succ fuel =>
      unfold leaves at h
      split at h
      · rename_i hu
        cases h
        obtain ⟨b, rfl, rfl⟩ := DataW.trod_bool hu hx
        exact ⟨⟨⟨b, rfl⟩, trivial⟩, rfl, fun _ _ _ _ => by simp [DataW.trod, hu]⟩
      · rename_i k hu
        cases h
        obtain ⟨a, rfl, rfl, hw⟩ := DataW.trod_int hu hx
        exact ⟨⟨⟨a, rfl, hw⟩, trivial⟩, rfl, fun _ _ _ _ => by simp [DataW.trod, hu, hw]⟩
      · rename_i fs hu
        split at h
        · rename_i l hl
          split at h
          · rename_i hc
            cases h
            have hc := Nat.eq_of_beq_eq_true hc
            have key : ∀ (w : World) (base : Nat) (spare : Nat → Bool) (held : Bool), DataW.trod enc P w base spare held (fuel + 1) t cs = if cs.length = P.cellsOf t then (fs.toList.mapM fun f => DataW.trod enc P w base spare held fuel f.type ((cs.drop f.offset).take (P.cellsOf f.type))).map fun xs => (.agg (xs.map (·.1)), xs.flatMap (·.2)) else none := fun w base spare held => by
              rw [DataW.trod.eq_def]
              simp only [hu]
            rw [key] at hx
            split at hx
            · rename_i hlen
              simp only [Option.map_eq_some_iff] at hx
              obtain ⟨xs, hxs, rfl⟩ := hx
              obtain ⟨b1, b2, b3⟩ := flat_fields (fun t L h => flat_ok n t L h) fs.toList 0 L hl xs hxs
              refine ⟨?_, b2, fun w' base' spare' held' => ?_⟩
              · rw [List.drop_zero, ← hc, ← hlen, List.take_length] at b1
                exact b1
              · rw [key, if_pos hlen, b3]
                rfl
            · cases hx
          · cases h
        · cases h
      · rename_i m e hu
        split at h
        · rename_i l hl
          split at h
          · rename_i hc
            cases h
            simp only [Bool.and_eq_true] at hc
            have hs := Nat.eq_of_beq_eq_true hc.1
            have hc := Nat.eq_of_beq_eq_true hc.2
            have key : ∀ (w : World) (base : Nat) (spare : Nat → Bool) (held : Bool), DataW.trod enc P w base spare held (fuel + 1) t cs = if cs.length = P.cellsOf t then ((List.range m).mapM fun i => DataW.trod enc P w base spare held fuel e ((cs.drop (i * P.cellsOf e)).take (P.cellsOf e))).map fun xs => (.agg (xs.map (·.1)), xs.flatMap (·.2)) else none := fun w base spare held => by
              rw [DataW.trod.eq_def]
              simp only [hu]
            rw [key] at hx
            split at hx
            · rename_i hlen
              simp only [Option.map_eq_some_iff] at hx
              obtain ⟨xs, hxs, rfl⟩ := hx
              rw [List.range_eq_range'] at hxs
              obtain ⟨b1, b2, b3⟩ := flat_items (flat_ok n e l hl) hs m 0 xs hxs
              refine ⟨?_, b2, fun w' base' spare' held' => ?_⟩
              · rw [Nat.zero_mul, List.drop_zero, ← hc, ← hlen, List.take_length] at b1
                exact b1
              · rw [key, if_pos hlen, List.range_eq_range', b3]
                rfl
            · cases hx
          · cases h
        · cases h
      · cases h
/-- a flat argument: its cells, no places, and it reads so everywhere -/
theorem flat_open {w : World} {base : Nat} {spare : Nat → Bool} {held : Bool} {t : TypeId} {v : Value} {d : DataW H} {p : List MemPlace} {L : List (Option IntKind)} (hL : leaves P 6 t = some L) (h : DataW.Trod enc P w base spare held t v d p) :
    okC L v.cells.toList ∧ p = [] ∧ ∀ w' base' spare' held', DataW.Trod enc P w' base' spare' held' t v d [] := by
  obtain ⟨fuel, hf⟩ := h
  obtain ⟨h1, h2, h3⟩ := flat_ok 6 t L hL _ _ _ _ _ _ _ hf
  simp only at h2
  subst h2
  exact ⟨h1, rfl, fun w' base' spare' held' => ⟨fuel, h3 w' base' spare' held'⟩⟩
theorem agg_array {r : Go.Reach} {w : World} {b0 : Nat} {t e : TypeId} {n : Nat} {v : Value} (hu : P.underlying t = some (.array n e)) (hv : Value.okWide P w r b0 t v) : ∃ cs : Array Value, v = .agg cs := by
  have hv' := hv
  simp only [Value.okWide, hu] at hv'
  obtain ⟨cs, h, _⟩ := hv'
  exact ⟨cs, h⟩
end
end Go.KRun
