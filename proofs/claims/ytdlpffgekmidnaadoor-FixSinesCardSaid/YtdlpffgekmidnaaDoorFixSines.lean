/-
  PROVED HERE: the tied card of tillerlaw15.FixSines: for every input the law returns true, and each argument reads afterwards as it read before: between the bounds of any angle's sine and cosine the document's lie, and the bounds are near; or the errors. Its condition: the variable errors.errorType holds what the program's own text lays there (tied, by the given text).
-/
import Derived.Test.YtdlpffgekmidnaaDoorG20
import Derived.Test.YtdlpffgekmidnaaDoorRows
import Derived.Test.YtdlpffgekmidnaaDoorCards
import Derived.Test.YtdlpffgekmidnaaDoorTie
import Derived.ChangeSame
import Derived.ChangeVars
import Derived.JoinedOf
import Derived.RowKit
import Derived.LaidLaws
import Derived.LaidHandle
import Derived.Stop.Joined
import Derived.SevenTiedAt
namespace Go.Proofs.YtdlpffgekmidnaaDoor.fixSines
open Go.KRun Go.Pt Go.ChangeShapes Go.WideShapes Go.ChangeAt Go.RowKit Go.Wd Go.Nt
set_option linter.unusedVariables false
set_option maxRecDepth 100000
theorem q2_ok {a b : W4} (ha : a.ok) (hb : b.ok) : (q2 a b).1 = (q2 a b).2 := decide_eq_true ⟨ha, hb⟩
theorem oW_all (k : Int) : (oW (W4.of k)).1 = (oW (W4.of k)).2 := by
  have h := W4.ok_of k
  unfold oW
  generalize W4.of k = y at *
  exact decide_eq_true h
/-- the bounds are 64 units apart at most -/
theorem near64 {a b : W4} (ha : a.ok) (hb : b.ok) {S : Int} (h0 : 0 ≤ S) (e1 : a.nat = Go.Fx.lo32 S) (e2 : b.nat = Go.Fx.hi32 S) : a.val ≤ b.val ∧ cmpI (W4.of (b.val - a.val)) w4096 ≤ 0 ∧ lenI (W4.of (b.val - a.val)) ≤ 13 := by
  have va := W4.nat_val ha
  have vb := W4.nat_val hb
  have na := W4.nat_lt ha
  have nb := W4.nat_lt hb
  have d : 0 ≤ b.val - a.val ∧ b.val - a.val ≤ 64 := by
    rw [va, vb, e1, e2]
    unfold Go.Fx.lo32 Go.Fx.hi32
    omega
  have e : (W4.of (b.val - a.val)).val = b.val - a.val := by
    rw [W4.val_of, Int.emod_eq_of_lt d.1 (by omega)]
  have w : w4096.val = 4096 := by rfl
  refine ⟨by omega, ?_, ?_⟩
  · unfold cmpI
    rw [e, w, if_pos (by omega)]
    omega
  · unfold lenI
    rw [e]
    have := Go.Rn.len_le (show (b.val - a.val).toNat < 2 ^ 13 by rw [show (2 : Nat) ^ 13 = 8192 from rfl]; omega)
    omega
theorem seN_le {SQ T n : Nat} (hS : SQ ≤ Go.Fx.uD) (hT : T ≤ Go.Fx.uD) : seN SQ T n ≤ Go.Fx.uD := by
  have h := Go.Fx.sr_bd (f := T) (n0 := n) Go.Fx.uD_pos hS 100
  unfold seN
  omega
theorem walk (x : W4) (hx : x.ok) (w : World) (hk : known w) : Calls Tryd.prog 4 #[vW x] w fun e w' => e = .returned (.bool true) ∧ Tidy w w' := by
  have hv : ([vW x].all (lt 0)) = true := rfl
  have T := tabH_ok conF9_ok hcSn_ok
  have hq1 : (q2 x oneW).1 = (q2 x oneW).2 := decide_eq_true ⟨hx, oneW_ok⟩
  by_cases hb : Go.Fx.uP < x.nat
  · have hx1 := decide_eq_true hb
    have hcg : (cg1 x true).1 = (cg1 x true).2 := decide_eq_true ((cg1_iff hx).2 hb)
    exact fitsAt_still T (si_big x) (okPC rfl (okPC (by kernel_rfl) (okPC rfl (okPC (by kernel_rfl) (okPC hcg (okPC hq1 (okPC hx1 (okPC (decide_eq_true hx) (okPC hx1 (okP1 (decide_eq_true hx))))))))))) hv (by rfl) (startK hk)
  have hx1 := decide_eq_false hb
  have hcg : (cg1 x false).1 = (cg1 x false).2 := decide_eq_false fun h => hb ((cg1_iff hx).1 h)
  have hle : x.nat ≤ Go.Fx.uP := by omega
  have uPD : Go.Fx.uP + 32 ≤ Go.Fx.uD := by decide +kernel
  obtain ⟨n1, n2, n3, n4, m1, m2, m3, m4⟩ := bds_nat hle
  have sp := sin_hi hle
  have cp := cos_pos hle
  have s0 := Go.Fx.sS_bd Go.Fx.uP_pos hle 29
  have c0 := Go.Fx.cS_bd Go.Fx.uP_pos hle 29
  have g1 := Go.Fx.sines_bd hle
  have g2 := Go.Fx.cosines_bd hle
  have oA : (sl4 x).ok := ofN_ok _
  have oB : (sh4 x).ok := ofN_ok _
  have oC : (cl4 x).ok := ofN_ok _
  have oD : (ch4 x).ok := ofN_ok _
  have ok4 : w4096.ok := by decide
  obtain ⟨hAB, hcu, hlen⟩ := near64 oA oB s0.1 n1 n2
  obtain ⟨hCD, hcv, _⟩ := near64 oC oD c0.1 n3 n4
  have hAB := decide_eq_true hAB
  have hcu := decide_eq_true hcu
  have hlen := decide_eq_true hlen
  have hCD := decide_eq_true hCD
  have hcv := decide_eq_true hcv
  have qAB : (q2 (sh4 x) (sl4 x)).1 = (q2 (sh4 x) (sl4 x)).2 := q2_ok oB oA
  have qCD : (q2 (ch4 x) (cl4 x)).1 = (q2 (ch4 x) (cl4 x)).2 := q2_ok oD oC
  have qU : (q2 (W4.of ((sh4 x).val - (sl4 x).val)) w4096).1 = (q2 (W4.of ((sh4 x).val - (sl4 x).val)) w4096).2 := q2_ok (W4.ok_of _) ok4
  have qV : (q2 (W4.of ((ch4 x).val - (cl4 x).val)) w4096).1 = (q2 (W4.of ((ch4 x).val - (cl4 x).val)) w4096).2 := q2_ok (W4.ok_of _) ok4
  have e72 : (2 : Nat) ^ (72 : Int).toNat = 2 ^ 72 := by rfl
  obtain ⟨Y, hY⟩ : ∃ P, x.nat * 2 ^ (72 : Int).toNat = P := ⟨_, rfl⟩
  have eY : Y = x.nat * 2 ^ 72 := hY.symm
  have hYD : Y ≤ Go.Fx.uD := by rw [eY]; exact Go.Fx.doc_le hle
  have hYQ : Y * Y / Go.Fx.uD ≤ Go.Fx.uD := sq_le hYD
  obtain ⟨S, hS⟩ : ∃ P, seN (Y * Y / Go.Fx.uD) Y 2 = P := ⟨_, rfl⟩
  obtain ⟨C, hC⟩ : ∃ P, seN (Y * Y / Go.Fx.uD) Go.Fx.uD 1 = P := ⟨_, rfl⟩
  have hSD : S ≤ Go.Fx.uD := by rw [← hS]; exact seN_le hYQ hYD
  have hCD2 : C ≤ Go.Fx.uD := by rw [← hC]; exact seN_le hYQ (Nat.le_refl _)
  have eS : S = (Go.Fx.sS Go.Fx.uD 100 (x.nat * 2 ^ 72)).toNat := by rw [← hS, eY]; rfl
  have eC : C = (Go.Fx.cS Go.Fx.uD 100 (x.nat * 2 ^ 72)).toNat := by rw [← hC, eY]; rfl
  have hAD : (sl4 x).nat ≤ Go.Fx.uD := by
    rw [n1]
    unfold slN Go.Fx.lo32
    omega
  have hBD : (sh4 x).nat ≤ Go.Fx.uD := by
    rw [n2]
    unfold shN Go.Fx.hi32
    omega
  have hCD3 : (cl4 x).nat ≤ Go.Fx.uD := by
    rw [n3]
    unfold clN Go.Fx.lo32
    omega
  have hDD : (ch4 x).nat ≤ Go.Fx.uD := by
    rw [n4]
    unfold chN Go.Fx.hi32
    omega
  have sD : ∀ {V : Nat}, V ≤ Go.Fx.uD → (d16 V).length < 100000 := fun h => sh33D (by omega)
  have lx := sh33 (V := x.nat) (big33 (Nat.lt_of_le_of_lt hle (by decide)))
  have lY := sD hYD
  have lS := sD hSD
  have lC := sD hCD2
  have lA := sD hAD
  have lB := sD hBD
  have lC4 := sD hCD3
  have lD4 := sD hDD
  have b1 : (sl4 x).nat * 2 ^ (72 : Int).toNat ≤ S + 1000 := by rw [n1, eS, e72]; exact g1.1
  have b2 : S ≤ (sh4 x).nat * 2 ^ (72 : Int).toNat + 1000 := by rw [n2, eS, e72]; exact g1.2
  have c1 : (cl4 x).nat * 2 ^ (72 : Int).toNat ≤ C + 1000 := by rw [n3, eC, e72]; exact g2.1
  have c2 : C ≤ (ch4 x).nat * 2 ^ (72 : Int).toNat + 1000 := by rw [n4, eC, e72]; exact g2.2
  have pB : 0 < (d16 (sh4 x).nat).length := len_pos16 (by rw [n2]; exact sp)
  have pD : 0 < (d16 (ch4 x).nat).length := len_pos16 (by rw [n4]; exact cp.2)
  by_cases h0 : x.nat = 0
  · have dx : decide (0 < (d16 x.nat).length) = false := decide_eq_false (by rw [h0, d16_0]; decide)
    have y0 : Y = 0 := by rw [eY, h0, Nat.zero_mul]
    have s00 : S = 0 := by
      rw [← hS, y0]
      have := (Go.Fx.sr_bd (s := 0 * 0 / Go.Fx.uD) (f := 0) (n0 := 2) Go.Fx.uD_pos (by rw [Nat.zero_mul, Nat.zero_div]; exact Nat.zero_le _) 100)
      unfold seN
      omega
    rw [s00] at b1 b2 hSD
    rw [y0] at hC hYD
    exact fitsAt_still T (si_z x C) (okPC (((bN5 (V := C) rfl lC) : N5 (hN5 (bSi x) [(ch4 x).nat, (cl4 x).nat, C, (sh4 x).nat, (sl4 x).nat, x.nat]) (aP16 9) ((d16 C).length) C).boV ((bN5 (V := (cl4 x).nat) rfl lC4) : N5 (hN5 (bSi x) [(ch4 x).nat, (cl4 x).nat, C, (sh4 x).nat, (sl4 x).nat, x.nat]) (aP16 10) ((d16 (cl4 x).nat).length) (cl4 x).nat) ((bN5 (V := (ch4 x).nat) rfl lD4) : N5 (hN5 (bSi x) [(ch4 x).nat, (cl4 x).nat, C, (sh4 x).nat, (sl4 x).nat, x.nat]) (aP16 11) ((d16 (ch4 x).nat).length) (ch4 x).nat) c1 c2 pD) (okPC (((bN5 (V := (ch4 x).nat) rfl lD4) : N5 (hN5 (bSi x) [(ch4 x).nat, (cl4 x).nat, C, (sh4 x).nat, (sl4 x).nat, x.nat]) (aP16 11) ((d16 (ch4 x).nat).length) (ch4 x).nat).an hDD) (okPC (((bN5 (V := (cl4 x).nat) rfl lC4) : N5 (hN5 (bSi x) [(ch4 x).nat, (cl4 x).nat, C, (sh4 x).nat, (sl4 x).nat, x.nat]) (aP16 10) ((d16 (cl4 x).nat).length) (cl4 x).nat).an hCD3) (okPC (((bN5 (V := C) rfl lC) : N5 (hN5 (bSi x) [(ch4 x).nat, (cl4 x).nat, C, (sh4 x).nat, (sl4 x).nat, x.nat]) (aP16 9) ((d16 C).length) C).an hCD2) (okPC (oW4 x).2.2 (okPC (oW4 x).2.1 (okPC (((nN5 (hN5 (bSi x) [(sh4 x).nat, (sl4 x).nat, x.nat])) : N5 (hN5 (bSi x) [(sh4 x).nat, (sl4 x).nat, x.nat]) none (0) 0).coV hC) (okPC (((nN5 (hN5 (bSi x) [(sh4 x).nat, (sl4 x).nat, x.nat])) : N5 (hN5 (bSi x) [(sh4 x).nat, (sl4 x).nat, x.nat]) none (0) 0).an hYD) (okPC (((nN5 (hN5 (bSi x) [(sh4 x).nat, (sl4 x).nat, x.nat])) : N5 (hN5 (bSi x) [(sh4 x).nat, (sl4 x).nat, x.nat]) none (0) 0).boV ((bN5 (V := (sl4 x).nat) rfl lA) : N5 (hN5 (bSi x) [(sh4 x).nat, (sl4 x).nat, x.nat]) (aP16 7) ((d16 (sl4 x).nat).length) (sl4 x).nat) ((bN5 (V := (sh4 x).nat) rfl lB) : N5 (hN5 (bSi x) [(sh4 x).nat, (sl4 x).nat, x.nat]) (aP16 8) ((d16 (sh4 x).nat).length) (sh4 x).nat) b1 b2 pB) (okPC (((bN5 (V := (sh4 x).nat) rfl lB) : N5 (hN5 (bSi x) [(sh4 x).nat, (sl4 x).nat, x.nat]) (aP16 8) ((d16 (sh4 x).nat).length) (sh4 x).nat).an hBD) (okPC (((bN5 (V := (sl4 x).nat) rfl lA) : N5 (hN5 (bSi x) [(sh4 x).nat, (sl4 x).nat, x.nat]) (aP16 7) ((d16 (sl4 x).nat).length) (sl4 x).nat).an hAD) (okPC (((nN5 (hN5 (bSi x) [(sh4 x).nat, (sl4 x).nat, x.nat])) : N5 (hN5 (bSi x) [(sh4 x).nat, (sl4 x).nat, x.nat]) none (0) 0).an hSD) (okPC (oW4 x).1.2 (okPC (oW4 x).1.1 (okPC (((nN5 (hN5 (bSi x) [x.nat])) : N5 (hN5 (bSi x) [x.nat]) none (0) 0).si0 rfl) (okPC (((nN5 (hN5 (bSi x) [x.nat])) : N5 (hN5 (bSi x) [x.nat]) none (0) 0).an hYD) (okPC hcv (okPC qV (okPC rfl (okPC hcu (okPC qU (okPC rfl (okPC hlen (okPC (oW_all _) (okPC (show rowP (hN5 (bSi x) [x.nat]) (aP16 6) ((d16 x.nat).length) ((d16 x.nat).length) = true from ((bN5 (V := x.nat) rfl lx) : N5 (hN5 (bSi x) [x.nat]) (aP16 6) ((d16 x.nat).length) x.nat).row) (okPC dx (okPC (decide_eq_true hx) (okPC hCD (okPC qCD (okPC hAB (okPC qAB (okPC hcg (okPC hq1 (okPC hx1 (okPC (decide_eq_true hx) (okPC hx1 (okP1 (decide_eq_true hx)))))))))))))))))))))))))))))))))))))) hv (by rfl) (startK hk)
  · have dx : decide (0 < (d16 x.nat).length) = true := decide_eq_true (len_pos16 (by omega))
    have hY0 : 0 < Y := by rw [eY]; exact Nat.mul_pos (by omega) (by decide)
    exact fitsAt_still T (si_p x Y S C) (okPC (((bN5 (V := C) rfl lC) : N5 (hN5 (bSi x) [(ch4 x).nat, (cl4 x).nat, C, (sh4 x).nat, (sl4 x).nat, S, Y, x.nat]) (aP16 11) ((d16 C).length) C).boV ((bN5 (V := (cl4 x).nat) rfl lC4) : N5 (hN5 (bSi x) [(ch4 x).nat, (cl4 x).nat, C, (sh4 x).nat, (sl4 x).nat, S, Y, x.nat]) (aP16 12) ((d16 (cl4 x).nat).length) (cl4 x).nat) ((bN5 (V := (ch4 x).nat) rfl lD4) : N5 (hN5 (bSi x) [(ch4 x).nat, (cl4 x).nat, C, (sh4 x).nat, (sl4 x).nat, S, Y, x.nat]) (aP16 13) ((d16 (ch4 x).nat).length) (ch4 x).nat) c1 c2 pD) (okPC (((bN5 (V := (ch4 x).nat) rfl lD4) : N5 (hN5 (bSi x) [(ch4 x).nat, (cl4 x).nat, C, (sh4 x).nat, (sl4 x).nat, S, Y, x.nat]) (aP16 13) ((d16 (ch4 x).nat).length) (ch4 x).nat).an hDD) (okPC (((bN5 (V := (cl4 x).nat) rfl lC4) : N5 (hN5 (bSi x) [(ch4 x).nat, (cl4 x).nat, C, (sh4 x).nat, (sl4 x).nat, S, Y, x.nat]) (aP16 12) ((d16 (cl4 x).nat).length) (cl4 x).nat).an hCD3) (okPC (((bN5 (V := C) rfl lC) : N5 (hN5 (bSi x) [(ch4 x).nat, (cl4 x).nat, C, (sh4 x).nat, (sl4 x).nat, S, Y, x.nat]) (aP16 11) ((d16 C).length) C).an hCD2) (okPC (oW4 x).2.2 (okPC (oW4 x).2.1 (okPC (((bN5 (V := Y) rfl lY) : N5 (hN5 (bSi x) [(sh4 x).nat, (sl4 x).nat, S, Y, x.nat]) (aP16 7) ((d16 Y).length) Y).coV hC) (okPC (((bN5 (V := Y) rfl lY) : N5 (hN5 (bSi x) [(sh4 x).nat, (sl4 x).nat, S, Y, x.nat]) (aP16 7) ((d16 Y).length) Y).an hYD) (okPC (((bN5 (V := S) rfl lS) : N5 (hN5 (bSi x) [(sh4 x).nat, (sl4 x).nat, S, Y, x.nat]) (aP16 8) ((d16 S).length) S).boV ((bN5 (V := (sl4 x).nat) rfl lA) : N5 (hN5 (bSi x) [(sh4 x).nat, (sl4 x).nat, S, Y, x.nat]) (aP16 9) ((d16 (sl4 x).nat).length) (sl4 x).nat) ((bN5 (V := (sh4 x).nat) rfl lB) : N5 (hN5 (bSi x) [(sh4 x).nat, (sl4 x).nat, S, Y, x.nat]) (aP16 10) ((d16 (sh4 x).nat).length) (sh4 x).nat) b1 b2 pB) (okPC (((bN5 (V := (sh4 x).nat) rfl lB) : N5 (hN5 (bSi x) [(sh4 x).nat, (sl4 x).nat, S, Y, x.nat]) (aP16 10) ((d16 (sh4 x).nat).length) (sh4 x).nat).an hBD) (okPC (((bN5 (V := (sl4 x).nat) rfl lA) : N5 (hN5 (bSi x) [(sh4 x).nat, (sl4 x).nat, S, Y, x.nat]) (aP16 9) ((d16 (sl4 x).nat).length) (sl4 x).nat).an hAD) (okPC (((bN5 (V := S) rfl lS) : N5 (hN5 (bSi x) [(sh4 x).nat, (sl4 x).nat, S, Y, x.nat]) (aP16 8) ((d16 S).length) S).an hSD) (okPC (oW4 x).1.2 (okPC (oW4 x).1.1 (okPC ((bN5 (V := Y) rfl lY).siV hY0 hS) (okPC (((bN5 (V := Y) rfl lY) : N5 (hN5 (bSi x) [Y, x.nat]) (aP16 7) ((d16 Y).length) Y).an hYD) (okPC hcv (okPC qV (okPC rfl (okPC hcu (okPC qU (okPC rfl (okPC hlen (okPC (oW_all _) (okPC ((bN5 (V := x.nat) rfl lx).shlV (k := (72 : Int).toNat) hY) (okPC ((bN5 (V := x.nat) rfl lx).shl (k := 72) ⟨by decide, by decide⟩) (okPC dx (okPC (decide_eq_true hx) (okPC hCD (okPC qCD (okPC hAB (okPC qAB (okPC hcg (okPC hq1 (okPC hx1 (okPC (decide_eq_true hx) (okPC hx1 (okP1 (decide_eq_true hx))))))))))))))))))))))))))))))))))))))) hv (by rfl) (startK hk)
theorem cells0 {l : List Value} (h : okC [some .u64, some .u64, some .u64, some .u64] l) : ∃ aa ab ac ad, l = [.int .u64 aa, .int .u64 ab, .int .u64 ac, .int .u64 ad] ∧ (Lit.int .u64 aa).wf = true ∧ (Lit.int .u64 ab).wf = true ∧ (Lit.int .u64 ac).wf = true ∧ (Lit.int .u64 ad).wf = true := by
  have hl := okC_length h
  obtain ⟨v0, v1, v2, v3, rfl⟩ : ∃ v0 v1 v2 v3, l = [v0, v1, v2, v3] := by
    match l, hl with
    | [v0, v1, v2, v3], _ => exact ⟨v0, v1, v2, v3, rfl⟩
  obtain ⟨⟨aa, rfl, kaa⟩, ⟨ab, rfl, kab⟩, ⟨ac, rfl, kac⟩, ⟨ad, rfl, kad⟩, _⟩ := h
  exact ⟨aa, ab, ac, ad, rfl, kaa, kab, kac, kad⟩
theorem own : ownKnob Tryd.prog.godebug = none := by kernel_rfl
theorem et : Tryd.prog.globalNamed "errors.errorType" = some 0 := by kernel_rfl
theorem rt : (Tryd.prog.cutTypes.find? (·.1 == "internal/reflectlite.rtype")).map (·.2) = some 101 := by kernel_rfl
theorem oneRow : ((List.range 147).filter fun t => Tryd.prog.rowNamed t [101, 114, 114, 111, 114]) = [26] := by kernel_rfl
theorem size : Tryd.prog.types.size = 147 := by kernel_rfl
/-- what the condition gives: the variable's one cell -/
theorem known_of {W : World} (h : laidMetH Tryd.prog Rows.fixSinesRow.laid W) : known W := by
  have h' : laidMet Tryd.prog [] W ∧ handlesMet Tryd.prog Rows.fixSinesRow.laid W := h
  obtain ⟨name, u, ty, e1, e2, e3, e4, e5⟩ := h'.2 _ (List.mem_singleton.2 rfl)
  have en : name = [101, 114, 114, 111, 114] := (Option.some.inj e1).symm
  subst en
  obtain rfl := Option.some.inj (rt.symm.trans e2)
  have hm : ty ∈ (List.range 147).filter fun t => Tryd.prog.rowNamed t [101, 114, 114, 111, 114] := List.mem_filter.2 ⟨List.mem_range.2 (by rw [← size]; exact e3), e4⟩
  rw [oneRow] at hm
  obtain rfl := List.mem_singleton.1 hm
  have hh : typeHandle Tryd.prog 26 = .pointer (some ⟨3, 26, none⟩) := by kernel_rfl
  rw [hh] at e5
  unfold known errT
  simpa using World.var?_cell et e5 0
/-- a world with the variable's cell laid -/
def laidIn (w : World) : World := { w with heap := w.heap.modify 0 fun
  | .cells _ t frozen => .cells #[errT] t frozen
  | o => o }
theorem laidIn_met (os : Os) (args : Array Value) : laidMetH Tryd.prog Rows.fixSinesRow.laid ((laidIn (World.holding Tryd.prog os ⟨#[], #[], []⟩)).forCall (fun _ _ => 0) ⟨#[], args, []⟩).memory :=
  laidMetH_of_parts (laidMet_nil _ _) (by kernel_rfl)
set_option maxRecDepth 100000 in
theorem lifted (os : Os) (started : os.Started) (H : Type) (enc : TypeId × Value → H) :
    ReturnsInHanded {} Tryd.checked os 4 .any (fun w args => (Rows.fixSinesSpec.pre enc Tryd.prog Tryd.f4 [] false w args ∧ laidMetH Tryd.prog Rows.fixSinesRow.laid w) ∧ sizedMet enc Tryd.prog Tryd.f4 (OpenSpec.ofChange Rows.fixSinesSpec) false w args)
      (Rows.fixSinesSpec.post enc Tryd.prog Tryd.f4 false true false false) := by
  refine returnsInHanded_of_change_and (C := Tryd.checked) (X := fun w _ => laidMetH Tryd.prog Rows.fixSinesRow.laid w) (fun _ _ _ hh h => h.of_heap hh) own started (by kernel_rfl) Tryd.func4
    (ChangeSpec.witness_at (enc := enc) (C := Tryd.checked) (os := os) (X := fun w _ => laidMetH Tryd.prog Rows.fixSinesRow.laid w) false (laidIn (World.holding Tryd.prog os ⟨#[], #[], []⟩)) #[.agg #[.int .u64 0, .int .u64 0, .int .u64 0, .int .u64 0]] 8 rfl (by kernel_rfl) (by kernel_rfl) (by kernel_rfl) (by kernel_rfl) (by kernel_rfl) (laidIn_met os _)) ?_
  intro W base args ds gs before hval0 hW _ _ hL _
  have hval : ∀ (j : Nat) t v, Tryd.f4.params[j]? = some t → args[j]? = some v → Value.okWide Tryd.prog W .any base t v := hval0
  have hW' := hW
  obtain ⟨p, q, hA0, hV, rfl, hfz, hnd⟩ := hW
  have hA : DataW.TrodAll enc Tryd.prog W 0 (fun _ => true) true Tryd.f4.params.toList args.toList ds p := hA0
  rw [Tryd.params4] at hA hval
  obtain ⟨v0, d0, rfl, rfl, h0⟩ := trodAll_one hA
  obtain ⟨rfl, rfl⟩ := trodVars_none hV
  obtain ⟨c0, rfl, r0⟩ := flat_open (L := [some .u64, some .u64, some .u64, some .u64]) (by kernel_rfl) h0
  obtain ⟨cs0, rfl⟩ := agg_array Tryd.underlying23 (hval 0 23 v0 rfl rfl)
  obtain ⟨aa, ab, ac, ad, hcs0, kaa, kab, kac, kad⟩ := cells0 c0
  have hcs0' : cs0 = #[.int .u64 aa, .int .u64 ab, .int .u64 ac, .int .u64 ad] := by
    have := congrArg List.toArray hcs0
    simpa [Value.cells] using this
  subst hcs0'
  clear hA0 hval0
  simp only [List.append_nil] at hW'
  refine (walk ⟨aa, ab, ac, ad⟩ ⟨u64_bounds kaa, u64_bounds kab, u64_bounds kac, u64_bounds kad⟩ W (known_of hL)).mono fun e W' ⟨he, hg⟩ => ?_
  subst he
  exact ⟨_, rfl, post_of_same (pa := []) (pv := []) hW' (fun _ _ _ => trodAll_mk1 (shut_bool Tryd.underlying4 _))
    (fun sp _ => trodAll_mk1 (r0 _ _ _ _)) (fun _ _ => rfl) rfl
    (hg.1.frame _) (tidy_frozen hg) (ok_one (by kernel_rfl) rfl (okWide_bool_mk Tryd.underlying4 _))⟩
theorem row_holds : Rows.FixSinesSaid :=
  OpenClaim.holds_of_wide 4 Tryd.f4 rfl rfl rfl rfl rfl rfl rfl ⟨rfl, rfl, rfl, rfl, rfl⟩ rfl rfl rfl rfl rfl (by kernel_rfl) Tryd.func4 (by kernel_rfl)
    (of_decide_eq_true (by kernel_rfl)) (by unfold Func.isWrapper; first | (rw [if_pos (by decide +kernel)]; kernel_rfl) | (rw [if_neg (by decide +kernel)]; exact ⟨rfl, rfl⟩))
    (fun os started H enc _ => lifted os started H enc)
theorem proved : Rows.FixSinesCardSaid :=
  Claim7.holds_tied_plain_at .later [] [.handle] true (true, "9ed1360626a453007ad50c2fd01cb4d8cf3d1bbfb4d74e24a53151538a52c3f7") true
    row_holds (fun _ h => by cases h) (by kernel_rfl) (fun _ h => by cases h) fixSines_row_tie rfl ⟨rfl, rfl⟩ (by kernel_rfl) rfl
    (fun f fn hf hfn => by
      obtain rfl : f = 4 := Option.some.inj ((show Tryd.prog.funcNamed "tiller/tillerlaw15.FixSines" = some 4 by kernel_rfl).symm.trans hf) |>.symm
      obtain rfl : fn = Tryd.f4 := (Option.some.inj (Tryd.func4.symm.trans hfn)).symm
      exact ⟨by kernel_rfl, fun j t ht => by
        rw [Tryd.params4] at ht
        have hm : t ∈ [23] := by simpa using Array.mem_of_getElem? ht
        have hall : ([23].all fun u => !Tryd.prog.wantsStandIn u) = true := by kernel_rfl
        exact (show Tryd.prog.wantsStandIn t = false by simpa using List.all_eq_true.1 hall t hm)⟩)
    (by kernel_rfl)
end Go.Proofs.YtdlpffgekmidnaaDoor.fixSines
