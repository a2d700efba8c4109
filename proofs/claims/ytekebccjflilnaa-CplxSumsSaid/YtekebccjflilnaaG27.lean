/-
  CxA, CxB, CxC, Row, Flat
-/
import Derived.Test.YtekebccjflilnaaG26
import Derived.WalkKit
import Derived.ProofKit
import Derived.OpenShut
import Derived.Laws.IdiomArrays
import Derived.Lib.SmallJoins
namespace Go.Proofs.Ytekebccjflilnaa
open Go.KRun Go.Wd Go.Pt Go.Rn
set_option maxRecDepth 100000
/-- flags that are told together, as bytes and as whole numbers -/
def orB (f g : Int) : Int := IntKind.u8.wrap ((BitVec.ofInt IntKind.u8.bits f ||| BitVec.ofInt IntKind.u8.bits g).toNat : Nat)
def orI (f g : Int) : Int := IntKind.i64.wrap ((BitVec.ofInt IntKind.i64.bits f ||| BitVec.ofInt IntKind.i64.bits g).toNat : Nat)
/-- a pair and flags -/
def cpB (p q f : Int) : Value := .tuple #[.agg #[.int .u64 p, .int .u64 q], .int .u8 f]
def cpI (p q f : Int) : Value := .tuple #[.agg #[.int .u64 p, .int .u64 q], .int .i64 f]
abbrev fl5 (f : Int) : Prop := 0 ≤ f ∧ f < 32
theorem or_same {f g : Int} (hf : fl5 f) (hg : fl5 g) : orB f g = orI f g ∧ fl5 (orB f g) := by
  obtain ⟨x, rfl⟩ : ∃ x : Fin 32, f = (x.val : Int) := ⟨⟨f.toNat, by unfold fl5 at hf; omega⟩, by unfold fl5 at hf; simp; omega⟩
  obtain ⟨y, rfl⟩ : ∃ y : Fin 32, g = (y.val : Int) := ⟨⟨g.toNat, by unfold fl5 at hg; omega⟩, by unfold fl5 at hg; simp; omega⟩
  have h : ∀ x y : Fin 32, decide (orB (x.val : Int) (y.val : Int) = orI (x.val : Int) (y.val : Int)) = true ∧ decide (0 ≤ orB (x.val : Int) (y.val : Int) ∧ orB (x.val : Int) (y.val : Int) < 32) = true := by decide +kernel
  exact ⟨of_decide_eq_true (h x y).1, of_decide_eq_true (h x y).2⟩
theorem png_p (p : Int) : Fits (reckon (tabOf Try.prog extY conN true) 300 28 [.int .u64 p] []) (.int .u64 (bXor p 9223372036854775808)) [] := ⟨by kernel_rfl, by kernel_rfl, by kernel_rfl, by kernel_rfl⟩
theorem rng_m (p : Int) : Fits (reckon (tabOf Try.prog extY conN true) 300 31 [.int .u64 p] [cmp true]) (.int .u64 (IntKind.u64.wrap (p - 9223372036854775808))) [(decide (p ≥ 9223372036854775808), true)] := ⟨by kernel_rfl, by kernel_rfl, by kernel_rfl, by kernel_rfl⟩
theorem rng_p (p : Int) : Fits (reckon (tabOf Try.prog extY conN true) 300 31 [.int .u64 p] [cmp false]) (.int .u64 (IntKind.u64.wrap (p + 9223372036854775808))) [(decide (p ≥ 9223372036854775808), false)] := ⟨by kernel_rfl, by kernel_rfl, by kernel_rfl, by kernel_rfl⟩
theorem png_calls (p : Int) (hp : U p) (w : World) : Calls Try.prog 28 #[.int .u64 p] w fun r w' => r = .returned (.int .u64 (ng p)) ∧ Tidy w w' := by
  have hv : ([.int .u64 p].all (lt 0)) = true := rfl
  rw [← bXor_ng hp]
  exact fits_calls (tabY_ok conN_ok) (png_p p) (fun _ h => by cases h) hv (by rfl) w
theorem rng_calls (p : Int) (hp : U p) (w : World) : Calls Try.prog 31 #[.int .u64 p] w fun r w' => r = .returned (.int .u64 (ng p)) ∧ Tidy w w' := by
  have hv : ([.int .u64 p].all (lt 0)) = true := rfl
  have hp' := hp
  unfold U at hp'
  by_cases hs : p ≥ 9223372036854775808
  · have e : IntKind.u64.wrap (p - 9223372036854775808) = ng p := by rw [wrapU' ⟨by omega, by omega⟩]; unfold ng; omega
    rw [← e]
    exact fits_calls (tabY_ok conN_ok) (rng_m p) (okL1 (decide_eq_true hs)) hv (by rfl) w
  · have e : IntKind.u64.wrap (p + 9223372036854775808) = ng p := by rw [wrapU' ⟨by omega, by omega⟩]; unfold ng; omega
    rw [← e]
    exact fits_calls (tabY_ok conN_ok) (rng_p p) (okL1 (decide_eq_false hs)) hv (by rfl) w
def conCg : Con := alt 28 (gU fun p => .int .u64 (ng p)) (alt 31 (gU fun p => .int .u64 (ng p)) conN)
theorem conCg_ok : ConOk conCg := alt_ok Try.func28 rfl (gU_ok png_calls) (alt_ok Try.func31 rfl (gU_ok rng_calls) conN_ok)
/-- differences -/
def conCd : Con := alt 22 gSA (alt 23 gRA (alt 70 (gU vT) conCg))
theorem conCd_ok : ConOk conCd := alt_ok Try.func22 rfl gSA_ok (alt_ok Try.func23 rfl gRA_ok (alt_ok Try.func70 rfl ref_ok conCg_ok))
theorem ssb_p (a b m : Int) : Fits (reckon (tabOf Try.prog extY conCd true) 300 24 [.int .u64 a, .int .u64 b, .int .i64 m] []) (suV m a (ng b)) [(decide (U a ∧ U (ng b)), true), (decide (U b), true)] := ⟨by kernel_rfl, by kernel_rfl, by kernel_rfl, by kernel_rfl⟩
theorem rsb_n (a b m : Int) : Fits (reckon (tabOf Try.prog extY conCd true) 300 25 [.int .u64 a, .int .u64 b, .int .i64 m] [cmp true]) (raT (suP m a b) (suF m a b)) [(decide (U a ∧ U b), true), (decide (cl b > 3), true), (decide (U b), true)] := ⟨by kernel_rfl, by kernel_rfl, by kernel_rfl, by kernel_rfl⟩
theorem rsb_p (a b m : Int) : Fits (reckon (tabOf Try.prog extY conCd true) 300 25 [.int .u64 a, .int .u64 b, .int .i64 m] [cmp false]) (raT (suP m a (ng b)) (suF m a (ng b))) [(decide (U a ∧ U (ng b)), true), (decide (U b), true), (decide (cl b > 3), false), (decide (U b), true)] := ⟨by kernel_rfl, by kernel_rfl, by kernel_rfl, by kernel_rfl⟩
theorem su_ngn {m a b : Int} (hb : U b) (h : 3 < cl b) : suP m a (ng b) = suP m a b ∧ suF m a (ng b) = suF m a b := by
  have c := (ng_num hb).2.2.1
  have h' : 3 < cl (ng b) := by omega
  refine ⟨by rw [suP_nan (.inr h), suP_nan (.inr h')], ?_⟩
  unfold suF
  rw [if_pos (show 3 < cl a ∨ 3 < cl (ng b) from .inr h'), if_pos (show 3 < cl a ∨ 3 < cl b from .inr h), c]
def gSS : Ans := fun vals s =>
  match vals with
  | [.int .u64 a, .int .u64 b, .int .i64 m] => some (suV m a (ng b), s, [(decide (U a ∧ U b), true)])
  | _ => none
theorem gSS_ok : AnsOk 24 gSS := by
  intro vals s v s' lg h hl w
  unfold gSS at h
  split at h
  · cases h
    obtain ⟨h1, h2⟩ := of_decide_eq_true (hl _ (List.mem_singleton.2 rfl))
    exact fits_calls (tabY_ok conCd_ok) (ssb_p _ _ _) (okCons (decide_eq_true ⟨h1, (ng_parts h2).1⟩) (okL1 (decide_eq_true h2))) rfl (by rfl) w
  · cases h
def gRS : Ans := fun vals s =>
  match vals with
  | [.int .u64 a, .int .u64 b, .int .i64 m] => some (raT (suP m a (ng b)) (suF m a (ng b)), s, [(decide (U a ∧ U b), true)])
  | _ => none
theorem gRS_ok : AnsOk 25 gRS := by
  intro vals s v s' lg h hl w
  unfold gRS at h
  split at h
  · rename_i a b m
    cases h
    obtain ⟨h1, h2⟩ := of_decide_eq_true (hl _ (List.mem_singleton.2 rfl))
    have k1 : decide (U a ∧ U b) = true := decide_eq_true ⟨h1, h2⟩
    have k2 : decide (U b) = true := decide_eq_true h2
    by_cases hn : 3 < cl b
    · obtain ⟨e1, e2⟩ := su_ngn (m := m) (a := a) h2 hn
      rw [e1, e2]
      exact fits_calls (tabY_ok conCd_ok) (rsb_n a b m) (okCons k1 (okCons (decide_eq_true hn) (okL1 k2))) rfl (by rfl) w
    · exact fits_calls (tabY_ok conCd_ok) (rsb_p a b m) (okCons (decide_eq_true ⟨h1, (ng_parts h2).1⟩) (okCons k2 (okCons (decide_eq_false hn) (okL1 k2)))) rfl (by rfl) w
  · cases h
/-- what is known of calls, for the sums of pairs -/
def conC1 : Con := alt 24 gSS (alt 25 gRS (alt 22 gSA (alt 23 gRA conCg)))
theorem conC1_ok : ConOk conC1 := alt_ok Try.func24 rfl gSS_ok (alt_ok Try.func25 rfl gRS_ok (alt_ok Try.func22 rfl gSA_ok (alt_ok Try.func23 rfl gRA_ok conCg_ok)))
/-- what is known of calls, for the products of pairs -/
def conC2 : Con := alt 26 gPM (alt 27 gPF (alt 29 gRM (alt 30 gRF conCg)))
theorem conC2_ok : ConOk conC2 := alt_ok Try.func26 rfl gPM_ok (alt_ok Try.func27 rfl gPF_ok (alt_ok Try.func29 rfl gRM_ok (alt_ok Try.func30 rfl gRF_ok conCg_ok)))
/-- a pair of patterns -/
def pX (a b : Int) : Value := .agg #[.int .u64 a, .int .u64 b]
def gXY (k : Int → Int → Int → Int → Value) : Ans := fun vals s =>
  match vals with
  | [.agg ⟨[.int .u64 a, .int .u64 b]⟩, .agg ⟨[.int .u64 c, .int .u64 d]⟩] => some (k a b c d, s, [(decide (U a ∧ U b ∧ U c ∧ U d), true)])
  | _ => none
theorem gXY_ok {f : Nat} {k : Int → Int → Int → Int → Value} (hk : ∀ a b c d : Int, U a → U b → U c → U d → ∀ w, Calls Try.prog f #[pX a b, pX c d] w fun e w' => e = .returned (k a b c d) ∧ Tidy w w') : AnsOk f (gXY k) := by
  intro vals s v s' lg h hl w
  unfold gXY at h
  split at h
  · cases h
    obtain ⟨h1, h2, h3, h4⟩ := of_decide_eq_true (hl _ (List.mem_singleton.2 rfl))
    exact hk _ _ _ _ h1 h2 h3 h4 w
  · cases h
def caV (a b c d : Int) : Value := cpB (suP 0 a c) (suP 0 b d) (orB (suF 0 a c) (suF 0 b d))
def csV (a b c d : Int) : Value := cpB (suP 0 a (ng c)) (suP 0 b (ng d)) (orB (suF 0 a (ng c)) (suF 0 b (ng d)))
def raV (a b c d : Int) : Value := cpI (suP 0 a c) (suP 0 b d) (orI (suF 0 a c) (suF 0 b d))
def rsV (a b c d : Int) : Value := cpI (suP 0 a (ng c)) (suP 0 b (ng d)) (orI (suF 0 a (ng c)) (suF 0 b (ng d)))
/-- a product's parts -/
def reP (a b c d : Int) : Int := fmP 0 a c (ng (muP 0 b d))
def imP (a b c d : Int) : Int := fmP 0 a d (muP 0 b c)
def cmV (a b c d : Int) : Value := cpB (reP a b c d) (imP a b c d) (orB (orB (orB (muF 0 b d) (fmF 0 a c (ng (muP 0 b d)))) (muF 0 b c)) (fmF 0 a d (muP 0 b c)))
theorem ca (a b c d : Int) : Fits (reckon (tabOf Try.prog extY conC1 true) 300 7 [.agg #[.int .u64 a, .int .u64 b], .agg #[.int .u64 c, .int .u64 d]] []) (cpB (suP 0 a c) (suP 0 b d) (orB (suF 0 a c) (suF 0 b d))) [(decide (U b ∧ U d), true), (decide (U a ∧ U c), true)] := ⟨by kernel_rfl, by kernel_rfl, by kernel_rfl, by kernel_rfl⟩
theorem ca_calls (a b c d : Int) (ha : U a) (hb : U b) (hc : U c) (hd : U d) (w : World) : Calls Try.prog 7 #[pX a b, pX c d] w fun r w' => r = .returned (caV a b c d) ∧ Tidy w w' :=
  fits_calls (tabY_ok conC1_ok) (ca a b c d) (okCons (decide_eq_true ⟨hb, hd⟩) (okL1 (decide_eq_true ⟨ha, hc⟩))) rfl (by rfl) w
theorem ra (a b c d : Int) : Fits (reckon (tabOf Try.prog extY conC1 true) 300 9 [.agg #[.int .u64 a, .int .u64 b], .agg #[.int .u64 c, .int .u64 d]] []) (cpI (suP 0 a c) (suP 0 b d) (orI (suF 0 a c) (suF 0 b d))) [(decide (U b ∧ U d), true), (decide (U a ∧ U c), true)] := ⟨by kernel_rfl, by kernel_rfl, by kernel_rfl, by kernel_rfl⟩
theorem ra_calls (a b c d : Int) (ha : U a) (hb : U b) (hc : U c) (hd : U d) (w : World) : Calls Try.prog 9 #[pX a b, pX c d] w fun r w' => r = .returned (raV a b c d) ∧ Tidy w w' :=
  fits_calls (tabY_ok conC1_ok) (ra a b c d) (okCons (decide_eq_true ⟨hb, hd⟩) (okL1 (decide_eq_true ⟨ha, hc⟩))) rfl (by rfl) w
theorem cs (a b c d : Int) : Fits (reckon (tabOf Try.prog extY conC1 true) 300 10 [.agg #[.int .u64 a, .int .u64 b], .agg #[.int .u64 c, .int .u64 d]] []) (cpB (suP 0 a (ng c)) (suP 0 b (ng d)) (orB (suF 0 a (ng c)) (suF 0 b (ng d)))) [(decide (U b ∧ U d), true), (decide (U a ∧ U c), true)] := ⟨by kernel_rfl, by kernel_rfl, by kernel_rfl, by kernel_rfl⟩
theorem cs_calls (a b c d : Int) (ha : U a) (hb : U b) (hc : U c) (hd : U d) (w : World) : Calls Try.prog 10 #[pX a b, pX c d] w fun r w' => r = .returned (csV a b c d) ∧ Tidy w w' :=
  fits_calls (tabY_ok conC1_ok) (cs a b c d) (okCons (decide_eq_true ⟨hb, hd⟩) (okL1 (decide_eq_true ⟨ha, hc⟩))) rfl (by rfl) w
theorem rs (a b c d : Int) : Fits (reckon (tabOf Try.prog extY conC1 true) 300 11 [.agg #[.int .u64 a, .int .u64 b], .agg #[.int .u64 c, .int .u64 d]] []) (cpI (suP 0 a (ng c)) (suP 0 b (ng d)) (orI (suF 0 a (ng c)) (suF 0 b (ng d)))) [(decide (U b ∧ U d), true), (decide (U a ∧ U c), true)] := ⟨by kernel_rfl, by kernel_rfl, by kernel_rfl, by kernel_rfl⟩
theorem rs_calls (a b c d : Int) (ha : U a) (hb : U b) (hc : U c) (hd : U d) (w : World) : Calls Try.prog 11 #[pX a b, pX c d] w fun r w' => r = .returned (rsV a b c d) ∧ Tidy w w' :=
  fits_calls (tabY_ok conC1_ok) (rs a b c d) (okCons (decide_eq_true ⟨hb, hd⟩) (okL1 (decide_eq_true ⟨ha, hc⟩))) rfl (by rfl) w
theorem cm (a b c d : Int) : Fits (reckon (tabOf Try.prog extY conC2 true) 300 14 [.agg #[.int .u64 a, .int .u64 b], .agg #[.int .u64 c, .int .u64 d]] []) (cpB (fmP 0 a c (ng (muP 0 b d))) (fmP 0 a d (muP 0 b c)) (orB (orB (orB (muF 0 b d) (fmF 0 a c (ng (muP 0 b d)))) (muF 0 b c)) (fmF 0 a d (muP 0 b c)))) [(decide (U a ∧ U d ∧ U (muP 0 b c)), true), (decide (U b ∧ U c), true), (decide (U a ∧ U c ∧ U (ng (muP 0 b d))), true), (decide (U (muP 0 b d)), true), (decide (U b ∧ U d), true)] := ⟨by kernel_rfl, by kernel_rfl, by kernel_rfl, by kernel_rfl⟩
theorem cm_calls (a b c d : Int) (ha : U a) (hb : U b) (hc : U c) (hd : U d) (w : World) : Calls Try.prog 14 #[pX a b, pX c d] w fun r w' => r = .returned (cmV a b c d) ∧ Tidy w w' :=
  fits_calls (tabY_ok conC2_ok) (cm a b c d) (okCons (decide_eq_true ⟨ha, hd, mu_U _ _ _⟩) (okCons (decide_eq_true ⟨hb, hc⟩) (okCons (decide_eq_true ⟨ha, hc, (ng_parts (mu_U 0 b d)).1⟩) (okCons (decide_eq_true (mu_U 0 b d)) (okL1 (decide_eq_true ⟨hb, hd⟩)))))) rfl (by rfl) w
/-- what holds the program's answer against the document's: where they are the same -/
def gIs : Ans := fun vals s =>
  match vals with
  | [.agg ⟨[.int .u64 a, .int .u64 b]⟩, .int .u8 f, .agg ⟨[.int .u64 c, .int .u64 d]⟩, .int .i64 g] => some (.bool true, s, [(decide (a = c ∧ b = d ∧ f = g ∧ 0 ≤ f ∧ f < 32), true)])
  | _ => none
theorem is_f (a b f : Int) : Fits (reckon (tabOf Try.prog extY conN true) 300 12 [.agg #[.int .u64 a, .int .u64 b], .int .u8 f, .agg #[.int .u64 a, .int .u64 b], .int .i64 f] [sam true, cmp true]) (.bool true) [(IntKind.i64.wrap f == f, true), (a == a && (b == b && true), true)] := ⟨by kernel_rfl, by kernel_rfl, by kernel_rfl, by kernel_rfl⟩
theorem gIs_ok : AnsOk 12 gIs := by
  intro vals s v s' lg h hl w
  unfold gIs at h
  split at h
  · cases h
    obtain ⟨rfl, rfl, rfl, h4, h5⟩ := of_decide_eq_true (hl _ (List.mem_singleton.2 rfl))
    exact fits_calls (tabY_ok conN_ok) (is_f _ _ _) (okCons (beq_t (wrapI' ⟨by omega, by omega⟩)) (okL1 (by simp))) rfl (by rfl) w
  · cases h
def conCM : Con := alt 14 (gXY cmV) conCg
theorem conCM_ok : ConOk conCM := alt_ok Try.func14 rfl (gXY_ok cm_calls) conCg_ok
theorem one_sq : reP 4607182418800017408 4607182418800017408 4607182418800017408 4607182418800017408 = 0 ∧ imP 4607182418800017408 4607182418800017408 4607182418800017408 4607182418800017408 = 4611686018427387904 ∧ muF 0 4607182418800017408 4607182418800017408 = 0 ∧ fmF 0 4607182418800017408 4607182418800017408 (ng (muP 0 4607182418800017408 4607182418800017408)) = 0 ∧ fmF 0 4607182418800017408 4607182418800017408 (muP 0 4607182418800017408 4607182418800017408) = 0 := ⟨by kernel_rfl, by kernel_rfl, by kernel_rfl, by kernel_rfl, by kernel_rfl⟩
theorem sure17 : Fits (reckon (tabOf Try.prog extY conCM true) 300 13 [] [sam true, cmp true]) (.bool true) [(orB (orB (orB (muF 0 4607182418800017408 4607182418800017408) (fmF 0 4607182418800017408 4607182418800017408 (ng (muP 0 4607182418800017408 4607182418800017408)))) (muF 0 4607182418800017408 4607182418800017408)) (fmF 0 4607182418800017408 4607182418800017408 (muP 0 4607182418800017408 4607182418800017408)) == 0, true), (reP 4607182418800017408 4607182418800017408 4607182418800017408 4607182418800017408 == 0 && (imP 4607182418800017408 4607182418800017408 4607182418800017408 4607182418800017408 == 4611686018427387904 && true), true), (decide (U 4607182418800017408 ∧ U 4607182418800017408 ∧ U 4607182418800017408 ∧ U 4607182418800017408), true)] := ⟨by kernel_rfl, by kernel_rfl, by kernel_rfl, by kernel_rfl⟩
def gSure17 : Ans := fun vals s => match vals with | [] => some (.bool true, s, []) | _ => none
theorem gSure17_ok : AnsOk 13 gSure17 := by
  intro vals s v s' lg h hl w
  unfold gSure17 at h
  split at h
  · cases h
    obtain ⟨s1, s2, s3, s4, s5⟩ := one_sq
    exact fits_calls (tabY_ok conCM_ok) sure17 (okCons (beq_t (by rw [s3, s4, s5]; rfl)) (okCons (by rw [s1, s2]; rfl) (okL1 (by decide)))) (by rfl) (by rfl) w
  · cases h
def conCS : Con := alt 13 gSure17 conCM
theorem conCS_ok : ConOk conCS := alt_ok Try.func13 rfl gSure17_ok conCM_ok
theorem suF_5 (m a b : Int) : fl5 (suF m a b) := by have := suF_bd m a b; unfold fl5; omega
/-- what 'is' asks, met -/
theorem is_met {p q f g : Int} (h : f = g ∧ fl5 f) : decide (p = p ∧ q = q ∧ f = g ∧ 0 ≤ f ∧ f < 32) = true := decide_eq_true ⟨rfl, rfl, h.1, h.2.1, h.2.2⟩
def conL1 : Con := alt 7 (gXY caV) (alt 10 (gXY csV) (alt 9 (gXY raV) (alt 11 (gXY rsV) (alt 12 gIs conCS))))
theorem conL1_ok : ConOk conL1 := alt_ok Try.func7 rfl (gXY_ok ca_calls) (alt_ok Try.func10 rfl (gXY_ok cs_calls) (alt_ok Try.func9 rfl (gXY_ok ra_calls) (alt_ok Try.func11 rfl (gXY_ok rs_calls) (alt_ok Try.func12 rfl gIs_ok conCS_ok))))
end Go.Proofs.Ytekebccjflilnaa
namespace Go.KRun
open Go.ChangeShapes Go.WideShapes Go.ChangeAt Go.RowKit Go.Joins
theorem tidy_frozen {w w' : World} (h : Tidy w w') (a : Addr) : w'.frozen? a = w.frozen? a := by
  unfold World.frozen?
  by_cases h1 : a.block < w.heap.size
  · rw [h.1.block _ h1]
  · rw [Array.getElem?_eq_none (by omega : w.heap.size ≤ a.block)]
    by_cases h2 : a.block < w'.heap.size
    · have h3 := h.2 a.block (by omega) h2
      unfold iced at h3
      split
      · rename_i c e lo hi hc
        have := h3 _ _ _ hc
        cases this
        simp
      · rfl
    · rw [Array.getElem?_eq_none (by omega : w'.heap.size ≤ a.block)]
theorem u64_bounds {n : Int} (h : (Lit.int .u64 n).wf = true) : 0 ≤ n ∧ n < 18446744073709551616 := by
  simp [Lit.wf, IntKind.min, IntKind.max, IntKind.signed, IntKind.bits] at h
  omega
/-- cells of known kinds: 'none': a truth -/
def okC : List (Option IntKind) → List Value → Prop
  | [], [] => True
  | none :: l, v :: vs => (∃ b, v = .bool b) ∧ okC l vs
  | some k :: l, v :: vs => (∃ n, v = .int k n ∧ (Lit.int k n).wf = true) ∧ okC l vs
  | _, _ => False
theorem okC_append : ∀ {l1 : List (Option IntKind)} {v1 : List Value} {l2 : List (Option IntKind)} {v2 : List Value}, okC l1 v1 → okC l2 v2 → okC (l1 ++ l2) (v1 ++ v2)
  | [], [], _, _, _, h2 => by simpa using h2
  | none :: l, v :: vs, _, _, h1, h2 => ⟨h1.1, okC_append (l1 := l) (v1 := vs) h1.2 h2⟩
  | some k :: l, v :: vs, _, _, h1, h2 => ⟨h1.1, okC_append (l1 := l) (v1 := vs) h1.2 h2⟩
  | [], _ :: _, _, _, h1, _ => h1.elim
  | none :: _, [], _, _, h1, _ => h1.elim
  | some _ :: _, [], _, _, h1, _ => h1.elim
theorem okC_length : ∀ {l : List (Option IntKind)} {vs : List Value}, okC l vs → vs.length = l.length
  | [], [], _ => rfl
  | none :: l, v :: vs, h => by simp [okC_length (l := l) h.2]
  | some k :: l, v :: vs, h => by simp [okC_length (l := l) h.2]
  | [], _ :: _, h => h.elim
  | none :: _, [], h => h.elim
  | some _ :: _, [], h => h.elim
def leavesF (P : Program) (q : TypeId → Option (List (Option IntKind))) : Nat → List Field → Option (List (Option IntKind))
  | _, [] => some []
  | off, f :: fs =>
    match q f.type with
    | some l =>
      if (Nat.beq f.offset off && Nat.beq (P.cellsOf f.type) l.length) = true then
        match leavesF P q (off + l.length) fs with
        | some r => some (l ++ r)
        | none => none
      else none
    | none => none
def leavesA (P : Program) (e : TypeId) (l : List (Option IntKind)) : Nat → List (Option IntKind)
  | 0 => []
  | n + 1 => l ++ leavesA P e l n
/-- the kinds of a type's cells -/
def leaves (P : Program) : Nat → TypeId → Option (List (Option IntKind))
  | 0, _ => none
  | n + 1, t =>
    match P.underlying t with
    | some .bool => some [none]
    | some (.int k) => some [some k]
    | some (.struct fs) =>
      match leavesF P (leaves P n) 0 fs.toList with
      | some l => if Nat.beq (P.cellsOf t) l.length = true then some l else none
      | none => none
    | some (.array m e) =>
      match leaves P n e with
      | some l => if (Nat.beq (P.cellsOf e) l.length && Nat.beq (P.cellsOf t) (leavesA P e l m).length) = true then some (leavesA P e l m) else none
      | none => none
    | _ => none
theorem cut_cs {α : Type} (cs : List α) (off a b : Nat) : ((cs.drop off).take (a + b)) = ((cs.drop off).take a) ++ ((cs.drop (off + a)).take b) := by
  rw [List.take_add, List.drop_drop]
section
variable {H : Type} {enc : TypeId × Value → H} {P : Program}
/-- what is said of a type's reading -/
def FlatAt (enc : TypeId × Value → H) (P : Program) (t : TypeId) (L : List (Option IntKind)) : Prop :=
  ∀ w base spare held fuel cs x, DataW.trod enc P w base spare held fuel t cs = some x → okC L cs ∧ x.2 = [] ∧ ∀ w' base' spare' held', DataW.trod enc P w' base' spare' held' fuel t cs = some x
theorem flat_fields {q : TypeId → Option (List (Option IntKind))} (hq : ∀ t L, q t = some L → FlatAt enc P t L) {w : World} {base : Nat} {spare : Nat → Bool} {held : Bool} {fuel : Nat} {cs : List Value} :
    ∀ (fs : List Field) (off : Nat) (L : List (Option IntKind)), leavesF P q off fs = some L → ∀ xs, fs.mapM (fun f => DataW.trod enc P w base spare held fuel f.type ((cs.drop f.offset).take (P.cellsOf f.type))) = some xs →
      okC L ((cs.drop off).take L.length) ∧ xs.flatMap (·.2) = [] ∧ ∀ w' base' spare' held', fs.mapM (fun f => DataW.trod enc P w' base' spare' held' fuel f.type ((cs.drop f.offset).take (P.cellsOf f.type))) = some xs
  | [], off, L, hL, xs, hx => by
    simp only [leavesF] at hL
    cases hL
    simp at hx
    subst hx
    exact ⟨by simp [okC], by simp, fun _ _ _ _ => by simp⟩
  | f :: fs, off, L, hL, xs, hx => by
    unfold leavesF at hL
    split at hL
    · rename_i l hl
      split at hL
      · rename_i hc
        simp only [Bool.and_eq_true] at hc
        have ho := Nat.eq_of_beq_eq_true hc.1
        have hs := Nat.eq_of_beq_eq_true hc.2
        split at hL
        · rename_i r hr
          cases hL
          rw [List.mapM_cons] at hx
          simp only [bind, Option.bind_eq_some_iff, pure, Option.some.injEq] at hx
          obtain ⟨y, hy, ys, hys, rfl⟩ := hx
          obtain ⟨a1, a2, a3⟩ := hq _ _ hl _ _ _ _ _ _ _ hy
          obtain ⟨b1, b2, b3⟩ := flat_fields hq fs (off + l.length) r hr ys hys
          rw [ho, hs] at a1
          refine ⟨?_, ?_, fun w' base' spare' held' => ?_⟩
          · rw [List.length_append, cut_cs]
            exact okC_append a1 b1
          · simp [a2, b2]
          · rw [List.mapM_cons, a3 w' base' spare' held', b3 w' base' spare' held']
            rfl
        · cases hL
      · cases hL
    · cases hL
theorem flat_items {e : TypeId} {l : List (Option IntKind)} (hl : FlatAt enc P e l) (hs : P.cellsOf e = l.length) {w : World} {base : Nat} {spare : Nat → Bool} {held : Bool} {fuel : Nat} {cs : List Value} :
    ∀ (n k : Nat) xs, (List.range' k n).mapM (fun i => DataW.trod enc P w base spare held fuel e ((cs.drop (i * P.cellsOf e)).take (P.cellsOf e))) = some xs →
      okC (leavesA P e l n) ((cs.drop (k * l.length)).take (leavesA P e l n).length) ∧ xs.flatMap (·.2) = [] ∧ ∀ w' base' spare' held', (List.range' k n).mapM (fun i => DataW.trod enc P w' base' spare' held' fuel e ((cs.drop (i * P.cellsOf e)).take (P.cellsOf e))) = some xs
  | 0, k, xs, hx => by
    simp at hx
    subst hx
    exact ⟨by simp [leavesA, okC], by simp, fun _ _ _ _ => by simp⟩
  | n + 1, k, xs, hx => by
    rw [List.range'_succ, List.mapM_cons] at hx
    simp only [bind, Option.bind_eq_some_iff, pure, Option.some.injEq] at hx
    obtain ⟨y, hy, ys, hys, rfl⟩ := hx
    obtain ⟨a1, a2, a3⟩ := hl _ _ _ _ _ _ _ hy
    obtain ⟨b1, b2, b3⟩ := flat_items hl hs n (k + 1) ys hys
    rw [hs] at a1
    refine ⟨?_, ?_, fun w' base' spare' held' => ?_⟩
    · show okC (l ++ leavesA P e l n) _
      rw [show (leavesA P e l (n + 1)).length = l.length + (leavesA P e l n).length by simp [leavesA], cut_cs]
      rw [Nat.add_mul, Nat.one_mul] at b1
      exact okC_append a1 b1
    · simp [a2, b2]
    · rw [List.range'_succ, List.mapM_cons, a3 w' base' spare' held', b3 w' base' spare' held']
      rfl
theorem flat_ok : ∀ (n : Nat) (t : TypeId) (L : List (Option IntKind)), leaves P n t = some L → FlatAt enc P t L
  | 0, t, L, h => by simp [leaves] at h
  | n + 1, t, L, h => by
    intro w base spare held fuel cs x hx
    cases fuel with
    | zero => simp [DataW.trod] at hx
    | succ fuel =>
      unfold leaves at h
      split at h
      · rename_i hu
        cases h
        obtain ⟨b, rfl, rfl⟩ := DataW.trod_bool hu hx
        exact ⟨⟨⟨b, rfl⟩, trivial⟩, rfl, fun _ _ _ _ => by simp [DataW.trod, hu]⟩
      · rename_i k hu
        cases h
        obtain ⟨a, rfl, rfl, hw⟩ := DataW.trod_int hu hx
        exact ⟨⟨⟨a, rfl, hw⟩, trivial⟩, rfl, fun _ _ _ _ => by simp [DataW.trod, hu, hw]⟩
      · rename_i fs hu
        split at h
        · rename_i l hl
          split at h
          · rename_i hc
            cases h
            have hc := Nat.eq_of_beq_eq_true hc
            have key : ∀ (w : World) (base : Nat) (spare : Nat → Bool) (held : Bool), DataW.trod enc P w base spare held (fuel + 1) t cs = if cs.length = P.cellsOf t then (fs.toList.mapM fun f => DataW.trod enc P w base spare held fuel f.type ((cs.drop f.offset).take (P.cellsOf f.type))).map fun xs => (.agg (xs.map (·.1)), xs.flatMap (·.2)) else none := fun w base spare held => by
              rw [DataW.trod.eq_def]
              simp only [hu]
            rw [key] at hx
            split at hx
            · rename_i hlen
              simp only [Option.map_eq_some_iff] at hx
              obtain ⟨xs, hxs, rfl⟩ := hx
              obtain ⟨b1, b2, b3⟩ := flat_fields (fun t L h => flat_ok n t L h) fs.toList 0 L hl xs hxs
              refine ⟨?_, b2, fun w' base' spare' held' => ?_⟩
              · rw [List.drop_zero, ← hc, ← hlen, List.take_length] at b1
                exact b1
              · rw [key, if_pos hlen, b3]
                rfl
            · cases hx
          · cases h
        · cases h
      · rename_i m e hu
        split at h
        · rename_i l hl
          split at h
          · rename_i hc
            cases h
            simp only [Bool.and_eq_true] at hc
            have hs := Nat.eq_of_beq_eq_true hc.1
            have hc := Nat.eq_of_beq_eq_true hc.2
            have key : ∀ (w : World) (base : Nat) (spare : Nat → Bool) (held : Bool), DataW.trod enc P w base spare held (fuel + 1) t cs = if cs.length = P.cellsOf t then ((List.range m).mapM fun i => DataW.trod enc P w base spare held fuel e ((cs.drop (i * P.cellsOf e)).take (P.cellsOf e))).map fun xs => (.agg (xs.map (·.1)), xs.flatMap (·.2)) else none := fun w base spare held => by
              rw [DataW.trod.eq_def]
              simp only [hu]
            rw [key] at hx
            split at hx
            · rename_i hlen
              simp only [Option.map_eq_some_iff] at hx
              obtain ⟨xs, hxs, rfl⟩ := hx
              rw [List.range_eq_range'] at hxs
              obtain ⟨b1, b2, b3⟩ := flat_items (flat_ok n e l hl) hs m 0 xs hxs
              refine ⟨?_, b2, fun w' base' spare' held' => ?_⟩
              · rw [Nat.zero_mul, List.drop_zero, ← hc, ← hlen, List.take_length] at b1
                exact b1
              · rw [key, if_pos hlen, List.range_eq_range', b3]
                rfl
            · cases hx
          · cases h
        · cases h
      · cases h
/-- a flat argument: its cells, no places, and it reads so everywhere -/
theorem flat_open {w : World} {base : Nat} {spare : Nat → Bool} {held : Bool} {t : TypeId} {v : Value} {d : DataW H} {p : List MemPlace} {L : List (Option IntKind)} (hL : leaves P 6 t = some L) (h : DataW.Trod enc P w base spare held t v d p) :
    okC L v.cells.toList ∧ p = [] ∧ ∀ w' base' spare' held', DataW.Trod enc P w' base' spare' held' t v d [] := by
  obtain ⟨fuel, hf⟩ := h
  obtain ⟨h1, h2, h3⟩ := flat_ok 6 t L hL _ _ _ _ _ _ _ hf
  simp only at h2
  subst h2
  exact ⟨h1, rfl, fun w' base' spare' held' => ⟨fuel, h3 w' base' spare' held'⟩⟩
/-- an argument of a struct's or an array's type is a row of cells -/
theorem agg_struct {r : Go.Reach} {w : World} {b0 : Nat} {t : TypeId} {v : Value} {fs : Array Field} (hu : P.underlying t = some (.struct fs)) (hv : Value.okWide P w r b0 t v) : ∃ cs : Array Value, v = .agg cs := by
  obtain ⟨cs, h, _⟩ := okWide_struct hu hv
  exact ⟨cs, h⟩
end
end Go.KRun
