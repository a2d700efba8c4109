/-
  FlB, FlV, FlC2, FlC3, FlC4, FlC5, FlC7, FlC11, FlC13, Row, RowS, RowQ, Asn, AsNum
-/
import Derived.Test.YtjkgnbdeklploaaGreatDoorG30
import Derived.WalkKit
import Derived.ProofKit
import Derived.OpenShut
import Derived.Laws.IdiomArrays
import Derived.Lib.SmallJoins
import Derived.ChangeSlices
import Derived.LaidEql
import Derived.Stop.Asserts
import Derived.RowKitTokens
namespace Go.Proofs.YtjkgnbdeklploaaGreatDoor
open Go.KRun Go.Wd Go.Pt Go.Rn
set_option maxRecDepth 100000
theorem ws_fits (a1 a2 c1 c2 f : Int) (t : Bool) (F : List Value) : FitsF (reckonAt (tabOf Tryz.prog extY conFl true) (hF1 [.bool t, .int .u8 f] 46 F) 100 41 [.pointer (some ⟨1, 0, none⟩), .agg #[.int .u64 a1, .int .u64 a2], .agg #[.int .u64 c1, .int .u64 c2]] []) (pX (suP 0 a1 c1) (suP 0 a2 c2)) F [.bool t, .int .u8 (orB f (orB (suF 0 a1 c1) (suF 0 a2 c2)))] 46 [(decide (U a1 ∧ U a2 ∧ U c1 ∧ U c2), true)] := ⟨by kernel_rfl, by kernel_rfl, by kernel_rfl, by kernel_rfl⟩
def gWs : AnsH := fun vals h s =>
  match vals with
  | [.pointer (some ⟨b, 0, none⟩), .agg ⟨[.int .u64 a1, .int .u64 a2]⟩, .agg ⟨[.int .u64 c1, .int .u64 c2]⟩] =>
    match h.blk? b with
    | some ([.bool t, .int .u8 f], ty) => if (Nat.beq ty 46 && h.l.all fun x => !(spK x.2)) = true then some (pX (suP 0 a1 c1) (suP 0 a2 c2), h.put b ([.bool t, .int .u8 (orB f (orB (suF 0 a1 c1) (suF 0 a2 c2)))], 46), s, [(decide (U a1 ∧ U a2 ∧ U c1 ∧ U c2), true)]) else none
    | _ => none
  | _ => none
theorem gWs_ok : AnsHOk 41 gWs := by
  intro vals h s v h' s' lg hg hl m B w E hv
  unfold gWs at hg
  split at hg
  · rename_i b a1 a2 c1 c2
    split at hg
    · rename_i t f ty hb
      split at hg
      · rename_i hc
        rw [Bool.and_eq_true] at hc
        obtain rfl := Nat.eq_of_beq_eq_true hc.1
        cases hg
        have lg1 := hl _ (List.mem_singleton.2 rfl)
        have r := fits_frame (T := tabOf Tryz.prog extY conFl true) (tabY_ok conFl_ok) (ws_fits a1 a2 c1 c2 f t) (okP1 lg1) (by simp [lt1]) (by simp [lt1]) (by rfl) (by simp [lt, lt2, lt1]) (by simp [oc, oc2, oc1]) E hb (by rfl) hc.2
        have e0 : [.pointer (some ⟨1, 0, none⟩), .agg #[.int .u64 a1, .int .u64 a2], .agg #[.int .u64 c1, .int .u64 c2]].map (rn fun _ => b) = [.pointer (some ⟨b, 0, none⟩), .agg #[.int .u64 a1, .int .u64 a2], .agg #[.int .u64 c1, .int .u64 c2]] := by simp [rn, rn2, rn1]
        rw [e0] at r
        refine r.mono fun e w' he => ⟨m, ?_, he.2⟩
        rw [he.1]
        exact congrArg Ending.returned (mv_still (by rfl)).symm
      · cases hg
    · cases hg
  · cases hg
theorem wd_fits (a1 a2 c1 c2 f : Int) (t : Bool) (F : List Value) : FitsF (reckonAt (tabOf Tryz.prog extY conFl true) (hF1 [.bool t, .int .u8 f] 46 F) 100 42 [.pointer (some ⟨1, 0, none⟩), .agg #[.int .u64 a1, .int .u64 a2], .agg #[.int .u64 c1, .int .u64 c2]] []) (pX (suP 0 a1 (ng c1)) (suP 0 a2 (ng c2))) F [.bool t, .int .u8 (orB f (orB (suF 0 a1 (ng c1)) (suF 0 a2 (ng c2))))] 46 [(decide (U a1 ∧ U a2 ∧ U c1 ∧ U c2), true)] := ⟨by kernel_rfl, by kernel_rfl, by kernel_rfl, by kernel_rfl⟩
def gWd : AnsH := fun vals h s =>
  match vals with
  | [.pointer (some ⟨b, 0, none⟩), .agg ⟨[.int .u64 a1, .int .u64 a2]⟩, .agg ⟨[.int .u64 c1, .int .u64 c2]⟩] =>
    match h.blk? b with
    | some ([.bool t, .int .u8 f], ty) => if (Nat.beq ty 46 && h.l.all fun x => !(spK x.2)) = true then some (pX (suP 0 a1 (ng c1)) (suP 0 a2 (ng c2)), h.put b ([.bool t, .int .u8 (orB f (orB (suF 0 a1 (ng c1)) (suF 0 a2 (ng c2))))], 46), s, [(decide (U a1 ∧ U a2 ∧ U c1 ∧ U c2), true)]) else none
    | _ => none
  | _ => none
theorem gWd_ok : AnsHOk 42 gWd := by
  intro vals h s v h' s' lg hg hl m B w E hv
  unfold gWd at hg
  split at hg
  · rename_i b a1 a2 c1 c2
    split at hg
    · rename_i t f ty hb
      split at hg
      · rename_i hc
        rw [Bool.and_eq_true] at hc
        obtain rfl := Nat.eq_of_beq_eq_true hc.1
        cases hg
        have lg1 := hl _ (List.mem_singleton.2 rfl)
        have r := fits_frame (T := tabOf Tryz.prog extY conFl true) (tabY_ok conFl_ok) (wd_fits a1 a2 c1 c2 f t) (okP1 lg1) (by simp [lt1]) (by simp [lt1]) (by rfl) (by simp [lt, lt2, lt1]) (by simp [oc, oc2, oc1]) E hb (by rfl) hc.2
        have e0 : [.pointer (some ⟨1, 0, none⟩), .agg #[.int .u64 a1, .int .u64 a2], .agg #[.int .u64 c1, .int .u64 c2]].map (rn fun _ => b) = [.pointer (some ⟨b, 0, none⟩), .agg #[.int .u64 a1, .int .u64 a2], .agg #[.int .u64 c1, .int .u64 c2]] := by simp [rn, rn2, rn1]
        rw [e0] at r
        refine r.mono fun e w' he => ⟨m, ?_, he.2⟩
        rw [he.1]
        exact congrArg Ending.returned (mv_still (by rfl)).symm
      · cases hg
    · cases hg
  · cases hg
theorem wm_fits (a1 a2 p c1 c2 f : Int) (t : Bool) (F : List Value) : FitsF (reckonAt (tabOf Tryz.prog extY conFl true) (hF1 [.bool t, .int .u8 f] 46 F) 100 75 [.pointer (some ⟨1, 0, none⟩), .agg #[.int .u64 a1, .int .u64 a2], .int .u64 p, .agg #[.int .u64 c1, .int .u64 c2]] []) (pX (fmP 0 a1 p c1) (fmP 0 a2 p c2)) F [.bool t, .int .u8 (orB f (orB (fmF 0 a1 p c1) (fmF 0 a2 p c2)))] 46 [(decide (U a1 ∧ U a2 ∧ U p ∧ U c1 ∧ U c2), true)] := ⟨by kernel_rfl, by kernel_rfl, by kernel_rfl, by kernel_rfl⟩
def gWm : AnsH := fun vals h s =>
  match vals with
  | [.pointer (some ⟨b, 0, none⟩), .agg ⟨[.int .u64 a1, .int .u64 a2]⟩, .int .u64 p, .agg ⟨[.int .u64 c1, .int .u64 c2]⟩] =>
    match h.blk? b with
    | some ([.bool t, .int .u8 f], ty) => if (Nat.beq ty 46 && h.l.all fun x => !(spK x.2)) = true then some (pX (fmP 0 a1 p c1) (fmP 0 a2 p c2), h.put b ([.bool t, .int .u8 (orB f (orB (fmF 0 a1 p c1) (fmF 0 a2 p c2)))], 46), s, [(decide (U a1 ∧ U a2 ∧ U p ∧ U c1 ∧ U c2), true)]) else none
    | _ => none
  | _ => none
theorem gWm_ok : AnsHOk 75 gWm := by
  intro vals h s v h' s' lg hg hl m B w E hv
  unfold gWm at hg
  split at hg
  · rename_i b a1 a2 p c1 c2
    split at hg
    · rename_i t f ty hb
      split at hg
      · rename_i hc
        rw [Bool.and_eq_true] at hc
        obtain rfl := Nat.eq_of_beq_eq_true hc.1
        cases hg
        have lg1 := hl _ (List.mem_singleton.2 rfl)
        have r := fits_frame (T := tabOf Tryz.prog extY conFl true) (tabY_ok conFl_ok) (wm_fits a1 a2 p c1 c2 f t) (okP1 lg1) (by simp [lt1]) (by simp [lt1]) (by rfl) (by simp [lt, lt2, lt1]) (by simp [oc, oc2, oc1]) E hb (by rfl) hc.2
        have e0 : [.pointer (some ⟨1, 0, none⟩), .agg #[.int .u64 a1, .int .u64 a2], .int .u64 p, .agg #[.int .u64 c1, .int .u64 c2]].map (rn fun _ => b) = [.pointer (some ⟨b, 0, none⟩), .agg #[.int .u64 a1, .int .u64 a2], .int .u64 p, .agg #[.int .u64 c1, .int .u64 c2]] := by simp [rn, rn2, rn1]
        rw [e0] at r
        refine r.mono fun e w' he => ⟨m, ?_, he.2⟩
        rw [he.1]
        exact congrArg Ending.returned (mv_still (by rfl)).symm
      · cases hg
    · cases hg
  · cases hg
theorem wf_fits (a1 a2 f : Int) (t : Bool) (F : List Value) : FitsF (reckonAt (tabOf Tryz.prog extY conFl true) (hF1 [.bool t, .int .u8 f] 46 F) 100 43 [.pointer (some ⟨1, 0, none⟩), .agg #[.int .u64 a1, .int .u64 a2]] []) (pX (bif !t then a2 else ng a2) (bif !t then ng a1 else a1)) F [.bool t, .int .u8 (f)] 46 [(decide (U a1 ∧ U a2), true)] := ⟨by kernel_rfl, by kernel_rfl, by kernel_rfl, by kernel_rfl⟩
def gWf : AnsH := fun vals h s =>
  match vals with
  | [.pointer (some ⟨b, 0, none⟩), .agg ⟨[.int .u64 a1, .int .u64 a2]⟩] =>
    match h.blk? b with
    | some ([.bool t, .int .u8 f], ty) => if (Nat.beq ty 46 && h.l.all fun x => !(spK x.2)) = true then some (pX (bif !t then a2 else ng a2) (bif !t then ng a1 else a1), h.put b ([.bool t, .int .u8 (f)], 46), s, [(decide (U a1 ∧ U a2), true)]) else none
    | _ => none
  | _ => none
theorem gWf_ok : AnsHOk 43 gWf := by
  intro vals h s v h' s' lg hg hl m B w E hv
  unfold gWf at hg
  split at hg
  · rename_i b a1 a2
    split at hg
    · rename_i t f ty hb
      split at hg
      · rename_i hc
        rw [Bool.and_eq_true] at hc
        obtain rfl := Nat.eq_of_beq_eq_true hc.1
        cases hg
        have lg1 := hl _ (List.mem_singleton.2 rfl)
        have r := fits_frame (T := tabOf Tryz.prog extY conFl true) (tabY_ok conFl_ok) (wf_fits a1 a2 f t) (okP1 lg1) (by simp [lt1]) (by simp [lt1]) (by rfl) (by simp [lt, lt2, lt1]) (by simp [oc, oc2, oc1]) E hb (by rfl) hc.2
        have e0 : [.pointer (some ⟨1, 0, none⟩), .agg #[.int .u64 a1, .int .u64 a2]].map (rn fun _ => b) = [.pointer (some ⟨b, 0, none⟩), .agg #[.int .u64 a1, .int .u64 a2]] := by simp [rn, rn2, rn1]
        rw [e0] at r
        refine r.mono fun e w' he => ⟨m, ?_, he.2⟩
        rw [he.1]
        exact congrArg Ending.returned (mv_still (by rfl)).symm
      · cases hg
    · cases hg
  · cases hg
/-- what is known of calls, for the program's little transforms: the steps -/
def hcFl : Hc := altH 41 gWs (altH 42 gWd (altH 75 gWm (altH 43 gWf hcN)))
theorem hcFl_ok : HcOk hcFl := altH_ok Tryz.func41 (by rfl) gWs_ok (altH_ok Tryz.func42 (by rfl) gWd_ok (altH_ok Tryz.func75 (by rfl) gWm_ok (altH_ok Tryz.func43 (by rfl) gWf_ok hcN_ok)))
/-- the points: their calls -/
def conRt : Con := alt 94 gRt conN
theorem conRt_ok : ConOk conRt := alt_ok Tryz.func94 rfl gRt_ok conN_ok
theorem TFl_ok : TabOk (tabH Tryz.prog extY conRt hcFl) := tabH_ok conRt_ok hcFl_ok
end Go.Proofs.YtjkgnbdeklploaaGreatDoor
namespace Go.Proofs.YtjkgnbdeklploaaGreatDoor
open Go.KRun Go.Wd Go.Pt Go.Rn
/-! ### flags told together, in whatever order -/
def orL (l : List Int) : Int := l.foldl orB 0
/-! ### patterns all -/
def allU (l : List PR) : Prop := ∀ x ∈ l, up2 x
theorem zip_all {f : PR → PR → PR} (hf : ∀ {x y}, up2 x → up2 y → up2 (f x y)) : ∀ {a b : List PR}, allU a → allU b → allU (List.zipWith f a b)
  | [], _, _, _ => fun x hx => by simp at hx
  | _ :: _, [], _, _ => fun x hx => by simp at hx
  | x :: a, y :: b, ha, hb => fun z hz => by
    rw [List.zipWith_cons_cons] at hz
    rcases List.mem_cons.1 hz with rfl | hz
    · exact hf (ha x List.mem_cons_self) (hb y List.mem_cons_self)
    · exact zip_all hf (fun u hu => ha u (List.mem_cons_of_mem _ hu)) (fun u hu => hb u (List.mem_cons_of_mem _ hu)) z hz
theorem zipO_all {f : PR → PR → OpR} (hf : ∀ {x y}, up2 x → up2 y → okO (f x y)) : ∀ {a b : List PR}, allU a → allU b → ∀ o ∈ List.zipWith f a b, okO o
  | [], _, _, _ => fun x hx => by simp at hx
  | _ :: _, [], _, _ => fun x hx => by simp at hx
  | x :: a, y :: b, ha, hb => fun z hz => by
    rw [List.zipWith_cons_cons] at hz
    rcases List.mem_cons.1 hz with rfl | hz
    · exact hf (ha x List.mem_cons_self) (hb y List.mem_cons_self)
    · exact zipO_all hf (fun u hu => ha u (List.mem_cons_of_mem _ hu)) (fun u hu => hb u (List.mem_cons_of_mem _ hu)) z hz
theorem scan_all : ∀ {l : List PR} {a : PR}, up2 a → allU l → up2 (scanV a l) ∧ ∀ o ∈ scanO a l, okO o
  | [], a, ha, _ => ⟨ha, fun o ho => by cases ho⟩
  | s :: l, a, ha, hl => by
    have hs := hl s List.mem_cons_self
    obtain ⟨h1, h2⟩ := scan_all (l := l) (ad2_u ha hs) (fun u hu => hl u (List.mem_cons_of_mem _ hu))
    refine ⟨h1, fun o ho => ?_⟩
    rcases List.mem_cons.1 ho with rfl | ho
    · exact opA_ok ha hs
    · exact h2 o ho
theorem mo_all : ∀ {l : List PR} {ps : List Int} {a : PR}, up2 a → up2 (moV a l ps)
  | [], _, _, ha => ha
  | _ :: _, [], _, ha => ha
  | _ :: l, _ :: ps, _, ha => mo_all (l := l) (ps := ps) (mo2_u ha)
theorem wav_all : ∀ {ss ds ps : List PR} {a e : PR}, up2 a → up2 e → allU ss → allU ds → allU ps → ∀ o ∈ wavO a e ss ds ps, okO o
  | [], _, _, _, _, _, _, _, _, _ => fun o ho => by simp [wavO] at ho
  | _ :: _, [], _, _, _, _, _, _, _, _ => fun o ho => by simp [wavO] at ho
  | _ :: _, _ :: _, [], _, _, _, _, _, _, _ => fun o ho => by simp [wavO] at ho
  | s :: ss, d :: ds, p :: ps, a, e, ha, he, h1, h2, h3 => fun o ho => by
    have k1 := h1 s List.mem_cons_self
    have k2 := h2 d List.mem_cons_self
    have k3 := h3 p List.mem_cons_self
    rw [wavO] at ho
    rcases List.mem_cons.1 ho with rfl | ho
    · exact opM_ok k1 k3.1 ha
    rcases List.mem_cons.1 ho with rfl | ho
    · exact opM_ok k2 k3.2 he
    · exact wav_all (mo2_u ha) (mo2_u he) (fun u hu => h1 u (List.mem_cons_of_mem _ hu)) (fun u hu => h2 u (List.mem_cons_of_mem _ hu)) (fun u hu => h3 u (List.mem_cons_of_mem _ hu)) o ho
theorem zero_u : up2 (0, 0) := by unfold up2 U; omega
theorem pts_u (n : Nat) : allU (ptT n) := by
  have h : ∀ m, (ptT m).all (fun p => decide (0 ≤ p.1 ∧ p.1 < 18446744073709551616) && decide (0 ≤ p.2 ∧ p.2 < 18446744073709551616)) = true := by
    intro m
    unfold ptT
    split <;> rfl
  intro p hp
  have := List.all_eq_true.1 (h n) p hp
  simp only [Bool.and_eq_true, decide_eq_true_eq] at this
  exact this
theorem getD_u {l : List PR} (h : allU l) (k : Nat) : up2 (l.getD k (0, 0)) := by
  simp only [List.getD]
  cases hk : l[k]? with
  | none => exact zero_u
  | some x => exact h x (List.mem_of_getElem? hk)
theorem ptK_u (n h k : Nat) : allU (ptK n h k) := by
  intro p hp
  unfold ptK at hp
  obtain ⟨j, _, rfl⟩ := List.mem_map.1 hp
  exact getD_u (pts_u n) _
section
variable {n h : Nat} {x0 : PR} {u v : List PR} {t : Bool} (hx : up2 x0) (hu : allU u) (hv : allU v)
include hu hv in
theorem fyS_u : allU (fyS u v) := zip_all ad2_u hu hv
include hu hv in
theorem fyD_u : allU (fyD u v) := zip_all sb2_u hu hv
include hx in
theorem fyAs_u : allU (fyAs n h x0 u v) := fun p hp => by
  unfold fyAs at hp
  obtain ⟨k, _, rfl⟩ := List.mem_map.1 hp
  exact mo_all hx
theorem fyB_u (k : Nat) : up2 (fyB n h u v k) := mo_all zero_u
theorem fyEs_u : allU (fyEs n h u v t) := fun p hp => by
  unfold fyEs at hp
  obtain ⟨k, _, rfl⟩ := List.mem_map.1 hp
  exact tn2_u (fyB_u _)
include hx hu hv in
theorem fyO1_ok : ∀ o ∈ fyO1 x0 u v, okO o := fun o ho => by
  unfold fyO1 at ho
  rcases List.mem_append.1 ho with ho | ho
  · rcases List.mem_append.1 ho with ho | ho
    · exact zipO_all opA_ok hu hv o ho
    · exact zipO_all opS_ok hu hv o ho
  · exact (scan_all hx (fyS_u hu hv)).2 o ho
include hx hu hv in
theorem fyO2_ok : ∀ o ∈ fyO2 n h x0 u v, okO o := fun o ho => by
  unfold fyO2 at ho
  obtain ⟨k, _, ho⟩ := List.mem_flatMap.1 ho
  rcases List.mem_append.1 ho with ho | ho
  · exact wav_all hx zero_u (fyS_u hu hv) (fyD_u hu hv) (ptK_u _ _ _) o ho
  · rw [List.mem_singleton.1 ho]
    exact opT_ok (fyB_u _)
include hx in
theorem fyP_ok : ∀ o ∈ fyP n h x0 u v t, okO o := zipO_all opA_ok (fyAs_u hx) fyEs_u
include hx in
theorem fyQ_ok : ∀ o ∈ fyQ n h x0 u v t, okO o := zipO_all opS_ok (fyAs_u hx) fyEs_u
include hx hu hv in
theorem fyV_u : allU (fyV n h x0 u v t) := fun p hp => by
  unfold fyV at hp
  rcases List.mem_cons.1 hp with rfl | hp
  · exact (scan_all hx (fyS_u hu hv)).1
  rcases List.mem_append.1 hp with hp | hp
  · exact zip_all ad2_u (fyAs_u hx) fyEs_u p hp
  · exact zip_all sb2_u (fyAs_u hx) fyEs_u p (List.mem_reverse.1 hp)
end
theorem okLog_rev {l : List OpR} (h : ∀ o ∈ l, okO o) : okLog (lgO l) := fun p hp => by
  unfold lgO at hp
  obtain ⟨o, ho, rfl⟩ := List.mem_map.1 (List.mem_reverse.1 hp)
  exact (h o ho).1
theorem okLog_app {a b : Log} (ha : okLog a) (hb : okLog b) : okLog (a ++ b) := fun p hp => by
  rcases List.mem_append.1 hp with hp | hp
  · exact ha p hp
  · exact hb p hp
theorem ok_tt (k : Nat) : okLog (tt k) := fun p hp => by rw [List.eq_of_mem_replicate hp]
theorem ok_ff (k : Nat) : okLog (ff k) := fun p hp => by rw [List.eq_of_mem_replicate hp]
theorem ofs_u {xs : List PR} (h : allU xs) : up2 (x0Of xs) ∧ allU (uOf xs) ∧ allU (vOf xs) :=
  ⟨getD_u h 0, fun p hp => h p (List.mem_of_mem_drop (List.mem_of_mem_take hp)), fun p hp => h p (List.mem_of_mem_drop (List.mem_reverse.1 hp))⟩
theorem flO_ok {xs : List PR} (h : allU xs) (t : Bool) : ∀ o ∈ flO xs t, okO o := by
  obtain ⟨h0, h1, h2⟩ := ofs_u h
  unfold flO
  split
  · rename_i a b
    have ha := h a (by simp)
    have hb := h b (by simp)
    intro o ho
    simp only [List.mem_cons, List.not_mem_nil, or_false] at ho
    rcases ho with rfl | rfl
    · exact opA_ok ha hb
    · exact opS_ok ha hb
  · rename_i a b c d
    have ha := h a (by simp)
    have hb := h b (by simp)
    have hc := h c (by simp)
    have hd := h d (by simp)
    have e := tn2_u (t := !t) (sb2_u hb hd)
    intro o ho
    simp only [List.mem_cons, List.not_mem_nil, or_false] at ho
    rcases ho with rfl | rfl | rfl | rfl | rfl | rfl | rfl | rfl | rfl
    · exact opA_ok ha hc
    · exact opA_ok hb hd
    · exact opS_ok ha hc
    · exact opS_ok hb hd
    · exact opT_ok (sb2_u hb hd)
    · exact opA_ok (ad2_u ha hc) (ad2_u hb hd)
    · exact opA_ok (sb2_u ha hc) e
    · exact opS_ok (ad2_u ha hc) (ad2_u hb hd)
    · exact opS_ok (sb2_u ha hc) e
  · intro o ho
    rcases List.mem_append.1 ho with ho | ho
    · rcases List.mem_append.1 ho with ho | ho
      · rcases List.mem_append.1 ho with ho | ho
        · exact fyO1_ok h0 h1 h2 o ho
        · exact fyO2_ok h0 h1 h2 o ho
      · exact fyP_ok h0 o ho
    · exact fyQ_ok h0 o ho
theorem flL_ok {xs : List PR} (h : allU xs) (t : Bool) : okLog (flL xs t) := by
  obtain ⟨h0, h1, h2⟩ := ofs_u h
  unfold flL
  split
  · exact okLog_rev (flO_ok h t)
  · exact okLog_app (ok_tt _) (okLog_rev (flO_ok h t))
  · exact okLog_app (okLog_app (okLog_app (okLog_app (okLog_app (okLog_app (okLog_app (okLog_app (okLog_app (ok_tt _) (okLog_rev (fyQ_ok h0))) (okLog_rev (fyQ_ok h0))) (okLog_rev (fyP_ok h0))) (okLog_rev (fyQ_ok h0))) (okLog_rev (fyP_ok h0))) (okLog_rev (fyO2_ok h0 h1 h2))) (ok_tt _)) (ok_ff _)) (okLog_rev (fyO1_ok h0 h1 h2))
theorem flV_u {xs : List PR} (h : allU xs) (t : Bool) : allU (flV xs t) := by
  obtain ⟨h0, h1, h2⟩ := ofs_u h
  unfold flV
  split
  · rename_i a b
    have ha := h a (by simp)
    have hb := h b (by simp)
    intro p hp
    simp only [List.mem_cons, List.not_mem_nil, or_false] at hp
    rcases hp with rfl | rfl
    · exact ad2_u ha hb
    · exact sb2_u ha hb
  · rename_i a b c d
    have ha := h a (by simp)
    have hb := h b (by simp)
    have hc := h c (by simp)
    have hd := h d (by simp)
    have e := tn2_u (t := !t) (sb2_u hb hd)
    intro p hp
    simp only [List.mem_cons, List.not_mem_nil, or_false] at hp
    rcases hp with rfl | rfl | rfl | rfl
    · exact ad2_u (ad2_u ha hc) (ad2_u hb hd)
    · exact ad2_u (sb2_u ha hc) e
    · exact sb2_u (ad2_u ha hc) (ad2_u hb hd)
    · exact sb2_u (sb2_u ha hc) e
  · exact fyV_u h0 h1 h2
/-! ### back -/
end Go.Proofs.YtjkgnbdeklploaaGreatDoor
namespace Go.Proofs.YtjkgnbdeklploaaGreatDoor
open Go.KRun Go.Wd Go.Pt Go.Rn
set_option maxRecDepth 100000
theorem fc2 (a0 b0 a1 b1 : Int) (t : Bool) : FitsB (reckonAt (tabA (tabH Tryz.prog extY conRt hcFl)) ⟨1, [(prC [(a0, b0), (a1, b1)], tPr)]⟩ 300 6 [.slice (some ⟨0, 0, none⟩) 2 (dead + 2), .bool t] []) 5 (.tuple #[.slice (some ⟨5, 0, none⟩) 2 (dead + 2), .int .u8 (orL (flags (flO [(a0, b0), (a1, b1)] t))), .nilIface]) (prC (flV [(a0, b0), (a1, b1)] t)) 40 (flL [(a0, b0), (a1, b1)] t) := by unfold FitsB; kernel_rfl
theorem fc3 (a0 b0 a1 b1 a2 b2 : Int) (t : Bool) : FitsB (reckonAt (tabA (tabH Tryz.prog extY conRt hcFl)) ⟨1, [(prC [(a0, b0), (a1, b1), (a2, b2)], tPr)]⟩ 300 6 [.slice (some ⟨0, 0, none⟩) 3 (dead + 2), .bool t] []) 19 (.tuple #[.slice (some ⟨19, 0, none⟩) 3 (dead + 2), .int .u8 (orL (flags (flO [(a0, b0), (a1, b1), (a2, b2)] t))), .nilIface]) (prC (flV [(a0, b0), (a1, b1), (a2, b2)] t)) 40 (flL [(a0, b0), (a1, b1), (a2, b2)] t) := by unfold FitsB; kernel_rfl
theorem fc4 (a0 b0 a1 b1 a2 b2 a3 b3 : Int) (t : Bool) : FitsB (reckonAt (tabA (tabH Tryz.prog extY conRt hcFl)) ⟨1, [(prC [(a0, b0), (a1, b1), (a2, b2), (a3, b3)], tPr)]⟩ 300 6 [.slice (some ⟨0, 0, none⟩) 4 (dead + 2), .bool t] []) 7 (.tuple #[.slice (some ⟨7, 0, none⟩) 4 (dead + 2), .int .u8 (orL (flags (flO [(a0, b0), (a1, b1), (a2, b2), (a3, b3)] t))), .nilIface]) (prC (flV [(a0, b0), (a1, b1), (a2, b2), (a3, b3)] t)) 40 (flL [(a0, b0), (a1, b1), (a2, b2), (a3, b3)] t) := by unfold FitsB; kernel_rfl
theorem fc5 (a0 b0 a1 b1 a2 b2 a3 b3 a4 b4 : Int) (t : Bool) : FitsB (reckonAt (tabA (tabH Tryz.prog extY conRt hcFl)) ⟨1, [(prC [(a0, b0), (a1, b1), (a2, b2), (a3, b3), (a4, b4)], tPr)]⟩ 300 6 [.slice (some ⟨0, 0, none⟩) 5 (dead + 2), .bool t] []) 23 (.tuple #[.slice (some ⟨23, 0, none⟩) 5 (dead + 2), .int .u8 (orL (flags (flO [(a0, b0), (a1, b1), (a2, b2), (a3, b3), (a4, b4)] t))), .nilIface]) (prC (flV [(a0, b0), (a1, b1), (a2, b2), (a3, b3), (a4, b4)] t)) 40 (flL [(a0, b0), (a1, b1), (a2, b2), (a3, b3), (a4, b4)] t) := by unfold FitsB; kernel_rfl
theorem fc7 (a0 b0 a1 b1 a2 b2 a3 b3 a4 b4 a5 b5 a6 b6 : Int) (t : Bool) : FitsB (reckonAt (tabA (tabH Tryz.prog extY conRt hcFl)) ⟨1, [(prC [(a0, b0), (a1, b1), (a2, b2), (a3, b3), (a4, b4), (a5, b5), (a6, b6)], tPr)]⟩ 300 6 [.slice (some ⟨0, 0, none⟩) 7 (dead + 2), .bool t] []) 29 (.tuple #[.slice (some ⟨29, 0, none⟩) 7 (dead + 2), .int .u8 (orL (flags (flO [(a0, b0), (a1, b1), (a2, b2), (a3, b3), (a4, b4), (a5, b5), (a6, b6)] t))), .nilIface]) (prC (flV [(a0, b0), (a1, b1), (a2, b2), (a3, b3), (a4, b4), (a5, b5), (a6, b6)] t)) 40 (flL [(a0, b0), (a1, b1), (a2, b2), (a3, b3), (a4, b4), (a5, b5), (a6, b6)] t) := by unfold FitsB; kernel_rfl
theorem fc11 (a0 b0 a1 b1 a2 b2 a3 b3 a4 b4 a5 b5 a6 b6 a7 b7 a8 b8 a9 b9 a10 b10 : Int) (t : Bool) : FitsB (reckonAt (tabA (tabH Tryz.prog extY conRt hcFl)) ⟨1, [(prC [(a0, b0), (a1, b1), (a2, b2), (a3, b3), (a4, b4), (a5, b5), (a6, b6), (a7, b7), (a8, b8), (a9, b9), (a10, b10)], tPr)]⟩ 300 6 [.slice (some ⟨0, 0, none⟩) 11 (dead + 2), .bool t] []) 47 (.tuple #[.slice (some ⟨47, 0, none⟩) 11 (dead + 2), .int .u8 (orL (flags (flO [(a0, b0), (a1, b1), (a2, b2), (a3, b3), (a4, b4), (a5, b5), (a6, b6), (a7, b7), (a8, b8), (a9, b9), (a10, b10)] t))), .nilIface]) (prC (flV [(a0, b0), (a1, b1), (a2, b2), (a3, b3), (a4, b4), (a5, b5), (a6, b6), (a7, b7), (a8, b8), (a9, b9), (a10, b10)] t)) 40 (flL [(a0, b0), (a1, b1), (a2, b2), (a3, b3), (a4, b4), (a5, b5), (a6, b6), (a7, b7), (a8, b8), (a9, b9), (a10, b10)] t) := by unfold FitsB; kernel_rfl
theorem fc13 (a0 b0 a1 b1 a2 b2 a3 b3 a4 b4 a5 b5 a6 b6 a7 b7 a8 b8 a9 b9 a10 b10 a11 b11 a12 b12 : Int) (t : Bool) : FitsB (reckonAt (tabA (tabH Tryz.prog extY conRt hcFl)) ⟨1, [(prC [(a0, b0), (a1, b1), (a2, b2), (a3, b3), (a4, b4), (a5, b5), (a6, b6), (a7, b7), (a8, b8), (a9, b9), (a10, b10), (a11, b11), (a12, b12)], tPr)]⟩ 300 6 [.slice (some ⟨0, 0, none⟩) 13 (dead + 2), .bool t] []) 59 (.tuple #[.slice (some ⟨59, 0, none⟩) 13 (dead + 2), .int .u8 (orL (flags (flO [(a0, b0), (a1, b1), (a2, b2), (a3, b3), (a4, b4), (a5, b5), (a6, b6), (a7, b7), (a8, b8), (a9, b9), (a10, b10), (a11, b11), (a12, b12)] t))), .nilIface]) (prC (flV [(a0, b0), (a1, b1), (a2, b2), (a3, b3), (a4, b4), (a5, b5), (a6, b6), (a7, b7), (a8, b8), (a9, b9), (a10, b10), (a11, b11), (a12, b12)] t)) 40 (flL [(a0, b0), (a1, b1), (a2, b2), (a3, b3), (a4, b4), (a5, b5), (a6, b6), (a7, b7), (a8, b8), (a9, b9), (a10, b10), (a11, b11), (a12, b12)] t) := by unfold FitsB; kernel_rfl
end Go.Proofs.YtjkgnbdeklploaaGreatDoor
namespace Go.KRun
open Go.ChangeShapes Go.WideShapes Go.ChangeAt Go.RowKit Go.Joins
theorem tidy_frozen {w w' : World} (h : Tidy w w') (a : Addr) : w'.frozen? a = w.frozen? a := by
  unfold World.frozen?
  by_cases h1 : a.block < w.heap.size
  · rw [h.1.block _ h1]
  · rw [Array.getElem?_eq_none (by omega : w.heap.size ≤ a.block)]
    by_cases h2 : a.block < w'.heap.size
    · have h3 := h.2 a.block (by omega) h2
      unfold iced at h3
      split
      · rename_i c e lo hi hc
        have := h3 _ _ _ hc
        cases this
        simp
      · rfl
    · rw [Array.getElem?_eq_none (by omega : w'.heap.size ≤ a.block)]
theorem u64_bounds {n : Int} (h : (Lit.int .u64 n).wf = true) : 0 ≤ n ∧ n < 18446744073709551616 := by
  simp [Lit.wf, IntKind.min, IntKind.max, IntKind.signed, IntKind.bits] at h
  omega
theorem rowAt_le {p : Program} {fits : TypeId → Bool} : ∀ (d : Nat) (e : TypeId) (count off n : Nat), rowAt p fits d e count off n = true → off ≤ count * p.cellsOf e
  | 0, _, _, _, _, h => by simp [rowAt] at h
  | d + 1, e, count, off, n, h => by
    unfold rowAt at h
    simp only at h
    split at h
    · cases h
    · rename_i hs
      have hdm := Nat.div_add_mod off (p.cellsOf e)
      have hml := Nat.mod_lt off (show 0 < p.cellsOf e by omega)
      simp only [Bool.or_eq_true, Bool.and_eq_true, decide_eq_true_eq, beq_iff_eq] at h
      rcases h with h | h
      · obtain ⟨⟨h1, h2⟩, _⟩ := h
        have h3 : off / p.cellsOf e ≤ count := by omega
        have := Nat.mul_le_mul_left (p.cellsOf e) h3
        rw [Nat.mul_comm count]
        omega
      · have h3 : off / p.cellsOf e + 1 ≤ count := h.1
        have := Nat.mul_le_mul_left (p.cellsOf e) h3
        rw [Nat.mul_succ] at this
        rw [Nat.mul_comm count]
        omega
theorem liesAt_le {p : Program} : ∀ (d : Nat) (e : TypeId) (count off : Nat) (u : TypeId) (n : Nat), liesAt p d e count off u n = true → off ≤ count * p.cellsOf e
  | 0, _, _, _, _, _, h => by simp [liesAt] at h
  | d + 1, e, count, off, u, n, h => by
    unfold liesAt at h
    simp only [Bool.or_eq_true] at h
    rcases h with h | h
    · exact rowAt_le _ _ _ _ _ h
    · split at h
      · exact liesAt_le d _ _ _ _ _ h
      · cases h
section
variable {H : Type} {enc : TypeId × Value → H} {P : Program} {w : World}
/-- a row that lies in the memory: from 'off' on 'cap' words -/
structure Lain (w : World) (b off : Nat) (cs : Array Value) (zs : List Int) : Prop where
  heap : ∃ ty z, w.heap[b]? = some (.cells cs ty z)
  room : off + zs.length ≤ cs.size
  cell : ∀ i, i < zs.length → cs[off + i]? = some (.int .u32 (zs.getD i 0))
  wf : ∀ n ∈ zs, (Lit.int .u32 n).wf = true
end
end Go.KRun
namespace Go.KRun
open Go.ChangeShapes Go.WideShapes Go.ChangeAt Go.RowKit Go.Joins Go.Deep
section
variable {H : Type} {enc : TypeId × Value → H} {P : Program} {w : World}
/-- numbers that lie in the memory, one behind the other, from 'off' on -/
structure LainK (w : World) (kd : IntKind) (b off : Nat) (cs : Array Value) (zs : List Int) : Prop where
  heap : ∃ ty z, w.heap[b]? = some (.cells cs ty z)
  room : off + zs.length ≤ cs.size
  cell : ∀ i, i < zs.length → cs[off + i]? = some (.int kd (zs.getD i 0))
  wf : ∀ n ∈ zs, (Lit.int kd n).wf = true
theorem two_ints {base : Nat} {sp : Nat → Bool} {held : Bool} {fuel : Nat} {e : TypeId} {f0 f1 : Field} {kd : IntKind} {cs : List Value} {x : DataW H × List MemPlace} (hs : P.underlying e = some (.struct #[f0, f1])) (hone : oneCellFields P #[f0, f1] = true)
    (h0 : P.underlying f0.type = some (.int kd)) (h1 : P.underlying f1.type = some (.int kd)) (hl : cs.length = 2) (h : DataW.trod enc P w base sp held fuel e cs = some x) :
    ∃ a b, cs = [.int kd a, .int kd b] ∧ (Lit.int kd a).wf = true ∧ (Lit.int kd b).wf = true ∧ x.2 = [] := by
  obtain ⟨c0, c1, rfl⟩ : ∃ c0 c1, cs = [c0, c1] := by
    match cs, hl with
    | [c0, c1], _ => exact ⟨c0, c1, rfl⟩
  obtain ⟨y0, y1, n, hx, _, t0, t1⟩ := trod_struct2 hs h
  obtain ⟨o0, k0⟩ := hone_of hone 0 f0 rfl
  obtain ⟨o1, k1⟩ := hone_of hone 1 f1 rfl
  have t0 : DataW.trod enc P w base sp held n f0.type [c0] = some y0 := by simpa [o0, k0] using t0
  have t1 : DataW.trod enc P w base sp held n f1.type [c1] = some y1 := by simpa [o1, k1] using t1
  obtain ⟨a, e0, r0, w0⟩ := DataW.trod_int h0 t0
  obtain ⟨b, e1, r1, w1⟩ := DataW.trod_int h1 t1
  refine ⟨a, b, ?_, w0, w1, ?_⟩
  · simp only [List.cons.injEq, and_true] at e0 e1
    rw [e0, e1]
  · rw [hx, r0, r1]
    rfl
theorem open_pairs {base : Nat} {r : Go.Reach} {t e : TypeId} {f0 f1 : Field} {kd : IntKind} {v : Value} {d : DataW H} {p : List MemPlace} (ht : P.underlying t = some (.slice e)) (hs : P.underlying e = some (.struct #[f0, f1])) (hone : oneCellFields P #[f0, f1] = true) (hC : P.cellsOf e = 2)
    (h0 : P.underlying f0.type = some (.int kd)) (h1 : P.underlying f1.type = some (.int kd)) (hval : Value.okWide P w r base t v) (h : DataW.Trod enc P w 0 (fun _ => true) true t v d p) :
    (v = .slice none 0 0 ∧ d = .nil ∧ p = []) ∨ ∃ b off len cap cs zs x y, v = .slice (some ⟨b, off, none⟩) len cap ∧ len ≤ cap ∧ zs.length = 2 * cap ∧ cap ≤ maxLen ∧ LainK w kd b off cs zs ∧ d = .slice x y ∧ x.length + y.length = cap ∧ ∀ q ∈ p, q.block = b := by
  obtain ⟨a0, len0, cap0, rfl⟩ := okWide_slice ht hval
  obtain ⟨fuel, hf⟩ := h
  have hf' : DataW.trod enc P w 0 (fun _ => true) true fuel t [.slice a0 len0 cap0] = some (d, p) := by simpa [Value.cells] using hf
  rcases DataW.trod_slice ht hf' with ⟨g1, g2⟩ | ⟨a, len, cap, elems, rest, n, _, g1, g2, hb, hl, hm, hlen, hel, hsp, _⟩
  · simp only [List.cons.injEq, and_true, Value.slice.injEq] at g1
    obtain ⟨rfl, rfl, rfl⟩ := g1
    simp only [Prod.mk.injEq] at g2
    exact .inl ⟨rfl, g2.1, g2.2⟩
  · simp only [List.cons.injEq, and_true, Value.slice.injEq] at g1
    obtain ⟨rfl, rfl, rfl⟩ := g1
    simp only [Prod.mk.injEq] at g2
    obtain ⟨hrl, hr⟩ := hsp rfl
    have hv : w.has P r base a e cap0 := by
      simp only [Value.okWide, ht, Cell.okWide, Cell.ok] at hval
      exact hval.2.2
    obtain ⟨_, hspot, row, cells, hsh, hli⟩ := hv
    obtain ⟨b, off, spot⟩ := a
    simp only at hspot hsh hli
    subst hspot
    obtain ⟨cs, z, hh, hcs⟩ : ∃ cs z, w.heap[b]? = some (.cells cs row z) ∧ cs.size = cells := by
      unfold World.shape? at hsh
      split at hsh
      · rename_i c el z hh
        simp only [Option.some.injEq, Prod.mk.injEq] at hsh
        exact ⟨c, z, by rw [hh, hsh.1], hsh.2⟩
      · cases hsh
    -- each element
    have each : ∀ i, i < cap0 → ∃ u v, cs[off + 2 * i]? = some (.int kd u) ∧ cs[off + (2 * i + 1)]? = some (.int kd v) ∧ (Lit.int kd u).wf = true ∧ (Lit.int kd v).wf = true := by
      intro i hi
      have hb' : ∃ y, (w.cells? 0 ((⟨b, off, none⟩ : Addr).add (i * P.cellsOf e)) (P.cellsOf e)).bind (DataW.trod enc P w 0 (fun _ => true) true n e) = some y := by
        by_cases c : i < len0
        · exact ⟨_, (hel i c).trans (List.getElem?_eq_getElem (by omega))⟩
        · have := hr (i - len0) (by omega)
          rw [show len0 + (i - len0) = i by omega] at this
          exact ⟨_, this.trans (List.getElem?_eq_getElem (by omega))⟩
      obtain ⟨y, hy⟩ := hb'
      rw [hC, Option.bind_eq_some_iff] at hy
      obtain ⟨cs', hcs', hy⟩ := hy
      obtain ⟨_, q2, q3⟩ := World.cells?_some hcs'
      obtain ⟨u, v, rfl, w0, w1, _⟩ := two_ints hs hone h0 h1 q2 hy
      have p0 := q3 0 (by omega)
      have p1 := q3 1 (by omega)
      rw [add_plain, add_plain] at p0 p1
      unfold World.cell? at p0 p1
      simp only [hh] at p0 p1
      refine ⟨u, v, ?_, ?_, w0, w1⟩
      · rw [show off + 2 * i = off + i * 2 + 0 by omega]
        simpa using p0
      · rw [show off + (2 * i + 1) = off + i * 2 + 1 by omega]
        simpa using p1
    have places : ∀ y ∈ elems ++ rest, y.2 = [] := by
      intro y hy
      obtain ⟨i, hi⟩ := List.getElem?_of_mem hy
      have hb' : (w.cells? 0 ((⟨b, off, none⟩ : Addr).add (i * P.cellsOf e)) (P.cellsOf e)).bind (DataW.trod enc P w 0 (fun _ => true) true n e) = some y := by
        by_cases c : i < len0
        · rw [hel i c, ← hi, List.getElem?_append_left (by omega)]
        · have hlt := (List.getElem?_eq_some_iff.1 hi).1
          rw [List.length_append] at hlt
          have := hr (i - len0) (by omega)
          rw [show len0 + (i - len0) = i by omega] at this
          rw [this, ← hi, List.getElem?_append_right (by omega), hlen]
      rw [hC, Option.bind_eq_some_iff] at hb'
      obtain ⟨cs', hcs', hy⟩ := hb'
      obtain ⟨_, q2, _⟩ := World.cells?_some hcs'
      obtain ⟨_, _, _, _, _, q⟩ := two_ints hs hone h0 h1 q2 hy
      exact q
    have flat : ∀ i, i < 2 * cap0 → ∃ u, cs[off + i]? = some (.int kd u) ∧ (Lit.int kd u).wf = true := by
      intro i hi
      obtain ⟨u, v, e0, e1, w0, w1⟩ := each (i / 2) (by omega)
      rcases Nat.mod_two_eq_zero_or_one i with c | c
      · exact ⟨u, by rw [show off + i = off + 2 * (i / 2) by omega]; exact e0, w0⟩
      · exact ⟨v, by rw [show off + i = off + (2 * (i / 2) + 1) by omega]; exact e1, w1⟩
    have hoff : off ≤ cs.size := by
      have := liesAt_le _ _ _ _ _ _ hli
      have h2 := Nat.div_mul_le_self cells (P.cellsOf row)
      omega
    let zs : List Int := (List.range (2 * cap0)).map fun i => match cs[off + i]? with | some (.int _ u) => u | _ => 0
    have hz : zs.length = 2 * cap0 := by simp [zs]
    have hget : ∀ i, i < 2 * cap0 → cs[off + i]? = some (.int kd (zs.getD i 0)) ∧ (Lit.int kd (zs.getD i 0)).wf = true := by
      intro i hi
      obtain ⟨u, e1, w1⟩ := flat i hi
      have : zs.getD i 0 = u := by
        simp only [zs, List.getD, List.getElem?_map, List.getElem?_range hi, Option.map_some, Option.getD_some, e1]
      rw [this]
      exact ⟨e1, w1⟩
    have room : off + zs.length ≤ cs.size := by
      rw [hz]
      rcases Nat.eq_zero_or_pos cap0 with c | c
      · omega
      · have := (hget (2 * cap0 - 1) (by omega)).1
        have := (Array.getElem?_eq_some_iff.1 this).1
        omega
    refine .inr ⟨b, off, len0, cap0, cs, zs, _, _, rfl, hl, hz, hm, ⟨⟨_, _, hh⟩, room, fun i hi => (hget i (hz ▸ hi)).1, fun m hmem => ?_⟩, g2.1, by simp; omega, fun q hq => ?_⟩
    rotate_left
    · rw [g2.2] at hq
      rcases List.mem_append.1 hq with hq | hq
      · obtain ⟨_, _, e⟩ := MemPlace.mem_row.1 hq
        rw [e]
        simp only [MemPlace.block]
      · obtain ⟨y, hy, hq⟩ := List.mem_flatMap.1 hq
        rw [places y hy] at hq
        cases hq
    obtain ⟨i, hi, rfl⟩ := List.mem_iff_getElem.1 hmem
    have := (hget i (hz ▸ hi)).2
    simpa [List.getD, List.getElem?_eq_getElem hi] using this
end
/-- a row's cells in a small memory: what is ahead of it is the world's own -/
def rowK (kd : IntKind) (cs : Array Value) (off : Nat) (zs : List Int) : List Value := (cs.toList.take off).map (Value.iface dead) ++ zs.map (Value.int kd)
theorem rowK_still (kd : IntKind) (cs : Array Value) (off : Nat) (zs : List Int) : ∀ v ∈ rowK kd cs off zs, still v = true := fun v hv => by
  unfold rowK at hv
  rcases List.mem_append.1 hv with h | h
  · obtain ⟨x, _, rfl⟩ := List.mem_map.1 h; rfl
  · obtain ⟨x, _, rfl⟩ := List.mem_map.1 h; rfl
theorem rowK_lie {w : World} {kd : IntKind} {b off : Nat} {cs : Array Value} {zs : List Int} (h : LainK w kd b off cs zs) {e : TypeId} (he : ro e = true) (m : Mp) : lie w (b, cs.size) ((rowK kd cs off zs).map (mv1 m)) e := by
  obtain ⟨ty, z, hh⟩ := h.heap
  have hroom := h.room
  have e1 : (rowK kd cs off zs).map (mv1 m) = cs.toList.take (off + zs.length) := by
    apply List.ext_getElem?
    intro i
    unfold rowK
    rw [List.map_append, List.map_map, List.map_map, List.getElem?_take]
    have hlen : ((cs.toList.take off).map (mv1 m ∘ Value.iface dead)).length = off := by simp; omega
    by_cases hi : i < off
    · rw [List.getElem?_append_left (by omega), if_pos (by omega), List.getElem?_map, List.getElem?_take, if_pos hi]
      cases hx : cs.toList[i]? with
      | none => rfl
      | some x => simp [mv1]
    · rw [List.getElem?_append_right (by omega), hlen]
      by_cases hj : i < off + zs.length
      · rw [if_pos hj, List.getElem?_map]
        have hc := h.cell (i - off) (by omega)
        rw [show off + (i - off) = i by omega] at hc
        have hz : zs[i - off]? = some (zs.getD (i - off) 0) := by
          rw [List.getElem?_eq_getElem (by omega)]
          simp [List.getD, List.getElem?_eq_getElem (show i - off < zs.length by omega)]
        rw [hz]
        simp only [Option.map_some, Function.comp, mv1]
        rw [← hc]
        simp
      · rw [if_neg hj, List.getElem?_eq_none (by simp; omega)]
  refine ⟨cs.toList.drop (off + zs.length), (ty, z), ?_, ?_, fun h0 => by rw [he] at h0; cases h0⟩
  · rw [e1]; simp; omega
  · rw [e1, List.take_append_drop]; exact hh
theorem rowK_len {w : World} {kd : IntKind} {b off : Nat} {cs : Array Value} {zs : List Int} (h : LainK w kd b off cs zs) : (rowK kd cs off zs).length = off + zs.length := by
  have := h.room
  unfold rowK
  simp
  omega
end Go.KRun
namespace Go.Proofs.YtjkgnbdeklploaaGreatDoor
open Go.RowKit Go.Extern.Stop Go.Stop Go.Extern
/-! ### what the model's entries for internal/reflectlite answer at these types -/
theorem as_valueOfP (t : Addr) (w : World) : (ReflectliteValue.unpack (.iface 49 (.pointer (some t)))).run Tryz.prog w
    = .ok (.agg #[.pointer (some ⟨3, 49, none⟩), .pointer (some ⟨w.heap.size, 0, none⟩), .int .u64 150]) (w.alloc (.cells #[.pointer (some t)] 49)) := by kernel_rfl
theorem as_typeP (a : Addr) (w : World) : (ReflectliteValue.methodAny (ReflectliteValue.valueError "reflectlite.Value.Type" 0) (fun t _ _ _ => ReflectliteType.toType t) #[.agg #[.pointer (some ⟨3, 49, none⟩), .pointer (some a), .int .u64 150]]).run Tryz.prog w
    = .ok (.iface 93 (.agg #[.pointer (some ⟨3, 49, none⟩)])) w := by kernel_rfl
theorem as_methodKind (h : Value) (w : World) : (Go.method 358 93 (.agg #[h]) "Kind").run Tryz.prog w = .ok (193, h) w := by kernel_rfl
theorem as_kindP (w : World) : ((ReflectliteType.abiMethod fun t => (fun a : Nat => Value.int IntKind.u8 (a : Int)) <$> Rtype.kind t) #[.pointer (some ⟨3, 49, none⟩)]).run Tryz.prog w = .ok (.int .u8 22) w := by kernel_rfl
theorem as_kindE (w : World) : ((ReflectliteType.abiMethod fun t => (fun a : Nat => Value.int IntKind.u8 (a : Int)) <$> Rtype.kind t) #[.pointer (some ⟨3, 44, none⟩)]).run Tryz.prog w = .ok (.int .u8 2) w := by kernel_rfl
theorem as_rlm (z : Sem Value) (f : TypeId → Addr → Nat → Nat → Sem Value) (v : Value) :
    ReflectliteValue.method z f #[v] = (do match ← ReflectliteValue.parts v with | none => z | some (t, a, fl) => f t a fl (fl % 32)) := rfl
theorem as_partsP (a : Addr) (w : World) : (ReflectliteValue.parts (.agg #[.pointer (some ⟨3, 49, none⟩), .pointer (some a), .int .u64 150])).run Tryz.prog w = .ok (some (49, a, 150)) w := by kernel_rfl
theorem as_isNilP (a p : Addr) (W : World) (ha : W.cell? a = some (.pointer (some p))) :
    (ReflectliteValue.method (ReflectliteValue.valueError "reflectlite.Value.IsNil" 0) ReflectliteValue.isNil #[.agg #[.pointer (some ⟨3, 49, none⟩), .pointer (some a), .int .u64 150]]).run Tryz.prog W = .ok (.bool false) W := by
  rw [as_rlm]
  simp only [Sem.run_bind, as_partsP, Result.andThen]
  simp [ReflectliteValue.isNil, loadVar, isAgg, underlying, Tryz.underlying49, ha, Result.andThen]
theorem as_methodElem (h : Value) (w : World) : (Go.method 358 93 (.agg #[h]) "Elem").run Tryz.prog w = .ok (203, .agg #[h]) w := by kernel_rfl
theorem as_methodImplements (h : Value) (w : World) : (Go.method 358 93 (.agg #[h]) "Implements").run Tryz.prog w = .ok (204, .agg #[h]) w := by kernel_rfl
theorem as_methodAssignableTo (h : Value) (w : World) : (Go.method 358 93 (.agg #[h]) "AssignableTo").run Tryz.prog w = .ok (201, .agg #[h]) w := by kernel_rfl
theorem as_elemP (w : World) : (ReflectliteType.method ReflectliteType.elem #[.agg #[.pointer (some ⟨3, 49, none⟩)]]).run Tryz.prog w = .ok (.iface 93 (.agg #[.pointer (some ⟨3, 44, none⟩)])) w := by kernel_rfl
theorem as_implementsE (w : World) : (ReflectliteType.relation "Implements" ReflectliteType.implements_ #[.agg #[.pointer (some ⟨3, 44, none⟩)], .iface 93 (.agg #[.pointer (some ⟨3, 26, none⟩)])]).run Tryz.prog w = .ok (.bool true) w := by kernel_rfl
theorem as_typeOfE (v : Value) (w : World) : (ReflectliteType.typeOf #[.iface 44 v]).run Tryz.prog w = .ok (.iface 93 (.agg #[.pointer (some ⟨3, 44, none⟩)])) w := by kernel_rfl
theorem as_assignableE (w : World) : (ReflectliteType.relation "AssignableTo" ReflectliteType.assignableTo #[.agg #[.pointer (some ⟨3, 44, none⟩)], .iface 93 (.agg #[.pointer (some ⟨3, 44, none⟩)])]).run Tryz.prog w = .ok (.bool true) w := by kernel_rfl
theorem as_valueOfE (n : Int) (w : World) : (ReflectliteValue.unpack (.iface 44 (.int .i64 n))).run Tryz.prog w
    = .ok (.agg #[.pointer (some ⟨3, 44, none⟩), .pointer (some ⟨w.heap.size, 0, none⟩), .int .u64 130]) (w.alloc (.cells #[.int .i64 n] 44)) := by kernel_rfl
theorem as_elemOfP (w : World) : (Rtype.elem? 49).run Tryz.prog w = .ok (some 44) w := by kernel_rfl
theorem as_mkE (p : Addr) (w : World) : (ReflectliteValue.mk 44 p ReflectliteValue.flagAddr).run Tryz.prog w = .ok (.agg #[.pointer (some ⟨3, 44, none⟩), .pointer (some p), .int .u64 386]) w := by kernel_rfl
theorem as_elemVP (a p : Addr) (W : World) (ha : W.cell? a = some (.pointer (some p))) :
    (ReflectliteValue.method (ReflectliteValue.valueError "reflectlite.Value.Elem" 0) ReflectliteValue.elem #[.agg #[.pointer (some ⟨3, 49, none⟩), .pointer (some a), .int .u64 150]]).run Tryz.prog W
      = .ok (.agg #[.pointer (some ⟨3, 44, none⟩), .pointer (some p), .int .u64 386]) W := by
  rw [as_rlm]
  simp only [Sem.run_bind, as_partsP, Result.andThen]
  simp [ReflectliteValue.elem, loadVar, isAgg, underlying, Tryz.underlying49, ha, Result.andThen, as_elemOfP, as_mkE]
theorem as_partsEa (a : Addr) (w : World) : (ReflectliteValue.parts (.agg #[.pointer (some ⟨3, 44, none⟩), .pointer (some a), .int .u64 386])).run Tryz.prog w = .ok (some (44, a, 386)) w := by kernel_rfl
theorem as_partsE (a : Addr) (w : World) : (ReflectliteValue.parts (.agg #[.pointer (some ⟨3, 44, none⟩), .pointer (some a), .int .u64 130])).run Tryz.prog w = .ok (some (44, a, 130)) w := by kernel_rfl
theorem as_directE (w : World) : (Rtype.directlyAssignable 44 44).run Tryz.prog w = .ok true w := by kernel_rfl
theorem as_setE (ta b : Addr) (n : Int) (old : Value) (W : World) (hb : W.cell? b = some (.int .i64 n)) (ht : W.cell? ta = some old) (hf : W.frozen? ta = false) :
    (ReflectliteValue.set #[.agg #[.pointer (some ⟨3, 44, none⟩), .pointer (some ta), .int .u64 386], .agg #[.pointer (some ⟨3, 44, none⟩), .pointer (some b), .int .u64 130]]).run Tryz.prog W
      = .ok (.tuple #[]) (W.setCell ta (.int .i64 n)) := by
  have e : ∀ v x : Value, ReflectliteValue.set #[v, x] = (ReflectliteValue.parts v >>= fun p => ReflectliteValue.parts x >>= fun q => _) := fun _ _ => rfl
  rw [e]
  simp only [Sem.run_bind, as_partsEa, as_partsE, Result.andThen]
  simp [ReflectliteValue.flagAddr, loadVar, isAgg, underlying, Tryz.underlying44, hb, Result.andThen, as_directE, storeVar, Value.cells, storeCells, Addr.add]
  rw [run_store Tryz.prog W ta _ _ (by rfl)]
  simp [ht, hf]
/-- what lies in the variable errors.errorType -/
def errT : Value := .iface 93 (.agg #[.pointer (some ⟨3, 26, none⟩)])
/-- the world behind the call -/
def asW (n : Int) (t : Addr) (w : World) : World := ((((w.alloc (.cells #[.pointer (some t)] 49)).alloc (.cells #[.pointer (some ⟨3, 49, none⟩), .pointer (some ⟨w.heap.size, 0, none⟩), .int .u64 150] 65)).alloc (.cells #[.pointer (some ⟨3, 49, none⟩), .pointer (some ⟨w.heap.size, 0, none⟩), .int .u64 150] 65)).alloc (.cells #[.int .i64 n] 44)).setCell t (.int .i64 n)
set_option maxHeartbeats 4000000 in
theorem as_hit (n : Int) (t : Addr) (old : Value) (w : World) (hg : w.cell? ⟨0, 0, none⟩ = some (.iface 93 (.agg #[.pointer (some ⟨3, 26, none⟩)]))) (ht0 : w.cell? t = some old) (hf0 : w.frozen? t = false) :
    Calls Tryz.prog 19 #[.iface 44 (.int .i64 n), .iface 49 (.pointer (some t))] w fun ev w' => ev = .returned (.bool true) ∧ w' = ((((w.alloc (.cells #[.pointer (some t)] 49)).alloc (.cells #[.pointer (some ⟨3, 49, none⟩), .pointer (some ⟨w.heap.size, 0, none⟩), .int .u64 150] 65)).alloc (.cells #[.pointer (some ⟨3, 49, none⟩), .pointer (some ⟨w.heap.size, 0, none⟩), .int .u64 150] 65)).alloc (.cells #[.int .i64 n] 44)).setCell t (.int .i64 n) := by
  have h6 := @run_callFunc_extern Tryz.prog 29 _ (fun args => ReflectliteValue.unpack (args.getD 0 (.tuple #[]))) Tryz.func29 (by kernel_rfl) (by kernel_rfl) (by kernel_rfl) (by kernel_rfl)
  have h7 := @run_callFunc_extern Tryz.prog 30 _ (ReflectliteValue.methodAny (ReflectliteValue.valueError "reflectlite.Value.Type" 0) (fun t _ _ _ => ReflectliteType.toType t)) Tryz.func30 (by kernel_rfl) (by kernel_rfl) (by kernel_rfl) (by kernel_rfl)
  have h8 := @run_callFunc_extern Tryz.prog 31 _ (ReflectliteValue.method (ReflectliteValue.valueError "reflectlite.Value.IsNil" 0) ReflectliteValue.isNil) Tryz.func31 (by kernel_rfl) (by kernel_rfl) (by kernel_rfl) (by kernel_rfl)
  have h27 := @run_callFunc_extern Tryz.prog 193 _ (ReflectliteType.abiMethod fun t => do pure (.int .u8 (← Rtype.kind t))) Tryz.func193 (by kernel_rfl) (by kernel_rfl) (by kernel_rfl) (by kernel_rfl)
  have h37 := @run_callFunc_extern Tryz.prog 203 _ (ReflectliteType.method ReflectliteType.elem) Tryz.func203 (by kernel_rfl) (by kernel_rfl) (by kernel_rfl) (by kernel_rfl)
  have h38 := @run_callFunc_extern Tryz.prog 204 _ (ReflectliteType.relation "Implements" ReflectliteType.implements_) Tryz.func204 (by kernel_rfl) (by kernel_rfl) (by kernel_rfl) (by kernel_rfl)
  have h10 := @run_callFunc_extern Tryz.prog 46 _ ReflectliteType.typeOf Tryz.func46 (by kernel_rfl) (by kernel_rfl) (by kernel_rfl) (by kernel_rfl)
  have h35 := @run_callFunc_extern Tryz.prog 201 _ (ReflectliteType.relation "AssignableTo" ReflectliteType.assignableTo) Tryz.func201 (by kernel_rfl) (by kernel_rfl) (by kernel_rfl) (by kernel_rfl)
  have h11 := @run_callFunc_extern Tryz.prog 47 _ (ReflectliteValue.method (ReflectliteValue.valueError "reflectlite.Value.Elem" 0) ReflectliteValue.elem) Tryz.func47 (by kernel_rfl) (by kernel_rfl) (by kernel_rfl) (by kernel_rfl)
  have h12 := @run_callFunc_extern Tryz.prog 48 _ ReflectliteValue.set Tryz.func48 (by kernel_rfl) (by kernel_rfl) (by kernel_rfl) (by kernel_rfl)
  have tO := as_typeOfE
  have mA := as_methodAssignableTo
  have aE := as_assignableE
  have vE := as_valueOfE
  have f6 := as_valueOfP
  have f7 := as_typeP
  have mK := as_methodKind
  have mE := as_methodElem
  have mI := as_methodImplements
  have kP := as_kindP
  have kE := as_kindE
  have eP := as_elemP
  have iE := as_implementsE
  have n8 := as_isNilP ⟨w.heap.size, 0, none⟩ t ((w.alloc (.cells #[.pointer (some t)] 49)).alloc (.cells #[.pointer (some ⟨3, 49, none⟩), .pointer (some ⟨w.heap.size, 0, none⟩), .int .u64 150] 65)) (by simp)
  have hlt : 0 < w.heap.size := by
    rcases Nat.eq_zero_or_pos w.heap.size with h0 | h
    · simp [World.cell?, h0] at hg
    · exact h
  have hg2 : ((w.alloc (.cells #[.pointer (some t)] 49)).alloc (.cells #[.pointer (some ⟨3, 49, none⟩), .pointer (some ⟨w.heap.size, 0, none⟩), .int .u64 150] 65)).cell? ⟨0, 0, none⟩ = some (.iface 93 (.agg #[.pointer (some ⟨3, 26, none⟩)])) := by
    rw [World.cell?_alloc_lt _ _ ⟨0, 0, none⟩ (by simp), World.cell?_alloc_lt _ _ ⟨0, 0, none⟩ hlt]; exact hg
  have htl : t.block < w.heap.size := by
    rcases Nat.lt_or_ge t.block w.heap.size with h | h
    · exact h
    · simp [World.cell?, Array.getElem?_eq_none h] at ht0
  have el := as_elemVP ⟨w.heap.size, 0, none⟩ t (((w.alloc (.cells #[.pointer (some t)] 49)).alloc (.cells #[.pointer (some ⟨3, 49, none⟩), .pointer (some ⟨w.heap.size, 0, none⟩), .int .u64 150] 65)).alloc (.cells #[.pointer (some ⟨3, 49, none⟩), .pointer (some ⟨w.heap.size, 0, none⟩), .int .u64 150] 65)) (by rw [World.cell?_alloc_lt _ _ ⟨w.heap.size, 0, none⟩ (by simp; omega)]; simp)
  have st := as_setE t ⟨w.heap.size + 1 + 1 + 1, 0, none⟩ n old ((((w.alloc (.cells #[.pointer (some t)] 49)).alloc (.cells #[.pointer (some ⟨3, 49, none⟩), .pointer (some ⟨w.heap.size, 0, none⟩), .int .u64 150] 65)).alloc (.cells #[.pointer (some ⟨3, 49, none⟩), .pointer (some ⟨w.heap.size, 0, none⟩), .int .u64 150] 65)).alloc (.cells #[.int .i64 n] 44))
    (by rw [World.cell?_alloc_at _ _ _ _ (by simp)]; rfl)
    (by rw [World.cell?_alloc_lt _ _ t (by simp; omega), World.cell?_alloc_lt _ _ t (by simp; omega), World.cell?_alloc_lt _ _ t (by simp; omega), World.cell?_alloc_lt _ _ t htl]; exact ht0)
    (by rw [World.frozen?_alloc_old _ _ t (by simp; omega), World.frozen?_alloc_old _ _ t (by simp; omega), World.frozen?_alloc_old _ _ t (by simp; omega), World.frozen?_alloc_old _ _ t (Nat.ne_of_lt htl)]; exact hf0)
  go_enter Tryz.func19, Tryz.ntmps19
  go_wp2
  refine wp_loop_rounds 1 ?_
  rw [rounds_succ]
  go_wp2
  go_ret
  exact ⟨rfl, rfl⟩
end Go.Proofs.YtjkgnbdeklploaaGreatDoor
namespace Go.Proofs.YtjkgnbdeklploaaGreatDoor
open Go.KRun Go.RowKit
set_option maxRecDepth 100000
def known (w : World) : Prop := w.cell? ⟨0, 0, none⟩ = some errT
set_option maxHeartbeats 4000000 in
theorem num_calls (n : Int) (w : World) (hg : known w) : Calls Tryz.prog 10 #[.iface 44 (.int .i64 n)] w fun e w' => e = .returned (.int .i64 n) ∧ Tidy w w' := by
  have hlt : 0 < w.heap.size := by
    rcases Nat.eq_zero_or_pos w.heap.size with h0 | h
    · unfold known at hg
      simp [World.cell?, h0] at hg
    · exact h
  have hg1 : (w.alloc (.cells #[.int .i64 0] 44)).cell? ⟨0, 0, none⟩ = some errT := by
    rw [World.cell?_alloc_lt _ _ ⟨0, 0, none⟩ hlt]; exact hg
  have ht1 : (w.alloc (.cells #[.int .i64 0] 44)).cell? ⟨w.heap.size, 0, none⟩ = some (.int .i64 0) := by simp
  have hf1 : (w.alloc (.cells #[.int .i64 0] 44)).frozen? ⟨w.heap.size, 0, none⟩ = false := by simp
  have hit := as_hit n ⟨w.heap.size, 0, none⟩ (.int .i64 0) _ hg1 ht1 hf1
  have hb : (w.alloc (.cells #[.int .i64 0] 44)).heap[w.heap.size]? = some (.cells #[.int .i64 0] 44 (0, 0)) := heap_alloc_at w _
  have hcell : (asW n ⟨w.heap.size, 0, none⟩ (w.alloc (.cells #[.int .i64 0] 44))).cell? ⟨w.heap.size, 0, none⟩ = some (.int .i64 n) ∧ Tidy w (asW n ⟨w.heap.size, 0, none⟩ (w.alloc (.cells #[.int .i64 0] 44))) := by
    unfold asW
    have t1 := tidy_alloc w #[.int .i64 0] 44
    generalize hw1 : w.alloc (.cells #[.int .i64 0] 44) = w1 at *
    have s1 : w.heap.size < w1.heap.size := by rw [← hw1, size_alloc']; omega
    have t2 := tidy_alloc w1 #[.pointer (some ⟨w.heap.size, 0, none⟩)] 49
    have q2 := heap_alloc_ne w1 (.cells #[.pointer (some ⟨w.heap.size, 0, none⟩)] 49) w.heap.size (by omega)
    have s2 := size_alloc' w1 (.cells #[.pointer (some ⟨w.heap.size, 0, none⟩)] 49)
    generalize w1.alloc (.cells #[.pointer (some ⟨w.heap.size, 0, none⟩)] 49) = w2 at *
    have t3 := tidy_alloc w2 #[.pointer (some ⟨3, 49, none⟩), .pointer (some ⟨w1.heap.size, 0, none⟩), .int .u64 150] 65
    have q3 := heap_alloc_ne w2 (.cells #[.pointer (some ⟨3, 49, none⟩), .pointer (some ⟨w1.heap.size, 0, none⟩), .int .u64 150] 65) w.heap.size (by omega)
    have s3 := size_alloc' w2 (.cells #[.pointer (some ⟨3, 49, none⟩), .pointer (some ⟨w1.heap.size, 0, none⟩), .int .u64 150] 65)
    generalize w2.alloc (.cells #[.pointer (some ⟨3, 49, none⟩), .pointer (some ⟨w1.heap.size, 0, none⟩), .int .u64 150] 65) = w3 at *
    have t4 := tidy_alloc w3 #[.pointer (some ⟨3, 49, none⟩), .pointer (some ⟨w1.heap.size, 0, none⟩), .int .u64 150] 65
    have q4 := heap_alloc_ne w3 (.cells #[.pointer (some ⟨3, 49, none⟩), .pointer (some ⟨w1.heap.size, 0, none⟩), .int .u64 150] 65) w.heap.size (by omega)
    have s4 := size_alloc' w3 (.cells #[.pointer (some ⟨3, 49, none⟩), .pointer (some ⟨w1.heap.size, 0, none⟩), .int .u64 150] 65)
    generalize w3.alloc (.cells #[.pointer (some ⟨3, 49, none⟩), .pointer (some ⟨w1.heap.size, 0, none⟩), .int .u64 150] 65) = w4 at *
    have t5 := tidy_alloc w4 #[.int .i64 n] 44
    have q5 := heap_alloc_ne w4 (.cells #[.int .i64 n] 44) w.heap.size (by omega)
    generalize w4.alloc (.cells #[.int .i64 n] 44) = w5 at *
    have hb5 : w5.heap[w.heap.size]? = some (.cells #[.int .i64 0] 44 (0, 0)) := by rw [q5, q4, q3, q2]; exact hb
    exact ⟨cell_of_one (one_setCell hb5), tidy_setCell (tidy_trans t1 (tidy_trans t2 (tidy_trans t3 (tidy_trans t4 t5)))) (Nat.le_refl _) hb5 _⟩
  obtain ⟨W', hc1, hc2, hit'⟩ : ∃ W' : World, W'.cell? ⟨w.heap.size, 0, none⟩ = some (.int .i64 n) ∧ Tidy w W' ∧ Calls Tryz.prog 19 #[.iface 44 (.int .i64 n), .iface 49 (.pointer (some ⟨w.heap.size, 0, none⟩))] (w.alloc (.cells #[.int .i64 0] 44)) fun ev w' => ev = .returned (.bool true) ∧ w' = W' := ⟨_, hcell.1, hcell.2, hit⟩
  clear hit hcell hb hf1 ht1 hg1 hlt hg
  go_enter Tryz.func10, Tryz.ntmps10
  go_wp2_with (go_at_call 19; refine hit'.mono ?_; rintro e w' ⟨rfl, rfl⟩)
  go_ret
  exact ⟨rfl, hc2⟩
def eqA : List Value → Bool
  | [.pointer (some ⟨g, e, none⟩)] => Nat.beq g 3 && Nat.beq e 26
  | _ => false
def eqE : Value → Bool
  | .iface r (.agg a) => Nat.beq r 93 && eqA a.toList
  | _ => false
def kOk : List Value → Bool
  | [.iface d v] => Nat.beq d dead && eqE v
  | _ => false
def kV : List Value := [.iface dead errT]
def kT : TypeId := 3 * dead
theorem eqE_spec {v : Value} (h : eqE v = true) : v = errT := by
  unfold eqE at h
  split at h
  · rename_i r a
    simp only [Bool.and_eq_true] at h
    obtain ⟨h1, h2⟩ := h
    have h1 := Nat.eq_of_beq_eq_true h1
    unfold eqA at h2
    split at h2
    · rename_i g e ha
      simp only [Bool.and_eq_true] at h2
      have h3 := Nat.eq_of_beq_eq_true h2.1
      have h4 := Nat.eq_of_beq_eq_true h2.2
      have ea : a = #[.pointer (some ⟨g, e, none⟩)] := by
        apply Array.toList_inj.1
        rw [ha]
      rw [ea, h1, h3, h4]
      rfl
    · cases h2
  · cases h
theorem kOk_spec {cs : List Value} (h : kOk cs = true) : cs = kV := by
  unfold kOk at h
  split at h
  · rename_i d v
    simp only [Bool.and_eq_true] at h
    rw [Nat.eq_of_beq_eq_true h.1, eqE_spec h.2]
    rfl
  · cases h
def gNum : AnsH := fun vals h s =>
  match vals, h.blk? 0 with
  | [.iface t (.int .i64 n)], some (cs, ty) => some (.int .i64 n, h, s, [(Nat.beq t 44 && Nat.beq ty kT && kOk cs, true)])
  | _, _ => none
theorem known_of_blk {w : World} {r : List Value} {t : TypeId} {z : Nat × Nat} (h : w.heap[0]? = some (.cells (errT :: r).toArray t z)) : known w := by
  unfold known World.cell?
  simp [h]
theorem gNum_ok : AnsHOk 10 gNum := by
  intro vals h s v h' s' lg hg hl m B w E hv
  unfold gNum at hg
  split at hg
  · rename_i t n cs ty hb
    cases hg
    have h1 := hl _ (List.mem_singleton.2 rfl)
    simp only [Bool.and_eq_true] at h1
    obtain ⟨⟨e1, e2⟩, e3⟩ := h1
    have e1 := Nat.eq_of_beq_eq_true e1
    have e2 := Nat.eq_of_beq_eq_true e2
    have e3 := kOk_spec e3
    subst e1 e2 e3
    obtain ⟨_, r, t', z, k2, _⟩ := (E.abs 0 _ hb (by kernel_rfl)).1 (by kernel_rfl)
    have hk : known w := known_of_blk (r := r) (t := t') (z := z) (by
      have e4 : kV.map (mv1 m) = [errT] := by rfl
      have e5 : nbA kT = 0 := by kernel_rfl
      rw [e4] at k2
      simp only [e5] at k2
      exact k2)
    refine (num_calls n w hk).mono fun e w' he => ?_
    obtain ⟨E', hb'⟩ := clean_emb E he.2
    exact ⟨m, he.1, ⟨Agree.refl _ _, E', hb', Nat.le_refl _, rfl⟩⟩
  · cases hg
def hK : Hp := ⟨1, [(kV, kT)]⟩
theorem blkK {b : Nat} {x : List Value × TypeId} (h : hK.blk? b = some x) : x = (kV, kT) := by
  have hb0 : b = 0 := by have : b < 1 := Hp.blk_lt h; omega
  subst hb0
  exact (Option.some.inj h).symm
theorem startK {w : World} (hk : known w) : Emb (fun b => (b, 0)) w.heap.size hK w where
  len := rfl
  lies := fun b x hb hx => by rw [blkK hb, show tomb kT = true from by kernel_rfl] at hx; cases hx
  low := fun b x hb hx => by rw [blkK hb, show ro kT = true from by kernel_rfl] at hx; cases hx
  ros := fun b x hb hx => by rw [blkK hb, show tomb kT = true from by kernel_rfl] at hx; cases hx
  inj := fun b b' x x' hb _ hx => by rw [blkK hb, show ro kT = true from by kernel_rfl] at hx; cases hx
  wf := fun b x hb v hv => by
    rw [blkK hb] at hv
    rw [List.mem_singleton.1 hv]
    rfl
  base := Nat.le_refl _
  ice := fun k h1 h2 => by omega
  abs := fun b x hb _ => by
    rw [blkK hb]
    refine .of (by kernel_rfl) ?_
    have e5 : nbA kT = 0 := by kernel_rfl
    have e6 : lnA kT = 0 := by kernel_rfl
    have e4 : kV.map (mv1 fun b => (b, 0)) = [errT] := by rfl
    unfold absR
    simp only [e5, e4, e6]
    unfold known World.cell? at hk
    simp only at hk
    cases h0 : w.heap[0]? with
    | none => rw [h0] at hk; simp at hk
    | some o =>
      have hlt := (Array.getElem?_eq_some_iff.1 h0).1
      rw [h0] at hk
      cases o with
      | cells c t z =>
        refine ⟨hlt, c.toList.drop 1, t, z, ?_, .inl trivial⟩
        have hc : c.toList[0]? = some errT := by simpa using hk
        have : [errT] ++ c.toList.drop 1 = c.toList := by
          cases hl : c.toList with
          | nil => rw [hl] at hc; simp at hc
          | cons a l =>
            rw [hl] at hc
            simp at hc
            simp [hc]
        rw [this]
      | _ => simp at hk
end Go.Proofs.YtjkgnbdeklploaaGreatDoor
