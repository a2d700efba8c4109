/-
  nat.Of as a contract; what is known of calls, for nat.Pow.
-/
import Derived.Test.YtecemjilmlagdaaDoorG09
import Derived.Test.YtecemjilmlagdaaDoorG35
import Derived.Test.YtecemjilmlagdaaDoorG22
import Derived.Test.YtecemjilmlagdaaDoorG16
import Derived.Test.YtecemjilmlagdaaDoorG17
namespace Go.Proofs.YtecemjilmlagdaaDoor
open Go.KRun Go.Nt
set_option maxRecDepth 100000
set_option linter.unusedVariables false

def o2 (x : Int) : List Int := [IntKind.u32.wrap x, IntKind.u32.wrap (x.fdiv (2 ^ min (32 : Int).toNat 64))]
theorem of_go (x : Int) : GoesT (evC (tabH Tryd.prog extY conN hcOf) 100 false (cBody Tryd.f51) ([.int .u64 x] ++ List.replicate 9 undef, ⟨0, []⟩, []) ⟨[], [], []⟩) 3 7 (some none) [.int .u64 x, .tuple #[], sl 0 0 (trimN (cutI (wU (o2 x)) 0 2)) 2] ⟨1, [(wU (o2 x), tU)]⟩ [(rowOk tU (wU (o2 x)) 0 2 2, true), (decide ((32 : Int) < 0), false)] := ⟨by kernel_rfl, by kernel_rfl, by kernel_rfl⟩
theorem o2_eq {x : Int} (h0 : 0 ≤ x) (h1 : x < 18446744073709551616) : o2 x = dg 2 x := by
  have e : (2 : Int) ^ min (32 : Int).toNat 64 = 4294967296 := rfl
  unfold o2
  rw [e, Int.fdiv_eq_ediv_of_nonneg _ (by omega)]
  simp only [dg]
  have w : ∀ z : Int, IntKind.u32.wrap z = z % 4294967296 := fun z => by simp [IntKind.wrap, IntKind.bits, IntKind.signed]
  rw [w, w]
def gOfX : AnsH := fun vals h s =>
  match vals with
  | [.int .u64 x] => some (sl h.n 0 (trimN (dg 2 x)) 2, h.push (wU (dg 2 x)) tU, s, [(decide (0 ≤ x ∧ x < 18446744073709551616), true)])
  | _ => none
theorem gOfX_ok : AnsHOk 51 gOfX := by
  intro vals h s v h' s' lg hg hl m B w E hv
  have hr0 : (⟨0, []⟩ : Hp).rows := ⟨rfl, fun b x hx => by have : b < 0 := Hp.blk_lt hx; omega⟩
  unfold gOfX at hg
  split at hg
  · rename_i x
    cases hg
    have q := of_decide_eq_true (hl _ (List.mem_singleton.2 rfl))
    have hg := of_go x
    have hl2 := dg_len 2 x
    have ec : cutI (wU (dg 2 x)) 0 2 = dg 2 x := by
      have := cut_wU (dg 2 x)
      rw [hl2] at this
      exact this
    rw [o2_eq q.1 q.2, ec] at hg
    have hok : rowOk tU (wU (dg 2 x)) 0 2 2 = true := wU_rowAt (dg_wds _ _) (by omega) (by omega) (smallC_le (by omega))
    have r : RunsW (tabH Tryd.prog extY conN hcOf) (cBody Tryd.f51) ([.int .u64 x] ++ List.replicate 9 undef, ⟨0, []⟩, []) fun e z => (e = none ∨ e = some none) ∧ resS Tryd.prog Tryd.f51 z.1 z.2.1 = some (sl 0 0 (trimN (dg 2 x)) 2) ∧ ∃ r, z.2.1.blk? 0 = some (wU (dg 2 x) ++ r, tU) := by
      refine (goesT_runsW (tabH_ok conN_ok hcOf_ok) hg (okCons hok (okL1 (by decide)))).mono fun e z he => ?_
      obtain ⟨rfl, ⟨g, e1⟩, e2⟩ := he
      exact ⟨.inr rfl, by rw [e1, e2]; rfl, [], by rw [e2, List.append_nil]; rfl⟩
    exact row_calls1 (T := tabH Tryd.prog extY conN hcOf) Tryd.func51 of_body hr0 (vals := [.int .u64 x]) (fun v hv => by rw [List.mem_singleton.1 hv]; rfl) (k := 0) (cs := wU (dg 2 x)) (ty := tU) (wU_lt _) (by kernel_rfl) r (by simp [oc, oc2, oc1, sl]) E (s := fun i => i) (fun i x hx _ => by have : i < 0 := Hp.blk_lt hx; omega)
  · cases hg
def hcQ : Hc := altH 51 gOfX (altH 45 gPdN hcN)
theorem hcQ_ok : HcOk hcQ := altH_ok Tryd.func51 rfl gOfX_ok (altH_ok Tryd.func45 rfl gPdN_ok hcN_ok)
end Go.Proofs.YtecemjilmlagdaaDoor

/-
  The document's Pow (tillerref02), as a contract.
-/
namespace Go.Proofs.YtecemjilmlagdaaDoor
open Go.KRun Go.Nt
set_option maxRecDepth 100000
set_option linter.unusedVariables false

theorem log_tlP {x : Bool × Bool} {l : Log} (h : okLog (x :: l)) : x.1 = x.2 ∧ okLog l := ⟨h _ List.mem_cons_self, fun y hy => h y (List.mem_cons_of_mem _ hy)⟩
def gUsmT : AnsH := fun vals h s =>
  match vals, s with
  | [.slice p n c, .int .u32 b, .int .u32 e], .inr (.inr (.inr (.inl d))) :: s' =>
    match d, s' with
    | true, .inr (.inl V) :: s2 => mk16 V.toNat h s2 [(decide (vO h p n * b.toNat + e.toNat = V.toNat), true), (okSml h p n c b e, true), (decide (0 < n ∨ 0 < e), true)]
    | false, _ => some (nilS, h, s', [(okSml h p n c b e, true), (decide (0 < n ∨ 0 < e), false)])
    | _, _ => none
  | _, _ => none
theorem gUsmT_ok : AnsHOk 50 gUsmT := by
  intro vals h s v h' s' lg hg hl
  unfold gUsmT at hg
  split at hg
  · rename_i p n c b e d s2
    split at hg
    · rename_i V s3
      unfold mk16 at hg
      cases hg
      obtain ⟨l1, l2⟩ := log_tlP hl
      have l1 := of_decide_eq_true l1
      refine gUsm_ok _ h [cmp true] _ _ [] _ ?_ l2
      simp only [gUsm, mk16, l1]
    · cases hg
      exact gUsm_ok _ h [cmp false] _ _ [] _ rfl hl
    · cases hg
  · cases hg
def hcPw : Hc := altH 50 gUsmT hcN
theorem hcPw_ok : HcOk hcPw := altH_ok Tryd.func50 rfl gUsmT_ok hcN_ok
end Go.Proofs.YtecemjilmlagdaaDoor

/-
  Rows of parts of 16 bits that were made: what is asked of them.
-/
namespace Go.Proofs.YtecemjilmlagdaaDoor
open Go.KRun Go.Nt
set_option maxRecDepth 100000

/-! ### rows that were made -/
theorem d16_len {A k : Nat} (h : A < 2 ^ (16 * k)) : (d16 A).length ≤ k := db_len (by omega) k A (by rw [pow16]; exact h)
theorem rowOf_d16 {h : Hp} {b A : Nat} {ty : TypeId} (hb : h.blk? b = some (wU (d16 A), ty)) : rowOf h (some ⟨b, 0, none⟩) (d16 A).length = d16 A := by
  simp only [rowOf, hb]
  exact cut_wU _
theorem vO_d16 {h : Hp} {b A : Nat} {ty : TypeId} (hb : h.blk? b = some (wU (d16 A), ty)) : vO h (some ⟨b, 0, none⟩) (d16 A).length = A := by
  unfold vO
  rw [rowOf_d16 hb]
  exact vb_db (by omega) A
theorem vO_nil (h : Hp) : vO h none 0 = 0 := rfl
theorem rowP_d16 {h : Hp} {b A : Nat} (hb : h.blk? b = some (wU (d16 A), tU)) (hl : (d16 A).length < 1073741824) : rowP h (some ⟨b, 0, none⟩) (d16 A).length (d16 A).length = true := by
  simp only [rowP, hb, Bool.and_eq_true]
  refine ⟨rowC_wU (fun x hx => ⟨(d16_dg A x hx).1, by have := (d16_dg A x hx).2; omega⟩) (by omega) ?_, List.all_eq_true.2 (wU_still _)⟩
  unfold capOk
  simp only [Bool.or_eq_true, Bool.and_eq_true]
  exact .inl ⟨blt_iff.2 (by unfold dead; omega), Nat.ble_eq_true_of_le (Nat.le_refl _)⟩
theorem dgB_d16 {h : Hp} {b A : Nat} {ty : TypeId} (hb : h.blk? b = some (wU (d16 A), ty)) : dgB (rowOf h (some ⟨b, 0, none⟩) (d16 A).length) = true := by
  rw [rowOf_d16 hb]
  exact dgB_mk (d16_dg A)
theorem two_d16 {h : Hp} {b b' A A' : Nat} (hb : h.blk? b = some (wU (d16 A), tU)) (hb' : h.blk? b' = some (wU (d16 A'), tU)) (hl : (d16 A).length < 1073741800) (hl' : (d16 A').length < 1073741800) : two16 h (some ⟨b, 0, none⟩) (some ⟨b', 0, none⟩) (d16 A).length (d16 A).length (d16 A').length (d16 A').length = true := by
  unfold two16
  rw [rowP_d16 hb (by omega), rowP_d16 hb' (by omega), dgB_d16 hb, dgB_d16 hb']
  simp only [Bool.true_and]
  exact blt_iff.2 (by omega)
theorem two_nil {h : Hp} {b A : Nat} (hb : h.blk? b = some (wU (d16 A), tU)) (hl : (d16 A).length < 1073741800) : two16 h none (some ⟨b, 0, none⟩) 0 0 (d16 A).length (d16 A).length = true := by
  unfold two16
  rw [rowP_d16 hb (by omega), dgB_d16 hb]
  simp only [Bool.and_true]
  exact Bool.and_eq_true_iff.2 ⟨rfl, blt_iff.2 (by omega)⟩
theorem d16_pos {A : Nat} (h : 0 < (d16 A).length) : A ≠ 0 := by
  rintro rfl
  unfold d16 at h
  rw [db_zero] at h
  simp at h
end Go.Proofs.YtecemjilmlagdaaDoor
