/-
  nat.moveUp, as a call: its loop.
-/
import Derived.Test.YtcnmfjhefioldabDoorConNC
import Derived.Test.YtcnmfjhefioldabDoorConNB
namespace Go.Proofs.YtcnmfjhefioldabDoor
open Go.KRun Go.Nt
set_option maxRecDepth 100000

theorem fU_get {F : List Value} {o : Nat} (hF : F.length = o) (dx : List Int) (x : Int) (px : List Int) : (F ++ wU (dx ++ x :: px))[o + dx.length]? = some (uu x) := by
  rw [List.getElem?_append_right (by omega), hF, Nat.add_sub_cancel_left]
  exact wU_get dx x px
theorem fU_set {F : List Value} {o : Nat} (hF : F.length = o) (dx : List Int) (x d : Int) (px : List Int) : (F ++ wU (dx ++ x :: px)).set (o + dx.length) (uu d) = F ++ wU ((dx ++ [d]) ++ px) := by
  rw [List.set_append_right _ _ (by omega), hF, Nat.add_sub_cancel_left, wU_set]
theorem mup_runs {F la : List Value} {o c k : Nat} {L : List Int} (hF : F.length = o) (hL : wds L) (hk : k < 32) (hN : L.length < 4611686018427387904) :
    Runs (tabOf Tryd.prog extY conN true) (seqs (mR0 Tryd.f16) (.block 0 (.loop (mL Tryd.f16)))) ([sl 1 o L.length c, i6' k] ++ List.replicate 25 undef, hU (F ++ wU L) la, []) fun e y => (e = none ∨ e = some none) ∧ resS Tryd.prog Tryd.f16 y.1 y.2.1 = some (.tuple #[]) ∧ y.2.1.cut 2 = hU (F ++ wU (dg L.length (vN L * 2 ^ k))) la := by
  refine goesT_list (tabY_ok conN_ok) (mup_pre 1 o L.length c (i6' k) _) (fun x hx => by cases hx) fun g => ?_
  refine (Runs.forLoop (R := fun _ => False) (P := fun y => ∃ (l i x j : Value) (g : Nat → Value), y.1 = mF (sl 1 o L.length c) (i6' k) l i x (sl 1 o L.length c) (i6' L.length) j ++ tl 17 g ∧ y.2.1 = hU (F ++ wU (dg L.length (vN L * 2 ^ k))) la)
    (fun r y => ∃ (dx px : List Int) (l : Int) (i0 x0 : Value) (g : Nat → Value), px.length = r ∧ dx.length + px.length = L.length ∧ wds dx ∧ wds px ∧ (0 ≤ l ∧ l < 2 ^ k) ∧ y.1 = mF (sl 1 o L.length c) (i6' k) (uu l) i0 x0 (sl 1 o L.length c) (i6' L.length) (i6' dx.length) ++ tl 17 g ∧ y.2.1 = hU (F ++ wU (dx ++ px)) la ∧ vN dx + 4294967296 ^ dx.length * (vN px * 2 ^ k + l) = vN L * 2 ^ k)
    ?_ (n := L.length) ⟨[], L, 0, undef, undef, g, rfl, by simp, (fun x hx => by cases hx), hL, ⟨by omega, Int.pow_pos (by omega)⟩, rfl, rfl, by simp [vN]⟩).mono fun e' y he => ?_
  · rintro r ⟨t, h', s'⟩ ⟨dx, px, l, i0, x0, g, hr, hl, wd1, wd2, hlo, ht, hh, hv⟩
    simp only at ht hh
    subst ht hh
    match px, hr, hl, wd2, hv with
    | [], hr, hl, wd2, hv =>
      have hl' : dx.length = L.length := by simpa using hl
      refine (goesT_runs (tabY_ok conN_ok) (mup_out _ _ _ _ _ _ L.length dx.length _ g) (okOne (decide_eq_false (by omega)))).mono fun e' y he => ?_
      obtain ⟨rfl, ⟨g1, e2⟩, e3⟩ := he
      refine ⟨rfl, _, _, _, _, g1, e2, ?_⟩
      simp only [vN] at hv
      rw [Int.zero_mul, Int.zero_add] at hv
      have e5 := dg_mod dx.length (vN dx) l
      rw [hv, dg_vN dx wd1, hl'] at e5
      rw [e3, e5, List.append_nil]
    | x :: px, hr, hl, wd2, hv =>
      obtain ⟨wx, wd2⟩ := wds_tail wd2
      obtain ⟨k1, k2, k3⟩ := up32 wx hlo hk
      have cS := fU_get hF dx x px
      have lS : (F ++ wU (dx ++ x :: px)).length = o + L.length := by
        unfold wU
        simp at hl ⊢
        omega
      have hl' : dx.length < L.length := by simp at hl; omega
      have l1 : decide (o + ((dx.length : Int)).toNat * 1 < (F ++ wU (dx ++ x :: px)).length) = true := by
        rw [lS, Int.toNat_natCast]
        exact decide_eq_true (by omega)
      have l2 : (inR dx.length L.length).1 = (inR dx.length L.length).2 := decide_eq_true (by omega)
      have l4 : (celR (F ++ wU (dx ++ x :: px)) o dx.length x).1 = (celR (F ++ wU (dx ++ x :: px)) o dx.length x).2 := cel_ok cS
      have e32 : IntKind.i64.wrap (32 - (k : Int)) = 32 - (k : Int) := wrapI (by omega) (by omega)
      have l5 : decide (IntKind.i64.wrap (32 - (k : Int)) < 0) = false := by
        rw [e32]
        exact decide_eq_false (by omega)
      have l6 : decide ((k : Int) < 0) = false := decide_eq_false (by omega)
      have l7 : decide ((dx.length : Int) < (L.length : Nat)) = true := decide_eq_true (by omega)
      refine (goesT_runs (tabY_ok conN_ok) (mup_go o L.length c k l dx.length x i0 x0 la (F ++ wU (dx ++ x :: px)) g) (okTwo l5 (okTwo l1 (okTwo l2 (okTwo l6 (okTwo l4 (okTwo l2 (okOne l7)))))))).mono fun e' y he => ?_
      obtain ⟨rfl, ⟨g1, e2⟩, e3⟩ := he
      refine ⟨px.length, by simp at hr; omega, dx ++ [newU x k l], px, lowU x k, i6' dx.length, uu x, g1, rfl, by simp at hl ⊢; omega, wds_app wd1 (fun z hz => by rw [List.mem_singleton.1 hz]; exact k1), wd2, k2, ?_, ?_, ?_⟩
      · rw [e2, wrapI (by omega) (by omega)]
        simp
      · rw [e3, Int.toNat_natCast, Nat.mul_one, fU_set hF]
      · simp only [vN] at hv
        rw [vN_snoc, List.length_append, List.length_singleton, pw]
        exact up_step k3 hv
  · match e', he with
    | none, he =>
      obtain ⟨l, i, x, j, g, e1, e2⟩ := he
      refine ⟨.inl rfl, ?_, ?_⟩
      · rw [e1]; exact mup_res _ _ _ _ _ _ _ _ _ _
      · rw [e2]; rfl
    | some none, he => exact he.elim
    | some (some _), he => exact he.elim
def upS (S : List Value) (o n : Nat) (k : Int) : List Value := S.take o ++ wU (dg n (vN (cutI S o n) * 2 ^ k.toNat))
def gMup : AnsH := fun vals h s =>
  match vals, h with
  | [.slice (some ⟨1, o, none⟩) n c, .int .i64 k], ⟨2, [(S, t), (la, t')]⟩ => some (.tuple #[], ⟨2, [(upS S o n k, tU), (la, tR)]⟩, s, [(Nat.beq t tU, true), (Nat.beq t' tR, true), (rowOk t S o n c, true), (Nat.beq (o + n) S.length, true), (la.all (lt1 0), true), (decide (0 ≤ k ∧ k < 32), true)])
  | _, _ => none
theorem wU_tight (L : List Int) (n : Nat) : (wU L).all (lt1 n) = true := by
  unfold wU
  rw [List.all_eq_true]
  intro v hv
  obtain ⟨x, _, rfl⟩ := List.mem_map.1 hv
  rfl
theorem all_mono {l : List Value} {n : Nat} (h : l.all (lt1 0) = true) : l.all (lt1 n) = true := by
  rw [List.all_eq_true] at *
  exact fun v hv => lt1_mono (Nat.zero_le _) (h v hv)
theorem gMup_ok : AnsHOk 16 gMup := by
  intro vals h s v h' s' lg hg hl m B w E hv
  unfold gMup at hg
  split at hg
  · rename_i o n c k S t la t'
    cases hg
    have q1 := Nat.eq_of_beq_eq_true (hl _ (List.mem_cons_self))
    have q2 := Nat.eq_of_beq_eq_true (hl _ (List.mem_cons_of_mem _ List.mem_cons_self))
    have ra := hl _ (List.mem_cons_of_mem _ (List.mem_cons_of_mem _ List.mem_cons_self))
    have q4 := Nat.eq_of_beq_eq_true (hl _ (List.mem_cons_of_mem _ (List.mem_cons_of_mem _ (List.mem_cons_of_mem _ List.mem_cons_self))))
    have q5 := hl _ (List.mem_cons_of_mem _ (List.mem_cons_of_mem _ (List.mem_cons_of_mem _ (List.mem_cons_of_mem _ List.mem_cons_self))))
    have q6 := of_decide_eq_true (hl _ (List.mem_cons_of_mem _ (List.mem_cons_of_mem _ (List.mem_cons_of_mem _ (List.mem_cons_of_mem _ (List.mem_cons_of_mem _ (List.mem_singleton.2 rfl)))))))
    simp only at q1 q2 q4 q5
    subst q1 q2
    obtain ⟨a1, a2, a3, a4, a5, a6, a7⟩ := row_of ra
    obtain ⟨K, rfl⟩ := Int.eq_ofNat_of_zero_le q6.1
    have hc : c < 4611686018427387904 := blt_iff.1 a4
    have eS : S = S.take o ++ wU (cutI S o n) := by
      have h1 := a1.cut
      rw [a2] at h1
      rw [← h1]
      unfold cutV
      rw [show n = (S.drop o).length from by simp; omega, List.take_length, List.take_append_drop]
    have hF : (S.take o).length = o := by simp; omega
    have r := mup_runs (la := la) (c := c) (k := K) hF a1.rng (by omega) (by omega)
    rw [a2, ← eS] at r
    have ht : (Hp.tight ⟨2, [(upS S o n K, tU), (la, tR)]⟩) = true := by
      unfold Hp.tight upS
      simp only [List.all_cons, List.all_nil, List.all_append, Bool.and_true, Bool.and_eq_true]
      refine ⟨⟨?_, wU_tight _ _⟩, all_mono q5⟩
      rw [List.all_eq_true]
      exact fun v hv => lt1_mono (Nat.zero_le _) (a7 v (List.mem_of_mem_take hv))
    exact hcalls_of_runs (T := tabOf Tryd.prog extY conN true) Tryd.func16 mup_body (vals := [sl 1 o n c, i6' K]) (v := .tuple #[]) (h := hU S la) (by rfl) ht r m B w E hv
  · cases hg
end Go.Proofs.YtcnmfjhefioldabDoor
