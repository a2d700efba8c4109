/-
  nat.Decimal, as a contract: the digits of any number, or the error; the text is told ahead.
-/
import Derived.Test.YtbjgkhbhabdjgaaDoorG31
namespace Go.Proofs.YtbjgkhbhabdjgaaDoor
open Go.KRun Go.Nt
set_option maxRecDepth 100000

theorem dc_body1 : Tryd.f32.body = some (cBody Tryd.f32) := by kernel_rfl
theorem cpD_eq {l : List Value} {o : Nat} {L : List Int} (h : Row l o L) : cpD l o L.length = wU L ∧ cpC l o L.length = true := by
  have e : L.length.min L.length = L.length := Nat.min_self _
  have h1 := h.cut
  have h2 := h.len
  unfold cutV at h1
  unfold cpD cpC
  rw [e, h1]
  refine ⟨by simp, ?_⟩
  rw [show tomb tR = false from by kernel_rfl, show ro tU = false from by kernel_rfl, Nat.ble_eq_true_of_le h2, Nat.ble_eq_true_of_le (by simp), wU_one]
  rfl
theorem canon_trim {L : List Int} (h : canon L) : trimN L = L.length := by
  apply trimN_uniq
  · intro i hi
    simp [List.getD, List.getElem?_eq_none hi]
  · exact h.2
theorem dec_runs {l : List Value} {o n c : Nat} (ha : rowOk tR l o n c = true) (hb : badL (cutI l o n) = false) (h0 : 0 < n) :
    RunsW (tabH Tryd.prog extY conDc hcDc) (seqs (dP Tryd.f32) (.seq (.block 0 (.loop (dL Tryd.f32))) (dE Tryd.f32))) ([sl 0 o n c] ++ List.replicate 45 undef, h1R l, []) fun e z => (e = none ∨ e = some none) ∧ resS Tryd.prog Tryd.f32 z.1 z.2.1 = some (.tuple #[bS (decS (vb 4294967296 (cutI l o n))), .nilIface]) := by
  obtain ⟨a1, a2, a3, a4, a5, a6, a7⟩ := row_of ha
  obtain ⟨L, hL⟩ : ∃ L, L = cutI l o n := ⟨_, rfl⟩
  rw [← hL] at a1 a2 hb ⊢
  have h8 := badL_len hb
  have hc := badL_canon a1.rng hb
  have hla : l.all still = true := List.all_eq_true.2 a7
  have ht := canon_trim hc
  have hw : wds L := a1.rng
  have hV : 0 < vb 4294967296 L := (vb_pos10 hw ht).2 (by omega)
  obtain ⟨k, hk⟩ : ∃ k : Nat, k = 8192 := ⟨_, rfl⟩
  have hlt := vb_lt32 (m := k) hw (by omega)
  obtain ⟨e, he⟩ : ∃ e : Nat, e = 262144 := ⟨_, rfl⟩
  have hlt2 : vb 4294967296 L < 2 ^ e := by
    rw [show (4294967296 : Nat) = 2 ^ 32 from rfl, ← Nat.pow_mul] at hlt
    rw [show e = 32 * k by omega]
    exact hlt
  obtain ⟨c1, c2⟩ := cpD_eq a1
  rw [a2] at c1 c2
  have rX : rowX (h1R l) (some ⟨0, o, none⟩) n c = true := by
    show rowOk tR l o n c = true
    exact ha
  have rO : rowOf (h1R l) (some ⟨0, o, none⟩) n = L := by rw [hL]; rfl
  have lm : okMakeB 4 n n = true := by unfold okMakeB; exact decide_eq_true ⟨by omega, by omega, by omega, by omega⟩
  refine goesT_listW tabDc (dc_pre o n c l) (okCons c2 (okCons lm (okCons (by simp; omega) (okCons rX (okL1 (by rw [rO]; exact hb)))))) fun g => ?_
  refine RunsW.seq (P1 := fun e y => e = none ∧ dOut (sl 0 o n c) l (vb 4294967296 L) y) ?_ ?_ (fun e y he => by cases he.1)
  · refine (RunsW.forLoop (R := fun _ => False) (P := dOut (sl 0 o n c) l (vb 4294967296 L)) (dInv (sl 0 o n c) l n (vb 4294967296 L)) (d_round hla (by omega) hV he hlt2) (n := vb 4294967296 L) ⟨0, [], L, [], undef, g, ?_, ?_, rfl, (fun x hx => by cases hx), (by simpa using hw), ht, by simpa using a2, by simp [vb], rfl, by omega⟩).mono fun e z hz => ?_
    · rw [a2]; rfl
    · show hX [] (cpD l o n) l = hX (dX 0 []) (wU (L ++ [])) l
      rw [c1, List.append_nil]
      rfl
    · match e, hz with
      | none, hz => exact ⟨rfl, hz⟩
  · rintro ⟨t, hh, s⟩ ⟨_, D, r, w, Y, g', e1, e2, e3, e4, e5, e6⟩
    simp only at e1 e2
    subst e1 e2
    exact d_end hla hV e3 e4 e5 e6 g' s
/-- the digits of a number: told ahead whether words are no number, and the text -/
def gDc : AnsH := fun vals h s =>
  match vals, s with
  | [.slice p n c], .inr (.inr (.inr (.inl true))) :: s' => some (.tuple #[bS [], errV 1], h, s', [(rowX h p n c, true), (badL (rowOf h p n), true)])
  | [.slice p n c], .inr (.inr (.inr (.inl false))) :: .inr (.inr (.inr (.inr (.inr (.string b))))) :: s' => some (.tuple #[.string b, .nilIface], h, s', [(rowX h p n c, true), (badL (rowOf h p n), false), (decide (decS (v32O h p n) = b.data.toList), true)])
  | _, _ => none
theorem b1_of {x : List Value × TypeId} {i : Nat} {z : List Value × TypeId} (hz : (⟨1, [x]⟩ : Hp).blk? i = some z) : i = 0 ∧ z = x := by
  have : i < 1 := Hp.blk_lt hz
  have hi : i = 0 := by omega
  subst hi
  exact ⟨rfl, (Option.some.inj hz).symm⟩
theorem gDc_ok : AnsHOk 32 gDc := by
  intro vals h s v h' s' lg hg hl m B w E hv
  unfold gDc at hg
  split at hg
  · rename_i p n c s2
    cases hg
    obtain ⟨l1, q⟩ := logB hl
    obtain ⟨l2, _⟩ := logB q
    rcases rowX_cases l1 with ⟨rfl, rfl, rfl, e0⟩ | ⟨b, o, x, rfl, hx, r1, e0⟩
    · rw [e0, badL_nil] at l2
      cases l2
    · rw [e0] at l2
      obtain ⟨a1, a2, a3, a4, a5, a6, a7⟩ := row_of r1
      have hr : Runs (tabH Tryd.prog extY conDc hcDc) (cBody Tryd.f32) ([sl 0 o n c] ++ List.replicate 45 undef, h1R x.1, []) fun e z => (e = none ∨ e = some none) ∧ resS Tryd.prog Tryd.f32 z.1 z.2.1 = some (.tuple #[bS [], errV 1]) := by
        refine (goesT_runs tabDc (dc_bad (some ⟨0, o, none⟩) n c (h1R x.1)) (okCons (rowOk_R r1) (okL1 l2))).mono fun e z he => ?_
        obtain ⟨rfl, ⟨g, z1⟩, z2⟩ := he
        exact ⟨.inr rfl, by rw [z1, z2]; rfl⟩
      exact row_calls0 (T := tabH Tryd.prog extY conDc hcDc) Tryd.func32 dc_body1 (rows1 a7) (vals := [sl 0 o n c]) (fun v hv => by rw [List.mem_singleton.1 hv]; rfl) (by rfl) hr.w E (s := fun _ => b) (fitsR1 hx a5 a6 rfl)
  · rename_i p n c t s2
    cases hg
    obtain ⟨l1, q⟩ := logB hl
    obtain ⟨l2, q⟩ := logB q
    obtain ⟨l3, _⟩ := logB q
    have l3 := of_decide_eq_true l3
    have et : Value.string t = bS t.data.toList := rfl
    rw [et, ← l3]
    rcases rowX_cases l1 with ⟨rfl, rfl, rfl, e0⟩ | ⟨b, o, x, rfl, hx, r1, e0⟩
    · have ev : v32O h none 0 = 0 := by unfold v32O; rw [e0]; rfl
      rw [ev]
      have hr : Runs (tabH Tryd.prog extY conDc hcDc) (cBody Tryd.f32) ([.slice none 0 0] ++ List.replicate 45 undef, ⟨0, []⟩, []) fun e z => (e = none ∨ e = some none) ∧ resS Tryd.prog Tryd.f32 z.1 z.2.1 = some (.tuple #[bS (decS 0), .nilIface]) := by
        refine (goesT_runs tabDc (dc_zero none 0 0 ⟨0, []⟩) (okCons rfl (okCons rfl (okL1 rfl)))).mono fun e z he => ?_
        obtain ⟨rfl, ⟨g, z1⟩, z2⟩ := he
        exact ⟨.inr rfl, by rw [z1, z2]; rfl⟩
      exact row_calls0 (T := tabH Tryd.prog extY conDc hcDc) Tryd.func32 dc_body1 (h0 := ⟨0, []⟩) ⟨rfl, fun b x hx => by have : b < 0 := Hp.blk_lt hx; omega⟩ (vals := [.slice none 0 0]) (fun v hv => by rw [List.mem_singleton.1 hv]; rfl) (by rfl) hr.w E (s := fun i => i) (fun i x hx => by have : i < 0 := Hp.blk_lt hx; omega)
    · have ev : v32O h (some ⟨b, o, none⟩) n = vb 4294967296 (cutI x.1 o n) := by unfold v32O; rw [e0]
      rw [e0] at l2
      obtain ⟨a1, a2, a3, a4, a5, a6, a7⟩ := row_of r1
      rw [ev]
      by_cases hn : n = 0
      · subst hn
        have e1 : cutI x.1 o 0 = [] := List.length_eq_zero_iff.1 a2
        have hr : Runs (tabH Tryd.prog extY conDc hcDc) (cBody Tryd.f32) ([sl 0 o 0 c] ++ List.replicate 45 undef, h1R x.1, []) fun e z => (e = none ∨ e = some none) ∧ resS Tryd.prog Tryd.f32 z.1 z.2.1 = some (.tuple #[bS (decS 0), .nilIface]) := by
          refine (goesT_runs tabDc (dc_zero (some ⟨0, o, none⟩) 0 c (h1R x.1)) (okCons rfl (okCons (rowOk_R r1) (okL1 l2)))).mono fun e z he => ?_
          obtain ⟨rfl, ⟨g, z1⟩, z2⟩ := he
          exact ⟨.inr rfl, by rw [z1, z2]; rfl⟩
        rw [e1]
        exact row_calls0 (T := tabH Tryd.prog extY conDc hcDc) Tryd.func32 dc_body1 (rows1 a7) (vals := [sl 0 o 0 c]) (fun v hv => by rw [List.mem_singleton.1 hv]; rfl) (by rfl) hr.w E (s := fun _ => b) (fitsR1 hx a5 a6 rfl)
      · exact row_calls0 (T := tabH Tryd.prog extY conDc hcDc) Tryd.func32 dc_body (rows1 a7) (vals := [sl 0 o n c]) (fun v hv => by rw [List.mem_singleton.1 hv]; rfl) (by rfl) (dec_runs (rowOk_R r1) l2 (by omega)) E (s := fun _ => b) (fitsR1 hx a5 a6 rfl)
  · cases hg
end Go.Proofs.YtbjgkhbhabdjgaaDoor

/-
  The document's Decimal (tillerref02), in pieces.
-/
namespace Go.Proofs.YtbjgkhbhabdjgaaDoor
open Go.KRun Go.Nt
set_option maxRecDepth 100000

def hcRd : Hc := altH 43 gUtrim hcN
theorem hcRd_ok : HcOk hcRd := altH_ok Tryd.func43 rfl gUtrim_ok hcN_ok
theorem tabRd : TabOk (tabH Tryd.prog extY conN hcRd) := tabH_ok conN_ok hcRd_ok
def eC (F : Func) : Nat → Code
  | 0 => cBody F
  | n + 1 => cSnd (eC F n)
def eP (F : Func) : List Code := [cFst (eC F 0), cFst (eC F 1), cFst (eC F 2)]
def eL (F : Func) : Code := cIn (cIn (cFst (eC F 3)))
def eE (F : Func) : Code := eC F 4
def eA (F : Func) : Code := cFst (eL F)
def eB (F : Func) : Code := cIn (cSnd (eL F))
def eQ (F : Func) : List Code := [cFst (eB F), cFst (cSnd (eB F)), cFst (cSnd (cSnd (eB F)))]
def eB3 (F : Func) : Code := cSnd (cSnd (cSnd (eB F)))
def e8 (F : Func) : Code := cFst (cFst (eB3 F))
def eI (F : Func) : Code := cIn (cIn (cSnd (cFst (eB3 F))))
def eZ (F : Func) : Code := cSnd (eB3 F)
theorem rd_body : Tryd.f35.body = some (seqs (eP Tryd.f35) (.seq (.block 0 (.loop (.seq (eA Tryd.f35) (.block 1 (seqs (eQ Tryd.f35) (.seq (.seq (e8 Tryd.f35) (.block 2 (.loop (eI Tryd.f35)))) (eZ Tryd.f35))))))) (eE Tryd.f35))) := by kernel_rfl
theorem rd_body1 : Tryd.f35.body = some (cBody Tryd.f35) := by kernel_rfl
/-- the copy's block above others -/
def hQ (X : List (List Value × TypeId)) (Q : List Value) : Hp := ⟨X.length + 1, (Q, tU) :: X⟩
def eF (a s q r i : Value) : List Value := [a, undef, bS [], s, q, r, i]
theorem rd_zero (p : Option Addr) (n c : Nat) (h : Hp) : GoesT (evC (tabH Tryd.prog extY conN hcRd) 100 false (cBody Tryd.f35) ([.slice p n c] ++ List.replicate 45 undef, h, [cmp true]) ⟨[], [], []⟩) 3 43 (some none) [.slice p n c, undef, bS [48]] h [((n : Int) == 0, true)] := ⟨by kernel_rfl, by kernel_rfl, by kernel_rfl⟩
theorem rd_pre (n c o : Nat) (h : Hp) : GoesT (evL (tabH Tryd.prog extY conN hcRd) 100 (eP Tryd.f35) ([sl 0 o n c] ++ List.replicate 45 undef, h, [cmp false]) ⟨[], [], []⟩) 7 39 none (eF (sl 0 o n c) (bS []) undef undef undef) h [((n : Int) == 0, false)] := ⟨by kernel_rfl, by kernel_rfl, by kernel_rfl⟩
theorem rd_a (b o n c : Nat) (d : Bool) (s q r i : Value) (h : Hp) (g : Nat → Value) : GoesT (evC (tabH Tryd.prog extY conN hcRd) 100 false (eA Tryd.f35) (eF (sl b o n c) s q r i ++ tl 39 g, h, [cmp d]) ⟨[], [], []⟩) 7 39 (match d with | true => none | false => some (some 0)) (eF (sl b o n c) s q r i) h [(decide ((n : Int) > 0), d)] := by
  cases d <;> exact ⟨by kernel_rfl, by kernel_rfl, by kernel_rfl⟩
theorem rd_q0 (o n c : Nat) (s q r i : Value) (l : List Value) (t : TypeId) (g : Nat → Value) : GoesT (evL (tabH Tryd.prog extY conN hcRd) 100 (eQ Tryd.f35) (eF (sl 0 o n c) s q r i ++ tl 39 g, ⟨1, [(l, t)]⟩, [at_]) ⟨[], [], []⟩) 7 39 none (eF (sl 0 o n c) s (.slice (some ⟨1, 0, none⟩) n grown) (uu 0) i) (hQ [(l, t)] ((l.drop o).take n)) [(appChn (l, t) o n, true)] := ⟨by kernel_rfl, by kernel_rfl, by kernel_rfl⟩
theorem rd_q1 (n c : Nat) (s q r i : Value) (A : List Value) (x : List Value × TypeId) (g : Nat → Value) : GoesT (evL (tabH Tryd.prog extY conN hcRd) 100 (eQ Tryd.f35) (eF (sl 1 0 n c) s q r i ++ tl 39 g, ⟨2, [(A, tU), x]⟩, [at_]) ⟨[], [], []⟩) 7 39 none (eF (sl 1 0 n c) s (.slice (some ⟨2, 0, none⟩) n grown) (uu 0) i) (hQ [(A, tU), x] ((A.drop 0).take n)) [(appChn (A, tU) 0 n, true)] := ⟨by kernel_rfl, by kernel_rfl, by kernel_rfl⟩
theorem rd_8 (a s r i : Value) (b n : Nat) (h : Hp) (g : Nat → Value) : GoesT (evC (tabH Tryd.prog extY conN hcRd) 100 false (e8 Tryd.f35) (eF a s (.slice (some ⟨b, 0, none⟩) n grown) r i ++ tl 39 g, h, []) ⟨[], [], []⟩) 7 39 none (eF a s (.slice (some ⟨b, 0, none⟩) n grown) r (.int .i64 (IntKind.i64.wrap ((n : Int) - 1)))) h [] := ⟨by kernel_rfl, by kernel_rfl, by kernel_rfl⟩
theorem rd_x (a s r : Value) (b n : Nat) (i : Int) (h : Hp) (g : Nat → Value) : GoesT (evC (tabH Tryd.prog extY conN hcRd) 100 false (eI Tryd.f35) (eF a s (.slice (some ⟨b, 0, none⟩) n grown) r (.int .i64 i) ++ tl 39 g, h, [cmp false]) ⟨[], [], []⟩) 7 39 (some (some 2)) (eF a s (.slice (some ⟨b, 0, none⟩) n grown) r (.int .i64 i)) h [(decide (i ≥ 0), false)] := ⟨by kernel_rfl, by kernel_rfl, by kernel_rfl⟩
def rdT9 (r x : Int) : Int := IntKind.u32.wrap (IntKind.u32.wrap (65536 * r) + x)
def rdQ9 (r x : Int) : Int := IntKind.u32.wrap ((rdT9 r x).tdiv 10)
def rdR9 (r x : Int) : Int := (rdT9 r x).tmod 10
theorem rd_g1 (a s : Value) (n : Nat) (r i x : Int) (x1 : List Value × TypeId) (Q : List Value) (g : Nat → Value) : GoesT (evC (tabH Tryd.prog extY conN hcRd) 100 false (eI Tryd.f35) (eF a s (.slice (some ⟨1, 0, none⟩) n grown) (uu r) (.int .i64 i) ++ tl 39 g, hQ [x1] Q, [cmp true, at_, val (uu x), at_, at_]) ⟨[], [], []⟩) 7 39 none (eF a s (.slice (some ⟨1, 0, none⟩) n grown) (uu (rdR9 r x)) (.int .i64 (IntKind.i64.wrap (i - 1)))) (hQ [x1] (Q.set (0 + i.toNat * 1) (uu (rdQ9 r x)))) [(decide (0 + i.toNat * 1 < Q.length), true), inR i n, celR Q 0 i x, inR i n, (decide (i ≥ 0), true)] := ⟨by kernel_rfl, by kernel_rfl, by kernel_rfl⟩
theorem rd_g2 (a s : Value) (n : Nat) (r i x : Int) (x1 x2 : List Value × TypeId) (Q : List Value) (g : Nat → Value) : GoesT (evC (tabH Tryd.prog extY conN hcRd) 100 false (eI Tryd.f35) (eF a s (.slice (some ⟨2, 0, none⟩) n grown) (uu r) (.int .i64 i) ++ tl 39 g, hQ [x1, x2] Q, [cmp true, at_, val (uu x), at_, at_]) ⟨[], [], []⟩) 7 39 none (eF a s (.slice (some ⟨2, 0, none⟩) n grown) (uu (rdR9 r x)) (.int .i64 (IntKind.i64.wrap (i - 1)))) (hQ [x1, x2] (Q.set (0 + i.toNat * 1) (uu (rdQ9 r x)))) [(decide (0 + i.toNat * 1 < Q.length), true), inR i n, celR Q 0 i x, inR i n, (decide (i ≥ 0), true)] := ⟨by kernel_rfl, by kernel_rfl, by kernel_rfl⟩
theorem rd_go {X : List (List Value × TypeId)} (hX : X.length = 1 ∨ X.length = 2) (a s : Value) (n : Nat) (r i x : Int) (Q : List Value) (g : Nat → Value) : GoesT (evC (tabH Tryd.prog extY conN hcRd) 100 false (eI Tryd.f35) (eF a s (.slice (some ⟨X.length, 0, none⟩) n grown) (uu r) (.int .i64 i) ++ tl 39 g, hQ X Q, [cmp true, at_, val (uu x), at_, at_]) ⟨[], [], []⟩) 7 39 none (eF a s (.slice (some ⟨X.length, 0, none⟩) n grown) (uu (rdR9 r x)) (.int .i64 (IntKind.i64.wrap (i - 1)))) (hQ X (Q.set (0 + i.toNat * 1) (uu (rdQ9 r x)))) [(decide (0 + i.toNat * 1 < Q.length), true), inR i n, celR Q 0 i x, inR i n, (decide (i ≥ 0), true)] := by
  match X, hX with
  | [x1], _ => exact rd_g1 a s n r i x x1 Q g
  | [x1, x2], _ => exact rd_g2 a s n r i x x1 x2 Q g
def digS : List UInt8 := [48, 49, 50, 51, 52, 53, 54, 55, 56, 57]
def conc (r : Int) (l : List UInt8) : List UInt8 := (digS.drop r.toNat).take ((IntKind.u32.wrap (r + 1)).toNat - r.toNat) ++ l
theorem rd_z1 (a i : Value) (l : List UInt8) (n : Nat) (r : Int) (x1 : List Value × TypeId) (Q : List Value) (g : Nat → Value) : GoesT (evC (tabH Tryd.prog extY conN hcRd) 100 false (eZ Tryd.f35) (eF a (bS l) (.slice (some ⟨1, 0, none⟩) n grown) (uu r) i ++ tl 39 g, hQ [x1] Q, [sam true, sam true]) ⟨[], [], []⟩) 7 39 none (eF (sl 1 0 (trimN (cutI Q 0 n)) (trimN (cutI Q 0 n))) (bS (conc r l)) (.slice (some ⟨1, 0, none⟩) n grown) (uu r) i) (hQ [x1] Q) [(rowC tU Q 0 n grown, true), (decide (((digS.drop r.toNat).take ((IntKind.u32.wrap (r + 1)).toNat - r.toNat)).length + l.length ≤ 9223372036854775807), true), (decide (0 ≤ r ∧ r ≤ IntKind.u32.wrap (r + 1) ∧ IntKind.u32.wrap (r + 1) ≤ ((digS.length : Nat) : Int)), true)] := ⟨by kernel_rfl, by kernel_rfl, by kernel_rfl⟩
theorem rd_z2 (a i : Value) (l : List UInt8) (n : Nat) (r : Int) (x1 x2 : List Value × TypeId) (Q : List Value) (g : Nat → Value) : GoesT (evC (tabH Tryd.prog extY conN hcRd) 100 false (eZ Tryd.f35) (eF a (bS l) (.slice (some ⟨2, 0, none⟩) n grown) (uu r) i ++ tl 39 g, hQ [x1, x2] Q, [sam true, sam true]) ⟨[], [], []⟩) 7 39 none (eF (sl 2 0 (trimN (cutI Q 0 n)) (trimN (cutI Q 0 n))) (bS (conc r l)) (.slice (some ⟨2, 0, none⟩) n grown) (uu r) i) (hQ [x1, x2] Q) [(rowC tU Q 0 n grown, true), (decide (((digS.drop r.toNat).take ((IntKind.u32.wrap (r + 1)).toNat - r.toNat)).length + l.length ≤ 9223372036854775807), true), (decide (0 ≤ r ∧ r ≤ IntKind.u32.wrap (r + 1) ∧ IntKind.u32.wrap (r + 1) ≤ ((digS.length : Nat) : Int)), true)] := ⟨by kernel_rfl, by kernel_rfl, by kernel_rfl⟩
theorem rd_end (a s q r i : Value) (h : Hp) (g : Nat → Value) : GoesT (evC (tabH Tryd.prog extY conN hcRd) 100 false (eE Tryd.f35) (eF a s q r i ++ tl 39 g, h, []) ⟨[], [], []⟩) 3 43 (some none) [a, undef, s] h [] := ⟨by kernel_rfl, by kernel_rfl, by kernel_rfl⟩
end Go.Proofs.YtbjgkhbhabdjgaaDoor

/-
  The document's Decimal (tillerref02), as a contract.
-/
namespace Go.Proofs.YtbjgkhbhabdjgaaDoor
open Go.KRun Go.Nt
set_option maxRecDepth 100000

theorem rd_num {r x : Int} (hr : 0 ≤ r ∧ r < 10) (hx : 0 ≤ x ∧ x < 65536) : rdQ9 r x = (65536 * r + x) / 10 ∧ rdR9 r x = (65536 * r + x) % 10 ∧ 0 ≤ rdQ9 r x ∧ rdQ9 r x < 65536 := by
  have eT : rdT9 r x = 65536 * r + x := by
    unfold rdT9
    simp [IntKind.wrap, IntKind.bits, IntKind.signed]
    omega
  have q2 : rdQ9 r x = (65536 * r + x) / 10 := by
    unfold rdQ9
    rw [eT, Int.tdiv_eq_ediv_of_nonneg (by omega)]
    simp [IntKind.wrap, IntKind.bits, IntKind.signed]
    omega
  have q3 : rdR9 r x = (65536 * r + x) % 10 := by
    unfold rdR9
    rw [eT, Int.tmod_eq_emod_of_nonneg (by omega)]
  rw [q2, q3]
  exact ⟨rfl, rfl, by omega, by omega⟩
def a8 (x : Int) : UInt8 := UInt8.ofNat (asc x).toNat
theorem dig_one : ∀ k : Fin 10, (digS.drop k.val).take 1 = [UInt8.ofNat (48 + k.val)] := by decide
theorem conc_eq {r : Int} (hr : 0 ≤ r ∧ r < 10) (l : List UInt8) : conc r l = a8 r :: l ∧ ((digS.drop r.toNat).take ((IntKind.u32.wrap (r + 1)).toNat - r.toNat)).length = 1 ∧ IntKind.u32.wrap (r + 1) = r + 1 := by
  have ew : IntKind.u32.wrap (r + 1) = r + 1 := by
    simp [IntKind.wrap, IntKind.bits, IntKind.signed]
    omega
  have e1 : (IntKind.u32.wrap (r + 1)).toNat - r.toNat = 1 := by rw [ew]; omega
  have h := dig_one ⟨r.toNat, by omega⟩
  simp only at h
  unfold conc
  rw [e1, h]
  refine ⟨?_, rfl, ew⟩
  unfold a8 asc
  rw [show (48 + r).toNat = 48 + r.toNat by omega]
  rfl
theorem dg65 {L : List Int} (h : ∀ x ∈ L, Dg 65536 x) : ∀ x ∈ L, 0 ≤ x ∧ x < 4294967296 := fun x hx => ⟨(h x hx).1, by have := (h x hx).2; omega⟩
/-- one round of divisions by ten -/
theorem rd_in {X : List (List Value × TypeId)} (hX : X.length = 1 ∨ X.length = 2) (a : Value) (l : List UInt8) (i : Value) {L : List Int} (hL : ∀ x ∈ L, Dg 65536 x) (hN : L.length < 1073741824) (hl : l.length < 9223372036854775000) (g : Nat → Value) (sc : List Dec) :
    RunsW (tabH Tryd.prog extY conN hcRd) (.seq (.seq (e8 Tryd.f35) (.block 2 (.loop (eI Tryd.f35)))) (eZ Tryd.f35)) (eF a (bS l) (.slice (some ⟨X.length, 0, none⟩) L.length grown) (uu 0) i ++ tl 39 g, hQ X (wU L), sc) fun e z => e = none ∧ ∃ Q : List Int, Q.length = L.length ∧ (∀ x ∈ Q, Dg 65536 x) ∧ vb 65536 Q = vb 65536 L / 10 ∧ z.2.1 = hQ X (wU Q) ∧ ∃ (j : Int) (g : Nat → Value), z.1 = eF (sl X.length 0 (trimN Q) (trimN Q)) (bS (a8 ((vb 65536 L % 10 : Nat) : Int) :: l)) (.slice (some ⟨X.length, 0, none⟩) L.length grown) (uu ((vb 65536 L % 10 : Nat) : Int)) (.int .i64 j) ++ tl 39 g := by
  refine RunsW.seq (P1 := fun e z => e = none ∧ ∃ Q : List Int, Q.length = L.length ∧ (∀ x ∈ Q, Dg 65536 x) ∧ vb 65536 Q = vb 65536 L / 10 ∧ z.2.1 = hQ X (wU Q) ∧ ∃ (j : Int) (g : Nat → Value), z.1 = eF a (bS l) (.slice (some ⟨X.length, 0, none⟩) L.length grown) (uu ((vb 65536 L % 10 : Nat) : Int)) (.int .i64 j) ++ tl 39 g) ?_ ?_ (fun e y he => by cases he.1)
  · refine RunsW.seq (goesT_runsW (s0 := sc) tabRd (rd_8 a (bS l) (uu 0) i X.length L.length _ g) okN9) ?_ (fun e y he => by cases he.1)
    rintro ⟨t, hh, s⟩ ⟨_, ⟨g', e1⟩, e2⟩
    have ew : IntKind.i64.wrap ((L.length : Int) - 1) = (L.length : Int) - 1 := wrapI (by omega) (by omega)
    rw [ew] at e1
    refine (RunsW.forLoop (R := fun _ => False) (P := fun z => ∃ Q : List Int, Q.length = L.length ∧ (∀ x ∈ Q, Dg 65536 x) ∧ vb 65536 Q = vb 65536 L / 10 ∧ z.2.1 = hQ X (wU Q) ∧ ∃ (j : Int) (g : Nat → Value), z.1 = eF a (bS l) (.slice (some ⟨X.length, 0, none⟩) L.length grown) (uu ((vb 65536 L % 10 : Nat) : Int)) (.int .i64 j) ++ tl 39 g)
      (fun m y => ∃ (A Q H : List Int) (r : Nat) (g : Nat → Value), y.1 = eF a (bS l) (.slice (some ⟨X.length, 0, none⟩) L.length grown) (uu (r : Nat)) (.int .i64 ((A.length : Int) - 1)) ++ tl 39 g ∧ y.2.1 = hQ X (wU (A ++ Q)) ∧ L = A ++ H ∧ H.length = Q.length ∧ (∀ x ∈ Q, Dg 65536 x) ∧ r < 10 ∧ vb 65536 H = vb 65536 Q * 10 + r ∧ m = A.length)
      ?_ (n := L.length) ⟨L, [], [], 0, g', e1, by rw [List.append_nil]; exact e2, by simp, rfl, (fun x hx => by cases hx), by omega, rfl, rfl⟩).mono fun e z hz => ?_
    · rintro m ⟨t, h', s'⟩ ⟨A, Q, H, r, g, ht, hh, hLA, hHQ, wQ, hr, hv, hm⟩
      simp only at ht hh
      subst ht hh
      rcases List.eq_nil_or_concat A with rfl | ⟨A', x, rfl⟩
      · refine (goesT_runsW (s0 := s') tabRd (rd_x a (bS l) _ X.length L.length _ _ g) (okL1 (decide_eq_false (by simp)))).mono fun e z he => ?_
        obtain ⟨rfl, ⟨g', z1⟩, z2⟩ := he
        have eH : L = H := by simpa using hLA
        rw [← eH] at hv hHQ
        refine ⟨rfl, Q, hHQ.symm, wQ, by omega, z2, ((([] : List Int).length : Nat) : Int) - 1, g', ?_⟩
        rw [show vb 65536 L % 10 = r by omega]
        exact z1
      · rw [List.concat_eq_append] at *
        have hlen : L.length = A'.length + 1 + H.length := by rw [hLA]; simp; omega
        have hx := hL x (by rw [hLA]; simp)
        have hx' : 0 ≤ x ∧ x < 65536 := ⟨hx.1, by have := hx.2; omega⟩
        obtain ⟨n1, n2, n3, n4⟩ := rd_num (r := ((r : Nat) : Int)) ⟨by omega, by omega⟩ hx'
        have ei : (((A' ++ [x]).length : Nat) : Int) - 1 = (A'.length : Nat) := by simp
        have eS : wU (A' ++ [x] ++ Q) = wU (A' ++ x :: Q) := by simp
        have cS : (wU (A' ++ x :: Q))[0 + A'.length]? = some (uu x) := by
          rw [Nat.zero_add]
          exact wU_get A' x Q
        have l1 : decide (0 + ((A'.length : Nat) : Int).toNat * 1 < (wU (A' ++ x :: Q)).length) = true := decide_eq_true (by unfold wU; simp)
        have l2 : (inR (A'.length : Nat) L.length).1 = (inR (A'.length : Nat) L.length).2 := decide_eq_true (by omega)
        have l3 : (celR (wU (A' ++ x :: Q)) 0 (A'.length : Nat) x).1 = (celR (wU (A' ++ x :: Q)) 0 (A'.length : Nat) x).2 := cel_ok cS
        rw [ei, eS]
        refine (goesT_runsW (s0 := s') tabRd (rd_go hX a (bS l) L.length (r : Nat) (A'.length : Nat) x (wU (A' ++ x :: Q)) g) (okCons l1 (okCons l2 (okCons l3 (okCons l2 (okL1 (decide_eq_true (by omega)))))))).mono fun e z he => ?_
        obtain ⟨rfl, ⟨g', z1⟩, z2⟩ := he
        obtain ⟨r', hr'⟩ := Int.eq_ofNat_of_zero_le (show 0 ≤ rdR9 (r : Nat) x by rw [n2]; omega)
        rw [hr'] at z1 n2
        refine ⟨A'.length, by rw [hm]; simp, A', rdQ9 (r : Nat) x :: Q, x :: H, r', g', ?_, ?_, by rw [hLA]; simp, by simp [hHQ], ?_, by omega, ?_, rfl⟩
        · rw [z1, wrapI (by omega) (by omega)]
        · rw [z2, Int.toNat_natCast, Nat.mul_one, Nat.zero_add, wU_set]
          simp
        · intro y hy
          rcases List.mem_cons.1 hy with rfl | hy
          · exact ⟨n3, by omega⟩
          · exact wQ y hy
        · show x.toNat + 65536 * vb 65536 H = ((rdQ9 (r : Nat) x).toNat + 65536 * vb 65536 Q) * 10 + r'
          rw [hv]
          omega
    · match e, hz with
      | none, hz => exact ⟨rfl, hz⟩
  · rintro ⟨t, hh, s⟩ ⟨_, Q, q1, q2, q3, q4, j, g', q5⟩
    simp only at q4 q5
    subst q4 q5
    obtain ⟨c1, c2, c3⟩ := conc_eq (r := ((vb 65536 L % 10 : Nat) : Int)) ⟨by omega, by omega⟩ l
    have ec : cutI (wU Q) 0 L.length = Q := by rw [cutI_wT, ← q1, List.take_length]
    have lc : rowC tU (wU Q) 0 L.length grown = true := by
      rw [← q1]
      exact rowC_wU (dg65 q2) (by omega) (by rfl)
    have hG : GoesT (evC (tabH Tryd.prog extY conN hcRd) 100 false (eZ Tryd.f35) (eF a (bS l) (.slice (some ⟨X.length, 0, none⟩) L.length grown) (uu ((vb 65536 L % 10 : Nat) : Int)) (.int .i64 j) ++ tl 39 g', hQ X (wU Q), [sam true, sam true]) ⟨[], [], []⟩) 7 39 none (eF (sl X.length 0 (trimN (cutI (wU Q) 0 L.length)) (trimN (cutI (wU Q) 0 L.length))) (bS (conc ((vb 65536 L % 10 : Nat) : Int) l)) (.slice (some ⟨X.length, 0, none⟩) L.length grown) (uu ((vb 65536 L % 10 : Nat) : Int)) (.int .i64 j)) (hQ X (wU Q)) [(rowC tU (wU Q) 0 L.length grown, true), (decide (((digS.drop (((vb 65536 L % 10 : Nat) : Int)).toNat).take ((IntKind.u32.wrap (((vb 65536 L % 10 : Nat) : Int) + 1)).toNat - (((vb 65536 L % 10 : Nat) : Int)).toNat)).length + l.length ≤ 9223372036854775807), true), (decide (0 ≤ ((vb 65536 L % 10 : Nat) : Int) ∧ ((vb 65536 L % 10 : Nat) : Int) ≤ IntKind.u32.wrap (((vb 65536 L % 10 : Nat) : Int) + 1) ∧ IntKind.u32.wrap (((vb 65536 L % 10 : Nat) : Int) + 1) ≤ ((digS.length : Nat) : Int)), true)] := by
      match X, hX with
      | [x1], _ => exact rd_z1 a _ l L.length _ x1 (wU Q) g'
      | [x1, x2], _ => exact rd_z2 a _ l L.length _ x1 x2 (wU Q) g'
    rw [c1, ec] at hG
    refine (goesT_runsW (s0 := s) tabRd hG (okCons lc (okCons (decide_eq_true (by rw [c2]; omega)) (okL1 (decide_eq_true ⟨by omega, by rw [c3]; omega, by rw [c3, show digS.length = 10 from rfl]; omega⟩))))).mono fun e z he => ?_
    obtain ⟨rfl, ⟨g2, z1⟩, z2⟩ := he
    exact ⟨rfl, Q, q1, q2, q3, z2, j, g2, z1⟩
/-- the letters of what is left, and those that are written -/
def rdI (V0 V : Nat) (l : List UInt8) : Prop := ((db 10 V).reverse.map a8) ++ l = decS V0
theorem rdI_step {V0 V : Nat} {l : List UInt8} (hV : 0 < V) (h : rdI V0 V l) : rdI V0 (V / 10) (a8 ((V % 10 : Nat) : Int) :: l) := by
  unfold rdI at *
  rw [db_pos (by omega) (by omega), List.reverse_cons, List.map_append, List.append_assoc] at h
  exact h
theorem rdI_len {V0 V : Nat} {l : List UInt8} (h : rdI V0 V l) : l.length ≤ (decS V0).length := by
  unfold rdI at h
  rw [← h, List.length_append]
  omega
theorem decS_len {V n : Nat} (h : V < 65536 ^ n) (hn : 0 < n) : (decS V).length ≤ 5 * n := by
  unfold decS decL
  by_cases h0 : V = 0
  · rw [if_pos h0]; simp; omega
  · rw [if_neg h0, List.length_map, List.length_reverse]
    refine db_len (by omega) _ V (Nat.lt_of_lt_of_le h ?_)
    rw [Nat.pow_mul]
    exact Nat.pow_le_pow_left (by decide) n
def rdO (V0 : Nat) (z : Lf) : Prop := ∃ (a q r i : Value) (g : Nat → Value), z.1 = eF a (bS (decS V0)) q r i ++ tl 39 g
def rdS1 (la : List Value) (V0 : Nat) (m : Nat) (z : Lf) : Prop := ∃ (Q : List Int) (l : List UInt8) (k j : Nat) (r i : Int) (g : Nat → Value), z.1 = eF (sl 1 0 (trimN Q) (trimN Q)) (bS l) (.slice (some ⟨1, 0, none⟩) k grown) (uu r) (.int .i64 i) ++ tl 39 g ∧ z.2.1 = ⟨2, [(wU Q, tU), (la, tR)]⟩ ∧ (∀ x ∈ Q, Dg 65536 x) ∧ Q.length < 1073741824 ∧ rdI V0 (vb 65536 Q) l ∧ m = vb 65536 Q ∧ j = 0
theorem appChn_wU {L : List Int} {n : Nat} (h0 : 0 < n) (hn : n ≤ L.length) (hb : n < 1073741824) : appChn (wU L, tU) 0 n = true := by
  unfold appChn
  rw [show tomb tU = false from by kernel_rfl, Nat.ble_eq_true_of_le (show 0 + n ≤ (wU L).length by unfold wU; simp; omega), blt_iff.2 h0, Nat.ble_eq_true_of_le (by omega)]
  have : (((wU L).drop 0).take n).all one = true := by
    rw [List.drop_zero, List.all_eq_true]
    exact fun v hv => List.all_eq_true.1 (wU_one L) v (List.mem_of_mem_take hv)
  rw [this]
  rfl
theorem rd_round {la : List Value} (hla : la.all still = true) {V0 : Nat} (hV0 : (decS V0).length < 9223372036854775000) (m : Nat) (z : Lf) (h : rdS1 la V0 m z) :
    RunsW (tabH Tryd.prog extY conN hcRd) (.seq (eA Tryd.f35) (.block 1 (seqs (eQ Tryd.f35) (.seq (.seq (e8 Tryd.f35) (.block 2 (.loop (eI Tryd.f35)))) (eZ Tryd.f35))))) z fun e y => match e with | none => ∃ m', m' < m ∧ rdS1 la V0 m' y | some none => False | some (some id') => id' = 0 ∧ rdO V0 y := by
  obtain ⟨Q, l, k, j, r, i, g, ht, hh, hDQ, hQl, hI, hm, hj⟩ := h
  obtain ⟨t, h', sc⟩ := z
  simp only at ht hh
  subst ht hh
  have htr := trim_len (b := 65536) (by omega) hDQ
  have hle := trimN_le Q
  have hpos : 0 < trimN Q ↔ 0 < vb 65536 Q := by
    rw [htr, List.length_pos_iff, ne_eq, db_nil (by omega)]
    omega
  by_cases h0 : 0 < trimN Q
  · have hV := hpos.1 h0
    have hll := rdI_len hI
    refine RunsW.seq (P1 := fun e y => e = none ∧ (∃ g, y.1 = eF (sl 1 0 (trimN Q) (trimN Q)) (bS l) (.slice (some ⟨1, 0, none⟩) k grown) (uu r) (.int .i64 i) ++ tl 39 g) ∧ y.2.1 = ⟨2, [(wU Q, tU), (la, tR)]⟩) (goesT_runsW (s0 := sc) tabRd (rd_a 1 0 (trimN Q) (trimN Q) true _ _ _ _ _ g) (okL1 (decide_eq_true (by omega)))) ?_ (fun e y he => by cases he.1)
    rintro ⟨t, hh, s⟩ ⟨_, ⟨g1, e1⟩, e2⟩
    simp only at e1 e2
    subst e1 e2
    have hin : RunsW (tabH Tryd.prog extY conN hcRd) (seqs (eQ Tryd.f35) (.seq (.seq (e8 Tryd.f35) (.block 2 (.loop (eI Tryd.f35)))) (eZ Tryd.f35))) (eF (sl 1 0 (trimN Q) (trimN Q)) (bS l) (.slice (some ⟨1, 0, none⟩) k grown) (uu r) (.int .i64 i) ++ tl 39 g1, ⟨2, [(wU Q, tU), (la, tR)]⟩, s) fun e y => e = none ∧ ∃ Q' : List Int, Q'.length = trimN Q ∧ (∀ x ∈ Q', Dg 65536 x) ∧ vb 65536 Q' = vb 65536 Q / 10 ∧ ∃ (j : Int) (g : Nat → Value), y.1 = eF (sl 2 0 (trimN Q') (trimN Q')) (bS (a8 ((vb 65536 Q % 10 : Nat) : Int) :: l)) (.slice (some ⟨2, 0, none⟩) (trimN Q) grown) (uu ((vb 65536 Q % 10 : Nat) : Int)) (.int .i64 j) ++ tl 39 g ∧ y.2.1 = hQ [(wU Q, tU), (la, tR)] (wU Q') := by
      refine goesT_listW tabRd (rd_q1 (trimN Q) (trimN Q) (bS l) _ _ _ (wU Q) (la, tR) g1) (okL1 (appChn_wU h0 hle (by omega))) fun g2 => ?_
      have ecp : ((wU Q).drop 0).take (trimN Q) = wU (db 65536 (vb 65536 Q)) := by
        rw [List.drop_zero, ← take_trim (by omega) Q hDQ]
        unfold wU
        rw [List.map_take]
      rw [ecp]
      have hr := rd_in (X := [(wU Q, tU), (la, tR)]) (.inr rfl) (sl 1 0 (trimN Q) (trimN Q)) l (.int .i64 i) (L := db 65536 (vb 65536 Q)) (db_dg (by omega) _) (by rw [← htr]; omega) (by omega) g2 []
      rw [vb_db (by omega), ← htr] at hr
      refine hr.mono fun e y he => ?_
      obtain ⟨rfl, Q', p1, p2, p3, p4, j', g3, p5⟩ := he
      exact ⟨rfl, Q', p1, p2, p3, j', g3, p5, p4⟩
    have hblk := RunsW.block (id := 1) (P := fun e y => e = none ∧ ∃ Q' : List Int, Q'.length = trimN Q ∧ (∀ x ∈ Q', Dg 65536 x) ∧ vb 65536 Q' = vb 65536 Q / 10 ∧ ∃ (j : Int) (g : Nat → Value), y.1 = eF (sl 2 0 (trimN Q') (trimN Q')) (bS (a8 ((vb 65536 Q % 10 : Nat) : Int) :: l)) (.slice (some ⟨2, 0, none⟩) (trimN Q) grown) (uu ((vb 65536 Q % 10 : Nat) : Int)) (.int .i64 j) ++ tl 39 g ∧ y.2.1 = hQ [(wU Q, tU), (la, tR)] (wU Q')) hin (fun y he => he) (fun y he => by cases he.1) (fun y he => by cases he.1) (fun id' y _ he => by cases he.1)
    refine hblk.small (P' := fun e y => match e with | none => ∃ m', m' < m ∧ rdS1 la V0 m' y | some none => False | some (some id') => id' = 0 ∧ rdO V0 y) fun e y he => .inr ?_
    obtain ⟨rfl, Q', p1, p2, p3, j', g3, p5, p4⟩ := he
    obtain ⟨t, hh, s3⟩ := y
    simp only at p4 p5
    subst p4 p5
    refine ⟨eF (sl 2 0 (trimN Q') (trimN Q')) (bS (a8 ((vb 65536 Q % 10 : Nat) : Int) :: l)) (.slice (some ⟨2, 0, none⟩) (trimN Q) grown) (uu ((vb 65536 Q % 10 : Nat) : Int)) (.int .i64 j'), eF (sl 1 0 (trimN Q') (trimN Q')) (bS (a8 ((vb 65536 Q % 10 : Nat) : Int) :: l)) (.slice (some ⟨1, 0, none⟩) (trimN Q) grown) (uu ((vb 65536 Q % 10 : Nat) : Int)) (.int .i64 j'), tl 39 g3, _, ⟨2, [(wU Q', tU), (la, tR)]⟩, s3, keepK 1 2, rfl, by kernel_rfl, rfl, Nat.succ_pos 1, fun i x hx => ?_, fun i j x y hi hj _ _ hij => ?_, ?_, fun g4 => ?_⟩
    · have hi2 : i < 2 := Hp.blk_lt hx
      have h01 : i = 0 ∨ i = 1 := by omega
      rcases h01 with rfl | rfl
      · obtain rfl := (Option.some.inj hx).symm
        exact ⟨List.all_eq_true.1 hla, (la, tR), [], rfl, rfl, (List.append_nil _).symm⟩
      · obtain rfl := (Option.some.inj hx).symm
        exact ⟨List.all_eq_true.1 (wU_allS _), (wU Q', tU), [], rfl, rfl, (List.append_nil _).symm⟩
    · have hi2 : i < 2 := Hp.blk_lt hi
      have hj2 : j < 2 := Hp.blk_lt hj
      have h01 : i = 0 ∨ i = 1 := by omega
      have h02 : j = 0 ∨ j = 1 := by omega
      rcases h01 with rfl | rfl <;> rcases h02 with rfl | rfl
      · rfl
      · exact absurd hij (by decide)
      · exact absurd hij (by decide)
      · rfl
    · intro v hv
      simp only [eF, List.mem_cons, List.not_mem_nil, or_false] at hv
      rcases hv with rfl | rfl | rfl | rfl | rfl | rfl | rfl <;> rfl
    · have hl39 : (tl 39 g3).length = 39 := by simp [tl]
      refine ⟨vb 65536 Q', by rw [hm, p3]; exact Nat.div_lt_self hV (by omega), Q', a8 ((vb 65536 Q % 10 : Nat) : Int) :: l, trimN Q, 0, ((vb 65536 Q % 10 : Nat) : Int), j', g4, by rw [hl39], rfl, p2, by omega, ?_, rfl, rfl⟩
      rw [p3]
      exact rdI_step hV hI
  · have hz : vb 65536 Q = 0 := by
      rcases Nat.eq_zero_or_pos (vb 65536 Q) with h1 | h1
      · exact h1
      · exact absurd (hpos.2 h1) h0
    refine RunsW.seq (P1 := fun e y => e = some (some 0) ∧ rdO V0 y) ((goesT_runsW (s0 := sc) tabRd (rd_a 1 0 (trimN Q) (trimN Q) false _ _ _ _ _ g) (okL1 (decide_eq_false (by omega)))).mono fun e y he => ?_) (fun y he => by cases he.1) (fun e y he => ?_)
    · obtain ⟨rfl, ⟨g', z1⟩, z2⟩ := he
      unfold rdI at hI
      rw [hz, db_zero] at hI
      have : l = decS V0 := by simpa using hI
      rw [this] at z1
      exact ⟨rfl, _, _, _, _, g', z1⟩
    · obtain ⟨h1, h2⟩ := he
      cases h1
      exact ⟨rfl, h2⟩
theorem rdec_runs {la : List Value} {o n c : Nat} {L : List Int} (hR : Row la o L) (hn : L.length = n) (hla : la.all still = true) (hD : ∀ x ∈ L, Dg 65536 x) (h0 : 0 < n) (hb : n < 1073741824) (hV : 0 < vb 65536 L) :
    RunsW (tabH Tryd.prog extY conN hcRd) (seqs (eP Tryd.f35) (.seq (.block 0 (.loop (.seq (eA Tryd.f35) (.block 1 (seqs (eQ Tryd.f35) (.seq (.seq (e8 Tryd.f35) (.block 2 (.loop (eI Tryd.f35)))) (eZ Tryd.f35))))))) (eE Tryd.f35))) ([sl 0 o n c] ++ List.replicate 45 undef, h1R la, []) fun e z => (e = none ∨ e = some none) ∧ resS Tryd.prog Tryd.f35 z.1 z.2.1 = some (bS (decS (vb 65536 L))) := by
  have hV0 : (decS (vb 65536 L)).length < 9223372036854775000 := by
    have := decS_len (V := vb 65536 L) (n := L.length) (vb_lt (by omega) L hD) (by omega)
    omega
  have hI0 : rdI (vb 65536 L) (vb 65536 L) [] := by
    unfold rdI decS decL
    rw [if_neg (by omega), List.append_nil]
    rfl
  refine goesT_listW tabRd (rd_pre n c o _) (okL1 (by simp; omega)) fun g => ?_
  refine RunsW.seq (P1 := fun e y => e = none ∧ rdO (vb 65536 L) y) ?_ ?_ (fun e y he => by cases he.1)
  · -- the first round is on the argument's own row
    refine (RunsW.forLoop (R := fun _ => False) (P := rdO (vb 65536 L)) (fun m z => (m = vb 65536 L + 1 ∧ (∃ g, z.1 = eF (sl 0 o n c) (bS []) undef undef undef ++ tl 39 g) ∧ z.2.1 = h1R la) ∨ (m ≤ vb 65536 L ∧ rdS1 la (vb 65536 L) m z)) ?_ (n := vb 65536 L + 1) (.inl ⟨rfl, ⟨g, rfl⟩, rfl⟩)).mono fun e z hz => ?_
    · rintro m z (⟨hm, ⟨g, ht⟩, hh⟩ | ⟨hm, hS⟩)
      · obtain ⟨t, h', sc⟩ := z
        simp only at ht hh
        subst ht hh
        refine RunsW.seq (P1 := fun e y => e = none ∧ (∃ g, y.1 = eF (sl 0 o n c) (bS []) undef undef undef ++ tl 39 g) ∧ y.2.1 = h1R la) (goesT_runsW (s0 := sc) tabRd (rd_a 0 o n c true _ _ _ _ _ g) (okL1 (decide_eq_true (by omega)))) ?_ (fun e y he => by cases he.1)
        rintro ⟨t, hh, s⟩ ⟨_, ⟨g1, e1⟩, e2⟩
        simp only at e1 e2
        subst e1 e2
        have lc : appChn (la, tR) o n = true := by
          have h1 := hR.cut
          have h2 := hR.len
          unfold cutV at h1
          rw [hn] at h1 h2
          unfold appChn
          simp only
          rw [show tomb tR = false from by kernel_rfl, Nat.ble_eq_true_of_le h2, blt_iff.2 h0, h1, wU_one, Nat.ble_eq_true_of_le (by omega)]
          rfl
        have hin : RunsW (tabH Tryd.prog extY conN hcRd) (seqs (eQ Tryd.f35) (.seq (.seq (e8 Tryd.f35) (.block 2 (.loop (eI Tryd.f35)))) (eZ Tryd.f35))) (eF (sl 0 o n c) (bS []) undef undef undef ++ tl 39 g1, h1R la, s) fun e y => e = none ∧ ∃ m', m' < m ∧ (m' ≤ vb 65536 L ∧ rdS1 la (vb 65536 L) m' y) := by
          refine goesT_listW tabRd (rd_q0 o n c (bS []) undef undef undef la tR g1) (okL1 lc) fun g2 => ?_
          have ecp : (la.drop o).take n = wU L := by
            have h1 := hR.cut
            unfold cutV at h1
            rw [hn] at h1
            exact h1
          rw [ecp]
          have hr := rd_in (X := [(la, tR)]) (.inl rfl) (sl 0 o n c) [] undef hD (by omega) (by decide) g2 []
          rw [hn] at hr
          refine hr.mono fun e y he => ?_
          obtain ⟨rfl, Q', p1, p2, p3, p4, j', g3, p5⟩ := he
          refine ⟨rfl, vb 65536 Q', by rw [hm, p3]; have := Nat.div_le_self (vb 65536 L) 10; omega, by rw [p3]; exact Nat.div_le_self _ _, Q', _, n, 0, _, j', g3, p5, p4, p2, by omega, ?_, rfl, rfl⟩
          rw [p3]
          exact rdI_step hV hI0
        refine (RunsW.block (id := 1) (P := fun e y => e = none ∧ ∃ m', m' < m ∧ (m' ≤ vb 65536 L ∧ rdS1 la (vb 65536 L) m' y)) hin (fun y he => he) (fun y he => by cases he.1) (fun y he => by cases he.1) (fun id' y _ he => by cases he.1)).mono fun e y he => ?_
        obtain ⟨rfl, m', h1, h2⟩ := he
        exact ⟨m', h1, .inr h2⟩
      · refine (rd_round hla hV0 m z hS).mono fun e y he => ?_
        match e, he with
        | none, he =>
          obtain ⟨m', h1, h2⟩ := he
          exact ⟨m', h1, .inr ⟨by omega, h2⟩⟩
        | some (some id'), he => exact he
    · match e, hz with
      | none, hz => exact ⟨rfl, hz⟩
  · rintro ⟨t, hh, s⟩ ⟨_, a, q, r, i, g', e1⟩
    simp only at e1
    subst e1
    refine (goesT_runsW (s0 := s) tabRd (rd_end a _ q r i hh g') okN9).mono fun e z he => ?_
    obtain ⟨rfl, ⟨g2, z1⟩, z2⟩ := he
    refine ⟨.inr rfl, ?_⟩
    rw [z1]
    rfl
/-- the document's Decimal: the text is told ahead -/
def gRd9 : AnsH := fun vals h s =>
  match vals, s with
  | [.slice p n c], .inr (.inr (.inr (.inr (.inr (.string b))))) :: s' => some (.string b, h, s', [(rowP h p n c && canB (rowOf h p n) && Nat.blt n 1073741824, true), (decide (decS (vO h p n) = b.data.toList), true)])
  | _, _ => none
theorem gRd9_ok : AnsHOk 35 gRd9 := by
  intro vals h s v h' s' lg hg hl m B w E hv
  unfold gRd9 at hg
  split at hg
  · rename_i p n c b s2
    cases hg
    obtain ⟨q, q0⟩ := logB hl
    obtain ⟨l3, _⟩ := logB q0
    have l3 := of_decide_eq_true l3
    have et : Value.string b = bS b.data.toList := rfl
    rw [et, ← l3]
    simp only [Bool.and_eq_true] at q
    obtain ⟨⟨q1, q2⟩, q3⟩ := q
    have q2 := canB_of q2
    have q3 := blt_iff.1 q3
    have hlen := rowOf_len q1
    by_cases hn : n = 0
    · subst hn
      have e0 : rowOf h p 0 = [] := List.length_eq_zero_iff.1 hlen
      have ev : vO h p 0 = 0 := by unfold vO; rw [e0]; rfl
      obtain ⟨x, p', a, NA, eA, fA⟩ := nu_of 0 q1
      have hr : Runs (tabH Tryd.prog extY conN hcRd) (cBody Tryd.f35) ([.slice p' 0 c] ++ List.replicate 45 undef, ⟨1, [x]⟩, []) fun e z => (e = none ∨ e = some none) ∧ resS Tryd.prog Tryd.f35 z.1 z.2.1 = some (bS (decS (vO h p 0))) := by
        refine (goesT_runs tabRd (rd_zero p' 0 c _) (okL1 rfl)).mono fun e z he => ?_
        obtain ⟨rfl, ⟨g, e2⟩, e3⟩ := he
        refine ⟨.inr rfl, ?_⟩
        rw [e2, e3, ev]
        rfl
      have := row_calls0 (T := (tabH Tryd.prog extY conN hcRd)) Tryd.func35 rd_body1 (h0 := ⟨1, [x]⟩) ⟨rfl, fun b z hz => by obtain ⟨_, rfl⟩ := b1_of hz; exact ⟨NA.ros.1, NA.lt0, NA.ros.2⟩⟩ (vals := [.slice p' 0 c]) (fun v hv => by rw [List.mem_singleton.1 hv]; exact NA.lt (by show 0 < 1; omega)) (by rfl) hr.w E (s := fun _ => a) (fun i z hz ht => by obtain ⟨_, rfl⟩ := b1_of hz; exact fA ht)
      simp only [List.map_cons, List.map_nil] at this
      rw [eA _ rfl] at this
      exact this
    · rcases rowP_cases q1 with ⟨rfl, rfl, rfl, e0⟩ | ⟨bk, o, x, rfl, hx, r1, _, e0⟩
      · exact absurd rfl hn
      · rw [e0] at q2 hlen
        obtain ⟨h1, h2, h3, h4, h5, h6, h7⟩ := rowC_of r1
        have ev : vO h (some ⟨bk, o, none⟩) n = vb 65536 (cutI x.1 o n) := by unfold vO; rw [e0]
        rw [ev]
        have hVp : 0 < vb 65536 (cutI x.1 o n) := by
          rcases Nat.eq_zero_or_pos (vb 65536 (cutI x.1 o n)) with hz | hz
          · exfalso
            have := db_can (by omega) q2
            rw [hz, db_zero] at this
            rw [← this] at hlen
            exact hn hlen.symm
          · exact hz
        exact row_calls0 (T := (tabH Tryd.prog extY conN hcRd)) Tryd.func35 rd_body (rows1 h7) (vals := [sl 0 o n c]) (fun v hv => by rw [List.mem_singleton.1 hv]; rfl) (by rfl) (rdec_runs h1 h2 (List.all_eq_true.2 h7) q2.1 (by omega) q3 hVp) E (s := fun _ => bk) (fitsR1 hx h5 h6 rfl)
  · cases hg
end Go.Proofs.YtbjgkhbhabdjgaaDoor
