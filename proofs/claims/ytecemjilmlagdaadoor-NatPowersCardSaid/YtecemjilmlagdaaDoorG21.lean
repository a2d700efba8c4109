/-
  A law of layer 2 whose arguments are rows: where it begins; what is known of calls.
-/
import Derived.Test.YtecemjilmlagdaaDoorG18
import Derived.Test.YtecemjilmlagdaaDoorG17
import Derived.Test.YtecemjilmlagdaaDoorG19
import Derived.Test.YtecemjilmlagdaaDoorG20
import Derived.Test.YtecemjilmlagdaaDoorG12
import Derived.Test.YtecemjilmlagdaaDoorG14
namespace Go.Proofs.YtecemjilmlagdaaDoor
open Go.KRun Go.Nt
set_option maxRecDepth 100000
set_option linter.unusedVariables false

def gSureL : Ans := fun vals s => match vals with | [] => some (.bool true, s, []) | _ => none
theorem gSureL_ok : AnsOk 9 gSureL := by
  intro vals s v s' lg h hl w
  unfold gSureL at h
  split at h
  · cases h
    exact sure_calls w
  · cases h
def conLw : Con := alt 9 gSureL conN
theorem conLw_ok : ConOk conLw := alt_ok Tryd.func9 rfl gSureL_ok conN_ok
def hcLn : Hc := altH 15 gNum (altH 14 gIsU (altH 18 gWordsU (altH 13 gChkU (altH 36 gBothU (altH 39 gCmpU (altH 16 gFromU (altH 19 gWd hcN)))))))
theorem hcLn_ok : HcOk hcLn := altH_ok Tryd.func15 rfl gNum_ok (altH_ok Tryd.func14 rfl gIsU_ok (altH_ok Tryd.func18 rfl gWordsU_ok (altH_ok Tryd.func13 rfl gChkU_ok (altH_ok Tryd.func36 rfl gBothU_ok (altH_ok Tryd.func39 rfl gCmpU_ok (altH_ok Tryd.func16 rfl gFromU_ok (altH_ok Tryd.func19 rfl gWd_ok hcN_ok)))))))
def hcL2 : Hc := altH 10 gAddU (altH 11 gSubU (altH 20 gUadd (altH 21 gUsub (altH 17 gUcmp hcLn))))
theorem hcL2_ok : HcOk hcL2 := altH_ok Tryd.func10 rfl gAddU_ok (altH_ok Tryd.func11 rfl gSubU_ok (altH_ok Tryd.func20 rfl gUadd_ok (altH_ok Tryd.func21 rfl gUsub_ok (altH_ok Tryd.func17 rfl gUcmp_ok hcLn_ok))))
/-! ### where it begins -/
def hS (xa xb : List Value × TypeId) : Hp := ⟨3, [xb, xa, (kV, kT)]⟩
def m3 (ka kb : Nat × Nat) : Mp := fun b => if b = 0 then (0, 0) else if b = 1 then ka else kb
/-- an argument, and how it is told in the small memory: block i -/
def Arg (w : World) (i : Nat) (v : Value) (x : List Value × TypeId) (k : Nat × Nat) (p : Option Addr) (n c : Nat) (L : List Int) : Prop :=
  (v = .slice none 0 0 ∧ x = ([], 2 * dead) ∧ p = none ∧ n = 0 ∧ c = 0 ∧ L = []) ∨
  ∃ b off cs zs, v = .slice (some ⟨b, off, none⟩) n c ∧ Lain w b off cs zs ∧ c = zs.length ∧ n ≤ zs.length ∧ zs.length < 4611686018427387904 ∧ x = (rowL cs off zs, tR) ∧ k = (b, cs.size) ∧ p = some ⟨i, off, none⟩ ∧ L = zs.take n
theorem Arg.emb {w : World} {i : Nat} {v : Value} {x : List Value × TypeId} {k : Nat × Nat} {p : Option Addr} {n c : Nat} {L : List Int} (h : Arg w i v x k p n c L) :
    ro x.2 = true ∧ ab x.2 = false ∧ (∀ u ∈ x.1, still u = true) ∧ (tomb x.2 = false → (∀ m : Mp, lie w k (x.1.map (mv1 m)) x.2) ∧ k.1 < w.heap.size) := by
  rcases h with ⟨_, rfl, _⟩ | ⟨b, off, cs, zs, _, hL, _, _, _, rfl, rfl, _⟩
  · exact ⟨by kernel_rfl, by kernel_rfl, (fun u hu => by cases hu), fun ht => by rw [show tomb (2 * dead) = true from by kernel_rfl] at ht; cases ht⟩
  · refine ⟨tR_ro, tR_ab, rowL_still cs off zs, fun _ => ⟨fun m => rowL_lie hL tR_ro m, ?_⟩⟩
    obtain ⟨ty, z, hh⟩ := hL.heap
    exact (Array.getElem?_eq_some_iff.1 hh).1
theorem blkS {xa xb : List Value × TypeId} {b : Nat} {x : List Value × TypeId} (h : (hS xa xb).blk? b = some x) : (b = 0 ∧ x = (kV, kT)) ∨ (b = 1 ∧ x = xa) ∨ (b = 2 ∧ x = xb) := by
  have hb : b < 3 := Hp.blk_lt h
  have h3 : b = 0 ∨ b = 1 ∨ b = 2 := by omega
  rcases h3 with rfl | rfl | rfl
  · exact .inl ⟨rfl, (Option.some.inj h).symm⟩
  · exact .inr (.inl ⟨rfl, (Option.some.inj h).symm⟩)
  · exact .inr (.inr ⟨rfl, (Option.some.inj h).symm⟩)
theorem startS {w : World} (hk : known w) {va vb : Value} {xa xb : List Value × TypeId} {ka kb : Nat × Nat} {pa pb : Option Addr} {na ca nb cb : Nat} {LA LB : List Int} (Ha : Arg w 1 va xa ka pa na ca LA) (Hb : Arg w 2 vb xb kb pb nb cb LB) : Emb (m3 ka kb) w.heap.size (hS xa xb) w := by
  obtain ⟨a1, a2, a3, a4⟩ := Ha.emb
  obtain ⟨b1, b2, b3, b4⟩ := Hb.emb
  have K := startK hk
  have k0 : hK.blk? 0 = some (kV, kT) := rfl
  have kro : ro kT = true := by kernel_rfl
  have kto : tomb kT = true := by kernel_rfl
  refine ⟨rfl, fun b x hb ht => ?_, fun b x hb hr => ?_, fun b x hb ht hr => ?_, fun b b' x x' hb _ hr => ?_, fun b x hb v hv => ?_, Nat.le_refl _, fun k h1 h2 => by omega, fun b x hb hx => ?_⟩
  · rcases blkS hb with ⟨rfl, rfl⟩ | ⟨rfl, rfl⟩ | ⟨rfl, rfl⟩
    · rw [kto] at ht; cases ht
    · exact (a4 ht).1 _
    · exact (b4 ht).1 _
  · rcases blkS hb with ⟨rfl, rfl⟩ | ⟨rfl, rfl⟩ | ⟨rfl, rfl⟩
    · rw [kro] at hr; cases hr
    · rw [a1] at hr; cases hr
    · rw [b1] at hr; cases hr
  · rcases blkS hb with ⟨rfl, rfl⟩ | ⟨rfl, rfl⟩ | ⟨rfl, rfl⟩
    · rw [kto] at ht; cases ht
    · exact (a4 ht).2
    · exact (b4 ht).2
  · rcases blkS hb with ⟨rfl, rfl⟩ | ⟨rfl, rfl⟩ | ⟨rfl, rfl⟩
    · rw [kro] at hr; cases hr
    · rw [a1] at hr; cases hr
    · rw [b1] at hr; cases hr
  · rcases blkS hb with ⟨rfl, rfl⟩ | ⟨rfl, rfl⟩ | ⟨rfl, rfl⟩
    · rw [List.mem_singleton.1 hv]; rfl
    · exact still_lt (by show 0 < 3; omega) (a3 v hv)
    · exact still_lt (by show 0 < 3; omega) (b3 v hv)
  · rcases blkS hb with ⟨rfl, rfl⟩ | ⟨rfl, rfl⟩ | ⟨rfl, rfl⟩
    · have := K.abs 0 _ k0 hx
      have e : kV.map (mv1 (m3 ka kb)) = kV.map (mv1 fun b => (b, 0)) := rfl
      rw [e]
      exact this
    · rw [a2] at hx; cases hx
    · rw [b2] at hx; cases hx
theorem Arg.val {w : World} {i : Nat} {v : Value} {x : List Value × TypeId} {k : Nat × Nat} {p : Option Addr} {n c : Nat} {L : List Int} (h : Arg w i v x k p n c L) {m : Mp} (hm : m i = k) : mv m (.slice p n c) = v := by
  rcases h with ⟨rfl, _, rfl, rfl, rfl, _⟩ | ⟨b, off, cs, zs, rfl, _, rfl, _, h4, _, rfl, rfl, _⟩
  · rfl
  · have hs : smallC zs.length = true := blt_iff.2 h4
    simp only [mv, mv2, mv1, mvA, hm, cap_small hs]
theorem Arg.lt {w : World} {i : Nat} {v : Value} {x : List Value × TypeId} {k : Nat × Nat} {p : Option Addr} {n c : Nat} {L : List Int} (h : Arg w i v x k p n c L) (hi : i < 3) : KRun.lt 3 (.slice p n c) = true := by
  rcases h with ⟨_, _, rfl, _⟩ | ⟨b, off, cs, zs, _, _, _, _, _, _, _, rfl, _⟩
  · rfl
  · exact blt_iff.2 hi
/-- the row in the small memory -/
theorem Arg.row {w : World} {i : Nat} {v : Value} {x : List Value × TypeId} {k : Nat × Nat} {p : Option Addr} {n c : Nat} {L : List Int} (h : Arg w i v x k p n c L) {H : Hp} (hb : H.blk? i = some x) : rowX H p n c = true ∧ rowOf H p n = L ∧ L.length = n ∧ wds L := by
  rcases h with ⟨_, _, rfl, rfl, rfl, rfl⟩ | ⟨b, off, cs, zs, _, hL, rfl, h3, h4, rfl, _, rfl, rfl⟩
  · exact ⟨rfl, rfl, rfl, fun x hx => by cases hx⟩
  · have hroom := hL.room
    have hlen : ((cs.toList.take off).map (Value.iface dead)).length = off := by simp; omega
    have hcut : cutV (rowL cs off zs) off n = (zs.take n).map (Value.int .u32) := by
      unfold cutV rowL
      have e : ((cs.toList.take off).map (Value.iface dead) ++ zs.map (Value.int .u32)).drop off = zs.map (Value.int .u32) := List.drop_left' hlen
      rw [e, List.map_take]
    have hw : ∀ z ∈ zs, 0 ≤ z ∧ z < 4294967296 := fun z hz => by
      have := hL.wf z hz
      simp [Lit.wf, IntKind.min, IntKind.max, IntKind.signed, IntKind.bits] at this
      omega
    have hcI : cutI (rowL cs off zs) off n = zs.take n := by
      unfold cutI
      rw [hcut, List.map_map]
      exact (List.map_congr_left fun z _ => rfl).trans (List.map_id' _)
    refine ⟨?_, ?_, by simp; omega, fun z hz => hw z (List.mem_of_mem_take hz)⟩
    · unfold rowX
      simp only [hb]
      unfold rowOk
      have e6 : ((cutV (rowL cs off zs) off n).all isU) = true := by
        rw [hcut, List.all_eq_true]
        intro u hu
        obtain ⟨z, hz, rfl⟩ := List.mem_map.1 hu
        exact decide_eq_true (hw z (List.mem_of_mem_take hz))
      have e3 : Nat.ble (off + n) (rowL cs off zs).length = true := Nat.ble_eq_true_of_le (by unfold rowL; rw [List.length_append, hlen, List.length_map]; omega)
      rw [tR_tomb, show Nat.beq (rt tR) tU = true from by kernel_rfl, e3, Nat.ble_eq_true_of_le h3, show smallC zs.length = true from blt_iff.2 h4, e6, List.all_eq_true.2 (rowL_still cs off zs)]
      rfl
    · unfold rowOf
      simp only [hb]
      exact hcI
/-- a call that begins with two rows -/
theorem rows_calls {T : Tab} (hT : TabOk T) {w : World} (hk : known w) {va vb : Value} {xa xb : List Value × TypeId} {ka kb : Nat × Nat} {pa pb : Option Addr} {na ca nb cb : Nat} {LA LB : List Int} (Ha : Arg w 1 va xa ka pa na ca LA) (Hb : Arg w 2 vb xb kb pb nb cb LB) {n f : Nat} {s : List Dec} {v : Value} {cs : Log}
    (hF : Fits (reckonAt T (hS xa xb) n f [.slice pa na ca, .slice pb nb cb] s) v cs) (hcs : okLog cs) (hv : KRun.lt 0 v = true) : Calls T.P f #[va, vb] w fun e w' => e = .returned v ∧ Tidy w w' := by
  have := fitsAt_calls hT hF hcs (List.all_eq_true.2 fun u hu => by
    simp only [List.mem_cons, List.not_mem_nil, or_false] at hu
    rcases hu with rfl | rfl
    · exact Ha.lt (by omega)
    · exact Hb.lt (by omega)) hv (startS hk Ha Hb)
  rw [List.map_cons, List.map_cons, List.map_nil, Ha.val (by simp [m3]), Hb.val (by simp [m3])] at this
  exact this
end Go.Proofs.YtecemjilmlagdaaDoor

/-
  Contracts whose numbers are told ahead (letters), for laws whose memories would else grow with every call.
-/
namespace Go.Proofs.YtecemjilmlagdaaDoor
open Go.KRun Go.Nt
set_option maxRecDepth 100000
set_option linter.unusedVariables false

theorem log_tl {x : Bool × Bool} {l : Log} (h : okLog (x :: l)) : x.1 = x.2 ∧ okLog l := ⟨h _ List.mem_cons_self, fun y hy => h y (List.mem_cons_of_mem _ hy)⟩
def gFromN : AnsH := fun vals h s =>
  match vals, s with
  | [.slice p n c], .inr (.inr (.inr (.inl d))) :: s' =>
    match d, s' with
    | true, .inr (.inl V) :: s2 => mk16 V.toNat h s2 [(decide (v32O h p n = V.toNat), true), (rowX h p n c && Nat.ble n 1000000, true), (decide (0 < n), true)]
    | false, _ => some (nilS, h, s', [(decide (0 < n), false)])
    | _, _ => none
  | _, _ => none
theorem gFromN_ok : AnsHOk 16 gFromN := by
  intro vals h s v h' s' lg hg hl
  unfold gFromN at hg
  split at hg
  · rename_i p n c d s2
    split at hg
    · rename_i V s3
      unfold mk16 at hg
      cases hg
      obtain ⟨l1, l2⟩ := log_tl hl
      have l1 := of_decide_eq_true l1
      refine gFromU_ok _ h [cmp true] _ _ [] _ ?_ l2
      simp only [gFromU, mk16, l1]
    · cases hg
      exact gFromU_ok _ h [cmp false] _ _ [] _ rfl hl
    · cases hg
  · cases hg
def gUaddN : AnsH := fun vals h s =>
  match vals, s with
  | [.slice p n c, .slice q n' c'], .inr (.inr (.inr (.inl d))) :: s' =>
    match d, s' with
    | true, .inr (.inl V) :: s2 => mk16 V.toNat h s2 [(decide (vO h p n + vO h q n' = V.toNat), true), (two16 h p q n c n' c', true), (decide (0 < n ∨ 0 < n'), true)]
    | false, _ => some (nilS, h, s', [(two16 h p q n c n' c', true), (decide (0 < n ∨ 0 < n'), false)])
    | _, _ => none
  | _, _ => none
theorem gUaddN_ok : AnsHOk 20 gUaddN := by
  intro vals h s v h' s' lg hg hl
  unfold gUaddN at hg
  split at hg
  · rename_i p n c q n' c' d s2
    split at hg
    · rename_i V s3
      unfold mk16 at hg
      cases hg
      obtain ⟨l1, l2⟩ := log_tl hl
      have l1 := of_decide_eq_true l1
      refine gUadd_ok _ h [cmp true] _ _ [] _ ?_ l2
      simp only [gUadd, mk16, l1]
    · cases hg
      exact gUadd_ok _ h [cmp false] _ _ [] _ rfl hl
    · cases hg
  · cases hg
def gUsubN : AnsH := fun vals h s =>
  match vals, s with
  | [.slice p n c, .slice q n' c'], .inr (.inr (.inr (.inl d))) :: s' =>
    match d, s' with
    | true, .inr (.inl V) :: s2 => mk16 V.toNat h s2 [(decide (vO h p n - vO h q n' = V.toNat), true), (two16 h p q n c n' c' && Nat.ble (vO h q n') (vO h p n), true), (decide (0 < n), true)]
    | false, _ => some (nilS, h, s', [(two16 h p q n c n' c', true), (decide (0 < n), false)])
    | _, _ => none
  | _, _ => none
theorem gUsubN_ok : AnsHOk 21 gUsubN := by
  intro vals h s v h' s' lg hg hl
  unfold gUsubN at hg
  split at hg
  · rename_i p n c q n' c' d s2
    split at hg
    · rename_i V s3
      unfold mk16 at hg
      cases hg
      obtain ⟨l1, l2⟩ := log_tl hl
      have l1 := of_decide_eq_true l1
      refine gUsub_ok _ h [cmp true] _ _ [] _ ?_ l2
      simp only [gUsub, mk16, l1]
    · cases hg
      exact gUsub_ok _ h [cmp false] _ _ [] _ rfl hl
    · cases hg
  · cases hg
def gWdN : AnsH := fun vals h s =>
  match vals, s with
  | [.slice p n c], .inr (.inr (.inr (.inl d))) :: s' =>
    match d, s' with
    | true, .inr (.inl V) :: s2 => some (sl h.n 0 (d32 V.toNat).length grown, h.push (wU (d32 V.toNat)) tU, s2, [(decide (vO h p n = V.toNat), true), (okWd h p n c, true), (decide (0 < n), true)])
    | false, _ => some (nilS, h, s', [(decide (0 < n), false)])
    | _, _ => none
  | _, _ => none
theorem gWdN_ok : AnsHOk 19 gWdN := by
  intro vals h s v h' s' lg hg hl
  unfold gWdN at hg
  split at hg
  · rename_i p n c d s2
    split at hg
    · rename_i V s3
      cases hg
      obtain ⟨l1, l2⟩ := log_tl hl
      have l1 := of_decide_eq_true l1
      refine gWd_ok _ h [cmp true] _ _ [] _ ?_ l2
      simp only [gWd, l1]
    · cases hg
      exact gWd_ok _ h [cmp false] _ _ [] _ rfl hl
    · cases hg
  · cases hg
/-- the sum's row, of a number told ahead -/
def gAddN : AnsH := fun vals h s =>
  match vals, s with
  | [.slice p n c, .slice q n' c'], .inr (.inr (.inr (.inl true))) :: s' => some (.tuple #[nilS, errV 1], h, s', [(rowX h p n c, true), (rowX h q n' c', true), (badL (rowOf h p n) || badL (rowOf h q n'), true)])
  | [.slice p n c, .slice q n' c'], .inr (.inr (.inr (.inl false))) :: .inr (.inl V) :: s' => some (.tuple #[sl h.n 0 (trimN (dg (mxN n n' + 1) V)) (mxN n n' + 1), .nilIface], h.push (wU (dg (mxN n n' + 1) V)) tU, s', [(decide (sumR (rowOf h p n) (rowOf h q n') = dg (mxN n n' + 1) V), true), (rowX h p n c, true), (rowX h q n' c', true), (badL (rowOf h p n) || badL (rowOf h q n') || decide ((trimN (dg (mxN n n' + 1) V) : Int) > 8192), false)])
  | _, _ => none
theorem gAddN_ok : AnsHOk 10 gAddN := by
  intro vals h s v h' s' lg hg hl
  unfold gAddN at hg
  split at hg
  · cases hg
    exact gAddU_ok _ h [cmp true] _ _ [] _ rfl hl
  · rename_i p n c q n' c' V s3
    cases hg
    obtain ⟨l1, l2⟩ := log_tl hl
    have l1 := of_decide_eq_true l1
    refine gAddU_ok _ h [cmp false] _ _ [] _ ?_ l2
    simp only [gAddU, l1]
  · cases hg
def gSubN : AnsH := fun vals h s =>
  match vals, s with
  | [.slice p n c, .slice q n' c'], .inr (.inr (.inr (.inl true))) :: s' => some (.tuple #[nilS, errV 1], h, s', [(rowX h p n c, true), (rowX h q n' c', true), (badL (rowOf h p n) || badL (rowOf h q n'), true)])
  | [.slice p n c, .slice q n' c'], .inr (.inr (.inr (.inl false))) :: .inr (.inr (.inr (.inl true))) :: s' => some (.tuple #[nilS, errV 4], h, s', [(rowX h p n c, true), (rowX h q n' c', true), (!(badL (rowOf h p n) || badL (rowOf h q n')) && decide (cmpL (rowOf h p n) (rowOf h q n') < 0), true)])
  | [.slice p n c, .slice q n' c'], .inr (.inr (.inr (.inl false))) :: .inr (.inr (.inr (.inl false))) :: .inr (.inl V) :: s' => some (.tuple #[sl h.n 0 (trimN (dg n V)) n, .nilIface], h.push (wU (dg n V)) tU, s', [(decide (difL (rowOf h p n) (rowOf h q n') = dg n V), true), (rowX h p n c, true), (rowX h q n' c', true), (badL (rowOf h p n) || badL (rowOf h q n') || decide (cmpL (rowOf h p n) (rowOf h q n') < 0), false)])
  | _, _ => none
theorem gSubN_ok : AnsHOk 11 gSubN := by
  intro vals h s v h' s' lg hg hl
  unfold gSubN at hg
  split at hg
  · cases hg
    exact gSubU_ok _ h [cmp true] _ _ [] _ rfl hl
  · cases hg
    exact gSubU_ok _ h [cmp false, cmp true] _ _ [] _ rfl hl
  · rename_i p n c q n' c' V s3
    cases hg
    obtain ⟨l1, l2⟩ := log_tl hl
    have l1 := of_decide_eq_true l1
    refine gSubU_ok _ h [cmp false, cmp false] _ _ [] _ ?_ l2
    simp only [gSubU, l1]
  · cases hg
/-- which is less, told ahead -/
def gCmpN : AnsH := fun vals h s =>
  match vals, s with
  | [.slice p n c, .slice q n' c'], .inr (.inl k) :: s' => some (i6' k, h, s', [(decide (cmpL (rowOf h p n) (rowOf h q n') = k), true), (rowX h p n c, true), (rowX h q n' c', true)])
  | _, _ => none
theorem gCmpN_ok : AnsHOk 39 gCmpN := by
  intro vals h s v h' s' lg hg hl
  unfold gCmpN at hg
  split at hg
  · rename_i p n c q n' c' V s3
    cases hg
    obtain ⟨l1, l2⟩ := log_tl hl
    have l1 := of_decide_eq_true l1
    refine gCmpU_ok _ h [] _ _ [] _ ?_ l2
    simp only [gCmpU, l1]
  · cases hg
def gUcmpN : AnsH := fun vals h s =>
  match vals, s with
  | [.slice p n c, .slice q n' c'], .inr (.inl k) :: s' => some (.int .i64 k, h, s', [(decide (cmpZ (vO h p n) (vO h q n') = k), true), (two16 h p q n c n' c', true)])
  | _, _ => none
theorem gUcmpN_ok : AnsHOk 17 gUcmpN := by
  intro vals h s v h' s' lg hg hl
  unfold gUcmpN at hg
  split at hg
  · rename_i p n c q n' c' V s3
    cases hg
    obtain ⟨l1, l2⟩ := log_tl hl
    have l1 := of_decide_eq_true l1
    refine gUcmp_ok _ h [] _ _ [] _ ?_ l2
    simp only [gUcmp, l1]
  · cases hg
def hcN2 : Hc := altH 10 gAddN (altH 11 gSubN (altH 39 gCmpN (altH 20 gUaddN (altH 21 gUsubN (altH 17 gUcmpN (altH 16 gFromN (altH 19 gWdN hcLn)))))))
theorem hcN2_ok : HcOk hcN2 := altH_ok Tryd.func10 rfl gAddN_ok (altH_ok Tryd.func11 rfl gSubN_ok (altH_ok Tryd.func39 rfl gCmpN_ok (altH_ok Tryd.func20 rfl gUaddN_ok (altH_ok Tryd.func21 rfl gUsubN_ok (altH_ok Tryd.func17 rfl gUcmpN_ok (altH_ok Tryd.func16 rfl gFromN_ok (altH_ok Tryd.func19 rfl gWdN_ok hcLn_ok)))))))
end Go.Proofs.YtecemjilmlagdaaDoor

/-
  Numbers: the words of a sum and of a difference; which is less.
-/
namespace Go.Nt

theorem vN_vb : ∀ {L : List Int}, wds L → vN L = (vb 4294967296 L : Nat)
  | [], _ => rfl
  | x :: r, h => by
    obtain ⟨h1, h2⟩ := wds_tail h
    have := vN_vb h2
    show x + 4294967296 * vN r = ((x.toNat + 4294967296 * vb 4294967296 r : Nat) : Int)
    rw [this]
    omega
theorem vN_dg : ∀ (m : Nat) (V : Int), 0 ≤ V → V < 4294967296 ^ m → vN (dg m V) = V
  | 0, V, h0, h1 => by
    have : V = 0 := by rw [Int.pow_zero] at h1; omega
    subst this
    rfl
  | m + 1, V, h0, h1 => by
    rw [pw] at h1
    have h2 := vN_dg m (V / 4294967296) (by omega) (by omega)
    simp only [dg, vN]
    rw [h2]
    omega
theorem take_dg {m : Nat} {V : Nat} (h : (V : Int) < 4294967296 ^ m) : (dg m V).take (trimN (dg m V)) = db 4294967296 V := by
  have hw := dg_wds m V
  rw [take_trim (b := 4294967296) (by omega) _ hw]
  have h1 := vN_dg m V (by omega) h
  rw [vN_vb hw] at h1
  rw [Int.ofNat.inj h1]
theorem topCmp_in (L M : List Int) : ∀ k, topCmp L M k = -1 ∨ topCmp L M k = 0 ∨ topCmp L M k = 1
  | 0 => .inr (.inl rfl)
  | k + 1 => by
    unfold topCmp
    split
    · exact topCmp_in L M k
    · split
      · exact .inl rfl
      · exact .inr (.inr rfl)
theorem cmpL_in (L M : List Int) : cmpL L M = -1 ∨ cmpL L M = 0 ∨ cmpL L M = 1 := by
  unfold cmpL
  split
  · exact topCmp_in _ _ _
  · split
    · exact .inl rfl
    · exact .inr (.inr rfl)
theorem cmpL_vb {L M : List Int} (hL : canon L) (hM : canon M) : cmpL L M = if vb 4294967296 L < vb 4294967296 M then -1 else if vb 4294967296 L = vb 4294967296 M then 0 else 1 := by
  have h := cmpL_val hL hM
  rw [vN_vb hL.1, vN_vb hM.1] at h
  have h3 := cmpL_in L M
  split
  · have := h.1.2 (by omega)
    omega
  · split
    · exact h.2.2 (by omega)
    · have h1 : ¬ cmpL L M < 0 := fun hx => by have := h.1.1 hx; omega
      have h2 : ¬ cmpL L M = 0 := fun hx => by have := h.2.1 hx; omega
      omega
theorem vb_pos {L : List Int} (hL : canon L) : 0 < vb 4294967296 L ↔ 0 < L.length := by
  constructor
  · intro h
    rcases Nat.eq_zero_or_pos L.length with h0 | h0
    · rw [List.eq_nil_of_length_eq_zero h0] at h
      exact absurd h (by decide)
    · exact h0
  · intro h0
    have h1 := vN_low hL.1 h0 (hL.2.resolve_left (by omega))
    rw [vN_vb hL.1] at h1
    have := pw_pos (L.length - 1)
    omega
theorem vb_lt32 {L : List Int} (hL : wds L) {m : Nat} (h : L.length ≤ m) : vb 4294967296 L < 4294967296 ^ m := by
  have h1 := vb_lt (b := 4294967296) (by omega) L hL
  exact Nat.lt_of_lt_of_le h1 (Nat.pow_le_pow_right (by omega) h)
theorem len16 {V m : Nat} (h : V < 4294967296 ^ m) : (db 65536 V).length ≤ 2 * m := by
  refine db_len (by omega) (2 * m) V ?_
  rw [Nat.pow_mul]
  exact h
theorem len32 {V m : Nat} (h : V < 4294967296 ^ m) : (db 4294967296 V).length ≤ m := db_len (by omega) m V h
theorem sum_lt {x y m : Nat} (hx : x < 4294967296 ^ m) (hy : y < 4294967296 ^ m) : x + y < 4294967296 ^ (m + 1) := by
  rw [Nat.pow_succ]
  omega
theorem db_pos_len {b V : Nat} (hb : 2 ≤ b) : 0 < (db b V).length ↔ 0 < V := by
  rw [List.length_pos_iff, ne_eq, db_nil hb]
  omega
end Go.Nt
