/-
  TuN, TuO, TuP, TuQ, Row, RowS, RowQ
-/
import Derived.Test.YtdlpffgekmidnabDoorG15
import Derived.WalkKit
import Derived.ProofKit
import Derived.OpenShut
import Derived.Laws.IdiomArrays
import Derived.Lib.SmallJoins
import Derived.ChangeSlices
namespace Go.Proofs.YtdlpffgekmidnabDoor
open Go.KRun Go.Wd
set_option maxRecDepth 100000
def hS0 (L F : List Value) : Hp := ⟨3, [(L, mpT), ([.map (some 2)], obTy), (F, fmT)]⟩
def hN0 (F : List Value) : Hp := ⟨2, [([.map none], obTy), (F, fmT)]⟩
/-- one's own blocks, as they are -/
def frOf (m : Mp) (h : Hp) (w : World) : List Value := (List.range h.n).filterMap fun c =>
  match h.blk? c with
  | some y =>
    match ro y.2, w.heap[(m c).1]? with
    | false, some (.cells cs t _) => some (.func (.func (m c).1) ⟨[.int .i64 (t : Nat)]⟩ cs)
    | _, _ => none
  | none => none
theorem fr_mem {m : Mp} {h : Hp} {w : World} {v : Value} (hv : v ∈ frOf m h w) : ∃ c y cs t z, h.blk? c = some y ∧ ro y.2 = false ∧ w.heap[(m c).1]? = some (.cells cs t z) ∧ v = .func (.func (m c).1) ⟨[.int .i64 (t : Nat)]⟩ cs := by
  unfold frOf at hv
  obtain ⟨c, _, h1⟩ := List.mem_filterMap.1 hv
  split at h1
  · rename_i y hy
    split at h1
    · rename_i cs t z hr hw
      exact ⟨c, y, cs, t, z, hy, hr, hw, (Option.some.inj h1).symm⟩
    · cases h1
  · cases h1
theorem mem_fr {m : Mp} {B : Nat} {h : Hp} {w : World} (E : Emb m B h w) {c : Nat} {y : List Value × TypeId} (hc : h.blk? c = some y) (hy : ro y.2 = false) : ∃ cs t, w.heap[(m c).1]? = some (.cells cs t (0, 0)) ∧ .func (.func (m c).1) ⟨[.int .i64 (t : Nat)]⟩ cs ∈ frOf m h w := by
  obtain ⟨r, z, _, h1, h2⟩ := E.lies c y hc (tomb_ro hy)
  obtain ⟨z1, z2⟩ := h2 hy
  refine ⟨_, z.1, by rw [h1, z2], ?_⟩
  unfold frOf
  refine List.mem_filterMap.2 ⟨c, List.mem_range.2 (Hp.blk_lt hc), ?_⟩
  simp only [hc, hy, h1]
theorem fr_at {m : Mp} {B : Nat} {h : Hp} {w : World} (E : Emb m B h w) : frAt w (frOf m h w) := by
  intro v hv k t cs hf
  obtain ⟨c, y, cs', t', z, h1, h2, h3, rfl⟩ := fr_mem hv
  obtain ⟨r, z', _, h4, h5⟩ := E.lies c y h1 (tomb_ro h2)
  have hz := (h5 h2).2
  rw [h4] at h3
  unfold frV at hf
  simp only [Option.some.injEq, Prod.mk.injEq, Int.toNat_natCast] at hf
  obtain ⟨rfl, rfl, rfl⟩ := hf
  cases h3
  rw [h4, hz]
theorem fr_still {m' : Mp} {m : Mp} {h : Hp} {w : World} : (frOf m h w).map (mv1 m') = frOf m h w := by
  refine (List.map_congr_left fun v hv => ?_).trans (List.map_id' _)
  obtain ⟨c, y, cs', t', z, h1, h2, h3, rfl⟩ := fr_mem hv
  rfl
theorem fr_own {m : Mp} {h : Hp} {w : World} {g k : Nat} (hf : fpt g (frOf m h w) fmT k) : ∃ c y, h.blk? c = some y ∧ ro y.2 = false ∧ (m c).1 = k := by
  rcases hf with ⟨hf, _⟩ | ⟨_, v, hv, t, cs, hf⟩
  · exact absurd rfl hf
  · obtain ⟨c, y, cs', t', z, h1, h2, h3, rfl⟩ := fr_mem hv
    unfold frV at hf
    simp only [Option.some.injEq, Prod.mk.injEq] at hf
    exact ⟨c, y, h1, h2, hf.1⟩
theorem ob_marks : ab obT = true ∧ spK obT = true ∧ ro obTy = false ∧ tomb fmT = true ∧ ro fmT = true ∧ spK fmT = true ∧ ab fmT = true ∧ spK obTy = false ∧ rt obTy = obTy := ⟨rfl, rfl, rfl, rfl, rfl, rfl, rfl, rfl, rfl⟩
theorem mp_still {L : List Value} (hm : isMp L = true) : ∀ v ∈ L, lt1 0 v = true := by
  unfold isMp at hm
  split at hm
  · simp only [Bool.and_eq_true, List.all_eq_true] at hm
    intro v hv
    rcases List.mem_cons.1 hv with rfl | hv
    · rfl
    · exact hm.2 v hv
  · cases hm
theorem still_mapL {m : Mp} {L : List Value} (h : ∀ v ∈ L, lt1 0 v = true) : L.map (mv1 m) = L := (List.map_congr_left fun v hv => mv1_still (h v hv)).trans (List.map_id' _)
theorem blkS3 {L F : List Value} {b : Nat} {x : List Value × TypeId} (h : (hS0 L F).blk? b = some x) : (b = 0 ∧ x = (F, fmT)) ∨ (b = 1 ∧ x = ([.map (some 2)], obTy)) ∨ (b = 2 ∧ x = (L, mpT)) := by
  have hb : b < 3 := Hp.blk_lt h
  rcases (show b = 0 ∨ b = 1 ∨ b = 2 by omega) with rfl | rfl | rfl
  · exact .inl ⟨rfl, (Option.some.inj h).symm⟩
  · exact .inr (.inl ⟨rfl, (Option.some.inj h).symm⟩)
  · exact .inr (.inr ⟨rfl, (Option.some.inj h).symm⟩)
theorem blkN2 {F : List Value} {b : Nat} {x : List Value × TypeId} (h : (hN0 F).blk? b = some x) : (b = 0 ∧ x = (F, fmT)) ∨ (b = 1 ∧ x = ([.map none], obTy)) := by
  have hb : b < 2 := Hp.blk_lt h
  rcases (show b = 0 ∨ b = 1 by omega) with rfl | rfl
  · exact .inl ⟨rfl, (Option.some.inj h).symm⟩
  · exact .inr ⟨rfl, (Option.some.inj h).symm⟩
def mO (k1 k2 : Nat × Nat) (i : Nat) : Nat × Nat := if i = 1 then k1 else if i = 2 then k2 else (0, 0)
theorem ob_open {m : Mp} {B : Nat} {h : Hp} {w : World} {b : Nat} {L : List Value} (E : Emb m B h w) (hb : h.blk? b = some (L, obT)) (hm : isMp L = true) :
    ∃ m1, (m1 1).1 = (m b).1 ∧ (Emb m1 B (hS0 L (frOf m h w)) w ∨ (Emb m1 B (hN0 (frOf m h w)) w ∧ L = [.int .i64 0])) := by
  obtain ⟨o1, o2, o3, o4, o5, o6, o7, o8, o9⟩ := ob_marks
  obtain ⟨p1, p2, p3, p4⟩ := mp_marks
  obtain ⟨f1, f2, f3⟩ := fm_marks
  obtain ⟨A1, A2, A3⟩ := (E.abs b _ hb o1).2 o2
  obtain ⟨hB, c, q, hg, hc⟩ := A1.2.1 rfl
  have st := mp_still hm
  rw [still_mapL st] at hc
  have own : ∀ {k : Nat}, (∃ c y, h.blk? c = some y ∧ ro y.2 = false ∧ (m c).1 = k) → k ≠ (m b).1 := by
    rintro k ⟨c, y, h1, h2, rfl⟩ he
    exact A2 c y h1 h2 (.inl ⟨(show obT ≠ fmT by decide), he⟩)
  rcases hc with ⟨rfl, r, hr⟩ | ⟨g2, rfl, hB2, hmp⟩
  · -- no map yet
    have hL : L = [.int .i64 0] := by
      have h0 : headE #[] = [.int .i64 0] := rfl
      rw [h0] at hr
      match L, hm, hr with
      | [a], _, hr => rw [(List.cons.inj hr).1]
      | a :: a' :: t, _, hr => cases (List.cons.inj hr).2
    refine ⟨mO ((m b).1, 1 + q.length) (0, 0), rfl, .inr ⟨?_, hL⟩⟩
    refine ⟨rfl, fun i x hi ht => ?_, fun i x hi hx => ?_, fun i x hi ht hr => ?_, fun i j x y hi hj hx hy he => ?_, fun i x hi v hv => ?_, E.base, E.ice, fun i x hi hx => ?_⟩
    · rcases blkN2 hi with ⟨rfl, rfl⟩ | ⟨rfl, rfl⟩
      · rw [o4] at ht; cases ht
      · exact ⟨q, (obTy, 0, 0), by simp [mO], hg, fun _ => ⟨o9.symm, rfl⟩⟩
    · rcases blkN2 hi with ⟨rfl, rfl⟩ | ⟨rfl, rfl⟩
      · rw [o5] at hx; cases hx
      · exact hB
    · rcases blkN2 hi with ⟨rfl, rfl⟩ | ⟨rfl, rfl⟩
      · rw [o4] at ht; cases ht
      · rw [o3] at hr; cases hr
    · rcases blkN2 hi with ⟨rfl, rfl⟩ | ⟨rfl, rfl⟩
      · rw [o5] at hx; cases hx
      · rcases blkN2 hj with ⟨rfl, rfl⟩ | ⟨rfl, rfl⟩
        · rw [o5] at hy; cases hy
        · rfl
    · rcases blkN2 hi with ⟨rfl, rfl⟩ | ⟨rfl, rfl⟩
      · obtain ⟨c, y, cs', t', z, _, _, _, rfl⟩ := fr_mem hv
        rfl
      · rw [List.mem_singleton.1 hv]
        rfl
    · rcases blkN2 hi with ⟨rfl, rfl⟩ | ⟨rfl, rfl⟩
      · refine ⟨fun hs => absurd (o6.symm.trans hs) (by decide), fun _ => ?_⟩
        rw [show (frOf m h w, fmT).1.map (mv1 (mO ((m b).1, 1 + q.length) (0, 0))) = frOf m h w from fr_still]
        refine ⟨⟨fun he => absurd (show fmT = mpT from he) (by decide), fun he => absurd (show fmT = obT from he) (by decide), fun _ => fr_at E, fun he => absurd rfl he⟩, fun c y hc hy hf => ?_, fun c y hc hy hq => ?_⟩
        · rcases blkN2 hc with ⟨rfl, rfl⟩ | ⟨rfl, rfl⟩
          · rw [o5] at hy; cases hy
          · exact own (fr_own hf) rfl
        · rcases blkN2 hc with ⟨rfl, rfl⟩ | ⟨rfl, rfl⟩
          · rfl
          · rw [o8] at hy; cases hy
      · rw [ab_ro o3] at hx; cases hx
  · -- a map
    have hne : g2 ≠ (m b).1 := by
      rintro rfl
      obtain ⟨es, ck, r, h1, _⟩ := hmp
      rw [hg] at h1
      cases h1
    refine ⟨mO ((m b).1, 1 + q.length) (g2, 0), rfl, .inl ?_⟩
    refine ⟨rfl, fun i x hi ht => ?_, fun i x hi hx => ?_, fun i x hi ht hr => ?_, fun i j x y hi hj hx hy he => ?_, fun i x hi v hv => ?_, E.base, E.ice, fun i x hi hx => ?_⟩
    · rcases blkS3 hi with ⟨rfl, rfl⟩ | ⟨rfl, rfl⟩ | ⟨rfl, rfl⟩
      · rw [o4] at ht; cases ht
      · exact ⟨q, (obTy, 0, 0), by simp [mO], hg, fun _ => ⟨o9.symm, rfl⟩⟩
      · rw [p4] at ht; cases ht
    · rcases blkS3 hi with ⟨rfl, rfl⟩ | ⟨rfl, rfl⟩ | ⟨rfl, rfl⟩
      · rw [o5] at hx; cases hx
      · exact hB
      · rw [p3] at hx; cases hx
    · rcases blkS3 hi with ⟨rfl, rfl⟩ | ⟨rfl, rfl⟩ | ⟨rfl, rfl⟩
      · rw [o4] at ht; cases ht
      · rw [o3] at hr; cases hr
      · rw [p4] at ht; cases ht
    · rcases blkS3 hi with ⟨rfl, rfl⟩ | ⟨rfl, rfl⟩ | ⟨rfl, rfl⟩
      · rw [o5] at hx; cases hx
      · rcases blkS3 hj with ⟨rfl, rfl⟩ | ⟨rfl, rfl⟩ | ⟨rfl, rfl⟩
        · rw [o5] at hy; cases hy
        · rfl
        · rw [p3] at hy; cases hy
      · rw [p3] at hx; cases hx
    · rcases blkS3 hi with ⟨rfl, rfl⟩ | ⟨rfl, rfl⟩ | ⟨rfl, rfl⟩
      · obtain ⟨c, y, cs', t', z, _, _, _, rfl⟩ := fr_mem hv
        rfl
      · rw [List.mem_singleton.1 hv]
        rfl
      · exact lt1_mono (Nat.zero_le _) (st v hv)
    · rcases blkS3 hi with ⟨rfl, rfl⟩ | ⟨rfl, rfl⟩ | ⟨rfl, rfl⟩
      · refine ⟨fun hs => absurd (o6.symm.trans hs) (by decide), fun _ => ?_⟩
        rw [show (frOf m h w, fmT).1.map (mv1 (mO ((m b).1, 1 + q.length) (g2, 0))) = frOf m h w from fr_still]
        refine ⟨⟨fun he => absurd (show fmT = mpT from he) (by decide), fun he => absurd (show fmT = obT from he) (by decide), fun _ => fr_at E, fun he => absurd rfl he⟩, fun c y hc hy hf => ?_, fun c y hc hy hq => ?_⟩
        · rcases blkS3 hc with ⟨rfl, rfl⟩ | ⟨rfl, rfl⟩ | ⟨rfl, rfl⟩
          · rw [o5] at hy; cases hy
          · exact own (fr_own hf) rfl
          · rw [p3] at hy; cases hy
        · rcases blkS3 hc with ⟨rfl, rfl⟩ | ⟨rfl, rfl⟩ | ⟨rfl, rfl⟩
          · rfl
          · rw [o8] at hy; cases hy
          · cases (hq.symm.trans f1).symm.trans f3
      · rw [ab_ro o3] at hx; cases hx
      · refine ⟨fun hs => absurd (p2.symm.trans hs) (by decide), fun _ => ?_⟩
        rw [show (L, mpT).1.map (mv1 (mO ((m b).1, 1 + q.length) (g2, 0))) = L from still_mapL st]
        refine ⟨⟨fun _ => ⟨hB2, hmp⟩, fun he => absurd (show mpT = obT from he) (by decide), fun he => absurd (show mpT = fmT from he) (by decide), fun _ => hmp.lt⟩, fun c y hc hy hf => ?_, fun c y hc hy hq => ?_⟩
        · rcases blkS3 hc with ⟨rfl, rfl⟩ | ⟨rfl, rfl⟩ | ⟨rfl, rfl⟩
          · rw [o5] at hy; cases hy
          · rcases hf with ⟨_, hf⟩ | ⟨hf, _⟩
            · exact hne hf.symm
            · exact absurd (show mpT = fmT from hf) (by decide)
          · rw [p3] at hy; cases hy
        · rcases blkS3 hc with ⟨rfl, rfl⟩ | ⟨rfl, rfl⟩ | ⟨rfl, rfl⟩
          · cases (hq.trans f1).symm.trans f3
          · rw [o8] at hy; cases hy
          · rfl
def bPr (c s : Int) : List Value × TypeId := ([.int .u64 c, .int .u64 s], 26)
def bPa (k n : Int) : List Value × TypeId := ([.int .i64 k, .int .i64 n], 39)
def bOb (c : Value) : List Value × TypeId := ([c], obTy)
def fA (k n : Int) (p : Nat) (e : Value) : List Value := [.pointer (some ⟨1, 0, none⟩), .int .i64 k, .int .i64 n, undef, undef, undef, .pointer (some ⟨p, 0, none⟩), e]
def cK (k n : Int) : Int := coI (k % n) n
def sK (k n : Int) : Int := siI (k % n) n
def hEs (L F : List Value) : Hp := ⟨5, [bPa 0 0, bPr 0 0, (L, mpT), bOb (.map (some 2)), (F, fmT)]⟩
def hEn (F : List Value) : Hp := ⟨4, [bPa 0 0, bPr 0 0, bOb (.map none), (F, fmT)]⟩
def hKs (k n c s : Int) (L F : List Value) : Hp := ⟨6, [bPr c s, bPa (k % n) n, bPr c s, (L, mpT), bOb (.map (some 2)), (F, fmT)]⟩
def hUs (k n : Int) (L F : List Value) : Hp := ⟨8, [bPr (cK k n) (sK k n), bPa (k % n) n, bPr (cK k n) (sK k n), bPa (k % n) n, bPr (cK k n) (sK k n), (bumpM (paV (k % n) n) (ptV (cK k n) (sK k n)) L, mpT), bOb (.map (some 2)), (F, fmT)]⟩
def hUn (k n : Int) (F : List Value) : Hp := ⟨8, [([.int .i64 1, paV (k % n) n, ptV (cK k n) (sK k n)], mpT), bPr (cK k n) (sK k n), bPa (k % n) n, bPr (cK k n) (sK k n), bPa (k % n) n, bPr (cK k n) (sK k n), bOb (.map (some 7)), (F, fmT)]⟩
theorem at_es (k n : Int) (L F : List Value) : GoesT (evC (tabH Tryd.prog extY conTF hcRm) 300 false (cBody Tryd.f4) ([.pointer (some ⟨1, 0, none⟩), .int .i64 k, .int .i64 n] ++ List.replicate 41 undef, hS0 L F, [cmp true]) ⟨[], [], []⟩) 8 36 (some none) (fA k n 3 (errF 1)) (hEs L F) [bL n true] := ⟨by kernel_rfl, by kernel_rfl, by kernel_rfl⟩
theorem at_en (k n : Int) (F : List Value) : GoesT (evC (tabH Tryd.prog extY conTF hcRm) 300 false (cBody Tryd.f4) ([.pointer (some ⟨1, 0, none⟩), .int .i64 k, .int .i64 n] ++ List.replicate 41 undef, hN0 F, [cmp true]) ⟨[], [], []⟩) 8 36 (some none) (fA k n 2 (errF 1)) (hEn F) [bL n true] := ⟨by kernel_rfl, by kernel_rfl, by kernel_rfl⟩
theorem at_ks (k n c s : Int) (L F : List Value) : GoesT (evC (tabH Tryd.prog extY conTF hcRm) 300 false (cBody Tryd.f4) ([.pointer (some ⟨1, 0, none⟩), .int .i64 k, .int .i64 n] ++ List.replicate 41 undef, hS0 L F, [cmp false, cmp true, val (ptV c s)]) ⟨[], [], []⟩) 8 36 (some none) (fA k n 3 .nilIface) (hKs k n c s L F) [(isMp L && lookIs Tryd.prog 39 (paV (k % n) n) L.tail (ptV c s), true), (isMp L && lookIs Tryd.prog 39 (paV (k % n) n) L.tail (ptV c s), true), bL n false] := ⟨by kernel_rfl, by kernel_rfl, by kernel_rfl⟩
theorem at_us (k n : Int) (L F : List Value) : GoesT (evC (tabH Tryd.prog extY conTF hcRm) 300 false (cBody Tryd.f4) ([.pointer (some ⟨1, 0, none⟩), .int .i64 k, .int .i64 n] ++ List.replicate 41 undef, hS0 L F, [cmp false, cmp false]) ⟨[], [], []⟩) 8 36 (some none) (fA k n 3 .nilIface) (hUs k n L F) [(isMp L && noneT (k % n) n L.tail, true), kL (k % n) n, (isMp L && noneIs Tryd.prog 39 (paV (k % n) n) L.tail, true), (isMp L && noneIs Tryd.prog 39 (paV (k % n) n) L.tail, true), bL n false] := ⟨by kernel_rfl, by kernel_rfl, by kernel_rfl⟩
theorem at_un (k n : Int) (F : List Value) : GoesT (evC (tabH Tryd.prog extY conTF hcRm) 300 false (cBody Tryd.f4) ([.pointer (some ⟨1, 0, none⟩), .int .i64 k, .int .i64 n] ++ List.replicate 41 undef, hN0 F, [cmp false]) ⟨[], [], []⟩) 8 36 (some none) (fA k n 2 .nilIface) (hUn k n F) [kL (k % n) n, bL n false] := ⟨by kernel_rfl, by kernel_rfl, by kernel_rfl⟩
theorem at_body : Tryd.f4.body = some (cBody Tryd.f4) := by kernel_rfl
def atV (c s : Int) (e : Value) : Value := .tuple #[ptV c s, e]
theorem res_es (k n : Int) (L F : List Value) (g : Nat → Value) : resS Tryd.prog Tryd.f4 (fA k n 3 (errF 1) ++ tl 36 g) (hEs L F) = some (atV 0 0 (errF 1)) := rfl
theorem res_en (k n : Int) (F : List Value) (g : Nat → Value) : resS Tryd.prog Tryd.f4 (fA k n 2 (errF 1) ++ tl 36 g) (hEn F) = some (atV 0 0 (errF 1)) := rfl
theorem res_ks (k n c s : Int) (L F : List Value) (g : Nat → Value) : resS Tryd.prog Tryd.f4 (fA k n 3 .nilIface ++ tl 36 g) (hKs k n c s L F) = some (atV c s .nilIface) := rfl
theorem res_us (k n : Int) (L F : List Value) (g : Nat → Value) : resS Tryd.prog Tryd.f4 (fA k n 3 .nilIface ++ tl 36 g) (hUs k n L F) = some (atV (cK k n) (sK k n) .nilIface) := rfl
theorem res_un (k n : Int) (F : List Value) (g : Nat → Value) : resS Tryd.prog Tryd.f4 (fA k n 2 .nilIface ++ tl 36 g) (hUn k n F) = some (atV (cK k n) (sK k n) .nilIface) := rfl
/-- what is read off the memory behind such a call: the object; what stayed -/
theorem ob_map {m : Mp} {B : Nat} {h : Hp} {w : World} (E : Emb m B h w) {j : Nat} {L : List Value} (h1 : h.blk? 1 = some (bOb (.map (some j)))) (h2 : h.blk? j = some (L, mpT)) (hs : ∀ v ∈ L, lt1 0 v = true) : B ≤ (m 1).1 ∧ objAt B w (m 1).1 L := by
  obtain ⟨o1, o2, o3, o4, o5, o6, o7, o8, o9⟩ := ob_marks
  obtain ⟨p1, p2, p3, p4⟩ := mp_marks
  obtain ⟨r, z, _, l1, l2⟩ := E.lies 1 _ h1 (tomb_ro o3)
  obtain ⟨z1, z2⟩ := l2 o3
  have A := (((E.abs j _ h2 p1).2 p2).1.1 rfl)
  rw [still_mapL hs] at A
  refine ⟨E.low 1 _ h1 o3, .map (some (m j).1), r, ?_, .inr ⟨_, rfl, A.1, A.2⟩⟩
  rw [l1, z2, z1]
  exact congrArg (fun t => some (Obj.cells _ t (0, 0))) o9
theorem ob_none {m : Mp} {B : Nat} {h : Hp} {w : World} (E : Emb m B h w) (h1 : h.blk? 1 = some (bOb (.map none))) : B ≤ (m 1).1 ∧ objAt B w (m 1).1 [.int .i64 0] := by
  obtain ⟨o1, o2, o3, o4, o5, o6, o7, o8, o9⟩ := ob_marks
  obtain ⟨r, z, _, l1, l2⟩ := E.lies 1 _ h1 (tomb_ro o3)
  obtain ⟨z1, z2⟩ := l2 o3
  refine ⟨E.low 1 _ h1 o3, .map none, r, ?_, .inl ⟨rfl, [], rfl⟩⟩
  rw [l1, z2, z1]
  exact congrArg (fun t => some (Obj.cells _ t (0, 0))) o9
theorem ob_stay {m : Mp} {B : Nat} {h : Hp} {w : World} (E : Emb m B h w) {F : List Value} (h0 : h.blk? 0 = some (F, fmT)) : frAt w (F.map (mv1 m)) := by
  obtain ⟨o1, o2, o3, o4, o5, o6, o7, o8, o9⟩ := ob_marks
  exact ((E.abs 0 _ h0 o7).2 o6).1.2.2.1 rfl
/-- the object shut again, in the caller's memory -/
theorem ob_shut {m m1 : Mp} {B : Nat} {h : Hp} {w w' : World} {b : Nat} {L L' : List Value} (E : Emb m B h w) (hb : h.blk? b = some (L, obT)) (hfm : (h.l.all fun x => !(Nat.beq x.2 fmT)) = true) {h1 : Hp} (E1 : Emb m1 B h1 w') (hB : Go.RowKit.Below B w w')
    (hF : frAt w' ((frOf m h w).map (mv1 m1))) (ho : objAt B w' (m b).1 L') (hBb : B ≤ (m b).1) (hs : ∀ v ∈ L', lt1 0 v = true) : Emb m B (h.put b (L', obT)) w' := by
  obtain ⟨o1, o2, o3, o4, o5, o6, o7, o8, o9⟩ := ob_marks
  obtain ⟨f1, f2, f3⟩ := fm_marks
  rw [fr_still] at hF
  have A := (E.abs b _ hb o1).2 o2
  have blk := fun c => Hp.blk_put (h := h) (b := b) (x := (L', obT)) (c := c) E.len (Hp.blk_lt hb)
  have ro_ob : ro obT = true := rfl
  have tomb_ob : tomb obT = true := rfl
  have own : ∀ {c : Nat} {y : List Value × TypeId}, h.blk? c = some y → ro y.2 = false → w'.heap[(m c).1]? = w.heap[(m c).1]? := by
    intro c y hc hy
    obtain ⟨cs, t, q1, q2⟩ := mem_fr E hc hy
    rw [q1]
    exact hF _ q2 _ _ _ (by unfold frV; simp only [Int.toNat_natCast])
  refine ⟨by simp [Hp.put, E.len], fun c x hc hx => ?_, fun c x hc hx => ?_, fun c x hc hx hr => ?_, fun c c' x x' hc hc' hx hx' he => ?_, fun c x hc v hv => ?_, E1.base, E1.ice, fun c x hc hx => ?_⟩
  · rw [blk] at hc
    split at hc
    · cases hc; rw [tomb_ob] at hx; cases hx
    · refine (E.lies c x hc hx).congr ?_
      cases hr : ro x.2
      · exact own hc hr
      · exact hB.block _ (E.ros c x hc hx hr)
  · rw [blk] at hc
    split at hc
    · cases hc; rw [ro_ob] at hx; cases hx
    · exact E.low c x hc hx
  · rw [blk] at hc
    split at hc
    · cases hc; rw [tomb_ob] at hx; cases hx
    · exact E.ros c x hc hx hr
  · rw [blk] at hc hc'
    split at hc
    · cases hc; rw [ro_ob] at hx; cases hx
    · split at hc'
      · cases hc'; rw [ro_ob] at hx'; cases hx'
      · exact E.inj c c' x x' hc hc' hx hx' he
  · rw [blk] at hc
    split at hc
    · cases hc; exact lt1_mono (Nat.zero_le _) (hs v hv)
    · exact E.wf c x hc v hv
  · rw [blk] at hc
    split at hc
    · rename_i hcb
      cases hc
      refine ⟨fun h' => absurd (o2.symm.trans h') (by decide), fun _ => ?_⟩
      rw [show (L', obT).1.map (mv1 m) = L' from still_mapL hs, hcb]
      refine ⟨⟨fun he => absurd (show obT = mpT from he) (by decide), fun _ => ⟨hBb, ho⟩, fun he => absurd (show obT = fmT from he) (by decide), fun _ => ?_⟩, fun d y hd hy hf => ?_, fun d y hd hy hq => ?_⟩
      · obtain ⟨_, q, q1, _⟩ := ho
        exact (Array.getElem?_eq_some_iff.1 q1).1
      · rw [blk] at hd
        split at hd
        · cases hd; rw [ro_ob] at hy; cases hy
        · refine A.2.1 d y hd hy ?_
          rcases hf with hf | ⟨hf, _⟩
          · exact .inl hf
          · exact absurd (show obT = fmT from hf) (by decide)
      · rw [blk] at hd
        split at hd
        · rename_i hdb; exact hdb
        · exact A.2.2 d y hd hy hq
    · rename_i hcb
      have C := E.abs c x hc hx
      refine ⟨fun hs' => ?_, fun hs' => ?_⟩
      · obtain ⟨c1, c2⟩ := C.1 hs'
        exact ⟨c1, c2.congr (hB.block _ c1)⟩
      · exfalso
        have hn : Nat.beq x.2 fmT = false := by
          unfold Hp.blk? at hc
          split at hc
          · have := List.all_eq_true.1 hfm x (List.mem_of_getElem? hc)
            simpa using this
          · cases hc
        exact hcb (A.2.2 c x hc hs' (hn.trans f2.symm))
theorem put_same {h : Hp} {b : Nat} {x : List Value × TypeId} (hl : h.l.length = h.n) (hb : h.blk? b = some x) : h.put b x = h := by
  have hlt := Hp.blk_lt hb
  unfold Hp.blk? at hb
  rw [if_pos (blt_iff.2 hlt)] at hb
  unfold Hp.put
  have : h.l.set (h.n - 1 - b) x = h.l := by
    refine List.ext_getElem? fun i => ?_
    rw [List.getElem?_set]
    split
    · rename_i hi
      subst hi
      rw [hb, if_pos (by omega)]
    · rfl
  rw [this]
theorem bump_mp {k n c s : Int} {L : List Value} (h : isMp L = true) : isMp (bumpM (paV k n) (ptV c s) L) = true := by
  unfold isMp at h
  split at h
  · rename_i a r
    simp only [Bool.and_eq_true, decide_eq_true_eq, List.all_eq_true] at h
    obtain ⟨⟨h1, h2⟩, h3⟩ := h
    have h2 := Nat.eq_of_beq_eq_true h2
    show (decide (0 ≤ a + 1) && Nat.beq (r ++ [paV k n, ptV c s]).length (2 * (a + 1).toNat) && (r ++ [paV k n, ptV c s]).all (lt1 0)) = true
    simp only [Bool.and_eq_true, decide_eq_true_eq, List.all_eq_true]
    refine ⟨⟨by omega, ?_⟩, fun v hv => ?_⟩
    · rw [Nat.beq_eq]
      simp
      omega
    · rcases List.mem_append.1 hv with hv | hv
      · exact h3 v hv
      · have : v = paV k n ∨ v = ptV c s := by simpa using hv
        rcases this with rfl | rfl <;> rfl
  · cases h
def gAt : AnsH := fun vals h s =>
  match vals, s with
  | [.pointer (some ⟨b, 0, none⟩), .int .i64 k, .int .i64 n], .inr (.inr (.inr (.inl d))) :: s' =>
    match h.blk? b with
    | some x =>
      if (Nat.beq x.2 obT && h.l.all fun x => !(Nat.beq x.2 fmT)) = true then
        match d, s' with
        | true, _ => some (atV 0 0 (errF 1), h, s', [(isMp x.1, true), (decide (badP n), true)])
        | false, .inr (.inr (.inr (.inl true))) :: s2 => some (atV (cK k n) (sK k n) .nilIface, h, s2, [(hereT (k % n) n (ptV (cK k n) (sK k n)) x.1.tail, true), (isMp x.1, true), (decide (badP n), false)])
        | false, .inr (.inr (.inr (.inl false))) :: s2 => some (atV (cK k n) (sK k n) .nilIface, h.put b (bumpM (paV (k % n) n) (ptV (cK k n) (sK k n)) x.1, obT), s2, [(noneT (k % n) n x.1.tail, true), (isMp x.1, true), (decide (badP n), false)])
        | _, _ => none
      else none
    | none => none
  | _, _ => none
theorem at_calls {m : Mp} {B : Nat} {h : Hp} {w : World} (E : Emb m B h w) {b : Nat} {L : List Value} (hb : h.blk? b = some (L, obT)) (hfm : (h.l.all fun x => !(Nat.beq x.2 fmT)) = true) (hm : isMp L = true) (k n c s : Int) (e : Value) (he : lt 0 (atV c s e) = true) {L' : List Value} (hL' : isMp L' = true)
    (hS : ∀ F, ∃ h1, h1.blk? 1 = some (bOb (.map (some 2))) ∧ h1.blk? 2 = some (L', mpT) ∧ h1.blk? 0 = some (F, fmT) ∧ Runs (tabH Tryd.prog extY conTF hcRm) (cBody Tryd.f4) ([.pointer (some ⟨1, 0, none⟩), .int .i64 k, .int .i64 n] ++ List.replicate 41 undef, hS0 L F, []) fun ex y => (ex = none ∨ ex = some none) ∧ resS Tryd.prog Tryd.f4 y.1 y.2.1 = some (atV c s e) ∧ y.2.1 = h1)
    (hN : L = [.int .i64 0] → ∀ F, ∃ h1, ((∃ j, h1.blk? 1 = some (bOb (.map (some j))) ∧ h1.blk? j = some (L', mpT)) ∨ (h1.blk? 1 = some (bOb (.map none)) ∧ L' = [.int .i64 0])) ∧ h1.blk? 0 = some (F, fmT) ∧ Runs (tabH Tryd.prog extY conTF hcRm) (cBody Tryd.f4) ([.pointer (some ⟨1, 0, none⟩), .int .i64 k, .int .i64 n] ++ List.replicate 41 undef, hN0 F, []) fun ex y => (ex = none ∨ ex = some none) ∧ resS Tryd.prog Tryd.f4 y.1 y.2.1 = some (atV c s e) ∧ y.2.1 = h1) :
    Calls Tryd.prog 4 ([.pointer (some ⟨b, 0, none⟩), .int .i64 k, .int .i64 n].map (mv m)).toArray w fun ex w' => ∃ m', ex = .returned (mv m' (atV c s e)) ∧ Came m B h w (atV c s e) (h.put b (L', obT)) m' w' := by
  obtain ⟨m1, hm1, hE⟩ := ob_open E hb hm
  have ev : [.pointer (some ⟨b, 0, none⟩), .int .i64 k, .int .i64 n].map (mv m) = [.pointer (some ⟨1, 0, none⟩), .int .i64 k, .int .i64 n].map (mv m1) := by
    have e1 : mv m (.pointer (some ⟨b, 0, none⟩)) = .pointer (some ⟨(m b).1, 0, none⟩) := rfl
    have e2 : mv m1 (.pointer (some ⟨1, 0, none⟩)) = .pointer (some ⟨(m1 1).1, 0, none⟩) := rfl
    simp only [List.map_cons, List.map_nil, e1, e2, hm1]
    rfl
  rw [ev]
  have st := mp_still hL'
  have fin : ∀ {h0 h1 : Hp} {m' : Mp} {w' : World}, 1 < h0.n → Came m1 B h0 w (atV c s e) h1 m' w' → h1.blk? 0 = some (frOf m h w, fmT) → (B ≤ (m' 1).1 ∧ objAt B w' (m' 1).1 L') → ∃ m', Ending.returned (mv m' (atV c s e)) = .returned (mv m' (atV c s e)) ∧ Came m B h w (atV c s e) (h.put b (L', obT)) m' w' := by
    intro h0 h1 m' w' hn C b0 ob
    have em : (m' 1).1 = (m b).1 := by rw [C.agree 1 hn, hm1]
    rw [em] at ob
    exact ⟨m, rfl, ⟨Agree.refl _ _, ob_shut E hb hfm C.emb C.below (ob_stay C.emb b0) ob.2 ob.1 st, C.below, Nat.le_refl _, lt_mono (Nat.zero_le _) he⟩⟩
  rcases hE with E1 | ⟨E1, hL⟩
  · obtain ⟨h1, b1, b2, b0, hr⟩ := hS (frOf m h w)
    refine (hcalls_all (T := tabH Tryd.prog extY conTF hcRm) Tryd.func4 at_body hr m1 B w E1 (fun v hv => ?_)).mono fun ex w' he' => ?_
    · simp only [List.mem_cons, List.not_mem_nil, or_false] at hv
      rcases hv with rfl | rfl | rfl <;> rfl
    · obtain ⟨m', rfl, C⟩ := he'
      obtain ⟨m2, _, q⟩ := fin (by show 1 < 3; omega) C b0 (ob_map C.emb b1 b2 st)
      exact ⟨m2, by rw [mv_still he, mv_still he], q⟩
  · obtain ⟨h1, b1, b0, hr⟩ := hN hL (frOf m h w)
    refine (hcalls_all (T := tabH Tryd.prog extY conTF hcRm) Tryd.func4 at_body hr m1 B w E1 (fun v hv => ?_)).mono fun ex w' he' => ?_
    · simp only [List.mem_cons, List.not_mem_nil, or_false] at hv
      rcases hv with rfl | rfl | rfl <;> rfl
    · obtain ⟨m', rfl, C⟩ := he'
      have ob : B ≤ (m' 1).1 ∧ objAt B w' (m' 1).1 L' := by
        rcases b1 with ⟨j, b1, b2⟩ | ⟨b1, rfl⟩
        · exact ob_map C.emb b1 b2 st
        · exact ob_none C.emb b1
      obtain ⟨m2, _, q⟩ := fin (by show 1 < 2; omega) C b0 ob
      exact ⟨m2, by rw [mv_still he, mv_still he], q⟩
theorem runs_of {k n c s : Int} {h0 h1 : Hp} {sc : List Dec} {p : Nat} {e : Value} {lg : Log} (g0 : GoesT (evC (tabH Tryd.prog extY conTF hcRm) 300 false (cBody Tryd.f4) ([.pointer (some ⟨1, 0, none⟩), .int .i64 k, .int .i64 n] ++ List.replicate 41 undef, h0, sc) ⟨[], [], []⟩) 8 36 (some none) (fA k n p e) h1 lg) (hl : okLog lg)
    (hr : ∀ g, resS Tryd.prog Tryd.f4 (fA k n p e ++ tl 36 g) h1 = some (atV c s e)) : Runs (tabH Tryd.prog extY conTF hcRm) (cBody Tryd.f4) ([.pointer (some ⟨1, 0, none⟩), .int .i64 k, .int .i64 n] ++ List.replicate 41 undef, h0, []) fun ex y => (ex = none ∨ ex = some none) ∧ resS Tryd.prog Tryd.f4 y.1 y.2.1 = some (atV c s e) ∧ y.2.1 = h1 := by
  refine (goesT_runs (tabH_ok conTF_ok hcRm_ok) g0 hl).mono fun ex z hz => ?_
  obtain ⟨rfl, ⟨g, e1⟩, e2⟩ := hz
  exact ⟨.inr rfl, by rw [e1, e2]; exact hr g, e2⟩
theorem gAt_ok : AnsHOk 4 gAt := by
  intro vals h s v h' s' lg hg hl m B w E hv
  unfold gAt at hg
  split at hg
  · rename_i b k n d s1
    split at hg
    · rename_i x hb
      split at hg
      · rename_i hc
        simp only [Bool.and_eq_true] at hc
        obtain ⟨hc, hfm⟩ := hc
        have hc := Nat.eq_of_beq_eq_true hc
        obtain ⟨L, e⟩ := x
        simp only at hc
        subst hc
        split at hg
        · -- an error
          cases hg
          have hm := hl _ List.mem_cons_self
          have h1 := hl _ (List.mem_cons_of_mem _ (List.mem_singleton.2 rfl))
          simp only at hm h1
          have h1 : (bL n true).1 = (bL n true).2 := h1
          have := at_calls E hb hfm hm k n 0 0 (errF 1) rfl hm
            (fun F => ⟨hEs L F, rfl, rfl, rfl, runs_of (at_es k n L F) (okP1 h1) (res_es k n L F)⟩)
            (fun hL F => ⟨hEn F, .inr ⟨rfl, hL⟩, rfl, runs_of (at_en k n F) (okP1 h1) (res_en k n F)⟩)
          rw [put_same E.len hb] at this
          exact this
        · -- known
          cases hg
          have hk := hl _ List.mem_cons_self
          have hm := hl _ (List.mem_cons_of_mem _ List.mem_cons_self)
          have h1 := hl _ (List.mem_cons_of_mem _ (List.mem_cons_of_mem _ (List.mem_singleton.2 rfl)))
          simp only at hk hm h1
          have h1 : (bL n false).1 = (bL n false).2 := h1
          have hl2 : (isMp L && lookIs Tryd.prog 39 (paV (k % n) n) L.tail (ptV (cK k n) (sK k n))) = true := by
            obtain ⟨u, u1, u2⟩ := hereT_is hk
            rw [hm]
            unfold lookIs
            rw [u1]
            exact u2
          have := at_calls E hb hfm hm k n (cK k n) (sK k n) .nilIface rfl hm
            (fun F => ⟨hKs k n (cK k n) (sK k n) L F, rfl, rfl, rfl, runs_of (at_ks k n (cK k n) (sK k n) L F) (okPC hl2 (okPC hl2 (okP1 h1))) (res_ks k n _ _ L F)⟩)
            (fun hL F => by
              rw [hL] at hk
              cases hk)
          rw [put_same E.len hb] at this
          exact this
        · -- not known
          cases hg
          have hk := hl _ List.mem_cons_self
          have hm := hl _ (List.mem_cons_of_mem _ List.mem_cons_self)
          have h1 := hl _ (List.mem_cons_of_mem _ (List.mem_cons_of_mem _ (List.mem_singleton.2 rfl)))
          simp only at hk hm h1
          have hb1 := of_decide_eq_false h1
          have h1 : (bL n false).1 = (bL n false).2 := h1
          have h2 : (kL (k % n) n).1 = (kL (k % n) n).2 := decide_eq_true (in_k hb1)
          have h3 : (isMp L && noneT (k % n) n L.tail) = true := by rw [hm, hk]; rfl
          have h4 : (isMp L && noneIs Tryd.prog 39 (paV (k % n) n) L.tail) = true := by
            rw [hm]
            unfold noneIs
            rw [noneT_is hk]
            rfl
          exact at_calls E hb hfm hm k n (cK k n) (sK k n) .nilIface rfl (bump_mp hm)
            (fun F => ⟨hUs k n L F, rfl, rfl, rfl, runs_of (at_us k n L F) (okPC h3 (okPC h2 (okPC h4 (okPC h4 (okP1 h1))))) (res_us k n L F)⟩)
            (fun hL F => ⟨hUn k n F, .inl ⟨7, rfl, by rw [hL]; rfl⟩, rfl, runs_of (at_un k n F) (okPC h2 (okP1 h1)) (res_un k n F)⟩)
        · cases hg
      · cases hg
    · cases hg
  · cases hg
theorem atz_bad (k n : Int) : Fits (reckon (tabH Tryd.prog extY conTF hcN) 300 4 [.pointer none, .int .i64 k, .int .i64 n] [cmp true]) (atV 0 0 (errF 1)) [bL n true] := ⟨by kernel_rfl, by kernel_rfl, by kernel_rfl, by kernel_rfl⟩
theorem atz_in (k n : Int) : Fits (reckon (tabH Tryd.prog extY conTF hcN) 300 4 [.pointer none, .int .i64 k, .int .i64 n] [cmp false]) (atV 0 0 (errF 1)) [bL n false] := ⟨by kernel_rfl, by kernel_rfl, by kernel_rfl, by kernel_rfl⟩
/-- a point of nothing -/
def gAtZ : Ans := fun vals s => match vals with | [.pointer none, .int .i64 _, .int .i64 _] => some (atV 0 0 (errF 1), s, []) | _ => none
theorem gAtZ_ok : AnsOk 4 gAtZ := by
  intro vals s v s' lg h hl w
  unfold gAtZ at h
  split at h
  · rename_i k n
    cases h
    have T := tabH_ok conTF_ok hcN_ok
    by_cases c : badP n
    · exact fits_calls T (atz_bad k n) (okP1 (decide_eq_true c)) (by rfl) (by rfl) w
    · exact fits_calls T (atz_in k n) (okP1 (decide_eq_false c)) (by rfl) (by rfl) w
  · cases h
theorem lenz_fits : Fits (reckon (tabH Tryd.prog extY conN hcN) 300 7 [.pointer none] []) (.int .i64 0) [] := ⟨by kernel_rfl, by kernel_rfl, by kernel_rfl, by kernel_rfl⟩
def gLenZ : Ans := fun vals s => match vals with | [.pointer none] => some (.int .i64 0, s, []) | _ => none
theorem gLenZ_ok : AnsOk 7 gLenZ := by
  intro vals s v s' lg h hl w
  unfold gLenZ at h
  split at h
  · cases h
    exact fits_calls (tabH_ok conN_ok hcN_ok) lenz_fits okNil (by rfl) (by rfl) w
  · cases h
/-! ### how many -/
theorem len_s (q : Int) (R F : List Value) : GoesT (evC (tabH Tryd.prog extY conN hcN) 300 false (cBody Tryd.f7) ([.pointer (some ⟨1, 0, none⟩)] ++ List.replicate 9 undef, hS0 (.int .i64 q :: R) F, []) ⟨[], [], []⟩) 3 7 (some none) [.pointer (some ⟨1, 0, none⟩), undef, .int .i64 q] (hS0 (.int .i64 q :: R) F) [] := ⟨by kernel_rfl, by kernel_rfl, by kernel_rfl⟩
theorem len_n (F : List Value) : GoesT (evC (tabH Tryd.prog extY conN hcN) 300 false (cBody Tryd.f7) ([.pointer (some ⟨1, 0, none⟩)] ++ List.replicate 9 undef, hN0 F, []) ⟨[], [], []⟩) 3 7 (some none) [.pointer (some ⟨1, 0, none⟩), undef, .int .i64 0] (hN0 F) [] := ⟨by kernel_rfl, by kernel_rfl, by kernel_rfl⟩
theorem len_body : Tryd.f7.body = some (cBody Tryd.f7) := by kernel_rfl
theorem len_res (a v : Value) (h : Hp) (g : Nat → Value) : resS Tryd.prog Tryd.f7 ([a, undef, v] ++ tl 7 g) h = some v := rfl
def gLenR : AnsH := fun vals h s =>
  match vals with
  | [.pointer (some ⟨b, 0, none⟩)] =>
    match h.blk? b with
    | some (.int .i64 q :: R, e) => if (Nat.beq e obT && h.l.all fun x => !(Nat.beq x.2 fmT)) = true then some (.int .i64 q, h, s, [(isMp (.int .i64 q :: R), true)]) else none
    | _ => none
  | _ => none
theorem gLenR_ok : AnsHOk 7 gLenR := by
  intro vals h s v h' s' lg hg hl m B w E hv
  unfold gLenR at hg
  split at hg
  · rename_i b
    split at hg
    · rename_i q R e hb
      split at hg
      · rename_i hc
        simp only [Bool.and_eq_true] at hc
        obtain ⟨hc, hfm⟩ := hc
        obtain rfl := Nat.eq_of_beq_eq_true hc
        cases hg
        have hm := hl _ (List.mem_singleton.2 rfl)
        simp only at hm
        have st := mp_still hm
        have TT := tabH_ok conN_ok hcN_ok
        obtain ⟨m1, hm1, hE⟩ := ob_open E hb hm
        have ev : [.pointer (some ⟨b, 0, none⟩)].map (mv m) = [.pointer (some ⟨1, 0, none⟩)].map (mv m1) := by
          have e1 : mv m (.pointer (some ⟨b, 0, none⟩)) = .pointer (some ⟨(m b).1, 0, none⟩) := rfl
          have e2 : mv m1 (.pointer (some ⟨1, 0, none⟩)) = .pointer (some ⟨(m1 1).1, 0, none⟩) := rfl
          simp only [List.map_cons, List.map_nil, e1, e2, hm1]
        rw [ev]
        have fin : ∀ {h0 : Hp} {m' : Mp} {w' : World}, 1 < h0.n → Came m1 B h0 w (.int .i64 q) h0 m' w' → h0.blk? 0 = some (frOf m h w, fmT) → (B ≤ (m' 1).1 ∧ objAt B w' (m' 1).1 (.int .i64 q :: R)) → ∃ m2, Ending.returned (mv m' (.int .i64 q)) = .returned (mv m2 (.int .i64 q)) ∧ Came m B h w (.int .i64 q) h m2 w' := by
          intro h0 m' w' hn C b0 ob
          have em : (m' 1).1 = (m b).1 := by rw [C.agree 1 hn, hm1]
          rw [em] at ob
          have E2 := ob_shut E hb hfm C.emb C.below (ob_stay C.emb b0) ob.2 ob.1 st
          rw [put_same E.len hb] at E2
          exact ⟨m, rfl, ⟨Agree.refl _ _, E2, C.below, Nat.le_refl _, rfl⟩⟩
        rcases hE with E1 | ⟨E1, hL⟩
        · refine (hcalls_all (T := tabH Tryd.prog extY conN hcN) Tryd.func7 len_body (v := .int .i64 q) (h' := hS0 (.int .i64 q :: R) (frOf m h w)) ((goesT_runs TT (len_s q R (frOf m h w)) okNil).mono fun ex z hz => ?_) m1 B w E1 (fun v hv => by rw [List.mem_singleton.1 hv]; rfl)).mono fun ex w' he' => ?_
          · obtain ⟨rfl, ⟨g, e1⟩, e2⟩ := hz
            exact ⟨.inr rfl, by rw [e1]; exact len_res _ _ _ g, e2⟩
          · obtain ⟨m', rfl, C⟩ := he'
            exact fin (by show 1 < 3; omega) C rfl (ob_map C.emb (j := 2) rfl rfl st)
        · injection hL with hq hR
          injection hq with _ hq
          subst hq hR
          refine (hcalls_all (T := tabH Tryd.prog extY conN hcN) Tryd.func7 len_body (v := .int .i64 0) (h' := hN0 (frOf m h w)) ((goesT_runs TT (len_n (frOf m h w)) okNil).mono fun ex z hz => ?_) m1 B w E1 (fun v hv => by rw [List.mem_singleton.1 hv]; rfl)).mono fun ex w' he' => ?_
          · obtain ⟨rfl, ⟨g, e1⟩, e2⟩ := hz
            exact ⟨.inr rfl, by rw [e1]; exact len_res _ _ _ g, e2⟩
          · obtain ⟨m', rfl, C⟩ := he'
            exact fin (by show 1 < 2; omega) C rfl (ob_none C.emb rfl)
      · cases hg
    · cases hg
  · cases hg
/-! ### a new one -/
theorem new_body : Tryd.f5.body = some (cBody Tryd.f5) := by kernel_rfl
theorem new_goes : GoesT (evC (tabH Tryd.prog extY conN hcN) 300 false (cBody Tryd.f5) ([] ++ List.replicate 3 undef, ⟨0, []⟩, []) ⟨[], [], []⟩) 1 2 (some none) [.pointer (some ⟨0, 0, none⟩)] ⟨1, [bOb (.map none)]⟩ [] := ⟨by kernel_rfl, by kernel_rfl, by kernel_rfl⟩
theorem new_res (v : Value) (h : Hp) (g : Nat → Value) : resS Tryd.prog Tryd.f5 ([v] ++ tl 2 g) h = some v := rfl
theorem Emb.pushO {m : Mp} {B : Nat} {h : Hp} {w : World} (E : Emb m B h w) (hn : (h.l.all fun x => !(spK x.2)) = true) {g : Nat × Nat} (hB : B ≤ g.1) (ho : objAt B w g.1 [.int .i64 0]) (hf : ∀ c y, h.blk? c = some y → ro y.2 = false → (m c).1 ≠ g.1) : Emb (upd m h.n g) B (h.push [.int .i64 0] obT) w := by
  obtain ⟨o1, o2, o3, o4, o5, o6, o7, o8, o9⟩ := ob_marks
  have ro_ob : ro obT = true := rfl
  have tomb_ob : tomb obT = true := rfl
  have blk := fun b => Hp.blk_push (h := h) (cs := [.int .i64 0]) (e := obT) (b := b) E.len
  have ag := upd_agree m h.n g
  have non : ∀ b x, h.blk? b = some x → spK x.2 = false := fun b x hb => by
    unfold Hp.blk? at hb
    split at hb
    · simpa using List.all_eq_true.1 hn x (List.mem_of_getElem? hb)
    · cases hb
  refine ⟨by simp [Hp.push, E.len], fun b x hb hx => ?_, fun b x hb hx => ?_, fun b x hb hx hr => ?_, fun b b' x x' hb hb' hx hx' he => ?_, fun b x hb v hv => ?_, E.base, E.ice, fun b x hb hx => ?_⟩
  · rw [blk] at hb
    split at hb
    · cases hb; rw [tomb_ob] at hx; cases hx
    · rw [ag b (Hp.blk_lt hb), map_agree ag (E.wf b x hb)]
      exact E.lies b x hb hx
  · rw [blk] at hb
    split at hb
    · cases hb; rw [ro_ob] at hx; cases hx
    · rw [ag b (Hp.blk_lt hb)]
      exact E.low b x hb hx
  · rw [blk] at hb
    split at hb
    · cases hb; rw [tomb_ob] at hx; cases hx
    · rw [ag b (Hp.blk_lt hb)]
      exact E.ros b x hb hx hr
  · rw [blk] at hb hb'
    split at hb
    · cases hb; rw [ro_ob] at hx; cases hx
    · split at hb'
      · cases hb'; rw [ro_ob] at hx'; cases hx'
      · rw [ag b (Hp.blk_lt hb), ag b' (Hp.blk_lt hb')] at he
        exact E.inj b b' x x' hb hb' hx hx' he
  · rw [blk] at hb
    split at hb
    · cases hb
      rw [List.mem_singleton.1 hv]
      rfl
    · exact lt1_mono (Nat.le_succ _) (E.wf b x hb v hv)
  · rw [blk] at hb
    split at hb
    · rename_i hbn
      cases hb
      refine ⟨fun hs => absurd (o2.symm.trans hs) (by decide), fun _ => ?_⟩
      rw [hbn, show upd m h.n g h.n = g by simp [upd]]
      refine ⟨⟨fun he => absurd (show obT = mpT from he) (by decide), fun _ => ⟨hB, ho⟩, fun he => absurd (show obT = fmT from he) (by decide), fun _ => ?_⟩, fun c y hc hy hf' => ?_, fun c y hc hy _ => ?_⟩
      · obtain ⟨_, q, q1, _⟩ := ho
        exact (Array.getElem?_eq_some_iff.1 q1).1
      · rw [blk] at hc
        split at hc
        · cases hc; rw [ro_ob] at hy; cases hy
        · rw [ag c (Hp.blk_lt hc)] at hf'
          rcases hf' with ⟨_, hf'⟩ | ⟨hf', _⟩
          · exact hf c y hc hy hf'
          · exact absurd (show obT = fmT from hf') (by decide)
      · rw [blk] at hc
        split at hc
        · rename_i hcn; rw [hcn]
        · rw [non c y hc] at hy; cases hy
    · refine .of (non b x hb) ?_
      rw [map_agree ag (E.wf b x hb)]
      exact (E.abs b x hb hx).1 (non b x hb)
def gNewR : AnsH := fun vals h s =>
  match vals with
  | [] => if (h.l.all fun x => !(spK x.2)) = true then some (.pointer (some ⟨h.n, 0, none⟩), h.push [.int .i64 0] obT, s, []) else none
  | _ => none
theorem gNewR_ok : AnsHOk 5 gNewR := by
  intro vals h s v h' s' lg hg hl m B w E hv
  unfold gNewR at hg
  split at hg
  · split at hg
    · rename_i hn
      cases hg
      have TT := tabH_ok conN_ok hcN_ok
      refine (hcalls_all (T := tabH Tryd.prog extY conN hcN) Tryd.func5 new_body (vals := []) (v := .pointer (some ⟨0, 0, none⟩)) (h := ⟨0, []⟩) (h' := ⟨1, [bOb (.map none)]⟩) ((goesT_runs TT new_goes okNil).mono fun ex z hz => ?_) (fun b => (b, 0)) w.heap.size w (Emb.none w) (fun v hv => by cases hv)).mono fun ex w' he' => ?_
      · obtain ⟨rfl, ⟨g, e1⟩, e2⟩ := hz
        exact ⟨.inr rfl, by rw [e1]; exact new_res _ _ g, e2⟩
      · obtain ⟨m', rfl, C⟩ := he'
        have td : Tidy w w' := ⟨C.below, fun k h1 h2 => C.emb.ice k h1 h2⟩
        obtain ⟨E', hb'⟩ := clean_emb E td
        have o3 : ro obTy = false := rfl
        obtain ⟨r, z, _, l1, l2⟩ := C.emb.lies 0 (bOb (.map none)) rfl (tomb_ro o3)
        obtain ⟨z1, z2⟩ := l2 o3
        have hlow : w.heap.size ≤ (m' 0).1 := C.emb.low 0 (bOb (.map none)) rfl o3
        have ho : objAt B w' (m' 0).1 [.int .i64 0] := by
          refine ⟨.map none, r, ?_, .inl ⟨rfl, [], rfl⟩⟩
          rw [l1, z2, z1]
          rfl
        have E2 := Go.Proofs.YtdlpffgekmidnabDoor.Emb.pushO E' hn (g := m' 0) (Nat.le_trans E.base hlow) ho (fun c y hc hy heq => by
          have := E.here hc (tomb_ro hy)
          omega)
        refine ⟨upd m h.n (m' 0), ?_, ⟨upd_agree _ _ _, E2, hb', Nat.le_succ _, blt_iff.2 (Nat.lt_succ_self _)⟩⟩
        simp only [mv, mv2, mv1, mvA, upd, if_pos]
    · cases hg
  · cases hg
end Go.Proofs.YtdlpffgekmidnabDoor
namespace Go.KRun
open Go.ChangeShapes Go.WideShapes Go.ChangeAt Go.RowKit Go.Joins
theorem tidy_frozen {w w' : World} (h : Tidy w w') (a : Addr) : w'.frozen? a = w.frozen? a := by
  unfold World.frozen?
  by_cases h1 : a.block < w.heap.size
  · rw [h.1.block _ h1]
  · rw [Array.getElem?_eq_none (by omega : w.heap.size ≤ a.block)]
    by_cases h2 : a.block < w'.heap.size
    · have h3 := h.2 a.block (by omega) h2
      unfold iced at h3
      split
      · rename_i c e lo hi hc
        have := h3 _ _ _ hc
        cases this
        simp
      · rfl
    · rw [Array.getElem?_eq_none (by omega : w'.heap.size ≤ a.block)]
theorem rowAt_le {p : Program} {fits : TypeId → Bool} : ∀ (d : Nat) (e : TypeId) (count off n : Nat), rowAt p fits d e count off n = true → off ≤ count * p.cellsOf e
  | 0, _, _, _, _, h => by simp [rowAt] at h
  | d + 1, e, count, off, n, h => by
    unfold rowAt at h
    simp only at h
    split at h
    · cases h
    · rename_i hs
      have hdm := Nat.div_add_mod off (p.cellsOf e)
      have hml := Nat.mod_lt off (show 0 < p.cellsOf e by omega)
      simp only [Bool.or_eq_true, Bool.and_eq_true, decide_eq_true_eq, beq_iff_eq] at h
      rcases h with h | h
      · obtain ⟨⟨h1, h2⟩, _⟩ := h
        have h3 : off / p.cellsOf e ≤ count := by omega
        have := Nat.mul_le_mul_left (p.cellsOf e) h3
        rw [Nat.mul_comm count]
        omega
      · have h3 : off / p.cellsOf e + 1 ≤ count := h.1
        have := Nat.mul_le_mul_left (p.cellsOf e) h3
        rw [Nat.mul_succ] at this
        rw [Nat.mul_comm count]
        omega
theorem liesAt_le {p : Program} : ∀ (d : Nat) (e : TypeId) (count off : Nat) (u : TypeId) (n : Nat), liesAt p d e count off u n = true → off ≤ count * p.cellsOf e
  | 0, _, _, _, _, _, h => by simp [liesAt] at h
  | d + 1, e, count, off, u, n, h => by
    unfold liesAt at h
    simp only [Bool.or_eq_true] at h
    rcases h with h | h
    · exact rowAt_le _ _ _ _ _ h
    · split at h
      · exact liesAt_le d _ _ _ _ _ h
      · cases h
section
variable {H : Type} {enc : TypeId × Value → H} {P : Program} {w : World}
/-- a row that lies in the memory: from 'off' on 'cap' words -/
structure Lain (w : World) (b off : Nat) (cs : Array Value) (zs : List Int) : Prop where
  heap : ∃ ty z, w.heap[b]? = some (.cells cs ty z)
  room : off + zs.length ≤ cs.size
  cell : ∀ i, i < zs.length → cs[off + i]? = some (.int .u32 (zs.getD i 0))
  wf : ∀ n ∈ zs, (Lit.int .u32 n).wf = true
end
end Go.KRun
namespace Go.KRun
open Go.ChangeShapes Go.WideShapes Go.ChangeAt Go.RowKit Go.Joins Go.Deep
section
variable {H : Type} {enc : TypeId × Value → H} {P : Program} {w : World}
/-- numbers that lie in the memory, one behind the other, from 'off' on -/
structure LainK (w : World) (kd : IntKind) (b off : Nat) (cs : Array Value) (zs : List Int) : Prop where
  heap : ∃ ty z, w.heap[b]? = some (.cells cs ty z)
  room : off + zs.length ≤ cs.size
  cell : ∀ i, i < zs.length → cs[off + i]? = some (.int kd (zs.getD i 0))
  wf : ∀ n ∈ zs, (Lit.int kd n).wf = true
theorem two_ints {base : Nat} {sp : Nat → Bool} {held : Bool} {fuel : Nat} {e : TypeId} {f0 f1 : Field} {kd : IntKind} {cs : List Value} {x : DataW H × List MemPlace} (hs : P.underlying e = some (.struct #[f0, f1])) (hone : oneCellFields P #[f0, f1] = true)
    (h0 : P.underlying f0.type = some (.int kd)) (h1 : P.underlying f1.type = some (.int kd)) (hl : cs.length = 2) (h : DataW.trod enc P w base sp held fuel e cs = some x) :
    ∃ a b, cs = [.int kd a, .int kd b] ∧ (Lit.int kd a).wf = true ∧ (Lit.int kd b).wf = true ∧ x.2 = [] := by
  obtain ⟨c0, c1, rfl⟩ : ∃ c0 c1, cs = [c0, c1] := by
    match cs, hl with
    | [c0, c1], _ => exact ⟨c0, c1, rfl⟩
  obtain ⟨y0, y1, n, hx, _, t0, t1⟩ := trod_struct2 hs h
  obtain ⟨o0, k0⟩ := hone_of hone 0 f0 rfl
  obtain ⟨o1, k1⟩ := hone_of hone 1 f1 rfl
  have t0 : DataW.trod enc P w base sp held n f0.type [c0] = some y0 := by simpa [o0, k0] using t0
  have t1 : DataW.trod enc P w base sp held n f1.type [c1] = some y1 := by simpa [o1, k1] using t1
  obtain ⟨a, e0, r0, w0⟩ := DataW.trod_int h0 t0
  obtain ⟨b, e1, r1, w1⟩ := DataW.trod_int h1 t1
  refine ⟨a, b, ?_, w0, w1, ?_⟩
  · simp only [List.cons.injEq, and_true] at e0 e1
    rw [e0, e1]
  · rw [hx, r0, r1]
    rfl
theorem open_pairs {base : Nat} {r : Go.Reach} {t e : TypeId} {f0 f1 : Field} {kd : IntKind} {v : Value} {d : DataW H} {p : List MemPlace} (ht : P.underlying t = some (.slice e)) (hs : P.underlying e = some (.struct #[f0, f1])) (hone : oneCellFields P #[f0, f1] = true) (hC : P.cellsOf e = 2)
    (h0 : P.underlying f0.type = some (.int kd)) (h1 : P.underlying f1.type = some (.int kd)) (hval : Value.okWide P w r base t v) (h : DataW.Trod enc P w 0 (fun _ => true) true t v d p) :
    (v = .slice none 0 0 ∧ d = .nil ∧ p = []) ∨ ∃ b off len cap cs zs x y, v = .slice (some ⟨b, off, none⟩) len cap ∧ len ≤ cap ∧ zs.length = 2 * cap ∧ cap ≤ maxLen ∧ LainK w kd b off cs zs ∧ d = .slice x y ∧ x.length + y.length = cap ∧ ∀ q ∈ p, q.block = b := by
  obtain ⟨a0, len0, cap0, rfl⟩ := okWide_slice ht hval
  obtain ⟨fuel, hf⟩ := h
  have hf' : DataW.trod enc P w 0 (fun _ => true) true fuel t [.slice a0 len0 cap0] = some (d, p) := by simpa [Value.cells] using hf
  rcases DataW.trod_slice ht hf' with ⟨g1, g2⟩ | ⟨a, len, cap, elems, rest, n, _, g1, g2, hb, hl, hm, hlen, hel, hsp, _⟩
  · simp only [List.cons.injEq, and_true, Value.slice.injEq] at g1
    obtain ⟨rfl, rfl, rfl⟩ := g1
    simp only [Prod.mk.injEq] at g2
    exact .inl ⟨rfl, g2.1, g2.2⟩
  · simp only [List.cons.injEq, and_true, Value.slice.injEq] at g1
    obtain ⟨rfl, rfl, rfl⟩ := g1
    simp only [Prod.mk.injEq] at g2
    obtain ⟨hrl, hr⟩ := hsp rfl
    have hv : w.has P r base a e cap0 := by
      simp only [Value.okWide, ht, Cell.okWide, Cell.ok] at hval
      exact hval.2.2
    obtain ⟨_, hspot, row, cells, hsh, hli⟩ := hv
    obtain ⟨b, off, spot⟩ := a
    simp only at hspot hsh hli
    subst hspot
    obtain ⟨cs, z, hh, hcs⟩ : ∃ cs z, w.heap[b]? = some (.cells cs row z) ∧ cs.size = cells := by
      unfold World.shape? at hsh
      split at hsh
      · rename_i c el z hh
        simp only [Option.some.injEq, Prod.mk.injEq] at hsh
        exact ⟨c, z, by rw [hh, hsh.1], hsh.2⟩
      · cases hsh
    -- each element
    have each : ∀ i, i < cap0 → ∃ u v, cs[off + 2 * i]? = some (.int kd u) ∧ cs[off + (2 * i + 1)]? = some (.int kd v) ∧ (Lit.int kd u).wf = true ∧ (Lit.int kd v).wf = true := by
      intro i hi
      have hb' : ∃ y, (w.cells? 0 ((⟨b, off, none⟩ : Addr).add (i * P.cellsOf e)) (P.cellsOf e)).bind (DataW.trod enc P w 0 (fun _ => true) true n e) = some y := by
        by_cases c : i < len0
        · exact ⟨_, (hel i c).trans (List.getElem?_eq_getElem (by omega))⟩
        · have := hr (i - len0) (by omega)
          rw [show len0 + (i - len0) = i by omega] at this
          exact ⟨_, this.trans (List.getElem?_eq_getElem (by omega))⟩
      obtain ⟨y, hy⟩ := hb'
      rw [hC, Option.bind_eq_some_iff] at hy
      obtain ⟨cs', hcs', hy⟩ := hy
      obtain ⟨_, q2, q3⟩ := World.cells?_some hcs'
      obtain ⟨u, v, rfl, w0, w1, _⟩ := two_ints hs hone h0 h1 q2 hy
      have p0 := q3 0 (by omega)
      have p1 := q3 1 (by omega)
      rw [add_plain, add_plain] at p0 p1
      unfold World.cell? at p0 p1
      simp only [hh] at p0 p1
      refine ⟨u, v, ?_, ?_, w0, w1⟩
      · rw [show off + 2 * i = off + i * 2 + 0 by omega]
        simpa using p0
      · rw [show off + (2 * i + 1) = off + i * 2 + 1 by omega]
        simpa using p1
    have places : ∀ y ∈ elems ++ rest, y.2 = [] := by
      intro y hy
      obtain ⟨i, hi⟩ := List.getElem?_of_mem hy
      have hb' : (w.cells? 0 ((⟨b, off, none⟩ : Addr).add (i * P.cellsOf e)) (P.cellsOf e)).bind (DataW.trod enc P w 0 (fun _ => true) true n e) = some y := by
        by_cases c : i < len0
        · rw [hel i c, ← hi, List.getElem?_append_left (by omega)]
        · have hlt := (List.getElem?_eq_some_iff.1 hi).1
          rw [List.length_append] at hlt
          have := hr (i - len0) (by omega)
          rw [show len0 + (i - len0) = i by omega] at this
          rw [this, ← hi, List.getElem?_append_right (by omega), hlen]
      rw [hC, Option.bind_eq_some_iff] at hb'
      obtain ⟨cs', hcs', hy⟩ := hb'
      obtain ⟨_, q2, _⟩ := World.cells?_some hcs'
      obtain ⟨_, _, _, _, _, q⟩ := two_ints hs hone h0 h1 q2 hy
      exact q
    have flat : ∀ i, i < 2 * cap0 → ∃ u, cs[off + i]? = some (.int kd u) ∧ (Lit.int kd u).wf = true := by
      intro i hi
      obtain ⟨u, v, e0, e1, w0, w1⟩ := each (i / 2) (by omega)
      rcases Nat.mod_two_eq_zero_or_one i with c | c
      · exact ⟨u, by rw [show off + i = off + 2 * (i / 2) by omega]; exact e0, w0⟩
      · exact ⟨v, by rw [show off + i = off + (2 * (i / 2) + 1) by omega]; exact e1, w1⟩
    have hoff : off ≤ cs.size := by
      have := liesAt_le _ _ _ _ _ _ hli
      have h2 := Nat.div_mul_le_self cells (P.cellsOf row)
      omega
    let zs : List Int := (List.range (2 * cap0)).map fun i => match cs[off + i]? with | some (.int _ u) => u | _ => 0
    have hz : zs.length = 2 * cap0 := by simp [zs]
    have hget : ∀ i, i < 2 * cap0 → cs[off + i]? = some (.int kd (zs.getD i 0)) ∧ (Lit.int kd (zs.getD i 0)).wf = true := by
      intro i hi
      obtain ⟨u, e1, w1⟩ := flat i hi
      have : zs.getD i 0 = u := by
        simp only [zs, List.getD, List.getElem?_map, List.getElem?_range hi, Option.map_some, Option.getD_some, e1]
      rw [this]
      exact ⟨e1, w1⟩
    have room : off + zs.length ≤ cs.size := by
      rw [hz]
      rcases Nat.eq_zero_or_pos cap0 with c | c
      · omega
      · have := (hget (2 * cap0 - 1) (by omega)).1
        have := (Array.getElem?_eq_some_iff.1 this).1
        omega
    refine .inr ⟨b, off, len0, cap0, cs, zs, _, _, rfl, hl, hz, hm, ⟨⟨_, _, hh⟩, room, fun i hi => (hget i (hz ▸ hi)).1, fun m hmem => ?_⟩, g2.1, by simp; omega, fun q hq => ?_⟩
    rotate_left
    · rw [g2.2] at hq
      rcases List.mem_append.1 hq with hq | hq
      · obtain ⟨_, _, e⟩ := MemPlace.mem_row.1 hq
        rw [e]
        simp only [MemPlace.block]
      · obtain ⟨y, hy, hq⟩ := List.mem_flatMap.1 hq
        rw [places y hy] at hq
        cases hq
    obtain ⟨i, hi, rfl⟩ := List.mem_iff_getElem.1 hmem
    have := (hget i (hz ▸ hi)).2
    simpa [List.getD, List.getElem?_eq_getElem hi] using this
end
/-- a row's cells in a small memory: what is ahead of it is the world's own -/
def rowK (kd : IntKind) (cs : Array Value) (off : Nat) (zs : List Int) : List Value := (cs.toList.take off).map (Value.iface dead) ++ zs.map (Value.int kd)
theorem rowK_still (kd : IntKind) (cs : Array Value) (off : Nat) (zs : List Int) : ∀ v ∈ rowK kd cs off zs, still v = true := fun v hv => by
  unfold rowK at hv
  rcases List.mem_append.1 hv with h | h
  · obtain ⟨x, _, rfl⟩ := List.mem_map.1 h; rfl
  · obtain ⟨x, _, rfl⟩ := List.mem_map.1 h; rfl
theorem rowK_lie {w : World} {kd : IntKind} {b off : Nat} {cs : Array Value} {zs : List Int} (h : LainK w kd b off cs zs) {e : TypeId} (he : ro e = true) (m : Mp) : lie w (b, cs.size) ((rowK kd cs off zs).map (mv1 m)) e := by
  obtain ⟨ty, z, hh⟩ := h.heap
  have hroom := h.room
  have e1 : (rowK kd cs off zs).map (mv1 m) = cs.toList.take (off + zs.length) := by
    apply List.ext_getElem?
    intro i
    unfold rowK
    rw [List.map_append, List.map_map, List.map_map, List.getElem?_take]
    have hlen : ((cs.toList.take off).map (mv1 m ∘ Value.iface dead)).length = off := by simp; omega
    by_cases hi : i < off
    · rw [List.getElem?_append_left (by omega), if_pos (by omega), List.getElem?_map, List.getElem?_take, if_pos hi]
      cases hx : cs.toList[i]? with
      | none => rfl
      | some x => simp [mv1]
    · rw [List.getElem?_append_right (by omega), hlen]
      by_cases hj : i < off + zs.length
      · rw [if_pos hj, List.getElem?_map]
        have hc := h.cell (i - off) (by omega)
        rw [show off + (i - off) = i by omega] at hc
        have hz : zs[i - off]? = some (zs.getD (i - off) 0) := by
          rw [List.getElem?_eq_getElem (by omega)]
          simp [List.getD, List.getElem?_eq_getElem (show i - off < zs.length by omega)]
        rw [hz]
        simp only [Option.map_some, Function.comp, mv1]
        rw [← hc]
        simp
      · rw [if_neg hj, List.getElem?_eq_none (by simp; omega)]
  refine ⟨cs.toList.drop (off + zs.length), (ty, z), ?_, ?_, fun h0 => by rw [he] at h0; cases h0⟩
  · rw [e1]; simp; omega
  · rw [e1, List.take_append_drop]; exact hh
theorem rowK_get {w : World} {kd : IntKind} {b off : Nat} {cs : Array Value} {zs : List Int} (h : LainK w kd b off cs zs) {i : Nat} (hi : i < zs.length) : (rowK kd cs off zs)[off + i]? = some (.int kd (zs.getD i 0)) := by
  have := h.room
  have hlen : ((cs.toList.take off).map (Value.iface dead)).length = off := by simp; omega
  unfold rowK
  rw [List.getElem?_append_right (by omega), hlen, Nat.add_sub_cancel_left, List.getElem?_map, List.getElem?_eq_getElem hi]
  simp [List.getD, List.getElem?_eq_getElem hi]
end Go.KRun
