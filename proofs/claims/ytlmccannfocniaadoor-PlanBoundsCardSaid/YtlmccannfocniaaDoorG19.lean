/-
  PlR, RowM, PlT
-/
import Derived.Test.YtlmccannfocniaaDoorG18
import Derived.Lib.LaidTab
import Derived.RowKit
import Derived.Lib.LaidU8
namespace Go.Proofs.YtlmccannfocniaaDoor
open Go.KRun Go.RowKit Go.Pl Go.ChangeShapes Go.WideShapes Go.ChangeAt
set_option maxRecDepth 100000
theorem TA0_ok : TabOk (tabA (tabH Tryd.prog extY conN hcN)) := tabA_ok (tabH_ok conN_ok hcN_ok)
theorem gw0 (x : List Value × TypeId) (c : Nat) (N P : Int) : Fits (reckonAt (tabA (tabH Tryd.prog extY conN hcN)) (hTR x) 100 13 [plnV N none 0 c P] []) (plnV N none 0 c P) [] := ⟨by kernel_rfl, by kernel_rfl, by kernel_rfl, by kernel_rfl⟩
theorem gw1 (x : List Value × TypeId) (o n c : Nat) (N P : Int) : Fits (reckonAt (tabA (tabH Tryd.prog extY conN hcN)) (hTR x) 100 13 [plnV N (some ⟨1, o, none⟩) n c P] []) (plnV N (some ⟨1, o, none⟩) n c P) [] := ⟨by kernel_rfl, by kernel_rfl, by kernel_rfl, by kernel_rfl⟩
/-- the document's plan as the program's -/
def gGw : AnsH := fun vals h s => match hasRd h, vals with
  | true, [.agg ⟨[.int .i64 N, .slice p n c, .int .i64 P]⟩] => some (.agg #[.int .i64 N, .slice p n c, .int .i64 P], h, s, [(rowIP h p n, true)])
  | _, _ => none
theorem gGw_ok : AnsHOk 13 gGw := by
  intro vals h s v h' s' lg hg hl m B w E hv
  unfold gGw at hg
  split at hg
  · rename_i N p n c P ht
    cases hg
    obtain ⟨x, p', f, E0, hR, hf, hlt⟩ := row_lt E (hl (rowIP h p n, true) (by simp)) ht
    have e : rn f (plnV N p' n c P) = plnV N p n c P := plnV_rn (hf c)
    have hv := plnV_lt c N P hR
    have r : Calls Tryd.prog 13 (([plnV N p' n c P].map (rn f)).map (mv m)).toArray w fun e w' => ∃ m', e = .returned (mv m' (rn f (plnV N p' n c P))) ∧ Came m B h w (rn f (plnV N p' n c P)) h m' w' := by
      rcases hR.pos with ⟨h1, h2⟩ | ⟨o, h1, _⟩
      · subst h1 h2
        exact fits_rowA TA0_ok (gw0 x c N P) ok19 hv (by rfl) E hlt E0
      · subst h1
        exact fits_rowA TA0_ok (gw1 x o n c N P) ok19 hv (by rfl) E hlt E0
    simp only [List.map_cons, List.map_nil, e] at r
    exact r
  · cases hg
abbrev hR3 (x : List Value × TypeId) : Hp := ⟨3, [x, (rdV, rdT), (kV, kT)]⟩
def hcPb : Hc := altH 14 gBd (altH 16 gSt (altH 15 gDb (altH 17 gDst (altH 18 gDk (altH 13 gGw hcLk)))))
theorem hcPb_ok : HcOk hcPb := altH_ok Tryd.func14 rfl gBd_ok (altH_ok Tryd.func16 rfl gSt_ok (altH_ok Tryd.func15 rfl gDb_ok (altH_ok Tryd.func17 rfl gDst_ok (altH_ok Tryd.func18 rfl gDk_ok (altH_ok Tryd.func13 rfl gGw_ok hcLk_ok)))))
theorem TB_ok : TabOk (tabH Tryd.prog extY conZ hcPb) := tabH_ok conZ_ok hcPb_ok
/-- What is to be reckoned of a call, in one equation. -/
def FitsP (r : Option (Value × Hp × List Dec × Lg)) (v : Value) (lg : Log) : Prop :=
  r.map (fun r => (r.1, r.2.2.2.cs, r.2.2.2.es.map Prod.fst, r.2.2.2.bs.map Prod.fst)) = some (r.elim (v, lg, [], []) fun r => (v, lg, r.2.2.2.es.map Prod.snd, r.2.2.2.bs.map Prod.snd))
theorem FitsP.fits {r : Option (Value × Hp × List Dec × Lg)} {v : Value} {lg : Log} (h : FitsP r v lg) : Fits r v lg := by
  unfold FitsP at h
  cases r with
  | none => cases h
  | some r =>
    simp only [Option.map_some, Option.elim_some, Option.some.injEq, Prod.mk.injEq] at h
    obtain ⟨h1, h2, h3, h4⟩ := h
    exact ⟨by rw [Option.map_some, h1], by rw [Option.map_some, h2], by rw [Option.map_some, Option.map_some, h3], by rw [Option.map_some, Option.map_some, h4]⟩
abbrev bR (N P : Int) (p : Option Addr) (n c : Nat) : List Value := [.int .i64 N, .slice p n c, .int .i64 P]
abbrev h4P (N P : Int) (p : Option Addr) (n c : Nat) (x : List Value × TypeId) : Hp := ⟨4, [(bR N P p n c, 29), x, (rdV, rdT), (kV, kT)]⟩
abbrev h5P (N P : Int) (p : Option Addr) (n c : Nat) (x : List Value × TypeId) : Hp := ⟨5, [(bR N P p n c, 24), (bR N P p n c, 29), x, (rdV, rdT), (kV, kT)]⟩
theorem pb_f (x : List Value × TypeId) (p : Option Addr) (n c : Nat) (N P : Int) : FitsP (reckonAt (tabH Tryd.prog extY conZ hcPb) (hR3 x) 300 4 [plnV N p n c P] [cmp false, cmp false, cmp false, cmp false, at_, num 3, at_, num 0, at_, num 22, num 1, cmp false, num 25, num 1, cmp false, num 31, num 1, cmp true]) (.bool true) [((N == N) && ((P == P) && decide (rowO (h5P N P p n c x) p n = rowO (h5P N P p n c x) p n)), true), (rowIP (h5P N P p n c x) p n, true), (rowIP (h5P N P p n c x) p n, true), (ckB N P (rowO (h5P N P p n c x) p n), false), (rowIP (h5P N P p n c x) p n, true), (Nat.beq 49 49 && Nat.beq kT kT && kOk kV, true), (ckB N P (rowO (h5P N P p n c x) p n), false), (rowIP (h5P N P p n c x) p n, true), (Nat.beq 49 49 && Nat.beq kT kT && kOk kV, true), (Nat.beq 49 49 && Nat.beq kT kT && kOk kV, true), (ckB N P (rowO (h5P N P p n c x) p n), false), (rowIP (h5P N P p n c x) p n, true), (ckB N P (rowO (h5P N P p n c x) p n), false), (rowIP (h5P N P p n c x) p n, true), (ckB N P (rowO (h5P N P p n c x) p n), false), (rowIP (h5P N P p n c x) p n, true), (ckB N P (rowO (h5P N P p n c x) p n), false), (rowIP (h5P N P p n c x) p n, true), (rowIP (h4P N P p n c x) p n, true)] := by unfold FitsP; kernel_rfl
theorem pb_t (x : List Value × TypeId) (p : Option Addr) (n c : Nat) (N P : Int) (b s : Int) : FitsP (reckonAt (tabH Tryd.prog extY conZ hcPb) (hR3 x) 300 4 [plnV N p n c P] [cmp true, num b, cmp true, num b, cmp true, num s, cmp true, num s, at_, num 5, at_, num 0, at_, num 2, num 1, cmp true, num 12, num 1, cmp true, num 22, num 1, cmp true, num 25, num 1, cmp true, num 31, num 1, cmp true]) (.bool true) [((N == N) && ((P == P) && decide (rowO (h5P N P p n c x) p n = rowO (h5P N P p n c x) p n)), true), (rowIP (h5P N P p n c x) p n, true), (rowIP (h5P N P p n c x) p n, true), (ckB N P (rowO (h5P N P p n c x) p n), true), (rowIP (h5P N P p n c x) p n, true), (ckB N P (rowO (h5P N P p n c x) p n), true), (rowIP (h5P N P p n c x) p n, true), (s == s, true), (b == b, true), (decide (stV N P (rowO (h5P N P p n c x) p n) = s), true), (ckB N P (rowO (h5P N P p n c x) p n), true), (rowIP (h5P N P p n c x) p n, true), (decide (stV N P (rowO (h5P N P p n c x) p n) = s), true), (ckB N P (rowO (h5P N P p n c x) p n), true), (rowIP (h5P N P p n c x) p n, true), (decide (bdV N P (rowO (h5P N P p n c x) p n) = b), true), (ckB N P (rowO (h5P N P p n c x) p n), true), (rowIP (h5P N P p n c x) p n, true), (decide (bdV N P (rowO (h5P N P p n c x) p n) = b), true), (ckB N P (rowO (h5P N P p n c x) p n), true), (rowIP (h5P N P p n c x) p n, true), (rowIP (h4P N P p n c x) p n, true)] := by unfold FitsP; kernel_rfl
/-! ### where it begins -/
theorem ps_ty : Tryd.prog.underlying 29 = some (.struct #[⟨"N", 3, 0, false, "", "", 0⟩, ⟨"Radix", 22, 1, false, "", "", 8⟩, ⟨"Pad", 3, 2, false, "", "", 32⟩]) := by kernel_rfl
theorem ps_sl : Tryd.prog.underlying 22 = some (.slice 3) := by kernel_rfl
theorem ps_el : Tryd.prog.underlying 3 = some (.int .i64) := by kernel_rfl
theorem ps_ce : Tryd.prog.cellsOf 3 = 1 := by kernel_rfl
theorem ps_by : Tryd.prog.bytesOf 3 = 8 := by kernel_rfl
theorem laid_outP : laidOutB Tryd.prog = true := by kernel_rfl
/-- an argument that is a plan, and how it is told in the small memory: block 2 -/
def ArgPl (w : World) (v : Value) (x : List Value × TypeId) (k : Nat × Nat) (p : Option Addr) (n c : Nat) (N P : Int) (L : List Int) : Prop :=
  (v = .agg #[.int .i64 N, .slice none 0 0, .int .i64 P] ∧ x = ([], 2 * dead) ∧ p = none ∧ n = 0 ∧ c = 0 ∧ L = []) ∨
  ∃ b o cs zs, v = .agg #[.int .i64 N, .slice (some ⟨b, o, none⟩) n c, .int .i64 P] ∧ LainK w .i64 b o cs zs ∧ zs.length = c ∧ n ≤ c ∧ c * 8 ≤ 140737488351232 ∧ x = (rowK .i64 cs o zs, tIR) ∧ k = (b, cs.size) ∧ p = some ⟨2, o, none⟩ ∧ L = zs.take n
section
variable {w : World} {v : Value} {x : List Value × TypeId} {k : Nat × Nat} {p : Option Addr} {n c : Nat} {N P : Int} {L : List Int}
theorem ArgPl.emb (h : ArgPl w v x k p n c N P L) : ro x.2 = true ∧ ab x.2 = false ∧ (∀ u ∈ x.1, still u = true) ∧ (tomb x.2 = false → (∀ m : Mp, lie w k (x.1.map (mv1 m)) x.2) ∧ k.1 < w.heap.size) := by
  rcases h with ⟨_, rfl, _⟩ | ⟨b, o, cs, zs, _, hL, _, _, _, rfl, rfl, _⟩
  · exact ⟨by kernel_rfl, by kernel_rfl, (fun u hu => by cases hu), fun ht => by rw [show tomb (2 * dead) = true from by kernel_rfl] at ht; cases ht⟩
  · refine ⟨tIR_ro, tIR_ab, rowK_still _ _ _ _, fun _ => ⟨fun m => rowK_lie hL tIR_ro m, ?_⟩⟩
    obtain ⟨ty, z, hh⟩ := hL.heap
    exact (Array.getElem?_eq_some_iff.1 hh).1
theorem ArgPl.row (h : ArgPl w v x k p n c N P L) : RowAt 2 x p n L := by
  rcases h with ⟨_, rfl, rfl, rfl, _, rfl⟩ | ⟨b, o, cs, zs, _, hL, h1, h2, h3, rfl, _, rfl, rfl⟩
  · exact ⟨rfl, by omega, .inl ⟨rfl, rfl⟩, (fun u hu => by cases hu), ⟨dead2_ro, dead2_ab⟩, fun _ h => by cases h⟩
  · refine ⟨by rw [List.length_take]; omega, by omega, .inr ⟨o, rfl, rfl, fun i hi => ?_⟩, rowK_still _ _ _ _, ⟨tIR_ro, tIR_ab⟩, fun o' ho => ?_⟩
    · rw [Nat.mul_one, rowK_get hL (by omega)]
      simp only [List.getD, List.getElem?_take, if_pos hi]
    · cases ho
      have := rowK_len hL
      show o + n ≤ (rowK .i64 cs o zs).length
      omega
def mPl (k : Nat × Nat) : Mp := fun b => if b = 2 then k else (b, 0)
theorem ArgPl.val (h : ArgPl w v x k p n c N P L) : mv (mPl k) (plnV N p n c P) = v := by
  rcases h with ⟨rfl, _, rfl, rfl, rfl, _⟩ | ⟨b, o, cs, zs, rfl, _, _, h3, h4, _, rfl, rfl, _⟩
  · show Value.agg (#[Value.int .i64 N, .slice none 0 0, .int .i64 P].map (mv1 (mPl k))) = _
    simp [mv1]
  · have hs : smallC c = true := blt_iff.2 (by unfold dead; omega)
    have e : mPl (b, cs.size) 2 = (b, cs.size) := rfl
    show Value.agg (#[Value.int .i64 N, .slice (some ⟨2, o, none⟩) n c, .int .i64 P].map (mv1 (mPl (b, cs.size)))) = _
    simp [mv1, mvA, e, cap_small hs]
theorem blkP {b : Nat} {y : List Value × TypeId} (h : (hR3 x).blk? b = some y) : (b = 0 ∧ y = (kV, kT)) ∨ (b = 1 ∧ y = (rdV, rdT)) ∨ (b = 2 ∧ y = x) := by
  have hb : b < 3 := Hp.blk_lt h
  have : b = 0 ∨ b = 1 ∨ b = 2 := by omega
  rcases this with rfl | rfl | rfl
  · exact .inl ⟨rfl, (Option.some.inj h).symm⟩
  · exact .inr (.inl ⟨rfl, (Option.some.inj h).symm⟩)
  · exact .inr (.inr ⟨rfl, (Option.some.inj h).symm⟩)
theorem startP (hk : known w) (ht : knR w) (Ha : ArgPl w v x k p n c N P L) : Emb (mPl k) w.heap.size (hR3 x) w := by
  obtain ⟨a1, a2, a3, a4⟩ := Ha.emb
  have K := startK hk
  have k0 : hK.blk? 0 = some (kV, kT) := rfl
  have kro : ro kT = true := by kernel_rfl
  have kto : tomb kT = true := by kernel_rfl
  have rro : ro rdT = true := by kernel_rfl
  have rto : tomb rdT = true := by kernel_rfl
  have kst : ∀ v ∈ kV, lt1 3 v = true := List.all_eq_true.1 (by kernel_rfl)
  have rst : ∀ v ∈ rdV, lt1 3 v = true := List.all_eq_true.1 (by kernel_rfl)
  refine ⟨rfl, fun b y hb ht => ?_, fun b y hb hr => ?_, fun b y hb ht hr => ?_, fun b b' y y' hb _ hr => ?_, fun b y hb v hv => ?_, Nat.le_refl _, fun k h1 h2 => by omega, fun b y hb hx => ?_⟩ <;> rcases blkP hb with ⟨rfl, rfl⟩ | ⟨rfl, rfl⟩ | ⟨rfl, rfl⟩
  · rw [kto] at ht; cases ht
  · rw [rto] at ht; cases ht
  · exact (a4 ht).1 _
  · rw [kro] at hr; cases hr
  · rw [rro] at hr; cases hr
  · rw [a1] at hr; cases hr
  · rw [kto] at ht; cases ht
  · rw [rto] at ht; cases ht
  · exact (a4 ht).2
  · rw [kro] at hr; cases hr
  · rw [rro] at hr; cases hr
  · rw [a1] at hr; cases hr
  · exact kst v hv
  · exact rst v hv
  · exact still_lt (by show 0 < 3; omega) (a3 v hv)
  · exact .of (by kernel_rfl) ((K.abs 0 (kV, kT) k0 (by kernel_rfl)).1 (by kernel_rfl))
  · exact .of (by kernel_rfl) (absRd ht _)
  · rw [a2] at hx; cases hx
theorem bounds_walk (hk : known w) (ht : knR w) (Ha : ArgPl w v x k p n c N P L) : Calls Tryd.prog 4 #[v] w fun e w' => e = .returned (.bool true) ∧ Tidy w w' := by
  have E := startP hk ht Ha
  have R := Ha.row
  obtain ⟨u1, r5⟩ := rowO_at R (h := h5P N P p n c x) rfl
  obtain ⟨_, r4⟩ := rowO_at R (h := h4P N P p n c x) rfl
  have kk : (Nat.beq 49 49 && Nat.beq kT kT && kOk kV) = true := by kernel_rfl
  have hS : ((N == N) && ((P == P) && decide (rowO (h5P N P p n c x) p n = rowO (h5P N P p n c x) p n))) = true := by simp
  have go : ∀ {sc : List Dec} {lg : Log}, FitsP (reckonAt (tabH Tryd.prog extY conZ hcPb) (hR3 x) 300 4 [plnV N p n c P] sc) (.bool true) lg → okLog lg → Calls Tryd.prog 4 #[v] w fun e w' => e = .returned (.bool true) ∧ Tidy w w' := fun hF ho => by
    have r := fitsAt_calls TB_ok hF.fits ho (by rcases R.pos with ⟨rfl, _⟩ | ⟨o, rfl, _⟩ <;> rfl) (by rfl) E
    rw [List.map_cons, List.map_nil, Ha.val] at r
    exact r
  cases hck : ckB N P L with
  | false =>
    have ck : ckB N P (rowO (h5P N P p n c x) p n) = false := by rw [u1]; exact hck
    exact go (pb_f x p n c N P) (okTwo hS (okTwo r5 (okTwo r5 (okTwo ck (okTwo r5 (okTwo kk (okTwo ck (okTwo r5 (okTwo kk (okTwo kk (okTwo ck (okTwo r5 (okTwo ck (okTwo r5 (okTwo ck (okTwo r5 (okTwo ck (okTwo r5 (okOne r4)))))))))))))))))))
  | true =>
    have ck : ckB N P (rowO (h5P N P p n c x) p n) = true := by rw [u1]; exact hck
    have hb : decide (bdV N P (rowO (h5P N P p n c x) p n) = bdV N P L) = true := by rw [u1]; exact decide_eq_true rfl
    have hs : decide (stV N P (rowO (h5P N P p n c x) p n) = stV N P L) = true := by rw [u1]; exact decide_eq_true rfl
    exact go (pb_t x p n c N P (bdV N P L) (stV N P L)) (okTwo hS (okTwo r5 (okTwo r5 (okTwo ck (okTwo r5 (okTwo ck (okTwo r5 (okTwo (by simp) (okTwo (by simp) (okTwo hs (okTwo ck (okTwo r5 (okTwo hs (okTwo ck (okTwo r5 (okTwo hb (okTwo ck (okTwo r5 (okTwo hb (okTwo ck (okTwo r5 (okOne r4))))))))))))))))))))))
end
variable {H : Type} {enc : TypeId × Value → H}
theorem argPl_of {w : World} {base : Nat} {r : Go.Reach} {v : Value} {d : DataW H} {p : List MemPlace} {ts : List TypeId} {ds : List (DataW H)} {j : Nat} (hval : Value.okWide Tryd.prog w r base 29 v) (h : DataW.Trod enc Tryd.prog w 0 (fun _ => true) true 29 v d p)
    (hsz : (DataW.weightsEach Tryd.prog ts ds).all (· ≤ reachBytes) = true) (hts : ts[j]? = some 29) (hds : ds[j]? = some d) :
    (∃ x k q n c N P L, ArgPl w v x k q n c N P L) ∧ ∀ w' (sp : Nat → Bool), Tidy w w' → (∀ y ∈ p, sp y.block = true) → DataW.Trod enc Tryd.prog w' 0 sp true 29 v d p := by
  have back : (∀ y ∈ p, y.block < w.heap.size) → ∀ w' (sp : Nat → Bool), Tidy w w' → (∀ y ∈ p, sp y.block = true) → DataW.Trod enc Tryd.prog w' 0 sp true 29 v d p :=
    fun hlt w' sp ht hp => WideElems.Trod_stays laid_outP (by kernel_rfl) (of_decide_eq_true (by kernel_rfl)) h (fun x hx => ht.1.same (hlt x hx)) hp
  obtain ⟨N, Q, c1, d1, rfl, rfl, h1⟩ := open_nrn ps_ty (by kernel_rfl) (by kernel_rfl) rfl rfl rfl (by kernel_rfl) (by kernel_rfl) (by kernel_rfl) ps_el ps_sl ps_el ps_el ps_ce hval h
  rcases h1 with ⟨rfl, rfl, rfl⟩ | ⟨b, off, len, cs, zs, rfl, hle, hm, hL, rfl, hp⟩
  · exact ⟨⟨_, (0, 0), _, _, _, N, Q, _, .inl ⟨rfl, rfl, rfl, rfl, rfl, rfl⟩⟩, back (fun y hy => by cases hy)⟩
  · have hs := sized_slice (sized_in hsz hts hds ps_ty) (j := 1) (t := 22) (e := 3) rfl rfl ps_sl
    rw [ps_by] at hs
    simp only [reachBytes, lits, List.length_map, List.length_take, List.length_drop] at hs
    refine ⟨⟨_, _, _, _, _, _, _, _, .inr ⟨b, off, cs, zs, rfl, hL, rfl, hle, by omega, rfl, rfl, rfl, rfl⟩⟩, back fun y hy => ?_⟩
    obtain ⟨ty, z, hh⟩ := hL.heap
    rw [hp] at hy
    obtain ⟨_, _, e⟩ := MemPlace.mem_row.1 hy
    rw [e]
    exact (Array.getElem?_eq_some_iff.1 hh).1
end Go.Proofs.YtlmccannfocniaaDoor
namespace Go.Proofs.YtlmccannfocniaaDoor
open Go.KRun Go.RowKit Go.ChangeShapes
set_option maxRecDepth 100000
theorem laidV {P : Program} {w : World} : ∀ {l : List (String × DataW Unit)} {ps : List MemPlace}, DataW.LaidVars P w l ps → ∀ {n : String} {d : DataW Unit}, (n, d) ∈ l → ∃ g t cs fuel p, P.globalNamed n = some g ∧ (P.globals[g]?).map (·.type) = some t ∧ w.var? P n = some cs ∧ DataW.trod (fun _ => ()) P w 0 (fun _ => true) false fuel t cs.toList = some (d, p)
  | [], _, _, _, _, hm => absurd hm List.not_mem_nil
  | (n', d') :: r, ps, h, n, d, hm => by
    obtain ⟨g, t, cs, fuel, p, q, h1, h2, h3, h4, h5, _⟩ := h
    rcases List.mem_cons.1 hm with e | e
    · cases e
      exact ⟨g, t, cs, fuel, p, h1, h2, h3, h4⟩
    · exact laidV h5 e
end Go.Proofs.YtlmccannfocniaaDoor
namespace Go.Proofs.YtlmccannfocniaaDoor
open Go.KRun Go.RowKit Go.ChangeShapes Go.Lib
set_option maxRecDepth 100000
theorem trod_len {H : Type} {enc : TypeId × Value → H} {P : Program} {w : World} {base : Nat} {sp : Nat → Bool} {held : Bool} {fuel : Nat} {t e : TypeId} {n : Nat} {cs : List Value} {d : DataW H} {p : List MemPlace} (ht : P.underlying t = some (.array n e)) (h : DataW.trod enc P w base sp held fuel t cs = some (d, p)) : cs.length = P.cellsOf t := by
  cases fuel with
  | zero => simp [DataW.trod] at h
  | succ fuel =>
    simp only [DataW.trod, ht] at h
    split at h
    · assumption
    · cases h
def rdD : DataW Unit := .agg [.agg ([4, 12].map fun z => .lit (.int .i64 z)), .agg ([2, 8].map fun z => .lit (.int .i64 z)), .agg ([3, 33].map fun z => .lit (.int .i64 z)), .agg ([5, 65].map fun z => .lit (.int .i64 z)), .agg ([7, 105].map fun z => .lit (.int .i64 z)), .agg ([11, 209].map fun z => .lit (.int .i64 z)), .agg ([13, 273].map fun z => .lit (.int .i64 z))]
theorem knR_laid {l : List (String × DataW Unit)} {W : World} (h : laidMet Tryd.prog l W) {n : String} {d : DataW Unit} (hm : (n, d) ∈ l) (hn : Tryd.prog.globalNamed n = some 0) (hd : d = rdD) : knR W := by
  obtain ⟨ps, hl, _⟩ := h
  obtain ⟨g, t, cs, fuel, p, h1, h2, h3, h4⟩ := laidV hl hm
  obtain rfl := Option.some.inj (hn.symm.trans h1)
  have ht : (Tryd.prog.globals[0]?).map (·.type) = some 65 := by kernel_rfl
  obtain rfl := Option.some.inj (ht.symm.trans h2)
  rw [hd] at h4
  have c1 : Tryd.prog.cellsOf 64 = 2 := by kernel_rfl
  have hlen := trod_len Tryd.underlying65 h4
  rw [show Tryd.prog.cellsOf 65 = 14 from by kernel_rfl] at hlen
  have el : ∀ (i : Nat) (a b : Int), i < 7 → ([DataW.agg ([4, 12].map fun z => .lit (.int .i64 z)), .agg ([2, 8].map fun z => .lit (.int .i64 z)), .agg ([3, 33].map fun z => .lit (.int .i64 z)), .agg ([5, 65].map fun z => .lit (.int .i64 z)), .agg ([7, 105].map fun z => .lit (.int .i64 z)), .agg ([11, 209].map fun z => .lit (.int .i64 z)), .agg ([13, 273].map fun z => .lit (.int .i64 z))] : List (DataW Unit))[i]? = some (.agg ([a, b].map fun z => .lit (.int .i64 z))) → ((cs.toList.drop (i * 2)).take 2) = [.int .i64 a, .int .i64 b] := by
    intro i a b hi hab
    obtain ⟨fuel', d', q, hd', htr⟩ := array_elem Tryd.underlying65 h4 i hi
    rw [hab] at hd'
    obtain rfl := Option.some.inj hd'
    rw [c1] at htr
    exact ints_of_struct Tryd.underlying64 (fun i f hf => by
      match i, hf with
      | 0, hf => cases hf; exact ⟨by kernel_rfl, rfl, by kernel_rfl⟩
      | 1, hf => cases hf; exact ⟨by kernel_rfl, rfl, by kernel_rfl⟩
      | i + 2, hf => simp at hf) (by kernel_rfl) htr
  have hcs : cs.toList = rdV := by
    have e0 := el 0 4 12 (by decide) rfl
    have e1 := el 1 2 8 (by decide) rfl
    have e2 := el 2 3 33 (by decide) rfl
    have e3 := el 3 5 65 (by decide) rfl
    have e4 := el 4 7 105 (by decide) rfl
    have e5 := el 5 11 209 (by decide) rfl
    have e6 := el 6 13 273 (by decide) rfl
    generalize cs.toList = l at *
    clear el h4 h3
    match l, hlen with
    | [x0, x1, x2, x3, x4, x5, x6, x7, x8, x9, x10, x11, x12, x13], _ =>
      simp only [Nat.zero_mul, List.drop_zero, List.take_succ_cons, List.take_zero, List.cons.injEq, and_true, Nat.one_mul, List.drop_succ_cons, Nat.reduceMul] at e0 e1 e2 e3 e4 e5 e6
      obtain ⟨rfl, rfl⟩ := e0
      obtain ⟨rfl, rfl⟩ := e1
      obtain ⟨rfl, rfl⟩ := e2
      obtain ⟨rfl, rfl⟩ := e3
      obtain ⟨rfl, rfl⟩ := e4
      obtain ⟨rfl, rfl⟩ := e5
      obtain ⟨rfl, rfl⟩ := e6
      rfl
  unfold World.var? at h3
  rw [hn] at h3
  simp only [Option.bind_some] at h3
  split at h3
  · rename_i c e z hb
    cases h3
    refine ⟨e, z, ?_⟩
    rw [hb]
    congr 2
    apply Array.toList_inj.1
    rw [hcs]
  · cases h3
end Go.Proofs.YtlmccannfocniaaDoor
