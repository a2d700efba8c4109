/-
  FlR, FlG, FlH, FlJ
-/
import Derived.Test.YtjkgnbdeklploaaGreatDoorG31
import Derived.SizedLaws
import Derived.Carry
namespace Go.Proofs.YtjkgnbdeklploaaGreatDoor
open Go.KRun Go.ChangeShapes Go.WideShapes Go.ChangeAt Go.RowKit
set_option maxRecDepth 100000
/-- the row's type in the small memory: not to be written -/
abbrev parR : TypeId := 47 + dead
theorem parR_ro : ro parR = true := by kernel_rfl
theorem parR_ab : ab parR = false := by kernel_rfl
theorem parR_tomb : tomb parR = false := by kernel_rfl
theorem par_ty : Tryz.prog.underlying 22 = some (.slice 47) := by kernel_rfl
theorem par_st : Tryz.prog.underlying 47 = some (.struct #[⟨"Re", 38, 0, false, "", "", 0⟩, ⟨"Im", 38, 1, false, "", "", 8⟩]) := by kernel_rfl
theorem par_ce : Tryz.prog.cellsOf 47 = 2 := by kernel_rfl
theorem par_by : Tryz.prog.bytesOf 47 = 16 := by kernel_rfl
theorem u64_el : Tryz.prog.underlying 38 = some (.int .u64) := by kernel_rfl
theorem laid_outX : laidOutB Tryz.prog = true := by kernel_rfl
/-- an argument, and how it is told in the small memory: block i -/
def ArgX (w : World) (i : Nat) (v : Value) (x : List Value × TypeId) (k : Nat × Nat) (p : Option Addr) (n c o : Nat) (L : List Int) : Prop :=
  (v = .slice none 0 0 ∧ x = ([], 2 * dead) ∧ p = none ∧ n = 0 ∧ c = 0 ∧ L = []) ∨
  ∃ b cs, v = .slice (some ⟨b, o, none⟩) n c ∧ LainK w .u64 b o cs L ∧ L.length = 2 * c ∧ n ≤ c ∧ c * 16 ≤ 140737488351232 ∧ x = (rowK .u64 cs o L, parR) ∧ k = (b, cs.size) ∧ p = some ⟨i, o, none⟩
theorem ArgX.emb {w : World} {i : Nat} {v : Value} {x : List Value × TypeId} {k : Nat × Nat} {p : Option Addr} {n c o : Nat} {L : List Int} (h : ArgX w i v x k p n c o L) :
    ro x.2 = true ∧ ab x.2 = false ∧ (∀ u ∈ x.1, still u = true) ∧ (tomb x.2 = false → (∀ m : Mp, lie w k (x.1.map (mv1 m)) x.2) ∧ k.1 < w.heap.size) := by
  rcases h with ⟨_, rfl, _⟩ | ⟨b, cs, _, hL, _, _, _, rfl, rfl, _⟩
  · exact ⟨by kernel_rfl, by kernel_rfl, (fun u hu => by cases hu), fun ht => by rw [show tomb (2 * dead) = true from by kernel_rfl] at ht; cases ht⟩
  · refine ⟨parR_ro, parR_ab, rowK_still _ _ _ _, fun _ => ⟨fun m => rowK_lie hL parR_ro m, ?_⟩⟩
    obtain ⟨ty, z, hh⟩ := hL.heap
    exact (Array.getElem?_eq_some_iff.1 hh).1
def hXr (x : List Value × TypeId) : Hp := ⟨2, [x, (kV, kT)]⟩
def mXr (k : Nat × Nat) : Mp := fun b => if b = 0 then (0, 0) else k
theorem startX {w : World} (hk : known w) {v : Value} {x : List Value × TypeId} {k : Nat × Nat} {p : Option Addr} {n c o : Nat} {L : List Int} (Ha : ArgX w 1 v x k p n c o L) : Emb (mXr k) w.heap.size (hXr x) w := by
  obtain ⟨a1, a2, a3, a4⟩ := Ha.emb
  have K := startK hk
  have k0 : hK.blk? 0 = some (kV, kT) := rfl
  have kro : ro kT = true := by kernel_rfl
  have kto : tomb kT = true := by kernel_rfl
  have bk : ∀ {b : Nat} {y : List Value × TypeId}, (hXr x).blk? b = some y → (b = 0 ∧ y = (kV, kT)) ∨ (b = 1 ∧ y = x) := by
    intro b y h
    have hb : b < 2 := Hp.blk_lt h
    have : b = 0 ∨ b = 1 := by omega
    rcases this with rfl | rfl
    · exact .inl ⟨rfl, (Option.some.inj h).symm⟩
    · exact .inr ⟨rfl, (Option.some.inj h).symm⟩
  refine ⟨rfl, fun b y hb ht => ?_, fun b y hb hr => ?_, fun b y hb ht hr => ?_, fun b b' y y' hb _ hr => ?_, fun b y hb v hv => ?_, Nat.le_refl _, fun k h1 h2 => by omega, fun b y hb hx => ?_⟩
  · rcases bk hb with ⟨rfl, rfl⟩ | ⟨rfl, rfl⟩
    · rw [kto] at ht; cases ht
    · exact (a4 ht).1 _
  · rcases bk hb with ⟨rfl, rfl⟩ | ⟨rfl, rfl⟩
    · rw [kro] at hr; cases hr
    · rw [a1] at hr; cases hr
  · rcases bk hb with ⟨rfl, rfl⟩ | ⟨rfl, rfl⟩
    · rw [kto] at ht; cases ht
    · exact (a4 ht).2
  · rcases bk hb with ⟨rfl, rfl⟩ | ⟨rfl, rfl⟩
    · rw [kro] at hr; cases hr
    · rw [a1] at hr; cases hr
  · rcases bk hb with ⟨rfl, rfl⟩ | ⟨rfl, rfl⟩
    · rw [List.mem_singleton.1 hv]; rfl
    · exact still_lt (by show 0 < 2; omega) (a3 v hv)
  · rcases bk hb with ⟨rfl, rfl⟩ | ⟨rfl, rfl⟩
    · have := (K.abs 0 _ k0 hx).1 (by kernel_rfl)
      have e : kV.map (mv1 (mXr k)) = kV.map (mv1 fun b => (b, 0)) := rfl
      refine .of (by kernel_rfl) ?_
      rw [e]
      exact this
    · rw [a2] at hx; cases hx
theorem ArgX.val {w : World} {i : Nat} {v : Value} {x : List Value × TypeId} {k : Nat × Nat} {p : Option Addr} {n c o : Nat} {L : List Int} (h : ArgX w i v x k p n c o L) {m : Mp} (hm : m i = k) : mv m (.slice p n c) = v := by
  rcases h with ⟨rfl, _, rfl, rfl, rfl, _⟩ | ⟨b, cs, rfl, _, _, h3, h4, _, rfl, rfl⟩
  · rfl
  · have hs : smallC c = true := blt_iff.2 (by unfold dead; omega)
    simp only [mv, mv2, mv1, mvA, hm, cap_small hs]
theorem ArgX.lt {w : World} {i : Nat} {v : Value} {x : List Value × TypeId} {k : Nat × Nat} {p : Option Addr} {n c o : Nat} {L : List Int} (h : ArgX w i v x k p n c o L) {j : Nat} (hi : i < j) : KRun.lt j (.slice p n c) = true := by
  rcases h with ⟨_, _, rfl, _⟩ | ⟨b, cs, _, _, _, _, _, _, _, rfl⟩
  · rfl
  · exact blt_iff.2 hi
variable {H : Type} {enc : TypeId × Value → H}
theorem argX_of {w : World} {base : Nat} {r : Go.Reach} {v : Value} {d : DataW H} {p : List MemPlace} (i : Nat) (hval : Value.okWide Tryz.prog w r base 22 v) (h : DataW.Trod enc Tryz.prog w 0 (fun _ => true) true 22 v d p) (hsz : ∀ x y, d = .slice x y → (x.length + y.length) * Tryz.prog.bytesOf 47 ≤ reachBytes) :
    (∃ x k q n c o L, ArgX w i v x k q n c o L) ∧ ∀ w' (sp : Nat → Bool), Tidy w w' → (∀ y ∈ p, sp y.block = true) → DataW.Trod enc Tryz.prog w' 0 sp true 22 v d p := by
  have back : (∀ y ∈ p, y.block < w.heap.size) → ∀ w' (sp : Nat → Bool), Tidy w w' → (∀ y ∈ p, sp y.block = true) → DataW.Trod enc Tryz.prog w' 0 sp true 22 v d p :=
    fun hlt w' sp ht hp => WideElems.Trod_stays laid_outX (by kernel_rfl) (of_decide_eq_true (by kernel_rfl)) h (fun x hx => ht.1.same (hlt x hx)) hp
  rcases open_pairs par_ty par_st (by kernel_rfl) par_ce u64_el u64_el hval h with ⟨rfl, rfl, rfl⟩ | ⟨b, off, len, cap, cs, zs, x, y, rfl, hle, hz, hm, hL, rfl, hxy, hpl⟩
  · exact ⟨⟨_, (0, 0), _, _, _, 0, _, .inl ⟨rfl, rfl, rfl, rfl, rfl, rfl⟩⟩, back (fun y hy => by cases hy)⟩
  · have hs := hsz _ _ rfl
    rw [par_by, hxy] at hs
    simp only [reachBytes] at hs
    refine ⟨⟨_, _, _, _, _, _, _, .inr ⟨b, cs, rfl, hL, hz, hle, by omega, rfl, rfl, rfl⟩⟩, back fun y hy => ?_⟩
    obtain ⟨ty, z, hh⟩ := hL.heap
    rw [hpl y hy]
    exact (Array.getElem?_eq_some_iff.1 hh).1
end Go.Proofs.YtjkgnbdeklploaaGreatDoor
namespace Go.Proofs.YtjkgnbdeklploaaGreatDoor
open Go.KRun Go.Wd Go.RowKit
set_option maxRecDepth 100000
def isU6 : Value → Bool
  | .int .u64 n => decide (0 ≤ n ∧ n < 18446744073709551616)
  | _ => false
theorem isU6_spec {v : Value} (h : isU6 v = true) : v = .int .u64 (intOf v) ∧ 0 ≤ intOf v ∧ intOf v < 18446744073709551616 := by
  unfold isU6 at h
  split at h
  · simp only [decide_eq_true_eq] at h
    exact ⟨rfl, h.1, h.2⟩
  · cases h
theorem all_ints {l l' : List Value} (h : l.all isU6 = true) (h' : l'.all isU6 = true) (e : l.map intOf = l'.map intOf) : l = l' := by
  have g : ∀ {l : List Value}, l.all isU6 = true → l = (l.map intOf).map (Value.int .u64) := fun {l} h => by
    rw [List.map_map]
    exact ((List.map_congr_left fun v hv => (isU6_spec (List.all_eq_true.1 h v hv)).1.symm).trans (List.map_id' _)).symm
  rw [g h, g h', e]
abbrev ts7 : TypeId := 47
abbrev tp7 : TypeId := 40
/-- what lies in a row from its place on; that it is a row of so many numbers -/
def giveB (ty : TypeId) (x : List Value × TypeId) (o n c : Nat) (vs : List Value) : Bool :=
  !(tomb x.2) && Nat.beq (rt x.2) ty && ((x.1.drop o).take (2 * n)).all isU6 && vs.all isU6 && decide (((x.1.drop o).take (2 * n)).map intOf = vs.map intOf) && Nat.ble (o + 2 * n) x.1.length && Nat.ble n c && smallC c && Nat.ble (n * 16) 140737488355328 && x.1.all still
structure GiveOk (ty : TypeId) (x : List Value × TypeId) (o n c : Nat) (vs : List Value) : Prop where
  tb : tomb x.2 = false
  rt : rt x.2 = ty
  cut : (x.1.drop o).take (2 * n) = vs
  u6 : ∀ v ∈ vs, isU6 v = true
  len : o + 2 * n ≤ x.1.length
  nc : n ≤ c
  sm : smallC c = true
  sz : n * 16 ≤ 140737488355328
  st : ∀ v ∈ x.1, still v = true
theorem giveB_ok {ty : TypeId} {x : List Value × TypeId} {o n c : Nat} {vs : List Value} (h : giveB ty x o n c vs = true) : GiveOk ty x o n c vs := by
  unfold giveB at h
  simp only [Bool.and_eq_true, Bool.not_eq_true', decide_eq_true_eq] at h
  obtain ⟨⟨⟨⟨⟨⟨⟨⟨⟨h1, h2⟩, h3⟩, h4⟩, h5⟩, h6⟩, h7⟩, h8⟩, h9⟩, h10⟩ := h
  exact ⟨h1, Nat.eq_of_beq_eq_true h2, all_ints h3 h4 h5, List.all_eq_true.1 h4, Nat.le_of_ble_eq_true h6, Nat.le_of_ble_eq_true h7, h8, Nat.le_of_ble_eq_true h9, List.all_eq_true.1 h10⟩
theorem GiveOk.vlen {ty : TypeId} {x : List Value × TypeId} {o n c : Nat} {vs : List Value} (G : GiveOk ty x o n c vs) : vs.length = 2 * n := by
  rw [← G.cut]
  have := G.len
  simp
  omega
theorem GiveOk.cell {ty : TypeId} {x : List Value × TypeId} {o n c : Nat} {vs : List Value} (G : GiveOk ty x o n c vs) {k : Nat} (hk : k < 2 * n) : x.1[o + k]? = some (.int .u64 (intOf (vs.getD k undef))) := by
  have e : ((x.1.drop o).take (2 * n))[k]? = vs[k]? := by rw [G.cut]
  rw [List.getElem?_take, if_pos hk, List.getElem?_drop] at e
  have hv : k < vs.length := by rw [G.vlen]; exact hk
  rw [e, List.getElem?_eq_getElem hv]
  have := (isU6_spec (G.u6 _ (List.getElem_mem hv))).1
  simp only [List.getD, List.getElem?_eq_getElem hv, Option.getD_some]
  rw [← this]
theorem GiveOk.next {ty : TypeId} {x : List Value × TypeId} {o n c : Nat} {vs : List Value} (G : GiveOk ty x o n c vs) {i : Nat} (hi : i < n) : vs.take (2 * (i + 1)) = vs.take (2 * i) ++ [.int .u64 (intOf (vs.getD (2 * i) undef)), .int .u64 (intOf (vs.getD (2 * i + 1) undef))] := by
  have hv : 2 * i + 1 < vs.length := by rw [G.vlen]; omega
  have q0 := (isU6_spec (G.u6 _ (List.getElem_mem (show 2 * i < vs.length by omega)))).1
  have q1 := (isU6_spec (G.u6 _ (List.getElem_mem hv))).1
  rw [show 2 * (i + 1) = 2 * i + 1 + 1 by omega, List.take_add_one, List.take_add_one, List.getElem?_eq_getElem hv, List.getElem?_eq_getElem (show 2 * i < vs.length by omega), List.append_assoc]
  simp only [List.getD, List.getElem?_eq_getElem hv, List.getElem?_eq_getElem (show 2 * i < vs.length by omega), Option.getD_some, Option.toList]
  rw [← q0, ← q1]
  rfl
theorem GiveOk.u6take {ty : TypeId} {x : List Value × TypeId} {o n c : Nat} {vs : List Value} (G : GiveOk ty x o n c vs) (k : Nat) : ∀ v ∈ vs.take k, still v = true := fun v hv => by
  rw [(isU6_spec (G.u6 v (List.mem_of_mem_take hv))).1]
  rfl
/-! ### the loop -/
def lGv (l : List Value) (o n : Nat) (i a b : Int) : Log := [(cellIs (l[o + i.toNat * 2 + 1]?) (.int .u64 b), true), (decide (0 ≤ i ∧ i < n), true), (cellIs (l[o + i.toNat * 2]?) (.int .u64 a), true), (decide (0 ≤ i ∧ i < n), true), (decide (i < n), true)]
def lAp (k : Nat) (lo : List Value) (a b : Int) : Bool × Bool := (bndK 16 k 1 && srcK ([.int .u64 a, .int .u64 b], tp7) 2 0 1 && Nat.beq (k * 2) lo.length && !(ro tp7) && Nat.beq tp7 tp7, true)
theorem lAp_ok {k : Nat} {lo : List Value} {a b : Int} (h1 : lo.length = k * 2) (h2 : (k + 1) * 16 ≤ 140737488355328) : (lAp k lo a b).1 = (lAp k lo a b).2 := by
  unfold lAp bndK
  simp only
  rw [Nat.ble_eq_true_of_le (show k + 1 ≤ 140737488355328 by omega), Nat.ble_eq_true_of_le h2, h1, Nat.beq_refl]
  rfl
theorem gv_body : Tryz.f7.body = some (seqs (fPre Tryz.f7) (.seq (.seq (fR2 Tryz.f7) (.block 0 (.loop (fLoop Tryz.f7)))) (fEnd Tryz.f7))) := by kernel_rfl
theorem gv_pre (v : Value) (h : Hp) : GoesT (evL (tabOf Tryz.prog extY conN true) 100 (fPre Tryz.f7) ([v] ++ List.replicate 25 undef, h, []) ⟨[], [], []⟩) 4 22 none [v, undef, nilS, nilS] h [] := ⟨by kernel_rfl, by kernel_rfl, by kernel_rfl⟩
theorem gv_r2 (v : Value) (h : Hp) (g : Nat → Value) : GoesT (evC (tabOf Tryz.prog extY conN true) 100 false (fR2 Tryz.f7) ([v, undef, nilS, nilS] ++ tl 22 g, h, []) ⟨[], [], []⟩) 5 21 none [v, undef, nilS, nilS, .int .i64 0] h [] := ⟨by kernel_rfl, by kernel_rfl, by kernel_rfl⟩
theorem gv_nil (o n c : Nat) (i a b : Int) (l : List Value) (g : Nat → Value) : GoesT (evC (tabOf Tryz.prog extY conN true) 100 false (fLoop Tryz.f7) ([sl 0 o n c, undef, nilS, nilS, .int .i64 i] ++ tl 21 g, ⟨1, [(l, parR)]⟩, [cmp true, at_, val (.int .u64 a), at_, val (.int .u64 b)]) ⟨[], [], []⟩) 5 21 none [sl 0 o n c, undef, nilS, .slice (some ⟨2, 0, none⟩) 1 (dead + 2), .int .i64 (IntKind.i64.wrap (i + 1))] ⟨3, [([.int .u64 a, .int .u64 b], tp7), ([.int .u64 a, .int .u64 b], tp7), (l, parR)]⟩ (lGv l o n i a b) := ⟨by kernel_rfl, by kernel_rfl, by kernel_rfl⟩
theorem gv_some (o n c k : Nat) (i a b : Int) (l lo : List Value) (g : Nat → Value) : GoesT (evC (tabOf Tryz.prog extY conN true) 100 false (fLoop Tryz.f7) ([sl 0 o n c, undef, nilS, sl 1 0 k (dead + 2), .int .i64 i] ++ tl 21 g, ⟨2, [(lo, tp7), (l, parR)]⟩, [cmp true, at_, val (.int .u64 a), at_, val (.int .u64 b), at_]) ⟨[], [], []⟩) 5 21 none [sl 0 o n c, undef, nilS, .slice (some ⟨3, 0, none⟩) (k + 1) (dead + 2), .int .i64 (IntKind.i64.wrap (i + 1))] ⟨4, [(lo ++ [.int .u64 a, .int .u64 b], tp7), ([.int .u64 a, .int .u64 b], tp7), ([], 2 * dead), (l, parR)]⟩ (lAp k lo a b :: lGv l o n i a b) := ⟨by kernel_rfl, by kernel_rfl, by kernel_rfl⟩
theorem gv_out (p : Option Addr) (v : Value) (n c : Nat) (i : Int) (h : Hp) (g : Nat → Value) : GoesT (evC (tabOf Tryz.prog extY conN true) 100 false (fLoop Tryz.f7) ([.slice p n c, undef, nilS, v, .int .i64 i] ++ tl 21 g, h, [cmp false]) ⟨[], [], []⟩) 5 21 (some (some 0)) [.slice p n c, undef, nilS, v, .int .i64 i] h [(decide (i < n), false)] := ⟨by kernel_rfl, by kernel_rfl, by kernel_rfl⟩
theorem gv_end (v x : Value) (i : Int) (h : Hp) (g : Nat → Value) : GoesT (evC (tabOf Tryz.prog extY conN true) 100 false (fEnd Tryz.f7) ([v, undef, nilS, x, .int .i64 i] ++ tl 21 g, h, []) ⟨[], [], []⟩) 5 21 (some none) [v, undef, x, x, .int .i64 i] h [] := ⟨by kernel_rfl, by kernel_rfl, by kernel_rfl⟩
def gvInv (l vs : List Value) (o c n : Nat) (k : Nat) (y : Lf) : Prop :=
  ∃ i : Nat, k = n - i ∧ i ≤ n ∧ ((i = 0 ∧ (∃ g, y.1 = [sl 0 o n c, undef, nilS, nilS, .int .i64 0] ++ tl 21 g) ∧ y.2.1 = ⟨1, [(l, parR)]⟩) ∨
    (0 < i ∧ (∃ g, y.1 = [sl 0 o n c, undef, nilS, sl 1 0 i (dead + 2), .int .i64 (i : Nat)] ++ tl 21 g) ∧ y.2.1 = ⟨2, [(vs.take (2 * i), tp7), (l, parR)]⟩))
def gvOut (l vs : List Value) (o c n : Nat) (y : Lf) : Prop := (∃ g, y.1 = [sl 0 o n c, undef, nilS, sl 1 0 n (dead + 2), .int .i64 (n : Nat)] ++ tl 21 g) ∧ y.2.1 = ⟨2, [(vs, tp7), (l, parR)]⟩
theorem gv_loop {x : List Value × TypeId} {vs : List Value} {o c n : Nat} (G : GiveOk ts7 x o n c vs) (h0 : 0 < n) (g : Nat → Value) :
    RunsW (tabOf Tryz.prog extY conN true) (.block 0 (.loop (fLoop Tryz.f7))) ([sl 0 o n c, undef, nilS, nilS, .int .i64 0] ++ tl 21 g, ⟨1, [(x.1, parR)]⟩, []) fun e y => match e with | none => gvOut x.1 vs o c n y | some none => False | some (some _) => False := by
  have T := tabY_ok conN_ok
  refine RunsW.forLoop (P := gvOut x.1 vs o c n) (R := fun _ => False) (gvInv x.1 vs o c n) ?_ (n := n) ⟨0, by omega, by omega, .inl ⟨rfl, ⟨g, rfl⟩, rfl⟩⟩
  rintro m ⟨t, h', s⟩ ⟨i, hn, hi, hI⟩
  have hsz := G.sz
  by_cases hlt : i < n
  · have ei : IntKind.i64.wrap ((i : Int) + 1) = ((i + 1 : Nat) : Int) := by rw [wrapI (by omega) (by omega)]; omega
    have hlog : okLog (lGv x.1 o n i (intOf (vs.getD (2 * i) undef)) (intOf (vs.getD (2 * i + 1) undef))) := by
      have c0 := G.cell (k := 2 * i) (by omega)
      have c1 := G.cell (k := 2 * i + 1) (by omega)
      have q1 : cellIs (x.1[o + (i : Int).toNat * 2]?) (.int .u64 (intOf (vs.getD (2 * i) undef))) = true := by rw [Int.toNat_natCast, Nat.mul_comm, c0]; simp [cellIs]
      have q2 : cellIs (x.1[o + (i : Int).toNat * 2 + 1]?) (.int .u64 (intOf (vs.getD (2 * i + 1) undef))) = true := by rw [Int.toNat_natCast, Nat.mul_comm, Nat.add_assoc, c1]; simp [cellIs]
      have q3 : decide (0 ≤ (i : Int) ∧ (i : Int) < (n : Nat)) = true := decide_eq_true (by omega)
      have q4 : decide ((i : Int) < (n : Nat)) = true := decide_eq_true (by omega)
      exact okTwo q2 (okTwo q3 (okTwo q1 (okTwo q3 (okOne q4))))
    have hne : ∀ z : Lf, (∃ g, z.1 = [sl 0 o n c, undef, nilS, sl 1 0 (i + 1) (dead + 2), .int .i64 ((i + 1 : Nat) : Int)] ++ tl 21 g) ∧ z.2.1 = ⟨2, [(vs.take (2 * (i + 1)), tp7), (x.1, parR)]⟩ → ∃ n', n' < m ∧ gvInv x.1 vs o c n n' z := fun z hz =>
      ⟨n - (i + 1), by omega, i + 1, rfl, by omega, .inr ⟨by omega, hz.1, hz.2⟩⟩
    have st2 : ∀ v ∈ vs.take (2 * (i + 1)), still v = true := G.u6take _
    have nx := G.next hlt
    rcases hI with ⟨rfl, ⟨g, ht⟩, hh⟩ | ⟨hpos, ⟨g, ht⟩, hh⟩
    · simp only at ht hh
      subst ht hh
      have r := goesT_runsW T (s0 := s) (gv_nil o n c 0 (intOf (vs.getD (2 * 0) undef)) (intOf (vs.getD (2 * 0 + 1) undef)) x.1 g) hlog
      have r2 := r.two (front' := [sl 0 o n c, undef, nilS, .slice (some ⟨1, 0, none⟩) 1 (dead + 2), .int .i64 (IntKind.i64.wrap (0 + 1))]) (b := 2) (x := (x.1, parR)) (y := ([.int .u64 (intOf (vs.getD (2 * 0) undef)), .int .u64 (intOf (vs.getD (2 * 0 + 1) undef))], tp7)) (by kernel_rfl) (by rfl) (by rfl) (by omega) G.st (by
        intro v hv
        simp only [List.mem_cons, List.not_mem_nil, or_false] at hv
        rcases hv with rfl | rfl <;> rfl) (fun v hv => by
        simp only [List.mem_cons, List.not_mem_nil, or_false] at hv
        rcases hv with rfl | rfl | rfl | rfl | rfl <;> rfl)
      refine r2.mono fun e z hz => ?_
      obtain ⟨rfl, ⟨g', e1⟩, e2⟩ := hz
      refine hne z ⟨⟨g', by rw [e1]; rfl⟩, ?_⟩
      rw [e2, nx]
      simp
    · simp only at ht hh
      subst ht hh
      have hlen : (vs.take (2 * i)).length = i * 2 := by rw [List.length_take, G.vlen]; omega
      have r := goesT_runsW T (s0 := s) (gv_some o n c i i (intOf (vs.getD (2 * i) undef)) (intOf (vs.getD (2 * i + 1) undef)) x.1 (vs.take (2 * i)) g) (okTwo (lAp_ok hlen (by omega)) hlog)
      rw [← nx] at r
      have r2 := r.two (front' := [sl 0 o n c, undef, nilS, .slice (some ⟨1, 0, none⟩) (i + 1) (dead + 2), .int .i64 (IntKind.i64.wrap ((i : Int) + 1))]) (b := 3) (x := (x.1, parR)) (y := (vs.take (2 * (i + 1)), tp7)) (by kernel_rfl) (by rfl) (by rfl) (by omega) G.st st2 (fun v hv => by
        simp only [List.mem_cons, List.not_mem_nil, or_false] at hv
        rcases hv with rfl | rfl | rfl | rfl | rfl <;> rfl)
      refine r2.mono fun e z hz => ?_
      obtain ⟨rfl, ⟨g', e1⟩, e2⟩ := hz
      exact hne z ⟨⟨g', by rw [e1, ei]; rfl⟩, e2⟩
  · have hil : i = n := by omega
    subst hil
    rcases hI with ⟨h0', _⟩ | ⟨hpos, ⟨g, ht⟩, hh⟩
    · omega
    · simp only at ht hh
      subst ht hh
      refine (goesT_runsW T (gv_out _ _ _ _ _ _ g) (okOne (decide_eq_false (by omega)))).mono fun e z hz => ?_
      obtain ⟨rfl, e1, e2⟩ := hz
      refine ⟨rfl, e1, ?_⟩
      rw [e2, List.take_of_length_le (by rw [G.vlen]; omega)]
theorem gv_runs {x : List Value × TypeId} {vs : List Value} {o c n : Nat} (G : GiveOk ts7 x o n c vs) (h0 : 0 < n) :
    RunsW (tabOf Tryz.prog extY conN true) (seqs (fPre Tryz.f7) (.seq (.seq (fR2 Tryz.f7) (.block 0 (.loop (fLoop Tryz.f7)))) (fEnd Tryz.f7))) ([sl 0 o n c] ++ List.replicate 25 undef, ⟨1, [(x.1, parR)]⟩, []) fun e y => (e = none ∨ e = some none) ∧ resS Tryz.prog Tryz.f7 y.1 y.2.1 = some (sl 1 0 n (dead + 2)) ∧ ∃ r, y.2.1.blk? 1 = some (vs ++ r, tp7) := by
  have T := tabY_ok conN_ok
  refine goesT_listW T (gv_pre _ _) (fun x hx => by cases hx) fun g => ?_
  refine seqW3 (goesT_runsW T (gv_r2 _ _ g) (fun x hx => by cases hx)) (fun e y he => by cases he.1) (P2 := fun e y => match e with | none => gvOut x.1 vs o c n y | some none => False | some (some _) => False) ?_ ?_ ?_
  · rintro ⟨t, h', s⟩ ⟨_, ⟨g', ht⟩, hh⟩
    simp only at ht hh
    subst ht hh
    exact RunsW.script (gv_loop G h0 g')
  · intro e y he
    match e, he with
    | none, he => exact he
    | some id, he => exact he
  · rintro ⟨t, h', s⟩ ⟨⟨g', ht⟩, hh⟩
    simp only at ht hh
    subst ht hh
    refine (goesT_runsW T (gv_end _ _ _ _ g') (fun x hx => by cases hx)).mono fun e y he => ?_
    obtain ⟨rfl, ⟨g2, e1⟩, e2⟩ := he
    refine ⟨.inr rfl, ?_, [], ?_⟩
    · rw [e1, e2]; rfl
    · rw [e2, List.append_nil]; rfl
/-! ### as a call -/
theorem gv_n0 : FitsC (reckon (tabOf Tryz.prog extY conN true) 100 7 [nilS] []) nilS := ⟨by kernel_rfl, by kernel_rfl, by kernel_rfl, by kernel_rfl⟩
theorem gv_e0 (o c : Nat) : Fits (reckonAt (tabOf Tryz.prog extY conN true) ⟨1, [([], 2 * dead)]⟩ 100 7 [.slice (some ⟨0, o, none⟩) 0 c] []) nilS [] := ⟨by kernel_rfl, by kernel_rfl, by kernel_rfl, by kernel_rfl⟩
theorem rowsTo : (⟨1, [([], 2 * dead)]⟩ : Hp).rows := ⟨rfl, fun b x hb => by
  have : b < 1 := Hp.blk_lt hb
  have hb0 : b = 0 := by omega
  subst hb0
  obtain rfl := (Option.some.inj hb).symm
  exact ⟨by kernel_rfl, (fun v hv => by cases hv), by kernel_rfl⟩⟩
theorem fitsT0 (s : Nat → Nat) (h : Hp) : (⟨1, [([], 2 * dead)]⟩ : Hp).fits s h := fun i x hi hx => by
  have : i < 1 := Hp.blk_lt hi
  have hi0 : i = 0 := by omega
  subst hi0
  obtain rfl := (Option.some.inj hi).symm
  rw [show tomb (2 * dead) = true from by kernel_rfl] at hx
  cases hx
def gGive : AnsH := fun vals h s =>
  match vals with
  | [.slice none 0 0] => some (nilS, h, s, [])
  | [.slice (some ⟨b, o, none⟩) n c] =>
    match Nat.beq n 0 with
    | true => some (nilS, h, s, [])
    | false =>
      match s, h.blk? b with
      | .inr (.inr (.inr (.inr (.inr (.tuple ⟨vs⟩))))) :: s', some x => some (sl h.n 0 n (dead + 2), h.push vs tp7, s', [(giveB ts7 x o n c vs, true), (decide (0 < n), true)])
      | _, _ => none
  | _ => none
theorem parR_rt : rt parR = ts7 := by kernel_rfl
theorem rowsX {l : List Value} (h : ∀ v ∈ l, still v = true) : (⟨1, [(l, parR)]⟩ : Hp).rows := ⟨rfl, fun b x hb => by
  have : b < 1 := Hp.blk_lt hb
  have hb0 : b = 0 := by omega
  subst hb0
  obtain rfl := (Option.some.inj hb).symm
  exact ⟨parR_ro, h, parR_ab⟩⟩
theorem fitsX {l : List Value} {h : Hp} {b : Nat} {x : List Value × TypeId} (hb : h.blk? b = some x) (h1 : tomb x.2 = false) (h2 : rt x.2 = ts7) (e : x.1 = l) : (⟨1, [(l, parR)]⟩ : Hp).fits (fun _ => b) h := by
  intro i y hi _
  have : i < 1 := Hp.blk_lt hi
  have hb0 : i = 0 := by omega
  subst hb0
  obtain rfl := (Option.some.inj hi).symm
  exact ⟨x, [], hb, h1, by rw [h2]; exact parR_rt.symm, by rw [e, List.append_nil]⟩
theorem gv_zero {m : Mp} {B : Nat} {h : Hp} {w : World} (E : Emb m B h w) (b o c : Nat) : Calls Tryz.prog 7 (([.slice (some ⟨b, o, none⟩) 0 c] : List Value).map (mv m)).toArray w fun e w' => e = .returned nilS ∧ Came m B h w nilS h m w' :=
  fits_row0 (T := tabOf Tryz.prog extY conN true) (tabY_ok conN_ok) rowsTo (gv_e0 o c) (fun x hx => by cases hx) (fun v hv => by rw [List.mem_singleton.1 hv]; rfl) (by rfl) E (s := fun _ => b) (fitsT0 _ _)
theorem gv_more {m : Mp} {B : Nat} {h : Hp} {w : World} (E : Emb m B h w) {b o n c : Nat} {x : List Value × TypeId} {vs : List Value} (hx : h.blk? b = some x) (G : GiveOk ts7 x o n c vs) (h0 : 0 < n) : Calls Tryz.prog 7 (([sl b o n c] : List Value).map (mv m)).toArray w fun e w' => ∃ m', e = .returned (mv m' (sl h.n 0 n (dead + 2))) ∧ Came m B h w (sl h.n 0 n (dead + 2)) (h.push vs tp7) m' w' :=
  row_calls1 (T := tabOf Tryz.prog extY conN true) Tryz.func7 gv_body (rowsX G.st) (vals := [sl 0 o n c]) (fun v hv => by rw [List.mem_singleton.1 hv]; rfl) (k := 1) (cs := vs) (ty := tp7) (fun u hu => by rw [(isU6_spec (G.u6 u hu)).1]; rfl) (by kernel_rfl) (gv_runs (c := c) G h0) (v := sl 1 0 n (dead + 2)) (by rfl) E (s := fun _ => b) (fitsX hx G.tb G.rt rfl)
theorem gGive_ok : AnsHOk 7 gGive := by
  intro vals h s v h' s' lg hg hl m B w E hv
  unfold gGive at hg
  split at hg
  · cases hg
    refine (fitsC_calls (tabY_ok conN_ok) gv_n0 (by rfl) (by rfl) w).mono fun e w' he => ?_
    obtain ⟨E', hb⟩ := clean_emb E he.2
    exact ⟨m, he.1, ⟨Agree.refl _ _, E', hb, Nat.le_refl _, rfl⟩⟩
  · rename_i b o n c
    split at hg
    · rename_i h0
      obtain rfl := Nat.eq_of_beq_eq_true h0
      cases hg
      refine (gv_zero E b o c).mono fun e w' he => ⟨m, ?_, he.2⟩
      rw [he.1]
      exact congrArg Ending.returned (mv_still (by rfl)).symm
    · split at hg
      · rename_i vs s2 x hx
        cases hg
        have G := giveB_ok (hl _ List.mem_cons_self)
        have h0 := of_decide_eq_true (hl _ (List.mem_cons_of_mem _ (List.mem_singleton.2 rfl)))
        exact gv_more E hx G h0
      · cases hg
  · cases hg
end Go.Proofs.YtjkgnbdeklploaaGreatDoor
namespace Go.Proofs.YtjkgnbdeklploaaGreatDoor
open Go.KRun Go.Wd Go.Pt Go.Rn
set_option maxRecDepth 100000
def pairsOf : List Value → List PR
  | .int _ a :: .int _ b :: r => (a, b) :: pairsOf r
  | _ => []
def canN (n : Nat) : Bool := [2, 3, 4, 5, 7, 11, 13].any (Nat.beq n)
def litB (x : List Value × TypeId) (n : Nat) : Bool := !(tomb x.2) && Nat.beq (rt x.2) tp7 && (x.1.take (2 * n)).all isU6 && Nat.ble (2 * n) x.1.length && x.1.all still
theorem pairs_of : ∀ (n : Nat) (l : List Value), l.length = 2 * n → l.all isU6 = true → prC (pairsOf l) = l ∧ (pairsOf l).length = n ∧ allU (pairsOf l)
  | 0, l, h, _ => by
    obtain rfl := List.length_eq_zero_iff.1 (show l.length = 0 by omega)
    exact ⟨rfl, rfl, fun x hx => by cases hx⟩
  | n + 1, l, h, hu => by
    match l, h with
    | [], h => simp at h
    | [a], h => simp at h; omega
    | a :: b :: r, h =>
      simp only [List.all_cons, Bool.and_eq_true] at hu
      obtain ⟨ha, hb, hr⟩ := hu
      obtain ⟨e1, e2, e3⟩ := pairs_of n r (by simp at h; omega) hr
      unfold isU6 at ha hb
      split at ha
      · rename_i u
        split at hb
        · rename_i v
          simp only [decide_eq_true_eq] at ha hb
          refine ⟨?_, by simp [pairsOf, e2], fun z hz => ?_⟩
          · show [Value.int .u64 u, .int .u64 v] ++ prC (pairsOf r) = _
            rw [e1]
            rfl
          · rcases List.mem_cons.1 hz with rfl | hz
            · exact ⟨ha, hb⟩
            · exact e3 z hz
        · cases hb
      · cases ha
theorem tPr_facts : ro tPr = true ∧ ab tPr = false ∧ rt tPr = tp7 := ⟨by kernel_rfl, by kernel_rfl, by kernel_rfl⟩
theorem prC_still (l : List PR) : ∀ v ∈ prC l, still v = true := fun v hv => by
  unfold prC at hv
  obtain ⟨x, _, hv⟩ := List.mem_flatMap.1 hv
  simp only [List.mem_cons, List.not_mem_nil, or_false] at hv
  rcases hv with rfl | rfl <;> rfl
theorem prC_lt (l : List PR) : ∀ v ∈ prC l, lt1 0 v = true := fun v hv => by
  unfold prC at hv
  obtain ⟨x, _, hv⟩ := List.mem_flatMap.1 hv
  simp only [List.mem_cons, List.not_mem_nil, or_false] at hv
  rcases hv with rfl | rfl <;> rfl
theorem rowsP {l : List PR} : (⟨1, [(prC l, tPr)]⟩ : Hp).rows := ⟨rfl, fun b x hb => by
  have : b < 1 := Hp.blk_lt hb
  have hb0 : b = 0 := by omega
  subst hb0
  obtain rfl := (Option.some.inj hb).symm
  exact ⟨tPr_facts.1, prC_still l, tPr_facts.2.1⟩⟩
theorem fitsP {l : List PR} {h : Hp} {b : Nat} {x : List Value × TypeId} {k : Nat} (hb : h.blk? b = some x) (h1 : tomb x.2 = false) (h2 : rt x.2 = tp7) (e : x.1.take k = prC l) : (⟨1, [(prC l, tPr)]⟩ : Hp).fits (fun _ => b) h := by
  intro i y hi _
  have : i < 1 := Hp.blk_lt hi
  have hb0 : i = 0 := by omega
  subst hb0
  obtain rfl := (Option.some.inj hi).symm
  exact ⟨x, x.1.drop k, hb, h1, by rw [h2]; exact tPr_facts.2.2.symm, by rw [← e, List.take_append_drop]⟩
def litV (b n : Nat) (f : Int) : Value := .tuple #[.slice (some ⟨b, 0, none⟩) n (dead + 2), .int .u8 f, .nilIface]
theorem lit_call {n c k : Nat} {xs : List PR} {t : Bool} (hF : FitsB (reckonAt (tabA (tabH Tryz.prog extY conRt hcFl)) ⟨1, [(prC xs, tPr)]⟩ 300 6 [.slice (some ⟨0, 0, none⟩) n c, .bool t] []) k (litV k n (orL (flags (flO xs t)))) (prC (flV xs t)) tp7 (flL xs t)) (hx : allU xs) (hk : oc [k] (litV k n (orL (flags (flO xs t)))) = true)
    {m : Mp} {B : Nat} {h : Hp} {w : World} (E : Emb m B h w) {b : Nat} {x : List Value × TypeId} {j : Nat} (hb : h.blk? b = some x) (h1 : tomb x.2 = false) (h2 : rt x.2 = tp7) (e : x.1.take j = prC xs) :
    Calls Tryz.prog 6 (([.slice (some ⟨b, 0, none⟩) n c, .bool t] : List Value).map (mv m)).toArray w fun e w' => ∃ m', e = .returned (mv m' (litV h.n n (orL (flags (flO xs t))))) ∧ Came m B h w (litV h.n n (orL (flags (flO xs t)))) (h.push (prC (flV xs t)) tp7) m' w' := by
  have r := fits_row1 (tabA_ok TFl_ok) rowsP hF (flL_ok hx t) (prC_lt _) (by kernel_rfl) (fun v hv => by
    simp only [List.mem_cons, List.not_mem_nil, or_false] at hv
    rcases hv with rfl | rfl <;> rfl) hk E (s := fun _ => b) (fitsP hb h1 h2 e)
  have e1 : rn (fun _ => h.n) (litV k n (orL (flags (flO xs t)))) = litV h.n n (orL (flags (flO xs t))) := by simp [litV, rn, rn2, rn1]
  have e2 : ([.slice (some ⟨0, 0, none⟩) n c, .bool t] : List Value).map (rn fun _ => b) = [.slice (some ⟨b, 0, none⟩) n c, .bool t] := by simp [rn, rn2, rn1]
  rw [e1, e2] at r
  exact r
def capL (_ c : Nat) : Bool := Nat.beq c (dead + 2)
def gLit : AnsH := fun vals h s =>
  match vals with
  | [.slice (some ⟨b, 0, none⟩) n c, .bool t] =>
    match canN n && capL n c, h.blk? b with
    | true, some x => some (litV h.n n (orL (flags (flO (pairsOf (x.1.take (2 * n))) t))), h.push (prC (flV (pairsOf (x.1.take (2 * n))) t)) tp7, s, [(litB x n, true)])
    | _, _ => none
  | _ => none
theorem gLit_ok : AnsHOk 6 gLit := by
  intro vals h s v h' s' lg hg hl m B w E hv
  unfold gLit at hg
  split at hg
  · rename_i b n c t
    split at hg
    · rename_i x hc hx
      cases hg
      have lg1 := hl _ (List.mem_singleton.2 rfl)
      simp only [litB, Bool.and_eq_true, Bool.not_eq_true'] at lg1
      obtain ⟨⟨⟨⟨q1, q2⟩, q3⟩, q4⟩, q5⟩ := lg1
      have q2 := Nat.eq_of_beq_eq_true q2
      have q4 := Nat.le_of_ble_eq_true q4
      obtain ⟨p1, p2, p3⟩ := pairs_of n (x.1.take (2 * n)) (by simp; omega) q3
      generalize hxs : pairsOf (x.1.take (2 * n)) = xs at p1 p2 p3
      rw [Bool.and_eq_true] at hc
      obtain ⟨hc1, hc2⟩ := hc
      have hn : n = 2 ∨ n = 3 ∨ n = 4 ∨ n = 5 ∨ n = 7 ∨ n = 11 ∨ n = 13 := by
        obtain ⟨y, hy, hb⟩ := List.any_eq_true.1 hc1
        have := Nat.eq_of_beq_eq_true hb
        simp only [List.mem_cons, List.not_mem_nil, or_false] at hy
        omega
      have hcc := Nat.eq_of_beq_eq_true hc2
      rcases hn with rfl | rfl | rfl | rfl | rfl | rfl | rfl
      · match xs, p2 with
        | [x0, x1], _ => obtain rfl := hcc; exact lit_call (fc2 _ _ _ _ t) p3 (by rfl) E hx q1 q2 p1.symm
      · match xs, p2 with
        | [x0, x1, x2], _ => obtain rfl := hcc; exact lit_call (fc3 _ _ _ _ _ _ t) p3 (by rfl) E hx q1 q2 p1.symm
      · match xs, p2 with
        | [x0, x1, x2, x3], _ => obtain rfl := hcc; exact lit_call (fc4 _ _ _ _ _ _ _ _ t) p3 (by rfl) E hx q1 q2 p1.symm
      · match xs, p2 with
        | [x0, x1, x2, x3, x4], _ => obtain rfl := hcc; exact lit_call (fc5 _ _ _ _ _ _ _ _ _ _ t) p3 (by rfl) E hx q1 q2 p1.symm
      · match xs, p2 with
        | [x0, x1, x2, x3, x4, x5, x6], _ => obtain rfl := hcc; exact lit_call (fc7 _ _ _ _ _ _ _ _ _ _ _ _ _ _ t) p3 (by rfl) E hx q1 q2 p1.symm
      · match xs, p2 with
        | [x0, x1, x2, x3, x4, x5, x6, x7, x8, x9, x10], _ => obtain rfl := hcc; exact lit_call (fc11 _ _ _ _ _ _ _ _ _ _ _ _ _ _ _ _ _ _ _ _ _ _ t) p3 (by rfl) E hx q1 q2 p1.symm
      · match xs, p2 with
        | [x0, x1, x2, x3, x4, x5, x6, x7, x8, x9, x10, x11, x12], _ => obtain rfl := hcc; exact lit_call (fc13 _ _ _ _ _ _ _ _ _ _ _ _ _ _ _ _ _ _ _ _ _ _ _ _ _ _ t) p3 (by rfl) E hx q1 q2 p1.symm
    · cases hg
  · cases hg
/-! ### 'sure' -/
theorem su18 : FitsC (reckon (tabA (tabH Tryz.prog extY conRt hcFl)) 300 11 [] []) (.bool true) := ⟨by kernel_rfl, by kernel_rfl, by kernel_rfl, by kernel_rfl⟩
def gSu18 : Ans := fun vals s => match vals with | [] => some (.bool true, s, []) | _ => none
theorem gSu18_ok : AnsOk 11 gSu18 := by
  intro vals s v s' lg h hl w
  unfold gSu18 at h
  split at h
  · cases h
    exact fitsC_calls (tabA_ok TFl_ok) su18 (by rfl) (by rfl) w
  · cases h
/-! ### how many numbers may be -/
abbrev canP (n : Int) : Prop := n = 2 ∨ n = 3 ∨ n = 4 ∨ n = 5 ∨ n = 7 ∨ n = 11 ∨ n = 13
def lCan (n : Int) : Log := [(n == 13, false), (n == 11, false), (n == 7, false), (n == 5, false), (n == 4, false), (n == 3, false), (n == 2, false)]
theorem lCan_ok {n : Int} (h : ¬ canP n) : okLog (lCan n) := fun p hp => by
  unfold canP at h
  unfold lCan at hp
  simp only [List.mem_cons, List.not_mem_nil, or_false] at hp
  rcases hp with rfl | rfl | rfl | rfl | rfl | rfl | rfl <;> (show (n == _) = false; simp; omega)
abbrev c7 : List Dec := [cmp false, cmp false, cmp false, cmp false, cmp false, cmp false, cmp false]
theorem cn_n (n : Int) : Fits (reckon (tabOf Tryz.prog extY conN true) 100 8 [.int .i64 n] c7) (.bool false) (lCan n) := ⟨by kernel_rfl, by kernel_rfl, by kernel_rfl, by kernel_rfl⟩
theorem cn_calls {n : Int} (h : ¬ canP n) (w : World) : Calls Tryz.prog 8 #[.int .i64 n] w fun e w' => e = .returned (.bool false) ∧ Tidy w w' :=
  fits_calls (tabY_ok conN_ok) (cn_n n) (lCan_ok h) (by rfl) (by rfl) w
/-- so many have none -/
def gCan0 : Ans := fun vals s => match vals with | [.int .i64 n] => some (.bool false, s, [(decide (canP n), false)]) | _ => none
theorem gCan0_ok : AnsOk 8 gCan0 := by
  intro vals s v s' lg h hl w
  unfold gCan0 at h
  split at h
  · cases h
    exact cn_calls (of_decide_eq_false (hl _ (List.mem_singleton.2 rfl))) w
  · cases h
theorem rcn_n (n : Int) : Fits (reckon (tabOf Tryz.prog extY conN true) 100 9 [.int .i64 n] c7) (.bool false) (lCan n) := ⟨by kernel_rfl, by kernel_rfl, by kernel_rfl, by kernel_rfl⟩
theorem gRCan0_ok : AnsOk 9 gCan0 := by
  intro vals s v s' lg h hl w
  unfold gCan0 at h
  split at h
  · cases h
    exact fits_calls (tabY_ok conN_ok) (rcn_n _) (lCan_ok (of_decide_eq_false (hl _ (List.mem_singleton.2 rfl)))) (by rfl) (by rfl) w
  · cases h
def conLs : Con := alt 11 gSu18 conN
theorem conLs_ok : ConOk conLs := alt_ok Tryz.func11 rfl gSu18_ok conN_ok
def hcLs : Hc := altH 7 gGive (altH 6 gLit (altH 10 gNum hcN))
theorem hcLs_ok : HcOk hcLs := altH_ok Tryz.func7 (by rfl) gGive_ok (altH_ok Tryz.func6 (by rfl) gLit_ok (altH_ok Tryz.func10 (by rfl) gNum_ok hcN_ok))
/-- where there is no little transform of so many -/
def conLn : Con := alt 8 gCan0 (alt 9 gCan0 conLs)
theorem conLn_ok : ConOk conLn := alt_ok Tryz.func8 rfl gCan0_ok (alt_ok Tryz.func9 rfl gRCan0_ok conLs_ok)
def hcLn : Hc := altH 7 gGive (altH 10 gNum hcN)
theorem hcLn_ok : HcOk hcLn := altH_ok Tryz.func7 (by rfl) gGive_ok (altH_ok Tryz.func10 (by rfl) gNum_ok hcN_ok)
/-! ### the argument's numbers -/
def prL (n : Nat) (L : List Int) : List PR := (List.range n).map fun i => (L.getD (2 * i) 0, L.getD (2 * i + 1) 0)
theorem prL_cells {L : List Int} : ∀ n : Nat, 2 * n ≤ L.length → prC (prL n L) = (L.take (2 * n)).map (Value.int .u64)
  | 0, _ => by simp [prL, prC]
  | n + 1, h => by
    have ih := prL_cells (L := L) n (by omega)
    unfold prL prC at *
    rw [List.range_succ, List.map_append, List.flatMap_append, ih, show 2 * (n + 1) = 2 * n + 1 + 1 by omega, List.take_add_one, List.take_add_one, List.getElem?_eq_getElem (show 2 * n < L.length by omega), List.getElem?_eq_getElem (show 2 * n + 1 < L.length by omega)]
    simp only [List.map_append, List.append_assoc, Option.toList, List.map_cons, List.map_nil, List.flatMap_cons, List.flatMap_nil, List.append_nil, List.getD, List.getElem?_eq_getElem (show 2 * n < L.length by omega), List.getElem?_eq_getElem (show 2 * n + 1 < L.length by omega), Option.getD_some]
    rfl
theorem arg_give {w : World} {i : Nat} {v : Value} {x : List Value × TypeId} {k : Nat × Nat} {p : Option Addr} {n c o : Nat} {L : List Int} (Ha : ArgX w i v x k p n c o L) (h0 : 0 < n) : p = some ⟨i, o, none⟩ ∧ giveB ts7 x o n c (prC (prL n L)) = true ∧ allU (prL n L) := by
  rcases Ha with ⟨_, _, _, rfl, _⟩ | ⟨b, cs, _, hL, h2, h3, h4, rfl, rfl, rfl⟩
  · omega
  · have hw : ∀ z ∈ L, 0 ≤ z ∧ z < 18446744073709551616 := fun z hz => u64_bounds (hL.wf z hz)
    have hg : ∀ q, 0 ≤ L.getD q 0 ∧ L.getD q 0 < 18446744073709551616 := fun q => by
      simp only [List.getD]
      cases hq : L[q]? with
      | none => simp
      | some z => exact hw z (List.mem_of_getElem? hq)
    have e := prL_cells (L := L) n (by omega)
    have hroom := hL.room
    have ecut : ((rowK .u64 cs o L).drop o).take (2 * n) = prC (prL n L) := by
      have hf : ((cs.toList.take o).map (Value.iface dead)).length = o := by simp; omega
      rw [e, List.map_take]
      unfold rowK
      rw [List.drop_append_of_le_length (by omega), List.drop_of_length_le (by omega), List.nil_append]
    have hu : (prC (prL n L)).all isU6 = true := by
      rw [e]
      refine List.all_eq_true.2 fun v hv => ?_
      obtain ⟨z, hz, rfl⟩ := List.mem_map.1 hv
      exact decide_eq_true (hw z (List.mem_of_mem_take hz))
    refine ⟨rfl, ?_, fun q hq => ?_⟩
    · unfold giveB
      simp only [Bool.and_eq_true, Bool.not_eq_true', decide_eq_true_eq]
      refine ⟨⟨⟨⟨⟨⟨⟨⟨⟨parR_tomb, ?_⟩, ?_⟩, hu⟩, ?_⟩, ?_⟩, Nat.ble_eq_true_of_le h3⟩, blt_iff.2 (by unfold dead; omega)⟩, Nat.ble_eq_true_of_le (by omega)⟩, List.all_eq_true.2 (rowK_still _ _ _ _)⟩
      · rw [show rt parR = ts7 from parR_rt]; exact Nat.beq_refl _
      · rw [ecut]; exact hu
      · rw [ecut]
      · refine Nat.ble_eq_true_of_le ?_
        rw [rowK_len hL]
        omega
    · unfold prL at hq
      obtain ⟨j, _, rfl⟩ := List.mem_map.1 hq
      exact ⟨hg _, hg _⟩
/-! ### back: number by number -/
def geP (l : List PR) (i : Nat) : PR := l.getD i (0, 0)
theorem litB_pr {xs : List PR} {n : Nat} (h : allU xs) (hn : xs.length = n) : litB (prC xs, tp7) n = true := by
  have hl : (prC xs).length = 2 * n := by
    rw [← hn]
    clear hn h
    induction xs with
    | nil => rfl
    | cons x xs ih => unfold prC at *; simp only [List.flatMap_cons, List.length_append, ih, List.length_cons, List.length_nil]; omega
  unfold litB
  simp only [Bool.and_eq_true, Bool.not_eq_true']
  refine ⟨⟨⟨⟨by kernel_rfl, by kernel_rfl⟩, ?_⟩, Nat.ble_eq_true_of_le (by omega)⟩, List.all_eq_true.2 (prC_still xs)⟩
  refine List.all_eq_true.2 fun v hv => ?_
  have hv := List.mem_of_mem_take hv
  unfold prC at hv
  obtain ⟨x, hx, hv⟩ := List.mem_flatMap.1 hv
  have hu := h x hx
  simp only [List.mem_cons, List.not_mem_nil, or_false] at hv
  rcases hv with rfl | rfl
  · exact decide_eq_true hu.1
  · exact decide_eq_true hu.2
theorem prL_len (n : Nat) (L : List Int) : (prL n L).length = n := by simp [prL]
/-- a law's run, where it begins with the argument and what else is handed in -/
theorem law_fin {con : Con} {hc : Hc} (h1 : ConOk con) (h2 : HcOk hc) {f : Nat} {w : World} (hk : known w) {v : Value} {x : List Value × TypeId} {k : Nat × Nat} {p : Option Addr} {n c o : Nat} {L : List Int} (Ha : ArgX w 1 v x k p n c o L) {extra : List Value} (he : (extra.all (lt 0)) = true)
    {sc : List Dec} {lg : Log} (hF : Fits (reckonAt (tabH Tryz.prog extY con hc) (hXr x) 300 f (.slice p n c :: extra) sc) (.bool true) lg) (hlg : okLog lg) : Calls Tryz.prog f (v :: extra).toArray w fun e w' => e = .returned (.bool true) ∧ Tidy w w' := by
  have E := startX hk Ha
  have r := fitsAt_calls (T := tabH Tryz.prog extY con hc) (tabH_ok h1 h2) hF hlg (List.all_eq_true.2 fun y hy => by
    rcases List.mem_cons.1 hy with rfl | hy
    · exact Ha.lt (by show 1 < 2; omega)
    · exact lt_mono (Nat.zero_le _) (List.all_eq_true.1 he y hy)) (by rfl) E
  have e1 : (Value.slice p n c :: extra).map (mv (mXr k)) = v :: extra := by
    rw [List.map_cons, Ha.val (by simp [mXr])]
    congr 1
    exact (List.map_congr_left fun y hy => mv_still (List.all_eq_true.1 he y hy)).trans (List.map_id' _)
  rw [e1] at r
  exact r
/-- What is to be reckoned of a call, in one equation. -/
def FitsL (r : Option (Value × Hp × List Dec × Lg)) (v : Value) (lg : Log) : Prop :=
  r.map (fun r => (r.1, r.2.2.2.cs, r.2.2.2.es.map Prod.fst, r.2.2.2.bs.map Prod.fst)) = some (r.elim (v, lg, [], []) fun r => (v, lg, r.2.2.2.es.map Prod.snd, r.2.2.2.bs.map Prod.snd))
theorem FitsL.fits {r : Option (Value × Hp × List Dec × Lg)} {v : Value} {lg : Log} (h : FitsL r v lg) : Fits r v lg := by
  unfold FitsL at h
  cases r with
  | none => cases h
  | some r =>
    simp only [Option.map_some, Option.elim_some, Option.some.injEq, Prod.mk.injEq] at h
    obtain ⟨h1, h2, h3, h4⟩ := h
    exact ⟨by rw [Option.map_some, h1], by rw [Option.map_some, h2], by rw [Option.map_some, Option.map_some, h3], by rw [Option.map_some, Option.map_some, h4]⟩
theorem law_finA {con : Con} {hc : Hc} (h1 : ConOk con) (h2 : HcOk hc) {f : Nat} {w : World} (hk : known w) {v : Value} {x : List Value × TypeId} {k : Nat × Nat} {p : Option Addr} {n c o : Nat} {L : List Int} (Ha : ArgX w 1 v x k p n c o L) {extra : List Value} (he : (extra.all (lt 0)) = true)
    {sc : List Dec} {lg : Log} (hF : FitsL (reckonAt (tabA (tabH Tryz.prog extY con hc)) (hXr x) 300 f (.slice p n c :: extra) sc) (.bool true) lg) (hlg : okLog lg) : Calls Tryz.prog f (v :: extra).toArray w fun e w' => e = .returned (.bool true) ∧ Tidy w w' := by
  have E := startX hk Ha
  have r := fitsAt_calls (T := tabA (tabH Tryz.prog extY con hc)) (tabA_ok (tabH_ok h1 h2)) hF.fits hlg (List.all_eq_true.2 fun y hy => by
    rcases List.mem_cons.1 hy with rfl | hy
    · exact Ha.lt (by show 1 < 2; omega)
    · exact lt_mono (Nat.zero_le _) (List.all_eq_true.1 he y hy)) (by rfl) E
  have e1 : (Value.slice p n c :: extra).map (mv (mXr k)) = v :: extra := by
    rw [List.map_cons, Ha.val (by simp [mXr])]
    congr 1
    exact (List.map_congr_left fun y hy => mv_still (List.all_eq_true.1 he y hy)).trans (List.map_id' _)
  rw [e1] at r
  exact r
theorem arg_zero {w : World} {v : Value} {x : List Value × TypeId} {k : Nat × Nat} {p : Option Addr} {c o : Nat} {L : List Int} (Ha : ArgX w 1 v x k p 0 c o L) : (p = none ∧ c = 0) ∨ p = some ⟨1, o, none⟩ := by
  rcases Ha with ⟨_, _, rfl, _, rfl, _⟩ | ⟨b, cs, _, hL, h2, h3, h4, rfl, rfl, rfl⟩
  · exact .inl ⟨rfl, rfl⟩
  · exact .inr rfl
theorem arg_row {w : World} {v : Value} {x : List Value × TypeId} {k : Nat × Nat} {n c o : Nat} {L : List Int} (Ha : ArgX w 1 v x k (some ⟨1, o, none⟩) n c o L) : ∃ l, x = (l, parR) ∧ (l.all calm1) = true := by
  rcases Ha with ⟨_, _, h, _⟩ | ⟨b, cs, _, _, _, _, _, rfl, _, _⟩
  · cases h
  · exact ⟨_, rfl, List.all_eq_true.2 fun v hv => by
      have := rowK_still _ _ _ _ v hv
      cases v with
      | pointer a => cases a <;> simp_all [still, calm1]
      | slice a l c => cases a <;> simp_all [still, calm1]
      | map a => cases a <;> simp_all [still, calm1]
      | _ => rfl⟩
end Go.Proofs.YtjkgnbdeklploaaGreatDoor
