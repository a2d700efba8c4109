/-
  nat.takePiece, as a call that changes its block.
-/
import Derived.Test.YtbjgkhbhabdjgaaDoorG13
import Derived.Test.YtbjgkhbhabdjgaaDoorG14
import Derived.Test.YtbjgkhbhabdjgaaDoorG11
namespace Go.Proofs.YtbjgkhbhabdjgaaDoor
open Go.KRun Go.Nt
set_option maxRecDepth 100000

def kP (F : Func) : List Code := [cFst (cBody F), cFst (cSnd (cBody F))]
def kR2 (F : Func) : Code := cFst (cFst (cSnd (cSnd (cBody F))))
def kL (F : Func) : Code := cIn (cIn (cSnd (cFst (cSnd (cSnd (cBody F))))))
def kE (F : Func) : Code := cSnd (cSnd (cSnd (cBody F)))
theorem kp_body : Tryd.f54.body = some (seqs (kP Tryd.f54) (.seq (.seq (kR2 Tryd.f54) (.block 0 (.loop (kL Tryd.f54)))) (kE Tryd.f54))) := by kernel_rfl
/-- the words' block, another one's below it, at most one above it -/
def hX (X : List (List Value × TypeId)) (S la : List Value) : Hp := ⟨2 + X.length, X ++ [(S, tU), (la, tR)]⟩
def kF (n c : Nat) (r i : Int) : List Value := [sl 1 0 n c, undef, uu 0, .int .u64 r, .int .i64 i]
def tpT (r x : Int) : Int := IntKind.u64.wrap ↑(BitVec.ofInt 64 (IntKind.u64.wrap (r * 2 ^ min (Int.toNat 32) 64)) ||| BitVec.ofInt 64 (IntKind.u64.wrap x)).toNat
def tpQ (r x : Int) : Int := IntKind.u32.wrap (IntKind.u64.wrap ((tpT r x).tdiv 1000000000))
def tpR (r x : Int) : Int := (tpT r x).tmod 1000000000
theorem tp_num {r x : Int} (hr : 0 ≤ r ∧ r < 1000000000) (hx : 0 ≤ x ∧ x < 4294967296) : tpQ r x = (r * 4294967296 + x) / 1000000000 ∧ tpR r x = (r * 4294967296 + x) % 1000000000 ∧ 0 ≤ tpQ r x ∧ tpQ r x < 4294967296 := by
  have e0 : (2 : Int) ^ min (Int.toNat 32) 64 = 4294967296 := rfl
  obtain ⟨a, rfl⟩ := Int.eq_ofNat_of_zero_le hr.1
  obtain ⟨u, rfl⟩ := Int.eq_ofNat_of_zero_le hx.1
  have e1 : IntKind.u64.wrap ((a : Int) * 4294967296) = (a : Int) * 4294967296 := by simp [IntKind.wrap, IntKind.bits, IntKind.signed]; omega
  have e2 : IntKind.u64.wrap (u : Int) = u := by simp [IntKind.wrap, IntKind.bits, IntKind.signed]; omega
  have e3 : (BitVec.ofInt 64 ((a : Int) * 4294967296)).toNat = 2 ^ 32 * a := by rw [BitVec.toNat_ofInt]; omega
  have e4 : (BitVec.ofInt 64 (u : Int)).toNat = u := by rw [BitVec.toNat_ofInt]; omega
  have eT : tpT a u = (a : Int) * 4294967296 + u := by
    unfold tpT
    rw [e0, e1, e2, BitVec.toNat_or, e3, e4, ← Nat.two_pow_add_eq_or_of_lt (by omega) a]
    simp [IntKind.wrap, IntKind.bits, IntKind.signed]
    omega
  have q1 : ((a : Int) * 4294967296 + u).tdiv 1000000000 = ((a : Int) * 4294967296 + u) / 1000000000 := Int.tdiv_eq_ediv_of_nonneg (by omega)
  have q2 : tpQ a u = ((a : Int) * 4294967296 + u) / 1000000000 := by
    unfold tpQ
    rw [eT, q1]
    simp [IntKind.wrap, IntKind.bits, IntKind.signed]
    omega
  have q3 : tpR a u = ((a : Int) * 4294967296 + u) % 1000000000 := by
    unfold tpR
    rw [eT, Int.tmod_eq_emod_of_nonneg (by omega)]
  rw [q2, q3]
  exact ⟨rfl, rfl, by omega, by omega⟩
theorem kp_pre (n c : Nat) (h : Hp) : GoesT (evL (tabOf Tryd.prog extY conN true) 100 (kP Tryd.f54) ([sl 1 0 n c] ++ List.replicate 29 undef, h, []) ⟨[], [], []⟩) 4 26 none [sl 1 0 n c, undef, uu 0, .int .u64 0] h [] := ⟨by kernel_rfl, by kernel_rfl, by kernel_rfl⟩
theorem kp_r2 (n c : Nat) (h : Hp) (g : Nat → Value) : GoesT (evC (tabOf Tryd.prog extY conN true) 100 false (kR2 Tryd.f54) ([sl 1 0 n c, undef, uu 0, .int .u64 0] ++ tl 26 g, h, []) ⟨[], [], []⟩) 5 25 none (kF n c 0 (IntKind.i64.wrap ((n : Int) - 1))) h [] := ⟨by kernel_rfl, by kernel_rfl, by kernel_rfl⟩
theorem kp_out (n c : Nat) (r i : Int) (h : Hp) (g : Nat → Value) : GoesT (evC (tabOf Tryd.prog extY conN true) 100 false (kL Tryd.f54) (kF n c r i ++ tl 25 g, h, [cmp false]) ⟨[], [], []⟩) 5 25 (some (some 0)) (kF n c r i) h [(decide (i ≥ 0), false)] := ⟨by kernel_rfl, by kernel_rfl, by kernel_rfl⟩
theorem kp_go0 (n c : Nat) (r i x : Int) (S la : List Value) (g : Nat → Value) : GoesT (evC (tabOf Tryd.prog extY conN true) 100 false (kL Tryd.f54) (kF n c r i ++ tl 25 g, hX [] S la, [cmp true, at_, val (uu x), at_, at_]) ⟨[], [], []⟩) 5 25 none (kF n c (tpR r x) (IntKind.i64.wrap (i - 1))) (hX [] (S.set (0 + i.toNat * 1) (uu (tpQ r x))) la) [(decide (0 + i.toNat * 1 < S.length), true), inR i n, celR S 0 i x, inR i n, (decide ((32 : Int) < 0), false), (decide (i ≥ 0), true)] := ⟨by kernel_rfl, by kernel_rfl, by kernel_rfl⟩
theorem kp_go1 (n c : Nat) (r i x : Int) (X : List Value × TypeId) (S la : List Value) (g : Nat → Value) : GoesT (evC (tabOf Tryd.prog extY conN true) 100 false (kL Tryd.f54) (kF n c r i ++ tl 25 g, hX [X] S la, [cmp true, at_, val (uu x), at_, at_]) ⟨[], [], []⟩) 5 25 none (kF n c (tpR r x) (IntKind.i64.wrap (i - 1))) (hX [X] (S.set (0 + i.toNat * 1) (uu (tpQ r x))) la) [(decide (0 + i.toNat * 1 < S.length), true), inR i n, celR S 0 i x, inR i n, (decide ((32 : Int) < 0), false), (decide (i ≥ 0), true)] := ⟨by kernel_rfl, by kernel_rfl, by kernel_rfl⟩
theorem kp_go (n c : Nat) (r i x : Int) {X : List (List Value × TypeId)} (hX1 : X.length ≤ 1) (S la : List Value) (g : Nat → Value) : GoesT (evC (tabOf Tryd.prog extY conN true) 100 false (kL Tryd.f54) (kF n c r i ++ tl 25 g, hX X S la, [cmp true, at_, val (uu x), at_, at_]) ⟨[], [], []⟩) 5 25 none (kF n c (tpR r x) (IntKind.i64.wrap (i - 1))) (hX X (S.set (0 + i.toNat * 1) (uu (tpQ r x))) la) [(decide (0 + i.toNat * 1 < S.length), true), inR i n, celR S 0 i x, inR i n, (decide ((32 : Int) < 0), false), (decide (i ≥ 0), true)] := by
  match X, hX1 with
  | [], _ => exact kp_go0 n c r i x S la g
  | [y], _ => exact kp_go1 n c r i x y S la g
theorem kp_fin (n c : Nat) (r i : Int) (h : Hp) (g : Nat → Value) : GoesT (evC (tabOf Tryd.prog extY conN true) 100 false (kE Tryd.f54) (kF n c r i ++ tl 25 g, h, []) ⟨[], [], []⟩) 3 27 (some none) [sl 1 0 n c, undef, uu (IntKind.u32.wrap r)] h [] := ⟨by kernel_rfl, by kernel_rfl, by kernel_rfl⟩
theorem kp_runs {c : Nat} {X : List (List Value × TypeId)} (hX1 : X.length ≤ 1) {la Z : List Value} {L : List Int} (hL : wds L) (hN : L.length < 4611686018427387904) :
    Runs (tabOf Tryd.prog extY conN true) (seqs (kP Tryd.f54) (.seq (.seq (kR2 Tryd.f54) (.block 0 (.loop (kL Tryd.f54)))) (kE Tryd.f54))) ([sl 1 0 L.length c] ++ List.replicate 29 undef, hX X (wU L ++ Z) la, []) fun e y => (e = none ∨ e = some none) ∧ resS Tryd.prog Tryd.f54 y.1 y.2.1 = some (uu (vN L % 1000000000)) ∧ y.2.1 = hX X (wU (dg L.length (vN L / 1000000000)) ++ Z) la := by
  have hT := tabY_ok conN_ok
  refine goesT_list hT (kp_pre L.length c _) okN9 fun g => ?_
  refine Runs.seq (P1 := fun e y => e = none ∧ ∃ (i : Int) (g : Nat → Value), y.1 = kF L.length c (vN L % 1000000000) i ++ tl 25 g ∧ y.2.1 = hX X (wU (dg L.length (vN L / 1000000000)) ++ Z) la) ?_ ?_ (fun e y he => by cases he.1)
  · refine Runs.seq (goesT_runs hT (kp_r2 L.length c _ g) okN9) ?_ (fun e y he => by cases he.1)
    rintro ⟨t, hh, s⟩ ⟨_, ⟨g', e1⟩, e2⟩
    have ew : IntKind.i64.wrap ((L.length : Int) - 1) = (L.length : Int) - 1 := wrapI (by omega) (by omega)
    rw [ew] at e1
    refine (Runs.forLoop (R := fun _ => False) (P := fun y => ∃ (i : Int) (g : Nat → Value), y.1 = kF L.length c (vN L % 1000000000) i ++ tl 25 g ∧ y.2.1 = hX X (wU (dg L.length (vN L / 1000000000)) ++ Z) la)
      (fun m y => ∃ (A Q H : List Int) (r : Int) (g : Nat → Value), y.1 = kF L.length c r ((A.length : Int) - 1) ++ tl 25 g ∧ y.2.1 = hX X (wU (A ++ Q) ++ Z) la ∧ L = A ++ H ∧ H.length = Q.length ∧ wds Q ∧ (0 ≤ r ∧ r < 1000000000) ∧ vN H = vN Q * 1000000000 + r ∧ m = A.length)
      ?_ (n := L.length) ⟨L, [], [], 0, g', e1, by rw [List.append_nil]; exact e2, by simp, rfl, (fun x hx => by cases hx), by omega, rfl, rfl⟩).mono fun e z hz => ?_
    · rintro m ⟨t, h', s'⟩ ⟨A, Q, H, r, g, ht, hh, hLA, hHQ, wQ, hr, hv, hm⟩
      simp only at ht hh
      subst ht hh
      rcases List.eq_nil_or_concat A with rfl | ⟨A', x, rfl⟩
      · refine (goesT_runs hT (kp_out L.length c r _ _ g) (okL1 (decide_eq_false (by simp)))).mono fun e z he => ?_
        obtain ⟨rfl, ⟨g', z1⟩, z2⟩ := he
        have eH : L = H := by simpa using hLA
        have hd : vN L / 1000000000 = vN Q ∧ vN L % 1000000000 = r := by rw [eH]; omega
        have e5 : dg L.length (vN Q) = Q := by rw [eH, hHQ]; exact dg_vN Q wQ
        refine ⟨rfl, ((([] : List Int).length : Nat) : Int) - 1, g', ?_, ?_⟩
        · rw [z1, hd.2]
        · rw [z2, hd.1, e5]; rfl
      · rw [List.concat_eq_append] at *
        have hlen : L.length = A'.length + 1 + H.length := by rw [hLA]; simp; omega
        have hx : 0 ≤ x ∧ x < 4294967296 := hL x (by rw [hLA]; simp)
        obtain ⟨n1, n2, n3, n4⟩ := tp_num hr hx
        have ei : (((A' ++ [x]).length : Nat) : Int) - 1 = (A'.length : Nat) := by simp
        have eS : wU (A' ++ [x] ++ Q) ++ Z = wU (A' ++ x :: Q) ++ Z := by simp
        have cS : (wU (A' ++ x :: Q) ++ Z)[0 + A'.length]? = some (uu x) := by
          rw [Nat.zero_add, List.getElem?_append_left (by unfold wU; simp)]
          exact wU_get A' x Q
        have l1 : decide (0 + ((A'.length : Nat) : Int).toNat * 1 < (wU (A' ++ x :: Q) ++ Z).length) = true := decide_eq_true (by unfold wU; simp)
        have l2 : (inR (A'.length : Nat) L.length).1 = (inR (A'.length : Nat) L.length).2 := decide_eq_true (by omega)
        have l3 : (celR (wU (A' ++ x :: Q) ++ Z) 0 (A'.length : Nat) x).1 = (celR (wU (A' ++ x :: Q) ++ Z) 0 (A'.length : Nat) x).2 := cel_ok cS
        rw [ei, eS]
        refine (goesT_runs hT (kp_go L.length c r (A'.length : Nat) x hX1 (wU (A' ++ x :: Q) ++ Z) la g) (okCons l1 (okCons l2 (okCons l3 (okCons l2 (okCons (by decide) (okL1 (decide_eq_true (by omega))))))))).mono fun e z he => ?_
        obtain ⟨rfl, ⟨g', z1⟩, z2⟩ := he
        refine ⟨A'.length, by rw [hm]; simp, A', tpQ r x :: Q, x :: H, tpR r x, g', ?_, ?_, by rw [hLA]; simp, by simp [hHQ], ?_, by rw [n2]; omega, ?_, rfl⟩
        · rw [z1, wrapI (by omega) (by omega)]
        · rw [z2, Int.toNat_natCast, Nat.mul_one, Nat.zero_add, List.set_append_left _ _ (by unfold wU; simp), wU_set]
          simp
        · intro y hy
          rcases List.mem_cons.1 hy with rfl | hy
          · exact ⟨n3, n4⟩
          · exact wQ y hy
        · simp only [vN]
          rw [n1, n2, hv]
          omega
    · match e, hz with
      | none, hz => exact ⟨rfl, hz⟩
  · rintro ⟨t, hh, s⟩ ⟨_, i, g', e1, e2⟩
    simp only at e1 e2
    subst e1 e2
    refine (goesT_runs hT (kp_fin L.length c _ i _ g') okN9).mono fun e z hz => ?_
    obtain ⟨rfl, ⟨g2, z1⟩, z2⟩ := hz
    have hm : IntKind.u32.wrap (vN L % 1000000000) = vN L % 1000000000 := by simp [IntKind.wrap, IntKind.bits, IntKind.signed]; omega
    rw [hm] at z1
    exact ⟨.inr rfl, by rw [z1, z2]; rfl, z2⟩
/-- the piece that is taken off the words in block 1 -/
def tpS (S : List Value) (n : Nat) : List Value := wU (dg n (vN (cutI S 0 n) / 1000000000)) ++ S.drop n
def tpG (X : List (List Value × TypeId)) (S : List Value) (t : TypeId) (la : List Value) (t' : TypeId) (n c : Nat) (s : List Dec) : Option (Value × Hp × List Dec × Log) :=
  some (uu (vN (cutI S 0 n) % 1000000000), ⟨2 + X.length, X ++ [(tpS S n, tU), (la, tR)]⟩, s, [(Nat.beq t tU, true), (Nat.beq t' tR, true), (rowOk t S 0 n c, true), (la.all still, true), (X.all fun x => x.1.all still, true)])
def gTp : AnsH := fun vals h s =>
  match vals, h with
  | [.slice (some ⟨1, 0, none⟩) n c], ⟨2, [(S, t), (la, t')]⟩ => tpG [] S t la t' n c s
  | [.slice (some ⟨1, 0, none⟩) n c], ⟨3, [x, (S, t), (la, t')]⟩ => tpG [x] S t la t' n c s
  | _, _ => none
theorem tpG_ok {X : List (List Value × TypeId)} (hX1 : X.length ≤ 1) {S : List Value} {t : TypeId} {la : List Value} {t' : TypeId} {n c : Nat} {s s' : List Dec} {v : Value} {h' : Hp} {lg : Log} (hg : tpG X S t la t' n c s = some (v, h', s', lg)) (hl : okLog lg) (m : Mp) (B : Nat) (w : World) (E : Emb m B ⟨2 + X.length, X ++ [(S, t), (la, t')]⟩ w) (hv : ∀ v ∈ [sl 1 0 n c], lt (2 + X.length) v = true) :
    Calls Tryd.prog 54 (([sl 1 0 n c] : List Value).map (mv m)).toArray w fun e w' => ∃ m', e = .returned (mv m' v) ∧ Came m B ⟨2 + X.length, X ++ [(S, t), (la, t')]⟩ w v h' m' w' := by
  unfold tpG at hg
  cases hg
  obtain ⟨l1, q⟩ := logB hl
  obtain ⟨l2, q⟩ := logB q
  obtain ⟨l3, q⟩ := logB q
  obtain ⟨l4, q⟩ := logB q
  obtain ⟨l5, _⟩ := logB q
  have l1 := Nat.eq_of_beq_eq_true l1
  have l2 := Nat.eq_of_beq_eq_true l2
  subst l1 l2
  obtain ⟨a1, a2, a3, a4, a5, a6, a7⟩ := row_of l3
  have hc : c < 4611686018427387904 := blt_iff.1 a4
  have eS : S = wU (cutI S 0 n) ++ S.drop n := by
    have h1 := a1.cut
    rw [a2] at h1
    rw [← h1]
    unfold cutV
    simp
  have r := kp_runs (c := c) hX1 (la := la) (Z := S.drop n) a1.rng (by omega)
  rw [a2, ← eS] at r
  have ht : (Hp.tight ⟨2 + X.length, X ++ [(tpS S n, tU), (la, tR)]⟩) = true := by
    unfold Hp.tight tpS
    simp only [List.all_append, List.all_cons, List.all_nil, Bool.and_true, Bool.and_eq_true]
    refine ⟨?_, ⟨wU_tight _ _, ?_⟩, all_mono (by omega) l4⟩
    · rw [List.all_eq_true]
      intro x hx
      exact all_mono (by omega) (List.all_eq_true.1 l5 x hx)
    · rw [List.all_eq_true]
      exact fun v hv => still_lt (by omega) (a7 v (List.mem_of_mem_drop hv))
  refine hcalls_of_runs (T := tabOf Tryd.prog extY conN true) Tryd.func54 kp_body (vals := [sl 1 0 n c]) (h := hX X S la) (by rfl) ht (r.mono fun e y he => ⟨he.1, he.2.1, ?_⟩) m B w E hv
  rw [he.2.2]
  unfold hX Hp.cut
  simp [tpS, tU]
theorem gTp_ok : AnsHOk 54 gTp := by
  intro vals h s v h' s' lg hg hl m B w E hv
  unfold gTp at hg
  split at hg
  · exact tpG_ok (X := []) (by simp) hg hl m B w E hv
  · exact tpG_ok (X := [_]) (by simp) hg hl m B w E hv
  · cases hg
end Go.Proofs.YtbjgkhbhabdjgaaDoor

/-
  nat.Add, as a call, where a row is nothing.
-/
namespace Go.Proofs.YtbjgkhbhabdjgaaDoor
open Go.KRun Go.Nt
set_option maxRecDepth 100000

def fA (a b r e : Value) : List Value := [a, b, undef, undef, r, e]
def resE (d : Bool) : Value := match d with | true => errV 2 | false => .nilIface
def resV (d : Bool) (v : Value) : Value := match d with | true => nilS | false => v
theorem addN_bad1 (o n c : Nat) (la : List Value) : GoesT (evC (tabH Tryd.prog extY conA hcA) 200 false (cBody Tryd.f10) ([sl 0 o n c, nilS] ++ List.replicate 73 undef, ⟨1, [(la, tR)]⟩, [cmp true]) ⟨[], [], []⟩) 6 69 (some none) (fA (sl 0 o n c) nilS nilS (errV 1)) ⟨1, [(la, tR)]⟩ [chkL la o n c, (badL (cutI la o n), true)] := ⟨by kernel_rfl, by kernel_rfl, by kernel_rfl⟩
theorem addN_bad2 (o n c : Nat) (la : List Value) : GoesT (evC (tabH Tryd.prog extY conA hcA) 200 false (cBody Tryd.f10) ([nilS, sl 0 o n c] ++ List.replicate 73 undef, ⟨1, [(la, tR)]⟩, [cmp true]) ⟨[], [], []⟩) 6 69 (some none) (fA nilS (sl 0 o n c) nilS (errV 1)) ⟨1, [(la, tR)]⟩ [chkL la o n c, (badL (cutI la o n), true)] := ⟨by kernel_rfl, by kernel_rfl, by kernel_rfl⟩
def h1S (la S : List Value) : Hp := ⟨2, [(S, tU), (la, tR)]⟩
theorem addN_1n (d : Bool) (o n c : Nat) (la : List Value) : GoesT (evC (tabH Tryd.prog extY conA hcA) 200 false (cBody Tryd.f10) ([sl 0 o n c, nilS] ++ List.replicate 73 undef, ⟨1, [(la, tR)]⟩, [cmp false, cmp false, at_, at_, cmp false, cmp false, cmp d]) ⟨[], [], []⟩) 6 69 (some none)
    (fA (sl 0 o n c) nilS (resV d (sl 1 0 (trimN (cutI (cpy la o n) 0 (nP n).toNat)) (nP n).toNat)) (resE d)) (h1S la (cpy la o n)) [(decide ((trimN (cutI (cpy la o n) 0 (nP n).toNat) : Int) > 8192), d), (rowOk tU (cpy la o n) 0 (nP n).toNat (nP n).toNat, true), (false, false), (false, false), (cpOk la o n, true), (okMakeB 4 (nP n) (nP n), true), (decide ((n : Int) < (0 : Nat)), false), chkL la o n c, (badL (cutI la o n), false)] := by
  cases d <;> exact ⟨by kernel_rfl, by kernel_rfl, by kernel_rfl⟩
theorem addN_n1 (d : Bool) (o n c : Nat) (la : List Value) : GoesT (evC (tabH Tryd.prog extY conA hcA) 200 false (cBody Tryd.f10) ([nilS, sl 0 o n c] ++ List.replicate 73 undef, ⟨1, [(la, tR)]⟩, [cmp false, cmp true, at_, at_, cmp false, cmp false, cmp d]) ⟨[], [], []⟩) 6 69 (some none)
    (fA (sl 0 o n c) nilS (resV d (sl 1 0 (trimN (cutI (cpy la o n) 0 (nP n).toNat)) (nP n).toNat)) (resE d)) (h1S la (cpy la o n)) [(decide ((trimN (cutI (cpy la o n) 0 (nP n).toNat) : Int) > 8192), d), (rowOk tU (cpy la o n) 0 (nP n).toNat (nP n).toNat, true), (false, false), (false, false), (cpOk la o n, true), (okMakeB 4 (nP n) (nP n), true), (decide (((0 : Nat) : Int) < n), true), chkL la o n c, (badL (cutI la o n), false)] := by
  cases d <;> exact ⟨by kernel_rfl, by kernel_rfl, by kernel_rfl⟩
theorem addN_n0 (o n c : Nat) (la : List Value) : GoesT (evC (tabH Tryd.prog extY conA hcA) 200 false (cBody Tryd.f10) ([nilS, sl 0 o n c] ++ List.replicate 73 undef, ⟨1, [(la, tR)]⟩, [cmp false, cmp false, at_, at_, cmp false, cmp false]) ⟨[], [], []⟩) 6 69 (some none)
    (fA nilS (sl 0 o n c) (sl 1 0 0 1) .nilIface) (h1S la [uu 0]) [(true, true), (false, false), (decide ((0 : Int) < n), false), (true, true), (true, true), (decide (((0 : Nat) : Int) < n), false), chkL la o n c, (badL (cutI la o n), false)] := ⟨by kernel_rfl, by kernel_rfl, by kernel_rfl⟩
theorem addN_nn : GoesT (evC (tabH Tryd.prog extY conA hcA) 200 false (cBody Tryd.f10) ([nilS, nilS] ++ List.replicate 73 undef, ⟨0, []⟩, []) ⟨[], [], []⟩) 6 69 (some none) (fA nilS nilS (sl 0 0 0 1) .nilIface) ⟨1, [([uu 0], tU)]⟩ [(true, true)] := ⟨by kernel_rfl, by kernel_rfl, by kernel_rfl⟩
end Go.Proofs.YtbjgkhbhabdjgaaDoor

/-
  nat.Add, as a call with rows or nothing.
-/
namespace Go.Proofs.YtbjgkhbhabdjgaaDoor
open Go.KRun Go.Nt
set_option maxRecDepth 100000

theorem dg_self0 {L : List Int} (h : wds L) : dg (L.length + 1) (vN L) = L ++ [0] := by
  have := dg_vN (L ++ [0]) (wds_app h (fun x hx => by rw [List.mem_singleton.1 hx]; omega))
  rw [List.length_append, List.length_singleton, vN_snoc, Int.mul_zero, Int.add_zero] at this
  exact this
theorem sumR_n1 {L : List Int} (h : wds L) : sumR [] L = L ++ [0] := by
  unfold sumR mxN
  rw [show vN [] + vN L = vN L from by simp [vN], show (if ([] : List Int).length < L.length then L.length else ([] : List Int).length) = L.length from by
    by_cases h0 : ([] : List Int).length < L.length
    · rw [if_pos h0]
    · rw [if_neg h0]; simp at h0 ⊢; simp [h0], dg_self0 h]
theorem sumR_1n {L : List Int} (h : wds L) : sumR L [] = L ++ [0] := by
  unfold sumR mxN
  rw [show vN L + vN [] = vN L from by simp [vN], if_neg (by simp), dg_self0 h]
theorem mx_1n (n : Nat) : mxN n 0 = n := if_neg (Nat.not_lt_zero n)
theorem mx_n1 (n : Nat) : mxN 0 n = n := by
  unfold mxN
  split
  · rfl
  · omega
theorem add_one {vals : List Value} {la : List Value} {r e a b : Value} {h' : Hp} {cs : Log} {s : List Dec} (hG : GoesT (evC (tabH Tryd.prog extY conA hcA) 200 false (cBody Tryd.f10) (vals ++ List.replicate 73 undef, ⟨1, [(la, tR)]⟩, s) ⟨[], [], []⟩) 6 69 (some none) (fA a b r e) h' cs) (hcs : okLog cs) (hr : ∀ g, resS Tryd.prog Tryd.f10 (fA a b r e ++ tl 69 g) h' = some (.tuple #[r, e])) :
    Runs (tabH Tryd.prog extY conA hcA) (cBody Tryd.f10) (vals ++ List.replicate 73 undef, ⟨1, [(la, tR)]⟩, []) fun e' y => (e' = none ∨ e' = some none) ∧ resS Tryd.prog Tryd.f10 y.1 y.2.1 = some (.tuple #[r, e]) ∧ y.2.1 = h' := by
  refine (goesT_runs (tabH_ok conA_ok hcA_ok) hG hcs).mono fun e' y he => ?_
  obtain ⟨rfl, ⟨g, e2⟩, e3⟩ := he
  refine ⟨.inr rfl, ?_, e3⟩
  rw [e2, e3]
  exact hr g
theorem addX_body : Tryd.f10.body = some (cBody Tryd.f10) := by kernel_rfl
/-- a row and nothing: what the run answers -/
theorem add_1n {la : List Value} {o n c : Nat} (ha : rowOk tR la o n c = true) (hb : badL (cutI la o n) = false) (d : Bool) (hd : decide ((trimN (sumR (cutI la o n) []) : Int) > 8192) = d) :
    Runs (tabH Tryd.prog extY conA hcA) (cBody Tryd.f10) ([sl 0 o n c, nilS] ++ List.replicate 73 undef, ⟨1, [(la, tR)]⟩, []) fun e' y => (e' = none ∨ e' = some none) ∧ resS Tryd.prog Tryd.f10 y.1 y.2.1 = some (.tuple #[resV d (sl 1 0 (trimN (sumR (cutI la o n) [])) (mxN n 0 + 1)), resE d]) ∧ y.2.1 = h1S la (wU (sumR (cutI la o n) [])) := by
  obtain ⟨a1, a2, a3, a4, a5, a6, a7⟩ := row_of ha
  have h8 := badL_len hb
  have g0 := addN_1n d o n c la
  generalize hL : cutI la o n = L at *
  subst a2
  rw [sumR_1n a1.rng] at hd ⊢
  have hw : wds (L ++ [0]) := wds_app a1.rng (fun x hx => by rw [List.mem_singleton.1 hx]; omega)
  have r1 := wU_row hw (c := L.length + 1) (by simp) (blt_iff.2 (by unfold dead; omega))
  rw [List.length_append, List.length_singleton] at r1
  rw [cpy_eq a1 h8, nP_nat h8, r1.2] at g0
  rw [mx_1n]
  have q1 : decide ((L.length : Int) < (0 : Nat)) = false := decide_eq_false (by omega)
  exact add_one g0 (okTwo hd (okTwo r1.1 (okTwo rfl (okTwo rfl (okTwo (cpOk_eq a1 h8) (okTwo (mk_ok h8) (okTwo q1 (okTwo ha (okOne hb))))))))) (fun g => by cases d <;> rfl)
theorem add_n1 {la : List Value} {o n c : Nat} (ha : rowOk tR la o n c = true) (hb : badL (cutI la o n) = false) (h0 : 0 < n) (d : Bool) (hd : decide ((trimN (sumR [] (cutI la o n)) : Int) > 8192) = d) :
    Runs (tabH Tryd.prog extY conA hcA) (cBody Tryd.f10) ([nilS, sl 0 o n c] ++ List.replicate 73 undef, ⟨1, [(la, tR)]⟩, []) fun e' y => (e' = none ∨ e' = some none) ∧ resS Tryd.prog Tryd.f10 y.1 y.2.1 = some (.tuple #[resV d (sl 1 0 (trimN (sumR [] (cutI la o n))) (mxN 0 n + 1)), resE d]) ∧ y.2.1 = h1S la (wU (sumR [] (cutI la o n))) := by
  obtain ⟨a1, a2, a3, a4, a5, a6, a7⟩ := row_of ha
  have h8 := badL_len hb
  have g0 := addN_n1 d o n c la
  generalize hL : cutI la o n = L at *
  subst a2
  rw [sumR_n1 a1.rng] at hd ⊢
  have hw : wds (L ++ [0]) := wds_app a1.rng (fun x hx => by rw [List.mem_singleton.1 hx]; omega)
  have r1 := wU_row hw (c := L.length + 1) (by simp) (blt_iff.2 (by unfold dead; omega))
  rw [List.length_append, List.length_singleton] at r1
  rw [cpy_eq a1 h8, nP_nat h8, r1.2] at g0
  rw [mx_n1]
  have q1 : decide (((0 : Nat) : Int) < (L.length : Nat)) = true := decide_eq_true (by omega)
  exact add_one g0 (okTwo hd (okTwo r1.1 (okTwo rfl (okTwo rfl (okTwo (cpOk_eq a1 h8) (okTwo (mk_ok h8) (okTwo q1 (okTwo ha (okOne hb))))))))) (fun g => by cases d <;> rfl)
theorem add_n0 {la : List Value} {o c : Nat} (ha : rowOk tR la o 0 c = true) (hb : badL (cutI la o 0) = false) :
    Runs (tabH Tryd.prog extY conA hcA) (cBody Tryd.f10) ([nilS, sl 0 o 0 c] ++ List.replicate 73 undef, ⟨1, [(la, tR)]⟩, []) fun e' y => (e' = none ∨ e' = some none) ∧ resS Tryd.prog Tryd.f10 y.1 y.2.1 = some (.tuple #[sl 1 0 0 1, .nilIface]) ∧ y.2.1 = h1S la [uu 0] :=
  add_one (addN_n0 o 0 c la) (okTwo rfl (okTwo rfl (okTwo (by rfl) (okTwo rfl (okTwo rfl (okTwo (by rfl) (okTwo ha (okOne hb)))))))) (fun g => by rfl)
def gAddX : AnsH := fun vals h s =>
  match vals with
  | [.slice (some ⟨b, o, none⟩) n c, .slice none 0 0] =>
    match h.blk? b, s with
    | some x, .inr (.inr (.inr (.inl true))) :: s' => some (.tuple #[nilS, errV 1], h, s', [(rowOk x.2 x.1 o n c, true), (badL (cutI x.1 o n), true)])
    | some x, .inr (.inr (.inr (.inl false))) :: .inr (.inr (.inr (.inl true))) :: s' => some (.tuple #[nilS, errV 2], h, s', [(rowOk x.2 x.1 o n c, true), (badL (cutI x.1 o n), false), (decide ((trimN (sumR (cutI x.1 o n) []) : Int) > 8192), true)])
    | some x, .inr (.inr (.inr (.inl false))) :: .inr (.inr (.inr (.inl false))) :: s' => some (.tuple #[sl h.n 0 (trimN (sumR (cutI x.1 o n) [])) (mxN n 0 + 1), .nilIface], h.push (wU (sumR (cutI x.1 o n) [])) tU, s', [(rowOk x.2 x.1 o n c, true), (badL (cutI x.1 o n), false), (decide ((trimN (sumR (cutI x.1 o n) []) : Int) > 8192), false)])
    | _, _ => none
  | [.slice none 0 0, .slice (some ⟨b, o, none⟩) n c] =>
    match h.blk? b, s with
    | some x, .inr (.inr (.inr (.inl true))) :: s' => some (.tuple #[nilS, errV 1], h, s', [(rowOk x.2 x.1 o n c, true), (badL (cutI x.1 o n), true)])
    | some x, .inr (.inr (.inr (.inl false))) :: .inr (.inr (.inr (.inl true))) :: s' => some (.tuple #[nilS, errV 2], h, s', [(rowOk x.2 x.1 o n c, true), (badL (cutI x.1 o n), false), (decide ((trimN (sumR [] (cutI x.1 o n)) : Int) > 8192), true)])
    | some x, .inr (.inr (.inr (.inl false))) :: .inr (.inr (.inr (.inl false))) :: s' => some (.tuple #[sl h.n 0 (trimN (sumR [] (cutI x.1 o n))) (mxN 0 n + 1), .nilIface], h.push (wU (sumR [] (cutI x.1 o n))) tU, s', [(rowOk x.2 x.1 o n c, true), (badL (cutI x.1 o n), false), (decide ((trimN (sumR [] (cutI x.1 o n)) : Int) > 8192), false)])
    | _, _ => none
  | [.slice none 0 0, .slice none 0 0] => some (.tuple #[sl h.n 0 0 1, .nilIface], h.push (wU [0]) tU, s, [])
  | _ => gAdd vals h s
theorem gAddX_ok : AnsHOk 10 gAddX := by
  intro vals h s v h' s' lg hg hl m B w E hv
  unfold gAddX at hg
  split at hg
  · rename_i b o n c
    have one1 : ∀ x : List Value × TypeId, h.blk? b = some x → rowOk x.2 x.1 o n c = true → ∀ v0 : Value, oc (List.range 1) v0 = true → rn (fun _ => b) v0 = v0 →
        Runs (tabH Tryd.prog extY conA hcA) (cBody Tryd.f10) ([sl 0 o n c, nilS] ++ List.replicate 73 undef, ⟨1, [(x.1, tR)]⟩, []) (fun e y => (e = none ∨ e = some none) ∧ resS Tryd.prog Tryd.f10 y.1 y.2.1 = some v0) →
        Calls Tryd.prog 10 ((([sl 0 o n c, nilS] : List Value).map (rn fun _ => b)).map (mv m)).toArray w fun e w' => ∃ m', e = .returned (mv m' v0) ∧ Came m B h w v0 h m' w' := by
      intro x hx ra v0 ho e0 r
      obtain ⟨a1, a2, a3, a4, a5, a6, a7⟩ := row_of ra
      have hlt := Hp.blk_lt hx
      have := row_calls (T := tabH Tryd.prog extY conA hcA) Tryd.func10 addX_body (rows1 a7) (vals := [sl 0 o n c, nilS]) (fun v hv => by
        simp only [List.mem_cons, List.not_mem_nil, or_false] at hv
        rcases hv with rfl | rfl <;> rfl) ho r E (s := fun _ => b) (fun i _ => hlt) (fitsR1 hx a5 a6 rfl)
      rw [e0] at this
      exact this.mono fun e w' he => ⟨m, he.1, he.2⟩
    split at hg
    · rename_i x s2 hx
      cases hg
      have ra := hl _ (List.mem_cons_self)
      have hd := hl _ (List.mem_cons_of_mem _ (List.mem_singleton.2 rfl))
      exact one1 x hx ra _ (by rfl) (rn_still (by rfl)) ((add_one (addN_bad1 o n c x.1) (okTwo (rowOk_R ra) (okOne hd)) (fun _ => rfl)).mono fun e y h => ⟨h.1, h.2.1⟩)
    · rename_i x s2 hx
      cases hg
      have ra := hl _ (List.mem_cons_self)
      have hb := hl _ (List.mem_cons_of_mem _ List.mem_cons_self)
      have hd := hl _ (List.mem_cons_of_mem _ (List.mem_cons_of_mem _ (List.mem_singleton.2 rfl)))
      exact one1 x hx ra _ (by rfl) (rn_still (by rfl)) ((add_1n (rowOk_R ra) hb true hd).mono fun e y h => ⟨h.1, h.2.1⟩)
    · rename_i x s2 hx
      cases hg
      have ra := hl _ (List.mem_cons_self)
      have hb := hl _ (List.mem_cons_of_mem _ List.mem_cons_self)
      have hd := hl _ (List.mem_cons_of_mem _ (List.mem_cons_of_mem _ (List.mem_singleton.2 rfl)))
      obtain ⟨a1, a2, a3, a4, a5, a6, a7⟩ := row_of ra
      have r := add_1n (rowOk_R ra) hb false hd
      simp only [resV, resE] at r
      have e1 : ∀ k M : Nat, rn (fun _ => h.n) (.tuple #[sl 1 0 k M, .nilIface]) = .tuple #[sl h.n 0 k M, .nilIface] := fun k M => by simp [rn, rn2, rn1, sl]
      have := row_calls1 (T := tabH Tryd.prog extY conA hcA) Tryd.func10 addX_body (rows1 a7) (vals := [sl 0 o n c, nilS]) (fun v hv => by
        simp only [List.mem_cons, List.not_mem_nil, or_false] at hv
        rcases hv with rfl | rfl <;> rfl) (k := 1) (wU_calm _) tU_own (r.w.mono fun e y h => ⟨h.1, h.2.1, [], by rw [List.append_nil, h.2.2]; rfl⟩) (by rfl) E (s := fun _ => b) (fitsR1 hx a5 a6 rfl)
      rw [e1] at this
      exact this
    · cases hg
  · rename_i b o n c
    have one1 : ∀ x : List Value × TypeId, h.blk? b = some x → rowOk x.2 x.1 o n c = true → ∀ v0 : Value, oc (List.range 1) v0 = true → rn (fun _ => b) v0 = v0 →
        Runs (tabH Tryd.prog extY conA hcA) (cBody Tryd.f10) ([nilS, sl 0 o n c] ++ List.replicate 73 undef, ⟨1, [(x.1, tR)]⟩, []) (fun e y => (e = none ∨ e = some none) ∧ resS Tryd.prog Tryd.f10 y.1 y.2.1 = some v0) →
        Calls Tryd.prog 10 ((([nilS, sl 0 o n c] : List Value).map (rn fun _ => b)).map (mv m)).toArray w fun e w' => ∃ m', e = .returned (mv m' v0) ∧ Came m B h w v0 h m' w' := by
      intro x hx ra v0 ho e0 r
      obtain ⟨a1, a2, a3, a4, a5, a6, a7⟩ := row_of ra
      have hlt := Hp.blk_lt hx
      have := row_calls (T := tabH Tryd.prog extY conA hcA) Tryd.func10 addX_body (rows1 a7) (vals := [nilS, sl 0 o n c]) (fun v hv => by
        simp only [List.mem_cons, List.not_mem_nil, or_false] at hv
        rcases hv with rfl | rfl <;> rfl) ho r E (s := fun _ => b) (fun i _ => hlt) (fitsR1 hx a5 a6 rfl)
      rw [e0] at this
      exact this.mono fun e w' he => ⟨m, he.1, he.2⟩
    split at hg
    · rename_i x s2 hx
      cases hg
      have ra := hl _ (List.mem_cons_self)
      have hd := hl _ (List.mem_cons_of_mem _ (List.mem_singleton.2 rfl))
      exact one1 x hx ra _ (by rfl) (rn_still (by rfl)) ((add_one (addN_bad2 o n c x.1) (okTwo (rowOk_R ra) (okOne hd)) (fun _ => rfl)).mono fun e y h => ⟨h.1, h.2.1⟩)
    · rename_i x s2 hx
      cases hg
      have ra := hl _ (List.mem_cons_self)
      have hb := hl _ (List.mem_cons_of_mem _ List.mem_cons_self)
      have hd := hl _ (List.mem_cons_of_mem _ (List.mem_cons_of_mem _ (List.mem_singleton.2 rfl)))
      have h0 : 0 < n := by
        rcases Nat.eq_zero_or_pos n with h0 | h0
        · exfalso
          subst h0
          have e0 : cutI x.1 o 0 = [] := rfl
          rw [e0] at hd
          have e1 : trimN (sumR [] []) = 0 := rfl
          rw [e1] at hd
          cases hd
        · exact h0
      exact one1 x hx ra _ (by rfl) (rn_still (by rfl)) ((add_n1 (rowOk_R ra) hb h0 true hd).mono fun e y h => ⟨h.1, h.2.1⟩)
    · rename_i x s2 hx
      cases hg
      have ra := hl _ (List.mem_cons_self)
      have hb := hl _ (List.mem_cons_of_mem _ List.mem_cons_self)
      have hd := hl _ (List.mem_cons_of_mem _ (List.mem_cons_of_mem _ (List.mem_singleton.2 rfl)))
      obtain ⟨a1, a2, a3, a4, a5, a6, a7⟩ := row_of ra
      have r : Runs (tabH Tryd.prog extY conA hcA) (cBody Tryd.f10) ([nilS, sl 0 o n c] ++ List.replicate 73 undef, ⟨1, [(x.1, tR)]⟩, []) fun e' y => (e' = none ∨ e' = some none) ∧ resS Tryd.prog Tryd.f10 y.1 y.2.1 = some (.tuple #[sl 1 0 (trimN (sumR [] (cutI x.1 o n))) (mxN 0 n + 1), .nilIface]) ∧ y.2.1 = h1S x.1 (wU (sumR [] (cutI x.1 o n))) := by
        rcases Nat.eq_zero_or_pos n with h0 | h0
        · subst h0
          exact add_n0 (rowOk_R ra) hb
        · have := add_n1 (rowOk_R ra) hb h0 false hd
          simp only [resV, resE] at this
          exact this
      have e1 : ∀ k M : Nat, rn (fun _ => h.n) (.tuple #[sl 1 0 k M, .nilIface]) = .tuple #[sl h.n 0 k M, .nilIface] := fun k M => by simp [rn, rn2, rn1, sl]
      have := row_calls1 (T := tabH Tryd.prog extY conA hcA) Tryd.func10 addX_body (rows1 a7) (vals := [nilS, sl 0 o n c]) (fun v hv => by
        simp only [List.mem_cons, List.not_mem_nil, or_false] at hv
        rcases hv with rfl | rfl <;> rfl) (k := 1) (wU_calm _) tU_own (r.w.mono fun e y h => ⟨h.1, h.2.1, [], by rw [List.append_nil, h.2.2]; rfl⟩) (by rfl) E (s := fun _ => b) (fitsR1 hx a5 a6 rfl)
      rw [e1] at this
      exact this
    · cases hg
  · cases hg
    have r : Runs (tabH Tryd.prog extY conA hcA) (cBody Tryd.f10) ([nilS, nilS] ++ List.replicate 73 undef, ⟨0, []⟩, []) fun e' y => (e' = none ∨ e' = some none) ∧ resS Tryd.prog Tryd.f10 y.1 y.2.1 = some (.tuple #[sl 0 0 0 1, .nilIface]) ∧ y.2.1 = ⟨1, [([uu 0], tU)]⟩ := by
      refine (goesT_runs (tabH_ok conA_ok hcA_ok) addN_nn (okOne rfl)).mono fun e' y he => ?_
      obtain ⟨rfl, ⟨g, e2⟩, e3⟩ := he
      refine ⟨.inr rfl, ?_, e3⟩
      rw [e2, e3]
      rfl
    have e1 : rn (fun _ => h.n) (.tuple #[sl 0 0 0 1, .nilIface]) = .tuple #[sl h.n 0 0 1, .nilIface] := by simp [rn, rn2, rn1, sl]
    have := row_calls1 (T := tabH Tryd.prog extY conA hcA) Tryd.func10 addX_body (h0 := ⟨0, []⟩) ⟨rfl, fun b x hb => absurd (Hp.blk_lt hb) (Nat.not_lt_zero _)⟩ (vals := [nilS, nilS]) (fun v hv => by
      simp only [List.mem_cons, List.not_mem_nil, or_false] at hv
      rcases hv with rfl | rfl <;> rfl) (k := 0) (wU_calm [0]) tU_own (r.w.mono fun e y h => ⟨h.1, h.2.1, [], by rw [List.append_nil, h.2.2]; rfl⟩) (by rfl) E (s := fun b => b) (fun i x hi => absurd (Hp.blk_lt hi) (Nat.not_lt_zero _))
    rw [e1] at this
    exact this
  · exact gAdd_ok _ _ _ _ _ _ _ hg hl m B w E hv
end Go.Proofs.YtbjgkhbhabdjgaaDoor
