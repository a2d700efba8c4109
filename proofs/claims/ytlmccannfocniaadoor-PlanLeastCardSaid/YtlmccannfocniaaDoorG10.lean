/-
  PlA, NumPl, PlB, PlC
-/
import Derived.Test.YtlmccannfocniaaDoorG09
import Init
namespace Go.Proofs.YtlmccannfocniaaDoor
open Go.KRun Go.RowKit
set_option maxRecDepth 100000
theorem ok19 : okLog [] := fun _ h => by cases h
/-! ### the table -/
def rdI : List Int := [4, 12, 2, 8, 3, 33, 5, 65, 7, 105, 11, 209, 13, 273]
def rdV : List Value := [.int .i64 4, .int .i64 12, .int .i64 2, .int .i64 8, .int .i64 3, .int .i64 33, .int .i64 5, .int .i64 65, .int .i64 7, .int .i64 105, .int .i64 11, .int .i64 209, .int .i64 13, .int .i64 273]
def rdT : TypeId := 3 * dead + (1048576 * 14 + 0)
def knR (w : World) : Prop := ∃ t z, w.heap[0]? = some (.cells rdV.toArray t z)
def eqI19 : List Value → List Int → Bool
  | [], [] => true
  | .int .i64 a :: r, b :: q => decide (a = b) && eqI19 r q
  | _, _ => false
theorem eqI19_is : ∀ {l : List Value} {q : List Int}, eqI19 l q = true → l = q.map fun z => Value.int .i64 z
  | [], [], _ => rfl
  | .int .i64 a :: r, b :: q, h => by
    unfold eqI19 at h
    rw [Bool.and_eq_true, decide_eq_true_eq] at h
    rw [List.map_cons, h.1, eqI19_is h.2]
def isRd : Option (List Value × TypeId) → Bool
  | some (cs, ty) => Nat.beq ty rdT && eqI19 cs rdI
  | none => false
def hasRd (h : Hp) : Bool := isRd (h.blk? 0) || isRd (h.blk? 1)
theorem isRd_is {o : Option (List Value × TypeId)} (h : isRd o = true) : o = some (rdV, rdT) := by
  unfold isRd at h
  split at h
  · rw [Bool.and_eq_true] at h
    rw [Nat.eq_of_beq_eq_true h.1, eqI19_is h.2]
    rfl
  · cases h
theorem hasRd_is {h : Hp} (ht : hasRd h = true) : ∃ b, h.blk? b = some (rdV, rdT) := by
  unfold hasRd at ht
  rw [Bool.or_eq_true] at ht
  rcases ht with ht | ht
  · exact ⟨0, isRd_is ht⟩
  · exact ⟨1, isRd_is ht⟩
theorem rd_still (m : Mp) : rdV.map (mv1 m) = rdV := rfl
theorem knR_of {m : Mp} {B : Nat} {h : Hp} {w : World} (E : Emb m B h w) (ht : hasRd h = true) : knR w := by
  obtain ⟨b, hb⟩ := hasRd_is ht
  obtain ⟨_, r, t, z, k2, k3⟩ := (E.abs b _ hb (by kernel_rfl)).1 (by kernel_rfl)
  have e1 : nbA rdT = 0 := by kernel_rfl
  have e2 : lnA rdT = 14 := by kernel_rfl
  simp only [rd_still, e1] at k2
  simp only [rd_still, e2] at k3
  have e3 : rdV.length = 14 := rfl
  have hr : r = [] := List.length_eq_zero_iff.1 (by omega)
  rw [hr, List.append_nil] at k2
  exact ⟨t, z, k2⟩
/-- what is known of a call where the table is -/
def AnsRdOk (f : Nat) (g : Ans) : Prop := ∀ vals s v s' lg, g vals s = some (v, s', lg) → okLog lg → ∀ w, knR w → Calls Tryd.prog f vals.toArray w fun e w' => e = .returned v ∧ Tidy w w'
def gTb (g : Ans) : AnsH := fun vals h s =>
  match hasRd h && vals.all (lt 0) with
  | true =>
    match g vals s with
    | some (v, s', lg) => match lt 0 v with | true => some (v, h, s', lg) | false => none
    | none => none
  | false => none
theorem gTb_ok {f : Nat} {g : Ans} (hg : AnsRdOk f g) : AnsHOk f (gTb g) := by
  intro vals h s v h' s' lg hr hl m B w E hv
  unfold gTb at hr
  split at hr
  · rename_i hc
    rw [Bool.and_eq_true] at hc
    split at hr
    · rename_i v1 s1 lg1 hgv
      split at hr
      · rename_i hv0
        cases hr
        have hst : ∀ y ∈ vals, lt 0 y = true := List.all_eq_true.1 hc.2
        have e : vals.map (mv m) = vals := (List.map_congr_left fun y hy => mv_still (hst y hy)).trans (List.map_id' _)
        rw [e]
        refine (hg _ _ _ _ _ hgv hl w (knR_of E hc.1)).mono fun e w' he => ?_
        obtain ⟨E', hb'⟩ := clean_emb E he.2
        exact ⟨m, by rw [he.1, mv_still hv0], ⟨Agree.refl _ _, E', hb', Nat.le_refl _, lt_mono (Nat.zero_le _) hv0⟩⟩
      · cases hr
    · cases hr
  · cases hr
def hR0 : Hp := ⟨1, [(rdV, rdT)]⟩
theorem blk19a {b : Nat} {x : List Value × TypeId} (h : hR0.blk? b = some x) : x = (rdV, rdT) := by
  have hb0 : b = 0 := by have : b < 1 := Hp.blk_lt h; omega
  subst hb0
  exact (Option.some.inj h).symm
theorem absRd {w : World} (hk : knR w) (m : Mp) : nbA rdT < w.heap.size ∧ absR w (rdV.map (mv1 m)) rdT := by
  obtain ⟨t, z, h⟩ := hk
  have e1 : nbA rdT = 0 := by kernel_rfl
  have e2 : lnA rdT = 14 := by kernel_rfl
  refine ⟨by rw [e1]; exact (Array.getElem?_eq_some_iff.1 h).1, [], t, z, ?_, .inr ?_⟩
  · rw [e1, rd_still, List.append_nil, h]
  · rw [e2]; rfl
theorem startR {w : World} (hk : knR w) : Emb (fun b => (b, 0)) w.heap.size hR0 w where
  len := rfl
  lies := fun b x hb hx => by rw [blk19a hb, show tomb rdT = true from by kernel_rfl] at hx; cases hx
  low := fun b x hb hx => by rw [blk19a hb, show ro rdT = true from by kernel_rfl] at hx; cases hx
  ros := fun b x hb hx => by rw [blk19a hb, show tomb rdT = true from by kernel_rfl] at hx; cases hx
  inj := fun b b' x x' hb _ hx => by rw [blk19a hb, show ro rdT = true from by kernel_rfl] at hx; cases hx
  wf := fun b x hb v hv => by
    rw [blk19a hb] at hv
    have : ∀ v ∈ rdV, lt1 1 v = true := List.all_eq_true.1 (by kernel_rfl)
    exact this v hv
  base := Nat.le_refl _
  ice := fun k h1 h2 => by omega
  abs := fun b x hb _ => by
    rw [blk19a hb]
    exact .of (by kernel_rfl) (absRd hk _)
theorem fitsRd {T : Tab} (hT : TabOk T) {n f : Nat} {vals : List Value} {s : List Dec} {v : Value} {cs : Log} (hF : Fits (reckonAt T hR0 n f vals s) v cs) (hcs : okLog cs) (hvals : (vals.all (lt 0)) = true) (hv : lt 0 v = true) {w : World} (hk : knR w) :
    Calls T.P f vals.toArray w fun e w' => e = .returned v ∧ Tidy w w' := fitsAt_still hT hF hcs hvals hv (startR hk)
/-! ### a radix of a length -/
/-- a length is a radix -/
def isR (k : Int) : Bool := decide (k = 4 ∨ k = 2 ∨ k = 3 ∨ k = 5 ∨ k = 7 ∨ k = 11 ∨ k = 13)
/-- by how much it may be wrong -/
def wrR (k : Int) : Int := if k = 4 then 12 else if k = 2 then 8 else k * (k + 8)
def fdV (k : Int) (d : Bool) : Value := match d with
  | true => .tuple #[.agg #[.int .i64 k, .int .i64 (wrR k)], .bool true]
  | false => .tuple #[.agg #[.int .i64 0, .int .i64 0], .bool false]
theorem fd0 : Fits (reckonAt (tabOf Tryd.prog extY conN true) hR0 100 39 [.int .i64 4] []) (fdV 4 true) [] := ⟨by kernel_rfl, by kernel_rfl, by kernel_rfl, by kernel_rfl⟩
theorem fd1 : Fits (reckonAt (tabOf Tryd.prog extY conN true) hR0 100 39 [.int .i64 2] []) (fdV 2 true) [] := ⟨by kernel_rfl, by kernel_rfl, by kernel_rfl, by kernel_rfl⟩
theorem fd2 : Fits (reckonAt (tabOf Tryd.prog extY conN true) hR0 100 39 [.int .i64 3] []) (fdV 3 true) [] := ⟨by kernel_rfl, by kernel_rfl, by kernel_rfl, by kernel_rfl⟩
theorem fd3 : Fits (reckonAt (tabOf Tryd.prog extY conN true) hR0 100 39 [.int .i64 5] []) (fdV 5 true) [] := ⟨by kernel_rfl, by kernel_rfl, by kernel_rfl, by kernel_rfl⟩
theorem fd4 : Fits (reckonAt (tabOf Tryd.prog extY conN true) hR0 100 39 [.int .i64 7] []) (fdV 7 true) [] := ⟨by kernel_rfl, by kernel_rfl, by kernel_rfl, by kernel_rfl⟩
theorem fd5 : Fits (reckonAt (tabOf Tryd.prog extY conN true) hR0 100 39 [.int .i64 11] []) (fdV 11 true) [] := ⟨by kernel_rfl, by kernel_rfl, by kernel_rfl, by kernel_rfl⟩
theorem fd6 : Fits (reckonAt (tabOf Tryd.prog extY conN true) hR0 100 39 [.int .i64 13] []) (fdV 13 true) [] := ⟨by kernel_rfl, by kernel_rfl, by kernel_rfl, by kernel_rfl⟩
theorem fdN (k : Int) : Fits (reckonAt (tabOf Tryd.prog extY conN true) hR0 100 39 [.int .i64 k] [cmp true, cmp false, cmp true, cmp false, cmp true, cmp false, cmp true, cmp false, cmp true, cmp false, cmp true, cmp false, cmp true, cmp false, cmp false]) (fdV k false) [(false, false), (13 == k, false), (true, true), (11 == k, false), (true, true), (7 == k, false), (true, true), (5 == k, false), (true, true), (3 == k, false), (true, true), (2 == k, false), (true, true), (4 == k, false), (true, true)] := ⟨by kernel_rfl, by kernel_rfl, by kernel_rfl, by kernel_rfl⟩
theorem find_calls (k : Int) (d : Bool) (hd : isR k = d) (w : World) (hk : knR w) : Calls Tryd.prog 39 #[.int .i64 k] w fun e w' => e = .returned (fdV k d) ∧ Tidy w w' := by
  have hv : ([Value.int .i64 k].all (lt 0)) = true := rfl
  cases d with
  | true =>
    unfold isR at hd
    rcases of_decide_eq_true hd with rfl | rfl | rfl | rfl | rfl | rfl | rfl
    · exact fitsRd (tabY_ok conN_ok) fd0 ok19 hv (by rfl) hk
    · exact fitsRd (tabY_ok conN_ok) fd1 ok19 hv (by rfl) hk
    · exact fitsRd (tabY_ok conN_ok) fd2 ok19 hv (by rfl) hk
    · exact fitsRd (tabY_ok conN_ok) fd3 ok19 hv (by rfl) hk
    · exact fitsRd (tabY_ok conN_ok) fd4 ok19 hv (by rfl) hk
    · exact fitsRd (tabY_ok conN_ok) fd5 ok19 hv (by rfl) hk
    · exact fitsRd (tabY_ok conN_ok) fd6 ok19 hv (by rfl) hk
  | false =>
    have h := of_decide_eq_false hd
    exact fitsRd (tabY_ok conN_ok) (fdN k) (okTwo rfl (okTwo (beq_eq_false_iff_ne.2 (by omega)) (okTwo rfl (okTwo (beq_eq_false_iff_ne.2 (by omega)) (okTwo rfl (okTwo (beq_eq_false_iff_ne.2 (by omega)) (okTwo rfl (okTwo (beq_eq_false_iff_ne.2 (by omega)) (okTwo rfl (okTwo (beq_eq_false_iff_ne.2 (by omega)) (okTwo rfl (okTwo (beq_eq_false_iff_ne.2 (by omega)) (okTwo rfl (okTwo (beq_eq_false_iff_ne.2 (by omega)) (okOne rfl))))))))))))))) hv (by rfl) hk
def gFd : Ans := fun vals s => match vals, s with
  | [.int .i64 k], .inr (.inr (.inr (.inl d))) :: s' => some (fdV k d, s', [(isR k, d)])
  | _, _ => none
theorem gFd_ok : AnsRdOk 39 gFd := by
  intro vals s v s' lg h hl w hk
  unfold gFd at h
  split at h
  · rename_i k d s2
    cases h
    exact find_calls k d (hl _ (List.mem_singleton.2 rfl)) w hk
  · cases h
def hcFd : Hc := altH 39 (gTb gFd) hcN
theorem hcFd_ok : HcOk hcFd := altH_ok Tryd.func39 rfl (gTb_ok gFd_ok) hcN_ok
end Go.Proofs.YtlmccannfocniaaDoor
namespace Go.Pl
set_option maxRecDepth 100000
/-- one radix, as often as it goes -/
def cutR (r m : Nat) : List Nat := if _h : 2 ≤ r ∧ 0 < m ∧ m % r = 0 then r :: cutR r (m / r) else []
termination_by m
decreasing_by exact Nat.div_lt_self _h.2.1 _h.1
/-- what is left -/
def lefR (r m : Nat) : Nat := if _h : 2 ≤ r ∧ 0 < m ∧ m % r = 0 then lefR r (m / r) else m
termination_by m
decreasing_by exact Nat.div_lt_self _h.2.1 _h.1
theorem cut_go {r m : Nat} (hr : 2 ≤ r) (hm : 0 < m) (h : m % r = 0) : cutR r m = r :: cutR r (m / r) ∧ lefR r m = lefR r (m / r) := by
  constructor
  · rw [cutR, dif_pos ⟨hr, hm, h⟩]
  · rw [lefR, dif_pos ⟨hr, hm, h⟩]
theorem cut_stop {r m : Nat} (h : m % r ≠ 0) : cutR r m = [] ∧ lefR r m = m := by
  constructor
  · rw [cutR, dif_neg (fun k => h k.2.2)]
  · rw [lefR, dif_neg (fun k => h k.2.2)]
theorem div_pos' {r m : Nat} (hm : 0 < m) (h : m % r = 0) : 0 < m / r := by
  have := Nat.div_add_mod m r
  rcases Nat.eq_zero_or_pos (m / r) with e | e
  · rw [e, h] at this; simp at this; omega
  · exact e
/-- a rule for what is told of cutR and lefR, by going -/
theorem cut_ind {r : Nat} (hr : 2 ≤ r) {P : Nat → List Nat → Nat → Prop} (stop : ∀ m, 0 < m → m % r ≠ 0 → P m [] m) (go : ∀ m, 0 < m → m % r = 0 → P (m / r) (cutR r (m / r)) (lefR r (m / r)) → P m (r :: cutR r (m / r)) (lefR r (m / r))) (m : Nat) (hm : 0 < m) : P m (cutR r m) (lefR r m) := by
  induction m using Nat.strongRecOn with
  | ind m ih =>
    by_cases h : m % r = 0
    · obtain ⟨e1, e2⟩ := cut_go hr hm h
      rw [e1, e2]
      exact go m hm h (ih _ (Nat.div_lt_self hm hr) (div_pos' hm h))
    · obtain ⟨e1, e2⟩ := cut_stop h
      rw [e1, e2]
      exact stop m hm h
def prodN : List Nat → Nat | [] => 1 | a :: l => a * prodN l
theorem prodN_app (l k : List Nat) : prodN (l ++ k) = prodN l * prodN k := by
  induction l with
  | nil => simp [prodN]
  | cons a l ih => simp [prodN, ih, Nat.mul_assoc]
theorem cut_prod {r m : Nat} (hr : 2 ≤ r) (hm : 0 < m) : prodN (cutR r m) * lefR r m = m :=
  cut_ind (P := fun m l k => prodN l * k = m) hr (fun m _ _ => by simp [prodN]) (fun m _ h ih => by
    show r * prodN _ * _ = m
    rw [Nat.mul_assoc, ih]
    have := Nat.div_add_mod m r
    omega) m hm
theorem lef_mod {r m : Nat} (hr : 2 ≤ r) (hm : 0 < m) : lefR r m % r ≠ 0 :=
  cut_ind (P := fun _ _ k => k % r ≠ 0) hr (fun _ _ h => h) (fun _ _ _ ih => ih) m hm
theorem lef_pos {r m : Nat} (hr : 2 ≤ r) (hm : 0 < m) : 0 < lefR r m := by
  rcases Nat.eq_zero_or_pos (lefR r m) with e | e
  · have := cut_prod hr hm; rw [e] at this; omega
  · exact e
theorem lef_dvd {r m : Nat} (hr : 2 ≤ r) (hm : 0 < m) : lefR r m ∣ m := ⟨prodN (cutR r m), by rw [Nat.mul_comm]; exact (cut_prod hr hm).symm⟩
theorem cut_mem {r m : Nat} (hr : 2 ≤ r) (hm : 0 < m) : ∀ x ∈ cutR r m, x = r :=
  cut_ind (P := fun _ l _ => ∀ x ∈ l, x = r) hr (fun _ _ _ _ h => nomatch h) (fun _ _ _ ih x h => by
    rcases List.mem_cons.1 h with e | e
    · exact e
    · exact ih x e) m hm
/-- all the radices of a row of them -/
def parL : List Nat → Nat → List Nat | [], _ => [] | r :: rs, m => cutR r m ++ parL rs (lefR r m)
def parW : List Nat → Nat → Nat | [], m => m | r :: rs, m => parW rs (lefR r m)
theorem par_prod : ∀ (rs : List Nat), (∀ r ∈ rs, 2 ≤ r) → ∀ m, 0 < m → prodN (parL rs m) * parW rs m = m
  | [], _, m, _ => by simp [parL, parW, prodN]
  | r :: rs, h, m, hm => by
    have hr := h r (List.mem_cons_self ..)
    have ih := par_prod rs (fun x hx => h x (List.mem_cons_of_mem _ hx)) (lefR r m) (lef_pos hr hm)
    show prodN (cutR r m ++ _) * parW rs (lefR r m) = m
    rw [prodN_app, Nat.mul_assoc, ih, cut_prod hr hm]
theorem parW_pos : ∀ (rs : List Nat), (∀ r ∈ rs, 2 ≤ r) → ∀ m, 0 < m → 0 < parW rs m
  | [], _, _, hm => hm
  | r :: rs, h, _, hm => parW_pos rs (fun x hx => h x (List.mem_cons_of_mem _ hx)) _ (lef_pos (h r (List.mem_cons_self ..)) hm)
theorem parW_dvd : ∀ (rs : List Nat), (∀ r ∈ rs, 2 ≤ r) → ∀ m, 0 < m → parW rs m ∣ m
  | [], _, _, _ => Nat.dvd_refl _
  | r :: rs, h, _, hm => Nat.dvd_trans (parW_dvd rs (fun x hx => h x (List.mem_cons_of_mem _ hx)) _ (lef_pos (h r (List.mem_cons_self ..)) hm)) (lef_dvd (h r (List.mem_cons_self ..)) hm)
theorem parW_mod : ∀ (rs : List Nat), (∀ r ∈ rs, 2 ≤ r) → ∀ m, 0 < m → ∀ r ∈ rs, parW rs m % r ≠ 0
  | [], _, _, _, _, hr => nomatch hr
  | r :: rs, h, m, hm, q, hq => by
    have hr := h r (List.mem_cons_self ..)
    have h' : ∀ x ∈ rs, 2 ≤ x := fun x hx => h x (List.mem_cons_of_mem _ hx)
    rcases List.mem_cons.1 hq with e | e
    · subst e
      intro k
      have d := parW_dvd rs h' _ (lef_pos hr hm)
      exact lef_mod hr hm (Nat.mod_eq_zero_of_dvd (Nat.dvd_trans (Nat.dvd_of_mod_eq_zero k) d))
    · exact parW_mod rs h' _ (lef_pos hr hm) q e
theorem parL_mem : ∀ (rs : List Nat), (∀ r ∈ rs, 2 ≤ r) → ∀ m, 0 < m → ∀ x ∈ parL rs m, x ∈ rs
  | [], _, _, _, _, hx => nomatch hx
  | r :: rs, h, m, hm, x, hx => by
    have hr := h r (List.mem_cons_self ..)
    rcases List.mem_append.1 hx with e | e
    · rw [cut_mem hr hm x e]; exact List.mem_cons_self ..
    · exact List.mem_cons_of_mem _ (parL_mem rs (fun x hx => h x (List.mem_cons_of_mem _ hx)) _ (lef_pos hr hm) x e)
def rad7 : List Nat := [4, 2, 3, 5, 7, 11, 13]
def plL (n : Nat) : List Nat := parL rad7 n
def plW (n : Nat) : Nat := parW rad7 n
theorem rad7_two : ∀ r ∈ rad7, 2 ≤ r := by decide
theorem pl_prod {n : Nat} (h : 0 < n) : prodN (plL n) * plW n = n := par_prod rad7 rad7_two n h
theorem plW_pos {n : Nat} (h : 0 < n) : 0 < plW n := parW_pos rad7 rad7_two n h
theorem plW_one {n : Nat} (h : 0 < n) (hw : plW n < 17) : plW n = 1 := by
  have hp := plW_pos h
  have hm : ∀ r ∈ rad7, plW n % r ≠ 0 := parW_mod rad7 rad7_two n h
  have h2 := hm 2 (by decide)
  have h3 := hm 3 (by decide)
  have h5 := hm 5 (by decide)
  have h7 := hm 7 (by decide)
  have h11 := hm 11 (by decide)
  have h13 := hm 13 (by decide)
  generalize plW n = w at *
  have : w = 1 ∨ w = 2 ∨ w = 3 ∨ w = 4 ∨ w = 5 ∨ w = 6 ∨ w = 7 ∨ w = 8 ∨ w = 9 ∨ w = 10 ∨ w = 11 ∨ w = 12 ∨ w = 13 ∨ w = 14 ∨ w = 15 ∨ w = 16 := by omega
  rcases this with e | e | e | e | e | e | e | e | e | e | e | e | e | e | e | e <;> subst e <;> simp_all
/-- by 4 and 2, or by 2 alone: the same is left -/
theorem lef_two {m : Nat} (hm : 0 < m) : lefR 2 (lefR 4 m) = lefR 2 m :=
  cut_ind (r := 4) (P := fun m _ k => lefR 2 k = lefR 2 m) (by omega) (fun _ _ _ => rfl) (fun m hm h ih => by
    rw [ih]
    have a : m % 2 = 0 := by omega
    have b : (m / 2) % 2 = 0 := by omega
    rw [(cut_go (r := 2) (by omega) hm a).2, (cut_go (r := 2) (by omega) (by omega) b).2, Nat.div_div_eq_div_mul]) m hm
theorem plW_six {n : Nat} (h : 0 < n) : parW [2, 3, 5, 7, 11, 13] n = plW n := by
  show parW [3, 5, 7, 11, 13] (lefR 2 n) = parW [3, 5, 7, 11, 13] (lefR 2 (lefR 4 n))
  rw [lef_two h]
theorem cut_len1 {m : Nat} (hm : 0 < m) (h : m % 4 ≠ 0) : (cutR 2 m).length ≤ 1 := by
  by_cases a : m % 2 = 0
  · rw [(cut_go (by omega) hm a).1, (cut_stop (r := 2) (m := m / 2) (by omega)).1]; simp
  · rw [(cut_stop a).1]; simp
/-- the least power of two that is no less than a number -/
def padN : Nat → Nat → Nat → Nat | 0, p, _ => p | f + 1, p, t => if p < t then padN f (2 * p) t else p
theorem padN_go {f p t : Nat} (h : p < t) : padN (f + 1) p t = padN f (2 * p) t := by rw [padN, if_pos h]
theorem padN_stop {f p t : Nat} (h : ¬ p < t) : padN f p t = p := by
  cases f with
  | zero => rfl
  | succ f => rw [padN, if_neg h]
/-- is a radix out of order behind another one? -/
def badR (last r : Nat) : Bool := r == 4 && decide (4 < last) || (!(r == 4) && (!(last == 4) && decide (r < last)) || r == 4 && (!(last == 0) && !(last == 4)))
def ordL : Nat → List Nat → Bool | _, [] => true | last, r :: l => !badR last r && ordL r l
theorem ord_app {r : Nat} (hr : r ≠ 4) {k : List Nat} (hk : ∀ z, z = 4 ∨ z ≤ r → ordL z k = true) : ∀ (l : List Nat), (∀ x ∈ l, x = r) → ∀ z, z = 4 ∨ z ≤ r → ordL z (l ++ k) = true
  | [], _, z, hz => hk z hz
  | a :: l, h, z, hz => by
    have e : a = r := h a (List.mem_cons_self ..)
    subst e
    have ih := ord_app hr hk l (fun x hx => h x (List.mem_cons_of_mem _ hx)) a (.inr (Nat.le_refl _))
    show (!badR z a && ordL a (l ++ k)) = true
    rw [ih, Bool.and_true]
    unfold badR
    rcases hz with e | e
    · subst e; simp
    · simp [hr]; omega
/-- increasing radices, none of them 4 -/
def incR : Nat → List Nat → Prop | _, [] => True | z, r :: rs => z ≤ r ∧ r ≠ 4 ∧ 2 ≤ r ∧ incR r rs
theorem ord_par : ∀ (rs : List Nat) (z : Nat), incR z rs → ∀ m, 0 < m → ∀ y, y = 4 ∨ y ≤ z → ordL y (parL rs m) = true
  | [], _, _, _, _, _, _ => rfl
  | r :: rs, z, h, m, hm, y, hy => by
    have hy' : y = 4 ∨ y ≤ r := by have := h.1; omega
    exact ord_app h.2.1 (fun w hw => ord_par rs r h.2.2.2 _ (lef_pos h.2.2.1 hm) w hw) _ (cut_mem h.2.2.1 hm) y hy'
theorem ord_four {k : List Nat} (hk : ∀ z, z = 4 ∨ z = 0 → ordL z k = true) : ∀ (l : List Nat), (∀ x ∈ l, x = 4) → ∀ z, z = 4 ∨ z = 0 → ordL z (l ++ k) = true
  | [], _, z, hz => hk z hz
  | a :: l, h, z, hz => by
    have e : a = 4 := h a (List.mem_cons_self ..)
    subst e
    have ih := ord_four hk l (fun x hx => h x (List.mem_cons_of_mem _ hx)) 4 (.inl rfl)
    show (!badR z 4 && ordL 4 (l ++ k)) = true
    rw [ih, Bool.and_true]
    rcases hz with e | e <;> subst e <;> decide
theorem pl_ord {n : Nat} (h : 0 < n) : ordL 0 (plL n) = true := by
  refine ord_four (fun z hz => ?_) _ (cut_mem (by omega) h) 0 (.inr rfl)
  exact ord_par [2, 3, 5, 7, 11, 13] 0 (by simp [incR]) _ (lef_pos (by omega) h) z (by omega)
def twoN (l : List Nat) : Nat := l.count 2
theorem two_not {r m : Nat} (hr : 2 ≤ r) (hm : 0 < m) (h : r ≠ 2) : twoN (cutR r m) = 0 := List.count_eq_zero.2 fun hx => h (cut_mem hr hm 2 hx).symm
theorem pl_two {n : Nat} (h : 0 < n) : twoN (plL n) ≤ 1 := by
  have h4 : 0 < lefR 4 n := lef_pos (by omega) h
  have h2 : 0 < lefR 2 (lefR 4 n) := lef_pos (by omega) h4
  have e : plL n = cutR 4 n ++ (cutR 2 (lefR 4 n) ++ parL [3, 5, 7, 11, 13] (lefR 2 (lefR 4 n))) := rfl
  have a : twoN (cutR 4 n) = 0 := two_not (by omega) h (by omega)
  have b : twoN (cutR 2 (lefR 4 n)) ≤ 1 := Nat.le_trans (List.count_le_length ..) (cut_len1 h4 (lef_mod (by omega) h))
  have c : twoN (parL [3, 5, 7, 11, 13] (lefR 2 (lefR 4 n))) = 0 := List.count_eq_zero.2 fun hx => by
    have := parL_mem [3, 5, 7, 11, 13] (by decide) _ h2 2 hx
    exact absurd this (by decide)
  unfold twoN at a b c ⊢
  rw [e, List.count_append, List.count_append]
  omega
end Go.Pl
namespace Go.Proofs.YtlmccannfocniaaDoor
open Go.KRun Go.RowKit
set_option maxRecDepth 100000
def tIn : TypeId := 3
def tIR : TypeId := 3 + dead
theorem tIR_ro : ro tIR = true := by kernel_rfl
theorem tIR_ab : ab tIR = false := by kernel_rfl
theorem tIR_rt : rt tIR = tIn := by kernel_rfl
theorem tIR_tomb : tomb tIR = false := by kernel_rfl
theorem dead2_ro : ro (2 * dead) = true := by kernel_rfl
theorem dead2_ab : ab (2 * dead) = false := by kernel_rfl
theorem dead2_tomb : tomb (2 * dead) = true := by kernel_rfl
def isI : Value → Bool
  | .int .i64 _ => true
  | _ => false
def intO : Value → Int
  | .int _ n => n
  | _ => 0
theorem isI_is {v : Value} (h : isI v = true) : v = .int .i64 (intO v) := by
  unfold isI at h
  split at h
  · rfl
  · cases h
def cutW (l : List Value) (o n : Nat) : List Value := (l.drop o).take n
def cutO (l : List Value) (o n : Nat) : List Int := (cutW l o n).map intO
/-- the numbers of a row or of nothing -/
def rowO (h : Hp) (p : Option Addr) (n : Nat) : List Int :=
  match p with
  | none => []
  | some a =>
    match h.blk? a.block with
    | some x => cutO x.1 a.off n
    | none => []
def rowCO (ty : TypeId) (l : List Value) (o n : Nat) : Bool := !(tomb ty) && Nat.beq (rt ty) tIn && Nat.ble (o + n) l.length && Nat.blt n 4611686018427387904 && (cutW l o n).all isI && l.all still
/-- it is one -/
def rowIP (h : Hp) (p : Option Addr) (n : Nat) : Bool :=
  match p with
  | none => Nat.beq n 0
  | some a =>
    match a.spot, h.blk? a.block with
    | none, some x => rowCO x.2 x.1 a.off n
    | _, _ => false
/-- a row in block k of a small memory -/
structure RowAt (k : Nat) (x : List Value × TypeId) (p : Option Addr) (n : Nat) (L : List Int) : Prop where
  len : L.length = n
  big : n < 4611686018427387904
  pos : (p = none ∧ n = 0) ∨ ∃ o, p = some ⟨k, o, none⟩ ∧ x.2 = tIR ∧ ∀ i, i < n → x.1[o + i * 1]? = some (.int .i64 (L.getD i 0))
  st : ∀ v ∈ x.1, still v = true
  ros : ro x.2 = true ∧ ab x.2 = false
  fit : ∀ o, p = some ⟨k, o, none⟩ → o + n ≤ x.1.length
theorem RowAt.lt {k : Nat} {x : List Value × TypeId} {p : Option Addr} {n : Nat} {L : List Int} (h : RowAt k x p n L) (c : Nat) {j : Nat} (hj : k < j) : KRun.lt j (.slice p n c) = true := by
  rcases h.pos with ⟨rfl, _⟩ | ⟨o, rfl, _⟩
  · rfl
  · exact blt_iff.2 hj
theorem rowCO_of {ty : TypeId} {l : List Value} {o n : Nat} (h : rowCO ty l o n = true) : o + n ≤ l.length ∧ (cutO l o n).length = n ∧ n < 4611686018427387904 ∧ (∀ i, i < n → l[o + i * 1]? = some (.int .i64 ((cutO l o n).getD i 0))) ∧ tomb ty = false ∧ rt ty = tIn ∧ ∀ v ∈ l, still v = true := by
  unfold rowCO at h
  simp only [Bool.and_eq_true, Bool.not_eq_true'] at h
  obtain ⟨⟨⟨⟨⟨h1, h2⟩, h3⟩, h4⟩, h5⟩, h6⟩ := h
  have h3 := Nat.le_of_ble_eq_true h3
  have hlen : (cutO l o n).length = n := by unfold cutO cutW; simp; omega
  refine ⟨h3, hlen, blt_iff.1 h4, fun i hi => ?_, h1, Nat.eq_of_beq_eq_true h2, List.all_eq_true.1 h6⟩
  have hc : (cutW l o n)[i]? = l[o + i]? := by
    unfold cutW
    rw [List.getElem?_take, if_pos hi, List.getElem?_drop]
  have hil : o + i < l.length := by omega
  have hm : l[o + i] ∈ cutW l o n := List.mem_of_getElem? (i := i) (by rw [hc, List.getElem?_eq_getElem hil])
  have e := isI_is (List.all_eq_true.1 h5 _ hm)
  have e2 : (cutO l o n)[i]? = some (intO l[o + i]) := by
    unfold cutO
    rw [List.getElem?_map, hc, List.getElem?_eq_getElem hil]
    rfl
  rw [Nat.mul_one, List.getElem?_eq_getElem hil, List.getD_eq_getElem?_getD, e2, Option.getD_some]
  exact congrArg some e
/-- a caller's row, in a small memory behind the table -/
theorem row_in {m : Mp} {B : Nat} {h : Hp} {w : World} (E : Emb m B h w) {p : Option Addr} {n : Nat} (hr : rowIP h p n = true) (ht : hasRd h = true) :
    ∃ (x : List Value × TypeId) (p' : Option Addr) (s : Nat → Nat), Emb (fun i => m (s i)) w.heap.size ⟨2, [x, (rdV, rdT)]⟩ w ∧ RowAt 1 x p' n (rowO h p n) ∧ ∀ c, rn s (.slice p' n c) = .slice p n c := by
  obtain ⟨bt, hbt⟩ := hasRd_is ht
  have rdst : ∀ v ∈ rdV, still v = true := List.all_eq_true.1 (by kernel_rfl)
  have blk : ∀ (x : List Value × TypeId) (i : Nat) (z : List Value × TypeId), (⟨2, [x, (rdV, rdT)]⟩ : Hp).blk? i = some z → (i = 0 ∧ z = (rdV, rdT)) ∨ (i = 1 ∧ z = x) := fun x i z hz => blkTwo hz
  unfold rowIP at hr
  split at hr
  · have e := Nat.eq_of_beq_eq_true hr
    subst e
    refine ⟨([], 2 * dead), none, fun _ => bt, ?_, ⟨rfl, by omega, .inl ⟨rfl, rfl⟩, (fun v hv => by cases hv), ⟨dead2_ro, dead2_ab⟩, fun _ h => by cases h⟩, fun _ => rfl⟩
    refine E.smallB rfl (fun b y hb => ?_) (fun b y hb hy => ?_) (fun b y hb hy => ?_) <;> rcases blk _ b y hb with ⟨rfl, rfl⟩ | ⟨rfl, rfl⟩
    · exact ⟨by kernel_rfl, rdst⟩
    · exact ⟨dead2_ro, fun v hv => by cases hv⟩
    · rw [show tomb rdT = true from by kernel_rfl] at hy; cases hy
    · rw [dead2_tomb] at hy; cases hy
    · exact ⟨by kernel_rfl, hbt⟩
    · rw [dead2_ab] at hy; cases hy
  · rename_i a
    split at hr
    · rename_i x hs hx
      obtain ⟨b, o, sp⟩ := a
      simp only at hs hx
      subst hs
      obtain ⟨h0, h1, h2, h3, h4, h5, h6⟩ := rowCO_of hr
      have er : rowO h (some ⟨b, o, none⟩) n = cutO x.1 o n := by simp [rowO, hx]
      refine ⟨(x.1, tIR), some ⟨1, o, none⟩, fun i => if i = 0 then bt else b, ?_, ⟨by rw [er]; exact h1, h2, .inr ⟨o, rfl, rfl, by rw [er]; exact h3⟩, h6, ⟨tIR_ro, tIR_ab⟩, fun o' ho => by cases ho; exact h0⟩, fun _ => rfl⟩
      refine E.smallB rfl (fun b y hb => ?_) (fun b y hb hy => ?_) (fun b y hb hy => ?_) <;> rcases blk _ b y hb with ⟨rfl, rfl⟩ | ⟨rfl, rfl⟩
      · exact ⟨by kernel_rfl, rdst⟩
      · exact ⟨tIR_ro, h6⟩
      · rw [show tomb rdT = true from by kernel_rfl] at hy; cases hy
      · exact ⟨x, [], hx, h4, by rw [h5]; exact tIR_rt.symm, by simp⟩
      · exact ⟨by kernel_rfl, hbt⟩
      · rw [tIR_ab] at hy; cases hy
    · cases hr
end Go.Proofs.YtlmccannfocniaaDoor
namespace Go.Proofs.YtlmccannfocniaaDoor
open Go.KRun Go.RowKit Go.Pl
set_option maxRecDepth 100000
/-- the product of radices, 0 where one is none or where it is too great -/
def prG : Int → List Int → Int
  | k, [] => k
  | k, r :: l => if isR r = true then (if k > Int.tdiv 16777216 r then 0 else prG (k * r) l) else 0
theorem isR_is {r : Int} (h : isR r = true) : r = 4 ∨ r = 2 ∨ r = 3 ∨ r = 5 ∨ r = 7 ∨ r = 11 ∨ r = 13 := by unfold isR at h; exact of_decide_eq_true h
theorem cellIs_of {l : List Value} {k : Nat} {r : Int} (h : l[k]? = some (.int .i64 r)) : cellIs l[k]? (.int .i64 r) = true := by rw [h]; simp [cellIs]
theorem drop_cons {L : List Int} {i : Nat} (h : i < L.length) : L.drop i = L.getD i 0 :: L.drop (i + 1) := by
  rw [List.drop_eq_getElem_cons h]
  simp [List.getD, List.getElem?_eq_getElem h]
abbrev hTR (x : List Value × TypeId) : Hp := ⟨2, [x, (rdV, rdT)]⟩
abbrev hTR3 (y x : List Value × TypeId) : Hp := ⟨3, [y, x, (rdV, rdT)]⟩
theorem T19_ok : TabOk (tabH Tryd.prog extY conN hcFd) := tabH_ok conN_ok hcFd_ok
def pdR2 (F : Func) : Code := cFst (cFst (cSnd (cSnd (cBody F))))
def pdLp (F : Func) : Code := cIn (cIn (cSnd (cFst (cSnd (cSnd (cBody F))))))
def pdEn (F : Func) : Code := cSnd (cSnd (cSnd (cBody F)))
theorem pd_body : Tryd.f38.body = some (.seq (cFst (cBody Tryd.f38)) (.seq (cFst (cSnd (cBody Tryd.f38))) (.seq (.seq (pdR2 Tryd.f38) (.block 0 (.loop (pdLp Tryd.f38)))) (pdEn Tryd.f38)))) := by kernel_rfl
abbrev pdF (p : Option Addr) (n c : Nat) (k : Int) (j4 j5 j6 j7 : Value) (i : Int) : List Value := [.slice p n c, undef, .int .i64 0, .int .i64 k, j4, j5, j6, j7, .slice p n c, .int .i64 n, .int .i64 i]
theorem pd_a (v : Option Addr) (n c : Nat) (h : Hp) : GoesT (evC (tabH Tryd.prog extY conN hcFd) 100 false (cFst (cBody Tryd.f38)) ([.slice v n c] ++ List.replicate 31 undef, h, []) ⟨[], [], []⟩) 3 29 none [.slice v n c, undef, .int .i64 0] h [] := ⟨by kernel_rfl, by kernel_rfl, by kernel_rfl⟩
theorem pd_b (v : Option Addr) (n c : Nat) (h : Hp) (g : Nat → Value) : GoesT (evC (tabH Tryd.prog extY conN hcFd) 100 false (cFst (cSnd (cBody Tryd.f38))) ([.slice v n c, undef, .int .i64 0] ++ tl 29 g, h, []) ⟨[], [], []⟩) 4 28 none [.slice v n c, undef, .int .i64 0, .int .i64 1] h [] := ⟨by kernel_rfl, by kernel_rfl, by kernel_rfl⟩
theorem pd_c (v : Option Addr) (n c : Nat) (h : Hp) (g : Nat → Value) : GoesT (evC (tabH Tryd.prog extY conN hcFd) 100 false (pdR2 Tryd.f38) ([.slice v n c, undef, .int .i64 0, .int .i64 1] ++ tl 28 g, h, []) ⟨[], [], []⟩) 11 21 none ([.slice v n c, undef, .int .i64 0, .int .i64 1, g 0, g 1, g 2, g 3, .slice v n c, .int .i64 n, .int .i64 0]) h [] := ⟨by kernel_rfl, by kernel_rfl, by kernel_rfl⟩
theorem pd_go (o n c : Nat) (k r i q : Int) (l : List Value) (j4 j5 j6 j7 : Value) (g : Nat → Value) : GoesT (evC (tabH Tryd.prog extY conN hcFd) 100 false (pdLp Tryd.f38) (pdF (some ⟨1, o, none⟩) n c k j4 j5 j6 j7 i ++ tl 21 g, hTR (l, tIR), [cmp true, at_, val (.int .i64 r), cmp true, num q, cmp false]) ⟨[], [], []⟩) 11 21 none (pdF (some ⟨1, o, none⟩) n c (IntKind.i64.wrap (k * r)) j4 (.int .i64 r) (.pointer (some ⟨2, 0, none⟩)) (.bool true) (IntKind.i64.wrap (i + 1))) (hTR3 ([.int .i64 r, .int .i64 (wrR r)], 64) (l, tIR)) [(decide (k > q), false), (decide (r = 0), false), (decide (IntKind.i64.wrap (Int.tdiv 16777216 r) = q), true), (isR r, true), (cellIs (l[o + i.toNat * 1]?) (.int .i64 r), true), (decide (0 ≤ i ∧ i < n), true), (decide (i < n), true)] := ⟨by kernel_rfl, by kernel_rfl, by kernel_rfl⟩
theorem pd_big (o n c : Nat) (k r i q : Int) (l : List Value) (j4 j5 j6 j7 : Value) (g : Nat → Value) : GoesT (evC (tabH Tryd.prog extY conN hcFd) 100 false (pdLp Tryd.f38) (pdF (some ⟨1, o, none⟩) n c k j4 j5 j6 j7 i ++ tl 21 g, hTR (l, tIR), [cmp true, at_, val (.int .i64 r), cmp true, num q, cmp true]) ⟨[], [], []⟩) 3 29 (some none) [.slice (some ⟨1, o, none⟩) n c, undef, .int .i64 0] (hTR3 ([.int .i64 r, .int .i64 (wrR r)], 64) (l, tIR)) [(decide (k > q), true), (decide (r = 0), false), (decide (IntKind.i64.wrap (Int.tdiv 16777216 r) = q), true), (isR r, true), (cellIs (l[o + i.toNat * 1]?) (.int .i64 r), true), (decide (0 ≤ i ∧ i < n), true), (decide (i < n), true)] := ⟨by kernel_rfl, by kernel_rfl, by kernel_rfl⟩
theorem pd_bad (o n c : Nat) (k r i : Int) (l : List Value) (j4 j5 j6 j7 : Value) (g : Nat → Value) : GoesT (evC (tabH Tryd.prog extY conN hcFd) 100 false (pdLp Tryd.f38) (pdF (some ⟨1, o, none⟩) n c k j4 j5 j6 j7 i ++ tl 21 g, hTR (l, tIR), [cmp true, at_, val (.int .i64 r), cmp false]) ⟨[], [], []⟩) 3 29 (some none) [.slice (some ⟨1, o, none⟩) n c, undef, .int .i64 0] (hTR3 ([.int .i64 0, .int .i64 0], 64) (l, tIR)) [(isR r, false), (cellIs (l[o + i.toNat * 1]?) (.int .i64 r), true), (decide (0 ≤ i ∧ i < n), true), (decide (i < n), true)] := ⟨by kernel_rfl, by kernel_rfl, by kernel_rfl⟩
theorem pd_out (p : Option Addr) (n c : Nat) (k i : Int) (h : Hp) (j4 j5 j6 j7 : Value) (g : Nat → Value) : GoesT (evC (tabH Tryd.prog extY conN hcFd) 100 false (pdLp Tryd.f38) (pdF p n c k j4 j5 j6 j7 i ++ tl 21 g, h, [cmp false]) ⟨[], [], []⟩) 11 21 (some (some 0)) (pdF p n c k j4 j5 j6 j7 i) h [(decide (i < n), false)] := ⟨by kernel_rfl, by kernel_rfl, by kernel_rfl⟩
theorem pd_end (p : Option Addr) (n c : Nat) (k i : Int) (h : Hp) (j4 j5 j6 j7 : Value) (g : Nat → Value) : GoesT (evC (tabH Tryd.prog extY conN hcFd) 100 false (pdEn Tryd.f38) (pdF p n c k j4 j5 j6 j7 i ++ tl 21 g, h, []) ⟨[], [], []⟩) 3 29 (some none) [.slice p n c, undef, .int .i64 k] h [] := ⟨by kernel_rfl, by kernel_rfl, by kernel_rfl⟩
theorem tdiv_one {r d : Int} (e : Int.tdiv 16777216 r = d) (w : IntKind.i64.wrap d = d) (r0 : 0 < r) (hd : d * r ≤ 16777216) : IntKind.i64.wrap (Int.tdiv 16777216 r) = Int.tdiv 16777216 r ∧ ∀ k : Int, 0 < k → k ≤ Int.tdiv 16777216 r → 0 < k * r ∧ k * r ≤ 16777216 ∧ IntKind.i64.wrap (k * r) = k * r := by
  rw [e]
  refine ⟨w, fun k h0 h1 => ?_⟩
  have h2 := Int.mul_pos h0 r0
  have h3 := Int.mul_le_mul_of_nonneg_right h1 (Int.le_of_lt r0)
  exact ⟨h2, by omega, wrapI (by omega) (by omega)⟩
theorem tdiv_R {r : Int} (h : isR r = true) : IntKind.i64.wrap (Int.tdiv 16777216 r) = Int.tdiv 16777216 r ∧ ∀ k : Int, 0 < k → k ≤ Int.tdiv 16777216 r → 0 < k * r ∧ k * r ≤ 16777216 ∧ IntKind.i64.wrap (k * r) = k * r := by
  rcases isR_is h with rfl | rfl | rfl | rfl | rfl | rfl | rfl
  · exact tdiv_one (d := 4194304) (by decide) (by decide) (by decide) (by decide)
  · exact tdiv_one (d := 8388608) (by decide) (by decide) (by decide) (by decide)
  · exact tdiv_one (d := 5592405) (by decide) (by decide) (by decide) (by decide)
  · exact tdiv_one (d := 3355443) (by decide) (by decide) (by decide) (by decide)
  · exact tdiv_one (d := 2396745) (by decide) (by decide) (by decide) (by decide)
  · exact tdiv_one (d := 1525201) (by decide) (by decide) (by decide) (by decide)
  · exact tdiv_one (d := 1290555) (by decide) (by decide) (by decide) (by decide)
/-- behind the loop -/
def pdP (x : List Value × TypeId) (p : Option Addr) (n c : Nat) (L : List Int) : Lf → Prop := fun y => (∃ j4 j5 j6 j7 i g, y.1 = pdF p n c (prG 1 L) j4 j5 j6 j7 i ++ tl 21 g) ∧ y.2.1 = hTR x
def pdR (L : List Int) : Lf → Prop := fun y => resS Tryd.prog Tryd.f38 y.1 y.2.1 = some (.int .i64 (prG 1 L))
theorem blkTR {x : List Value × TypeId} (st : ∀ v ∈ x.1, still v = true) {y : List Value × TypeId} : ∀ q ∈ [0, 1].zip [(rdV, rdT), x], (q.2.1.all (lt1 [0, 1].length)) = true ∧ (hTR3 y x).blk? q.1 = some (q.2.1.map (rn1 fun i => [0, 1].getD i 0), q.2.2) := by
  intro q hq
  have hq' : q = (0, (rdV, rdT)) ∨ q = (1, x) := by simpa using hq
  rcases hq' with rfl | rfl
  · exact ⟨by kernel_rfl, by kernel_rfl⟩
  · exact kept_x19 st (b := 1) (h := hTR3 y x) rfl _ (by decide)
theorem pd_loop {x : List Value × TypeId} {p : Option Addr} {n : Nat} {L : List Int} (hR : RowAt 1 x p n L) (c : Nat) (j4 j5 j6 j7 : Value) (g : Nat → Value) :
    RunsW (tabH Tryd.prog extY conN hcFd) (.block 0 (.loop (pdLp Tryd.f38))) (pdF p n c 1 j4 j5 j6 j7 0 ++ tl 21 g, hTR x, []) fun e y => match e with | none => pdP x p n c L y | some none => pdR L y | some (some _) => False := by
  obtain ⟨l, ty⟩ := x
  have hlen := hR.len
  have hbig := hR.big
  refine RunsW.forLoop (P := pdP (l, ty) p n c L) (R := pdR L) (fun z y => ∃ (i : Nat) (k : Int), z = n - i ∧ i ≤ n ∧ 0 < k ∧ k ≤ 16777216 ∧ prG k (L.drop i) = prG 1 L ∧ (∃ j4 j5 j6 j7 g, y.1 = pdF p n c k j4 j5 j6 j7 i ++ tl 21 g) ∧ y.2.1 = hTR (l, ty)) ?_ (n := n) ⟨0, 1, rfl, Nat.zero_le _, by omega, by omega, rfl, ⟨j4, j5, j6, j7, g, rfl⟩, rfl⟩
  rintro z ⟨t, h', s⟩ ⟨i, k, rfl, hi, hk0, hk1, hp, ⟨j4, j5, j6, j7, g, ht⟩, hh⟩
  simp only at ht hh
  subst ht hh
  by_cases hin : i = n
  · refine RunsW.ends T19_ok (pd_out p n c k i (hTR (l, ty)) j4 j5 j6 j7 g) (okOne (decide_eq_false (by omega))) fun g' s' => ⟨rfl, ⟨j4, j5, j6, j7, i, g', ?_⟩, rfl⟩
    have : L.drop i = [] := List.drop_eq_nil_of_le (by omega)
    rw [this] at hp
    rw [← hp]
    rfl
  · have hlt : i < n := by omega
    rcases hR.pos with ⟨_, h0⟩ | ⟨o, rfl, hty, hcell⟩
    · omega
    simp only at hty hcell
    subst hty
    have hc := cellIs_of (hcell i hlt)
    have hdr := drop_cons (L := L) (i := i) (by omega)
    rw [hdr] at hp
    generalize L.getD i 0 = r at *
    have hi1 : decide ((i : Int) < (n : Int)) = true := decide_eq_true (by omega)
    have hi2 : decide (0 ≤ (i : Int) ∧ (i : Int) < (n : Int)) = true := decide_eq_true (by omega)
    have hwi : IntKind.i64.wrap ((i : Int) + 1) = ((i + 1 : Nat) : Int) := by rw [wrapI (by omega) (by omega)]; omega
    by_cases hr : isR r = true
    · obtain ⟨q1, q2⟩ := tdiv_R hr
      have hr0 : decide (r = 0) = false := decide_eq_false (by rcases isR_is hr with rfl | rfl | rfl | rfl | rfl | rfl | rfl <;> decide)
      have ep : prG k (r :: L.drop (i + 1)) = if k > Int.tdiv 16777216 r then 0 else prG (k * r) (L.drop (i + 1)) := by
        show (if isR r = true then _ else _) = _
        rw [if_pos hr]
      rw [ep] at hp
      by_cases hb : k > Int.tdiv 16777216 r
      · rw [if_pos hb] at hp
        refine RunsW.ends T19_ok (pd_big o n c k r i (Int.tdiv 16777216 r) l j4 j5 j6 j7 g) (okTwo (decide_eq_true hb) (okTwo hr0 (okTwo (decide_eq_true q1) (okTwo hr (okTwo hc (okTwo hi2 (okOne hi1))))))) fun g' s' => ?_
        show pdR L _
        unfold pdR
        rw [← hp]
        rfl
      · rw [if_neg hb] at hp
        obtain ⟨w1, w2, w3⟩ := q2 k hk0 (by omega)
        have hG := pd_go o n c k r i (Int.tdiv 16777216 r) l j4 j5 j6 j7 g
        rw [w3, hwi] at hG
        have hW := goesT_runsW (s0 := s) T19_ok hG (okTwo (decide_eq_false hb) (okTwo hr0 (okTwo (decide_eq_true q1) (okTwo hr (okTwo hc (okTwo hi2 (okOne hi1)))))))
        refine (hW.cutP [some (.slice (some ⟨1, o, none⟩) n c), some undef, some (.int .i64 0), some (.int .i64 (k * r)), none, none, none, none, some (.slice (some ⟨1, o, none⟩) n c), some (.int .i64 n), some (.int .i64 ((i + 1 : Nat) : Int))] [0, 1] [(rdV, rdT), (l, tIR)] rfl (by decide) ⟨rfl, rn_undef _, rfl, rfl, rfl, rfl, rfl, trivial⟩ (blkTR hR.st) (by decide) (by kernel_rfl)).mono fun e y hy => ?_
        obtain ⟨t, h', s'⟩ := y
        obtain ⟨rfl, ⟨j, g', y1⟩, y2⟩ := hy
        simp only at y1 y2
        subst y1 y2
        exact ⟨n - (i + 1), by omega, i + 1, k * r, rfl, by omega, w1, w2, hp, ⟨_, _, _, _, g', rfl⟩, rfl⟩
    · have hr' : isR r = false := by simpa using hr
      have ep : prG k (r :: L.drop (i + 1)) = 0 := by
        show (if isR r = true then _ else _) = _
        rw [if_neg hr]
      rw [ep] at hp
      refine RunsW.ends T19_ok (pd_bad o n c k r i l j4 j5 j6 j7 g) (okTwo hr' (okTwo hc (okTwo hi2 (okOne hi1)))) fun g' s' => ?_
      show pdR L _
      unfold pdR
      rw [← hp]
      rfl
theorem pd_runs {x : List Value × TypeId} {p : Option Addr} {n : Nat} {L : List Int} (hR : RowAt 1 x p n L) (c : Nat) :
    RunsW (tabH Tryd.prog extY conN hcFd) (.seq (cFst (cBody Tryd.f38)) (.seq (cFst (cSnd (cBody Tryd.f38))) (.seq (.seq (pdR2 Tryd.f38) (.block 0 (.loop (pdLp Tryd.f38)))) (pdEn Tryd.f38)))) ([.slice p n c] ++ List.replicate (Tryd.f38.ntmps - [Value.slice p n c].length) undef, hTR x, []) fun e y => (e = none ∨ e = some none) ∧ resS Tryd.prog Tryd.f38 y.1 y.2.1 = some (.int .i64 (prG 1 L)) := by
  refine RunsW.goes T19_ok (pd_a p n c _) ok19 fun g => RunsW.goes T19_ok (pd_b p n c _ g) ok19 fun g => ?_
  refine RunsW.seq (RunsW.goes T19_ok (pd_c p n c _ g) ok19 fun g2 => pd_loop hR c _ _ _ _ g2) ?_ ?_
  · rintro ⟨t, h', s⟩ ⟨⟨j4, j5, j6, j7, i, g', ht⟩, hh⟩
    simp only at ht hh
    subst ht hh
    exact RunsW.ends T19_ok (pd_end p n c (prG 1 L) i _ j4 j5 j6 j7 g') ok19 fun g s' => ⟨.inr rfl, rfl⟩
  · intro e y he
    match e, he with
    | none, he => exact ⟨.inr rfl, he⟩
def gPd : AnsH := fun vals h s => match vals with
  | [.slice p n _] => match hasRd h with
    | true => some (.int .i64 (prG 1 (rowO h p n)), h, s, [(rowIP h p n, true)])
    | false => none
  | _ => none
theorem gPd_ok : AnsHOk 38 gPd := by
  intro vals h s v h' s' lg hg hl m B w E hv
  unfold gPd at hg
  split at hg
  · rename_i p n c
    split at hg
    · rename_i ht
      cases hg
      obtain ⟨x, p', f, E0, hR, hf⟩ := row_in E (hl _ (List.mem_singleton.2 rfl)) ht
      have := row_calls0E (T := tabH Tryd.prog extY conN hcFd) Tryd.func38 pd_body (vals := [.slice p' n c]) (fun v hv => by rw [List.mem_singleton.1 hv]; exact hR.lt c (by show 1 < 2; decide)) (v := .int .i64 (prG 1 (rowO h p n))) (by rfl) (pd_runs hR c) E E0
      simp only [List.map_cons, List.map_nil, hf] at this
      exact this
    · cases hg
  · cases hg
end Go.Proofs.YtlmccannfocniaaDoor
