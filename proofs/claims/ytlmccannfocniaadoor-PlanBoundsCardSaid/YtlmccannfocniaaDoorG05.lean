/-
  RunR
-/
import Derived.Test.YtlmccannfocniaaDoorG04
import Derived.ChangeKeysEq
import Derived.Laws.StructEq
import Derived.MapKept
namespace Go.KRun
open Go.RowKit
/-- a part of a row of cells, of a type -/
def fieldV (P : Program) (t : TypeId) (xs : List Value) (off : Nat) : Option Value :=
  match P.underlying t, P.info? t with
  | some (.struct _), some _ => some (.agg ((xs.drop off).take (P.cellsOf t)).toArray)
  | some (.array _ _), some _ => some (.agg ((xs.drop off).take (P.cellsOf t)).toArray)
  | some .bool, _ => xs[off]?
  | some (.int _), _ => xs[off]?
  | some .string, _ => xs[off]?
  | _, _ => none
theorem fieldV_run {P : Program} {t : TypeId} {xs : Array Value} {off : Nat} {v : Value} (h : fieldV P t xs.toList off = some v) (w : World) : (part t xs off).run P w = .ok v w := by
  have big : ∀ i, P.info? t = some i → (xs.extract off (off + P.cellsOf t)) = ((xs.toList.drop off).take (P.cellsOf t)).toArray := fun i _ => by
    cases xs; simp [List.extract_eq_take_drop]
  have small : xs.toList[off]? = some v → xs[off]? = some v := fun h => by simpa using h
  unfold fieldV at h
  split at h
  · rename_i hu hi
    cases h
    simp [part, isAgg, run_underlying hu, run_sizeOf w hi, big _ hi]
  · rename_i hu hi
    cases h
    simp [part, isAgg, run_underlying hu, run_sizeOf w hi, big _ hi]
  · rename_i hu; simp [part, isAgg, run_underlying hu, small h]
  · rename_i hu; simp [part, isAgg, run_underlying hu, small h]
  · rename_i hu; simp [part, isAgg, run_underlying hu, small h]
  · cases h
def eqFs (P : Program) (q : TypeId → Value → Value → Option Bool) (xs ys : List Value) : List Field → Option Bool
  | [] => some true
  | f :: fs =>
    if f.name = "_" then none else
    match fieldV P f.type xs f.offset, fieldV P f.type ys f.offset, eqFs P q xs ys fs with
    | some a, some b, some r' =>
      match q f.type a b with
      | some r => some (r && r')
      | none => none
    | _, _, _ => none
def eqIs (P : Program) (q : TypeId → Value → Value → Option Bool) (e : TypeId) (xs ys : List Value) : List Nat → Option Bool
  | [] => some true
  | i :: is =>
    match fieldV P e xs (i * P.cellsOf e), fieldV P e ys (i * P.cellsOf e), eqIs P q e xs ys is with
    | some a, some b, some r' =>
      match q e a b with
      | some r => some (r && r')
      | none => none
    | _, _, _ => none
/-- two values of a type, part by part -/
def eqV (P : Program) : Nat → TypeId → Value → Value → Option Bool
  | 0, _, _, _ => none
  | d + 1, t, x, y =>
    match P.underlying t, x, y with
    | some .bool, .bool a, .bool b => some (a == b)
    | some (.int _), .int k a, .int k' b => if k = k' then some (a == b) else none
    | some .string, .string a, .string b => some (a.toList == b.toList)
    | some (.struct fs), .agg xs, .agg ys => if P.stoodInHeld t = true then none else eqFs P (eqV P d) xs.toList ys.toList fs.toList
    | some (.array n e), .agg xs, .agg ys => if (P.info? e).isSome = true then eqIs P (eqV P d) e xs.toList ys.toList (List.range n) else none
    | _, _, _ => none
theorem eqFs_run {P : Program} {q : TypeId → Value → Value → Option Bool} {d : Nat} (w : World) (hq : ∀ t x y r, q t x y = some r → (Op.equalIn d t x y).run P w = .ok r w) (xs ys : Array Value) :
    ∀ (fs : List Field) (r : Bool), eqFs P q xs.toList ys.toList fs = some r → (Op.eqFields d xs ys fs).run P w = .ok r w
  | [], r, h => by simp only [eqFs] at h; cases h; simp [Op.eqFields]
  | f :: fs, r, h => by
    unfold eqFs at h
    split at h
    · cases h
    · rename_i hn
      split at h
      · rename_i a b r' ha hb hr
        split at h
        · rename_i r1 h1
          cases h
          have ih := eqFs_run w hq xs ys fs r' hr
          simp only [Op.eqFields, hn, ne_eq, not_false_eq_true, if_true, Sem.run_bind, fieldV_run ha w, fieldV_run hb w, Result.andThen_ok, hq _ _ _ _ h1]
          cases r1
          · simp
          · simpa using ih
        · cases h
      · cases h
theorem eqIs_run {P : Program} {q : TypeId → Value → Value → Option Bool} {d : Nat} (w : World) (hq : ∀ t x y r, q t x y = some r → (Op.equalIn d t x y).run P w = .ok r w) (e : TypeId) (xs ys : Array Value) :
    ∀ (is : List Nat) (r : Bool), eqIs P q e xs.toList ys.toList is = some r → (Op.eqItems d e (P.cellsOf e) xs ys is).run P w = .ok r w
  | [], r, h => by simp only [eqIs] at h; cases h; simp [Op.eqItems]
  | i :: is, r, h => by
    unfold eqIs at h
    split at h
    · rename_i a b r' ha hb hr
      split at h
      · rename_i r1 h1
        cases h
        have ih := eqIs_run w hq e xs ys is r' hr
        simp only [Op.eqItems, Sem.run_bind, fieldV_run ha w, fieldV_run hb w, Result.andThen_ok, hq _ _ _ _ h1]
        cases r1
        · simp
        · simpa using ih
      · cases h
    · cases h
theorem eqV_run {P : Program} (w : World) (k : Nat) : ∀ (d : Nat) (t : TypeId) (x y : Value) (r : Bool), eqV P d t x y = some r → (Op.equalIn (d + k) t x y).run P w = .ok r w
  | 0, t, x, y, r, h => by simp [eqV] at h
  | d + 1, t, x, y, r, h => by
    rw [show d + 1 + k = (d + k) + 1 by omega]
    unfold eqV at h
    split at h
    · rename_i hu; cases h; exact run_equalIn_bool w _ t _ _ hu
    · rename_i hu
      split at h
      · rename_i hk; cases h; subst hk; exact run_equalIn_int w _ t _ _ _ _ hu
      · cases h
    · rename_i hu; cases h; exact run_equalIn_string w _ t _ _ hu
    · rename_i fs xs ys hu
      split at h
      · cases h
      · rename_i hs
        have hfs : P.fieldsOf t = fs := by simp [Program.fieldsOf, hu]
        rw [run_equalIn_struct w (d + k) t xs ys (by rw [hfs]; exact hu) (by simpa using hs), hfs]
        exact eqFs_run w (fun t x y r h => eqV_run w k d t x y r h) xs ys fs.toList r h
    · rename_i n e xs ys hu
      split at h
      · rename_i hi
        obtain ⟨i, hi⟩ := Option.isSome_iff_exists.1 hi
        rw [run_equalIn_array w (d + k) xs ys hu hi]
        exact eqIs_run w (fun t x y r h => eqV_run w k d t x y r h) e xs ys _ r h
      · cases h
    · cases h
/-! ### a map's cells: how many, and the keys and values by turns -/
def valIs : Value → Value → Bool
  | .agg a, .agg b => cellsIs a.toList b.toList
  | a, b => cellIs (some a) b
theorem valIs_spec {a b : Value} (h : valIs a b = true) : a = b := by
  unfold valIs at h
  split at h
  · rename_i x y
    have := cellsIs_spec h
    rw [Array.toList_inj.1 this]
  · exact Option.some.inj (cellIs_spec h).1
def lookL (P : Program) (kt : TypeId) (k : Value) : List Value → Option (Option Value)
  | [] => some none
  | [_] => none
  | x :: v :: r =>
    match eqV P 5 kt k x with
    | some true => some (some v)
    | some false => lookL P kt k r
    | none => none
def lookIs (P : Program) (kt : TypeId) (k : Value) (L : List Value) (v : Value) : Bool :=
  match lookL P kt k L with
  | some (some u) => valIs u v
  | _ => false
def noneIs (P : Program) (kt : TypeId) (k : Value) (L : List Value) : Bool :=
  match lookL P kt k L with
  | some none => true
  | _ => false
/-- that these are all cells of a map -/
def isMp : List Value → Bool
  | .int .i64 n :: r => decide (0 ≤ n) && Nat.beq r.length (2 * n.toNat) && r.all (lt1 0)
  | _ => false
theorem flat_len : ∀ es : List MapEntry, (flatE es).length = 2 * es.length
  | [] => rfl
  | e :: es => by
    have := flat_len es
    unfold flatE at *
    rw [List.flatMap_cons, List.length_append, this]
    simp
    omega
theorem mp_all {m : Mp} {w : World} {g : Nat} {L : List Value} (h : mapAt w g (L.map (mv1 m))) (hm : isMp L = true) : ∃ es ck, w.heap[g]? = some (.map es ck) ∧ L = headE es := by
  obtain ⟨es, ck, r, h1, h2⟩ := h
  refine ⟨es, ck, h1, ?_⟩
  unfold isMp at hm
  split at hm
  · rename_i n t
    simp only [Bool.and_eq_true, decide_eq_true_eq, List.all_eq_true] at hm
    obtain ⟨⟨a1, a2⟩, a3⟩ := hm
    have a2 := Nat.eq_of_beq_eq_true a2
    have e1 : (Value.int .i64 n :: t).map (mv1 m) = Value.int .i64 n :: t := by
      rw [List.map_cons, (List.map_congr_left fun v hv => mv1_still (a3 v hv)).trans (List.map_id' _)]
      rfl
    rw [e1] at h2
    unfold headE at h2 ⊢
    rw [List.cons_append] at h2
    injection h2 with h3 h4
    injection h3 with _ h5
    have l := flat_len es.toList
    have l2 := congrArg List.length h4
    rw [l, List.length_append, a2, Array.length_toList] at l2
    have : r = [] := List.length_eq_zero_iff.1 (by omega)
    rw [this, List.append_nil] at h4
    rw [h4, ← h5]
  · cases hm
theorem ask_run {P : Program} {kt : TypeId} {k : Value} (w : World) : ∀ (es : List MapEntry) (i : Nat) (r : Option Value), lookL P kt k (flatE es) = some r → ∃ q, (Instr.findAsking kt k es i).run P w = .ok q w ∧ q.map (·.2) = r
  | [], i, r, h => by
    cases h
    exact ⟨none, rfl, rfl⟩
  | e :: es, i, r, h => by
    have e1 : flatE (e :: es) = e.key :: e.val :: flatE es := by
      unfold flatE
      rw [List.flatMap_cons]
      rfl
    rw [e1] at h
    unfold lookL at h
    have eq : ∀ b, eqV P 5 kt k e.key = some b → (Op.equal kt k e.key).run P w = .ok b w := fun b hb => eqV_run w 9995 5 kt k e.key b hb
    split at h
    · rename_i hb
      cases h
      exact ⟨some (i, e.val), by simp [Instr.findAsking, eq _ hb], rfl⟩
    · rename_i hb
      obtain ⟨q, h1, h2⟩ := ask_run w es (i + 1) r h
      exact ⟨q, by simp [Instr.findAsking, eq _ hb, h1], h2⟩
    · cases h
theorem find_run {P : Program} {kt : TypeId} {k : Value} {fs : Array Field} (hu : P.underlying kt = some (.struct fs)) (w : World) {es : List MapEntry} {r : Option Value} (h : lookL P kt k (flatE es) = some r) : ∃ q, (Instr.findKey kt k es).run P w = .ok q w ∧ q.map (·.2) = r := by
  cases es with
  | nil =>
    cases h
    exact ⟨none, by simp [Instr.findKey, run_underlying hu, Instr.findNow], rfl⟩
  | cons e es =>
    obtain ⟨q, h1, h2⟩ := ask_run w (e :: es) 0 r h
    exact ⟨q, by simp [Instr.findKey, run_underlying hu, Instr.findNow, Instr.sameNow, h1], h2⟩
/-- a key that is a struct -/
def keyOk (P : Program) (kt : TypeId) (k : Value) : Bool :=
  match P.underlying kt with
  | some (.struct _) => lt 0 k && (runP P (Instr.checkKey true 10000 kt k)).isSome && (runP P (Instr.checkKey false 10000 kt k)).isSome
  | _ => false
theorem keyOk_spec {P : Program} {kt : TypeId} {k : Value} (h : keyOk P kt k = true) : (∃ fs, P.underlying kt = some (.struct fs)) ∧ lt 0 k = true ∧ ∀ b w, (Instr.checkKey b 10000 kt k).run P w = .ok () w := by
  unfold keyOk at h
  split at h
  · rename_i fs hu
    simp only [Bool.and_eq_true] at h
    refine ⟨⟨fs, hu⟩, h.1.1, fun b w => ?_⟩
    cases b
    · obtain ⟨u, hu⟩ := Option.isSome_iff_exists.1 h.2
      exact runP_run hu w
    · obtain ⟨u, hu⟩ := Option.isSome_iff_exists.1 h.1.2
      exact runP_run hu w
  · cases h
theorem fm_marks : Nat.beq mpT fmT = false ∧ Nat.beq obT fmT = false ∧ Nat.beq fmT fmT = true := by decide
theorem mp_marks : ab mpT = true ∧ spK mpT = true ∧ ro mpT = true ∧ tomb mpT = true := ⟨rfl, rfl, rfl, rfl⟩
def mpB (h : Hp) (b : Nat) : Option (List Value) :=
  match h.blk? b with
  | some x => if Nat.beq x.2 mpT = true then some x.1 else none
  | none => none
theorem mpB_spec {m : Mp} {B : Nat} {h : Hp} {w : World} (E : Emb m B h w) {b : Nat} {L : List Value} (hb : mpB h b = some L) : h.blk? b = some (L, mpT) ∧ B ≤ (m b).1 ∧ mapAt w (m b).1 (L.map (mv1 m)) := by
  unfold mpB at hb
  split at hb
  · rename_i x hx
    split at hb
    · rename_i he
      cases hb
      have he := Nat.eq_of_beq_eq_true he
      obtain ⟨l, e⟩ := x
      simp only at he
      subst he
      have A := (E.abs b _ hx mp_marks.1).2 mp_marks.2.1
      exact ⟨hx, (A.1.1 rfl).1, (A.1.1 rfl).2⟩
    · cases hb
  · cases hb
/-! ### looked up -/
def lookS (P : Program) (ty : TypeId) (x k : Value) (h : Hp) (s : List Dec) : StepR :=
  match P.underlying ty with
  | some (.map kt e) =>
    match P.info? e with
    | some i =>
      match i.zero with
      | some z =>
        if (keyOk P kt k && noT z && lt 0 z) = true then
          match x with
          | .map none => some (.tuple #[z, .bool false], h, s, [])
          | .map (some b) =>
            match mpB h b, s with
            | some L, .inr (.inr (.inr (.inl true))) :: .inr (.inr (.inr (.inr (.inr v)))) :: s' => if (lt 0 v && noT v) = true then some (.tuple #[v, .bool true], h, s', [(isMp L && lookIs P kt k L.tail v, true)]) else none
            | some L, .inr (.inr (.inr (.inl false))) :: s' => some (.tuple #[z, .bool false], h, s', [(isMp L && noneIs P kt k L.tail, true)])
            | _, _ => none
          | _ => none
        else none
      | none => none
    | none => none
  | _ => none
theorem still_tuple {m : Mp} {v : Value} {b : Bool} (hT : noT v = true) (hv : lt 0 v = true) : mv m (.tuple #[v, .bool b]) = .tuple #[v, .bool b] ∧ ∀ n, lt n (.tuple #[v, .bool b]) = true := by
  have e2 : lt2 0 v = true := by cases v <;> simp_all [lt, noT]
  refine ⟨?_, fun n => ?_⟩
  · have : mv2 m v = v := mv2_still e2
    simp only [mv, List.map_toArray, List.map_cons, List.map_nil, this]
    rfl
  · have := lt2_mono (Nat.zero_le n) e2
    show (lt2 n v && (true && true)) = true
    rw [this]
    rfl
theorem lookS_run {m : Mp} {B : Nat} {P : Program} {ty : TypeId} {x k v : Value} {h h' : Hp} {s s' : List Dec} {lg : Log} {w : World} (E : Emb m B h w) (hs : lookS P ty x k h s = some (v, h', s', lg)) (hlg : okLog lg) :
    (Instr.lookup ty (mv m x) (mv m k) true).run P w = .ok (mv m v) w ∧ h' = h ∧ lt h.n v = true := by
  unfold lookS at hs
  split at hs
  · rename_i kt e hu
    split at hs
    · rename_i i hi
      split at hs
      · rename_i z hz
        split at hs
        · rename_i hc
          simp only [Bool.and_eq_true] at hc
          obtain ⟨⟨c1, c2⟩, c3⟩ := hc
          obtain ⟨⟨fs, hfs⟩, k1, k2⟩ := keyOk_spec c1
          rw [mv_still k1]
          have hzv : (zeroValue e).run P w = .ok z w := by simp [zeroValue, typeInfo, hi, hz]
          split at hs
          · cases hs
            obtain ⟨t1, t2⟩ := still_tuple (m := m) (b := false) c2 c3
            refine ⟨?_, rfl, t2 _⟩
            rw [t1]
            obtain ⟨q, q1, q2⟩ := find_run (k := k) hfs w (es := []) (r := none) rfl
            cases q with
            | some _ => cases q2
            | none => simp [Instr.lookup, run_underlying hu, mv, mv2, mv1, k2, q1, hzv, Result.andThen]
          · rename_i b
            split at hs
            · rename_i L v' s2 hb
              split at hs
              · rename_i hv
                cases hs
                simp only [Bool.and_eq_true] at hv
                have h1 := hlg _ (List.mem_singleton.2 rfl)
                simp only [Bool.and_eq_true] at h1
                obtain ⟨t1, t2⟩ := still_tuple (m := m) (b := true) hv.2 hv.1
                refine ⟨?_, rfl, t2 _⟩
                rw [t1]
                obtain ⟨_, _, A⟩ := mpB_spec E hb
                obtain ⟨es, ck, e1, rfl⟩ := mp_all A h1.1
                have h2 := h1.2
                unfold lookIs at h2
                split at h2
                · rename_i u hl
                  have := valIs_spec h2
                  subst this
                  obtain ⟨q, q1, q2⟩ := find_run hfs w hl
                  cases q with
                  | none => cases q2
                  | some q =>
                    obtain rfl := Option.some.inj q2
                    simp [Instr.lookup, run_underlying hu, mv, mv2, mv1, MapKept.run_getObj_map e1, k2, q1, Result.andThen]
                · cases h2
              · cases hs
            · rename_i L s2 hb
              cases hs
              have h1 := hlg _ (List.mem_singleton.2 rfl)
              simp only [Bool.and_eq_true] at h1
              obtain ⟨t1, t2⟩ := still_tuple (m := m) (b := false) c2 c3
              refine ⟨?_, rfl, t2 _⟩
              rw [t1]
              obtain ⟨_, _, A⟩ := mpB_spec E hb
              obtain ⟨es, ck, e1, rfl⟩ := mp_all A h1.1
              have h2 := h1.2
              unfold noneIs at h2
              split at h2
              · rename_i hl
                obtain ⟨q, q1, q2⟩ := find_run hfs w hl
                cases q with
                | some q => cases q2
                | none => simp [Instr.lookup, run_underlying hu, mv, mv2, mv1, MapKept.run_getObj_map e1, k2, q1, hzv, Result.andThen]
              · cases h2
            · cases hs
          · cases hs
        · cases hs
      · cases hs
    · cases hs
  · cases hs
/-! ### made -/
theorem iced_map {es : Array MapEntry} {ck : Nat} : iced (some (.map es ck)) := by
  first
  | exact trivial
  | (intro c e z hz; cases hz)
def makeM (h : Hp) : Value × Hp := (.map (some h.n), h.push [.int .i64 0] mpT)
theorem Emb.pushM {m : Mp} {B : Nat} {h : Hp} {w : World} (E : Emb m B h w) (hn : ∀ b x, h.blk? b = some x → spK x.2 = true → x.2 = fmT) : Emb (upd m h.n (w.heap.size, 0)) B (h.push [.int .i64 0] mpT) (w.alloc (.map #[] 0)) := by
  obtain ⟨ma, ms, mr, mt⟩ := mp_marks
  have blk := fun b => Hp.blk_push (h := h) (cs := [.int .i64 0]) (e := mpT) (b := b) E.len
  have ag := upd_agree m h.n (w.heap.size, 0)
  have hk : ∀ k, k < w.heap.size → (w.alloc (.map #[] 0)).heap[k]? = w.heap[k]? := fun k hk => heap_alloc_ne _ _ _ (Nat.ne_of_lt hk)
  have hsz : w.heap.size ≤ (w.alloc (.map #[] 0)).heap.size := by rw [size_alloc']; omega
  refine ⟨by simp [Hp.push, E.len], fun b x hb hx => ?_, fun b x hb hx => ?_, fun b x hb hx hr => ?_, fun b b' x x' hb hb' hx hx' he => ?_, fun b x hb v hv => ?_, Nat.le_trans E.base hsz, fun k h1 h2 => ?_, fun b x hb hx => ?_⟩
  · rw [blk] at hb
    split at hb
    · cases hb; rw [mt] at hx; cases hx
    · rw [ag b (Hp.blk_lt hb), map_agree ag (E.wf b x hb)]
      exact (E.lies b x hb hx).congr (hk _ (E.here hb hx))
  · rw [blk] at hb
    split at hb
    · cases hb; rw [mr] at hx; cases hx
    · rw [ag b (Hp.blk_lt hb)]
      exact E.low b x hb hx
  · rw [blk] at hb
    split at hb
    · cases hb; rw [mt] at hx; cases hx
    · rw [ag b (Hp.blk_lt hb)]
      exact E.ros b x hb hx hr
  · rw [blk] at hb hb'
    split at hb
    · cases hb; rw [mr] at hx; cases hx
    · split at hb'
      · cases hb'; rw [mr] at hx'; cases hx'
      · rw [ag b (Hp.blk_lt hb), ag b' (Hp.blk_lt hb')] at he
        exact E.inj b b' x x' hb hb' hx hx' he
  · rw [blk] at hb
    split at hb
    · cases hb
      rw [List.mem_singleton.1 hv]
      rfl
    · exact lt1_mono (Nat.le_succ _) (E.wf b x hb v hv)
  · rw [size_alloc'] at h2
    by_cases h3 : k = w.heap.size
    · subst h3
      rw [heap_alloc_at]
      exact iced_map
    · rw [heap_alloc_ne _ _ _ h3]
      exact E.ice k h1 (by omega)
  · rw [blk] at hb
    split at hb
    · rename_i hbn
      cases hb
      refine ⟨fun hs => absurd (ms.symm.trans hs) (by decide), fun _ => ?_⟩
      rw [hbn, show upd m h.n (w.heap.size, 0) h.n = (w.heap.size, 0) by simp [upd]]
      refine ⟨⟨fun _ => ⟨E.base, #[], 0, [], heap_alloc_at _ _, rfl⟩, fun he => absurd (show mpT = obT from he) (by decide), fun he => absurd (show mpT = fmT from he) (by decide), fun _ => by rw [size_alloc']; exact Nat.lt_succ_self _⟩, fun c y hc hy hf => ?_, fun c y hc hy hq => ?_⟩
      · rw [blk] at hc
        split at hc
        · cases hc; rw [mr] at hy; cases hy
        · rw [ag c (Hp.blk_lt hc)] at hf
          have := E.here hc (tomb_ro hy)
          rcases hf with ⟨_, hf⟩ | ⟨hf, _⟩
          · omega
          · exact absurd (show mpT = fmT from hf) (by decide)
      · rw [blk] at hc
        split at hc
        · rename_i hcn; rw [hcn]
        · rw [hn c y hc hy, fm_marks.2.2] at hq
          cases hq.trans fm_marks.1
    · have A := E.abs b x hb hx
      have ec := map_agree ag (E.wf b x hb)
      have eb := ag b (Hp.blk_lt hb)
      refine ⟨fun hs => ?_, fun hs => ?_⟩
      · obtain ⟨k1, k2⟩ := A.1 hs
        rw [ec]
        exact ⟨k1, k2.congr (hk _ (Nat.lt_of_lt_of_le k1 E.base))⟩
      · obtain ⟨k2, k3, k4⟩ := A.2 hs
        rw [ec, eb]
        refine ⟨k2.heap hsz hk, fun c y hc hy => ?_, fun c y hc hy hq => ?_⟩
        · rw [blk] at hc
          split at hc
          · cases hc; rw [mr] at hy; cases hy
          · rw [ag c (Hp.blk_lt hc)]
            exact k3 c y hc hy
        · rw [blk] at hc
          split at hc
          · cases hc
            rw [hn b x hb hs] at hq
            exact absurd hq (by decide)
          · exact k4 c y hc hy hq
theorem makeM_run {m : Mp} {B : Nat} {P : Program} {ty : TypeId} {h : Hp} {w : World} (E : Emb m B h w) (hn : (h.l.all fun x => !(spK x.2) || Nat.beq x.2 fmT) = true) :
    ∃ m' w', (Instr.makeMap ty none).run P w = .ok (mv m' (makeM h).1) w' ∧ Came m B h w (makeM h).1 (makeM h).2 m' w' := by
  have E' := E.pushM (fun b x hb hs => by
    unfold Hp.blk? at hb
    split at hb
    · have := List.all_eq_true.1 hn x (List.mem_of_getElem? hb)
      rw [hs] at this
      exact Nat.eq_of_beq_eq_true this
    · cases hb)
  refine ⟨_, _, ?_, ⟨upd_agree _ _ _, E', (Below.refl _ _).alloc E.base _, Nat.le_succ _, blt_iff.2 (Nat.lt_succ_self _)⟩⟩
  have e : mv (upd m h.n (w.heap.size, 0)) (makeM h).1 = .map (some w.heap.size) := by
    simp [makeM, mv, mv2, mv1, upd]
  rw [e]
  rfl
/-! ### written: a key that is not there -/
def bumpM (k v : Value) : List Value → List Value
  | .int .i64 n :: r => .int .i64 (n + 1) :: (r ++ [k, v])
  | l => l
def setAt (w : World) (g : Nat) (o : Obj) : World := { w with heap := w.heap.setIfInBounds g o }
theorem setAt_size (w : World) (g : Nat) (o : Obj) : (setAt w g o).heap.size = w.heap.size := by simp [setAt]
theorem setAt_at {w : World} {g : Nat} (o : Obj) (h : g < w.heap.size) : (setAt w g o).heap[g]? = some o := by simp [setAt, h]
theorem setAt_ne (w : World) {g k : Nat} (o : Obj) (h : k ≠ g) : (setAt w g o).heap[k]? = w.heap[k]? := by
  simp only [setAt]
  rw [Array.getElem?_setIfInBounds_ne (Ne.symm h)]
theorem Emb.putM {m : Mp} {B : Nat} {h : Hp} {w : World} (E : Emb m B h w) {b : Nat} {L L' : List Value} (hb : h.blk? b = some (L, mpT)) {es es' : Array MapEntry} {ck ck' : Nat} (hg : w.heap[(m b).1]? = some (.map es ck)) (hL : L'.map (mv1 m) = headE es') (hwf : ∀ v ∈ L', lt1 h.n v = true) :
    Emb m B (h.put b (L', mpT)) (setAt w (m b).1 (.map es' ck')) ∧ Below B w (setAt w (m b).1 (.map es' ck')) := by
  obtain ⟨ma, ms, mr, mt⟩ := mp_marks
  have A := (E.abs b _ hb ma).2 ms
  have blk := fun c => Hp.blk_put (h := h) (b := b) (x := (L', mpT)) (c := c) E.len (Hp.blk_lt hb)
  have hlt := (Array.getElem?_eq_some_iff.1 hg).1
  have nc : ∀ {k : Nat} {c : Array Value} {t : TypeId} {z : Nat × Nat}, w.heap[k]? = some (.cells c t z) → k ≠ (m b).1 := by
    rintro k c t z h1 rfl
    rw [hg] at h1
    cases h1
  refine ⟨⟨by simp [Hp.put, E.len], fun c x hc hx => ?_, fun c x hc hx => ?_, fun c x hc hx hr => ?_, fun c c' x x' hc hc' hx hx' he => ?_, fun c x hc v hv => ?_, by rw [setAt_size]; exact E.base, fun k h1 h2 => ?_, fun c x hc hx => ?_⟩, ⟨rfl, rfl, rfl, by rw [setAt_size]; exact Nat.le_refl _, fun k hk => setAt_ne _ _ (by have := (A.1.1 rfl).1; omega)⟩⟩
  · rw [blk] at hc
    split at hc
    · cases hc; rw [mt] at hx; cases hx
    · have l := E.lies c x hc hx
      obtain ⟨r, z, _, h2, _⟩ := l
      exact (E.lies c x hc hx).congr (setAt_ne _ _ (nc h2))
  · rw [blk] at hc
    split at hc
    · cases hc; rw [mr] at hx; cases hx
    · exact E.low c x hc hx
  · rw [blk] at hc
    split at hc
    · cases hc; rw [mt] at hx; cases hx
    · exact E.ros c x hc hx hr
  · rw [blk] at hc hc'
    split at hc
    · cases hc; rw [mr] at hx; cases hx
    · split at hc'
      · cases hc'; rw [mr] at hx'; cases hx'
      · exact E.inj c c' x x' hc hc' hx hx' he
  · rw [blk] at hc
    split at hc
    · cases hc; exact hwf v hv
    · exact E.wf c x hc v hv
  · rw [setAt_size] at h2
    by_cases h3 : k = (m b).1
    · rw [h3, setAt_at _ hlt]
      exact iced_map
    · rw [setAt_ne _ _ h3]
      exact E.ice k h1 h2
  · rw [blk] at hc
    split at hc
    · rename_i hcb
      cases hc
      refine ⟨fun hs => absurd (ms.symm.trans hs) (by decide), fun _ => ?_⟩
      rw [hcb]
      refine ⟨⟨fun _ => ⟨(A.1.1 rfl).1, es', ck', [], setAt_at _ hlt, by rw [hL, List.append_nil]⟩, fun he => absurd (show mpT = obT from he) (by decide), fun he => absurd (show mpT = fmT from he) (by decide), fun _ => by rw [setAt_size]; exact hlt⟩, fun d y hd hy hf => ?_, fun d y hd hy hq => ?_⟩
      · rw [blk] at hd
        split at hd
        · cases hd; rw [mr] at hy; cases hy
        · refine A.2.1 d y hd hy ?_
          rcases hf with hf | ⟨hf, _⟩
          · exact .inl hf
          · exact absurd (show mpT = fmT from hf) (by decide)
      · rw [blk] at hd
        split at hd
        · rename_i hdb; exact hdb
        · exact A.2.2 d y hd hy hq
    · rename_i hcb
      have C := E.abs c x hc hx
      refine ⟨fun hs => ?_, fun hs => ?_⟩
      · obtain ⟨c1, r, t, z, c2, c3⟩ := C.1 hs
        exact ⟨c1, r, t, z, by rw [setAt_ne _ _ (nc c2)]; exact c2, c3⟩
      · obtain ⟨k2, k3, k4⟩ := C.2 hs
        have hfm : x.2 = fmT := by
          rcases spK_cases hs with h1 | h1 | h1
          · exact absurd (A.2.2 c x hc hs (by rw [h1])) hcb
          · exact absurd (A.2.2 c x hc hs (by rw [h1, fm_marks.2.1]; exact fm_marks.1.symm)) hcb
          · exact h1
        refine ⟨⟨fun he => absurd (hfm.symm.trans he) (by decide), fun he => absurd (hfm.symm.trans he) (by decide), fun he v hv k t cs hf => ?_, fun he => absurd hfm he⟩, fun d y hd hy => ?_, fun d y hd hy hq => ?_⟩
        · have := k2.2.2.1 he v hv k t cs hf
          rw [setAt_ne _ _ (nc this)]
          exact this
        · rw [blk] at hd
          split at hd
          · cases hd; rw [mr] at hy; cases hy
          · exact k3 d y hd hy
        · rw [blk] at hd
          split at hd
          · cases hd
            rw [hfm, fm_marks.2.2] at hq
            cases hq.symm.trans fm_marks.1
          · exact k4 d y hd hy hq
def updS (P : Program) (ty : TypeId) (x k v : Value) (h : Hp) (s : List Dec) : StepR :=
  match P.underlying ty with
  | some (.map kt _) =>
    if (keyOk P kt k && lt 0 v && noT v && noT k && lt1 0 v && lt1 0 k) = true then
      match x with
      | .map (some b) =>
        match mpB h b, s with
        | some L, .inr (.inr (.inr (.inl false))) :: s' => some (undef, h.put b (bumpM k v L, mpT), s', [(isMp L && noneIs P kt k L.tail, true)])
        | _, _ => none
      | _ => none
    else none
  | _ => none
theorem flat_app (a b : List MapEntry) : flatE (a ++ b) = flatE a ++ flatE b := List.flatMap_append ..
theorem updS_run {m : Mp} {B : Nat} {P : Program} {ty : TypeId} {x k u v : Value} {h h' : Hp} {s s' : List Dec} {lg : Log} {w : World} (E : Emb m B h w) (hs : updS P ty x k u h s = some (v, h', s', lg)) (hlg : okLog lg) :
    ∃ w', (Instr.mapUpdate ty (mv m x) (mv m k) (mv m u)).run P w = .ok () w' ∧ v = undef ∧ Emb m B h' w' ∧ Below B w w' ∧ h'.n = h.n := by
  unfold updS at hs
  split at hs
  · rename_i kt et hu
    split at hs
    · rename_i hc
      simp only [Bool.and_eq_true] at hc
      obtain ⟨⟨⟨⟨⟨c1, c2⟩, c3⟩, c4⟩, c5⟩, c6⟩ := hc
      obtain ⟨⟨fs, hfs⟩, k1, k2⟩ := keyOk_spec c1
      rw [mv_still k1, mv_still c2]
      split at hs
      · rename_i b
        split at hs
        · rename_i L s2 hb
          cases hs
          have h1 := hlg _ (List.mem_singleton.2 rfl)
          simp only [Bool.and_eq_true] at h1
          obtain ⟨hx, hB, A⟩ := mpB_spec E hb
          obtain ⟨es, ck, e1, rfl⟩ := mp_all A h1.1
          have h2 := h1.2
          unfold noneIs at h2
          split at h2
          · rename_i hl
            obtain ⟨q, q1, q2⟩ := find_run hfs w hl
            cases q with
            | some q => cases q2
            | none =>
              have hm := h1.1
              unfold isMp headE at hm
              simp only [Bool.and_eq_true, List.all_eq_true] at hm
              have hall := hm.2
              have eb : bumpM k u (headE es) = headE (es.push { key := k, val := u, born := ck }) := by
                unfold headE bumpM
                simp only [Array.size_push, Array.toList_push, flat_app]
                rfl
              have hE : (bumpM k u (headE es)).map (mv1 m) = headE (es.push { key := k, val := u, born := ck }) := by
                rw [eb]
                unfold headE
                rw [Array.toList_push, flat_app]
                rw [List.map_cons, List.map_append, (List.map_congr_left fun v hv => mv1_still (hall v hv)).trans (List.map_id' _)]
                show _ :: (flatE es.toList ++ [mv1 m k, mv1 m u]) = _
                rw [mv1_still c6, mv1_still c5]
                rfl
              obtain ⟨E', hb'⟩ := E.putM hx e1 (ck' := ck + 1) hE (fun v hv => by
                rw [eb] at hv
                unfold headE at hv
                rw [Array.toList_push, flat_app] at hv
                rcases List.mem_cons.1 hv with rfl | hv
                · rfl
                · rcases List.mem_append.1 hv with hv | hv
                  · exact lt1_mono (Nat.zero_le _) (hall v hv)
                  · have : v = k ∨ v = u := by simpa [flatE] using hv
                    rcases this with rfl | rfl
                    · exact lt1_mono (Nat.zero_le _) c6
                    · exact lt1_mono (Nat.zero_le _) c5)
              refine ⟨_, ?_, rfl, E', hb', rfl⟩
              simp [Instr.mapUpdate, run_underlying hu, mv, mv2, mv1, MapKept.run_getObj_map e1, k2, q1, Result.andThen, MapKept.run_setObj_map _ e1]
              rfl
          · cases h2
        · cases hs
      · cases hs
    · cases hs
  · cases hs
/-! ### counted; what is nil -/
def lenM (P : Program) (ty : TypeId) (x : Value) (h : Hp) : Option Value :=
  match P.underlying ty, x with
  | some (.map _ _), .map none => some (.int .i64 0)
  | some (.map _ _), .map (some b) =>
    match mpB h b with
    | some (.int .i64 n :: _) => some (.int .i64 n)
    | _ => none
  | _, _ => none
theorem lenM_run {m : Mp} {B : Nat} {P : Program} {ty rty : TypeId} {x v : Value} {h : Hp} {w : World} (E : Emb m B h w) (hs : lenM P ty x h = some v) : (Builtin.len_ #[ty] rty #[mv m x]).run P w = .ok (mv m v) w ∧ lt h.n v = true := by
  unfold lenM at hs
  split at hs
  · rename_i hu
    cases hs
    exact ⟨by simp [Builtin.len_, run_underlying hu, mv, mv2, mv1, goInt], rfl⟩
  · rename_i b hu
    split at hs
    · rename_i n r hb
      cases hs
      obtain ⟨_, _, A⟩ := mpB_spec E hb
      obtain ⟨es, ck, r', e1, e2⟩ := A
      have e3 : Value.int .i64 (es.size : Nat) = Value.int .i64 n := by
        unfold headE at e2
        rw [List.map_cons, List.cons_append] at e2
        exact (List.cons.inj e2).1
      refine ⟨?_, rfl⟩
      rw [← e3]
      simp [Builtin.len_, run_underlying hu, mv, mv2, mv1, MapKept.run_getObj_map e1, Result.andThen, goInt]
    · cases hs
  · cases hs
def nilS (P : Program) (op : BinOp) (ty : TypeId) (x y : Value) : Option Bool :=
  match P.underlying ty, x, y, op with
  | some (.pointer _), .pointer (some _), .pointer none, .eql => some false
  | some (.pointer _), .pointer (some _), .pointer none, .neq => some true
  | some (.map _ _), .map (some _), .map none, .eql => some false
  | some (.map _ _), .map (some _), .map none, .neq => some true
  | some (.slice _), .slice (some _) _ _, .slice none _ _, .eql => some false
  | some (.slice _), .slice (some _) _ _, .slice none _ _, .neq => some true
  | _, _, _, _ => none
theorem nil_run {P : Program} {op : BinOp} {ty : TypeId} {x y : Value} {b c : Bool} (hg : ∀ xo yo, eqGuard op ty xo yo x y = pure ()) (hb : binOp op ty x y = (do pure (.bool ((← Op.equalIn (9999 + 1) ty x y) != c)))) {w : World} (he : (Op.equalIn (9999 + 1) ty x y).run P w = .ok b w) (xo yo : Operand) :
    (do eqGuard op ty xo yo x y; binOp op ty x y : Sem Value).run P w = .ok (.bool (b != c)) w := by
  rw [hg, hb]
  simp [he]
theorem nilS_run {P : Program} {op : BinOp} {ty : TypeId} {x y : Value} {b : Bool} (hs : nilS P op ty x y = some b) (xo yo : Operand) (m : Mp) (w : World) :
    (do eqGuard op ty xo yo (mv m x) (mv m y); binOp op ty (mv m x) (mv m y) : Sem Value).run P w = .ok (.bool b) w := by
  unfold nilS at hs
  split at hs
  · rename_i hu
    cases hs
    exact nil_run (b := false) (c := false) (fun _ _ => rfl) (by show (do pure (Value.bool (← Op.equal ty _ _))) = _; simp [Op.equal, Op.maxDepth, mv, mv2, mv1]) (by unfold Op.equalIn; simp [run_underlying hu, mv, mv2, mv1]) xo yo
  · rename_i hu
    cases hs
    exact nil_run (b := false) (c := true) (fun _ _ => rfl) (by show (do pure (Value.bool (!(← Op.equal ty _ _)))) = _; simp [Op.equal, Op.maxDepth, mv, mv2, mv1]) (by unfold Op.equalIn; simp [run_underlying hu, mv, mv2, mv1]) xo yo
  · rename_i hu
    cases hs
    exact nil_run (b := false) (c := false) (fun _ _ => rfl) (by show (do pure (Value.bool (← Op.equal ty _ _))) = _; simp [Op.equal, Op.maxDepth, mv, mv2, mv1]) (by unfold Op.equalIn; simp [run_underlying hu, mv, mv2, mv1]) xo yo
  · rename_i hu
    cases hs
    exact nil_run (b := false) (c := true) (fun _ _ => rfl) (by show (do pure (Value.bool (!(← Op.equal ty _ _)))) = _; simp [Op.equal, Op.maxDepth, mv, mv2, mv1]) (by unfold Op.equalIn; simp [run_underlying hu, mv, mv2, mv1]) xo yo
  · rename_i hu
    cases hs
    exact nil_run (b := false) (c := false) (fun _ _ => rfl) (by show (do pure (Value.bool (← Op.equal ty _ _))) = _; simp [Op.equal, Op.maxDepth, mv, mv2, mv1]) (by unfold Op.equalIn; simp [run_underlying hu, mv, mv2, mv1]) xo yo
  · rename_i hu
    cases hs
    exact nil_run (b := false) (c := true) (fun _ _ => rfl) (by show (do pure (Value.bool (!(← Op.equal ty _ _)))) = _; simp [Op.equal, Op.maxDepth, mv, mv2, mv1]) (by unfold Op.equalIn; simp [run_underlying hu, mv, mv2, mv1]) xo yo
  · cases hs
/-! ### one such operation -/
def memM (P : Program) (t : List Value) (h : Hp) (s : List Dec) (o : Oper) : StepR :=
  match o.op with
  | .makeMap _ none => if (h.l.all fun x => !(spK x.2) || Nat.beq x.2 fmT) = true then some ((makeM h).1, (makeM h).2, s, []) else none
  | .lookup ty x k true => if (okX x && okX k) = true then lookS P ty (ev t x) (ev t k) h s else none
  | .mapUpdate ty x k v => if (okX x && okX k && okX v) = true then updS P ty (ev t x) (ev t k) (ev t v) h s else none
  | .call c =>
    match c.callee, c.args.toList, c.argTypes.toList with
    | .builtin .len, [x], [ty] =>
      if okX x = true then
        match lenM P ty (ev t x) h with
        | some v => some (v, h, s, [])
        | none => none
      else none
    | _, _, _ => none
  | _ => none
theorem memM_ok {P : Program} {m : Mp} {B : Nat} {t : List Value} {h h' : Hp} {s s' : List Dec} {lg : Log} {w : World} {a : Act} {o : Oper} {v : Value}
    (ha : a.tmps = (t.map (mv m)).toArray) (E : Emb m B h w) (hs : memM P t h s o = some (v, h', s', lg)) (hlg : okLog lg) : Does P m B h w a o v h' := by
  unfold memM at hs
  split at hs
  · rename_i ty ho
    split at hs
    · rename_i hn
      cases hs
      obtain ⟨m', w', h1, C⟩ := makeM_run (P := P) (ty := ty) E hn
      refine ⟨m', w', _, ?_, .inl rfl, C⟩
      simp only [execOp, ho, Option.map_none, Sem.run_bind, h1, Result.andThen_ok, Sem.run_pure]
    · cases hs
  · rename_i ty x k ho
    split at hs
    · rename_i hx
      simp only [Bool.and_eq_true] at hx
      obtain ⟨h1, rfl, h2⟩ := lookS_run E hs hlg
      refine Does.still E ?_ h2
      simp only [execOp, ho, eval_mv ha hx.1, eval_mv ha hx.2, Sem.run_bind, h1, Result.andThen_ok, Sem.run_pure]
    · cases hs
  · rename_i ty x k u ho
    split at hs
    · rename_i hx
      simp only [Bool.and_eq_true] at hx
      obtain ⟨w', h1, rfl, h3, h4, h5⟩ := updS_run E hs hlg
      refine ⟨m, w', .skip, ?_, .inr ⟨rfl, rfl⟩, ⟨Agree.refl _ _, h3, h4, by omega, by simp [undef, lt]⟩⟩
      simp only [execOp, ho, eval_mv ha hx.1.1, eval_mv ha hx.1.2, eval_mv ha hx.2, Sem.run_bind, h1, Result.andThen_ok, Sem.run_pure]
    · cases hs
  · rename_i c ho
    split at hs
    · rename_i x ty hcal hargs htys
      split at hs
      · rename_i hx
        split at hs
        · rename_i u hu
          cases hs
          obtain ⟨callee, args, tys⟩ := c
          obtain ⟨args⟩ := args
          obtain ⟨tys⟩ := tys
          simp only at hcal hargs htys
          subst hcal hargs htys
          obtain ⟨h1, h2⟩ := lenM_run (P := P) (rty := o.type) E hu
          refine Does.still E ?_ h2
          simp [execOp, ho, resolve, invoke, builtin, eval_mv ha hx, h1]
        · cases hs
      · cases hs
    · cases hs
  · cases hs
def memR (P : Program) (t : List Value) (h : Hp) (s : List Dec) (o : Oper) : StepR :=
  match memQ P t h s o with
  | some r => some r
  | none => memM P t h s o
theorem memR_ok {P : Program} {m : Mp} {B : Nat} {t : List Value} {h h' : Hp} {s s' : List Dec} {lg : Log} {w : World} {a : Act} {o : Oper} {v : Value}
    (ha : a.tmps = (t.map (mv m)).toArray) (E : Emb m B h w) (ht : ∀ v ∈ t, lt h.n v = true) (hs : memR P t h s o = some (v, h', s', lg)) (hlg : okLog lg) : Does P m B h w a o v h' := by
  unfold memR at hs
  split at hs
  · rename_i r hr
    cases hs
    exact memQ_ok ha E ht hr hlg
  · exact memM_ok ha E hs hlg
end Go.KRun
