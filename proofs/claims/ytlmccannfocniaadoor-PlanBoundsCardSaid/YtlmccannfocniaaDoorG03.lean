/-
  RunM
-/
import Derived.Test.YtlmccannfocniaaDoorG02
import Derived.Laws.Append
import Derived.Laws.AppendOwn
import Derived.Laws.MakeOwn
import Derived.Laws.BytesString
import Derived.Deep.AppendSrc
namespace Go.KRun
open Go.RowKit
abbrev StepR := Option (Value × Hp × List Dec × Log)
structure Came (m : Mp) (B : Nat) (h : Hp) (w : World) (v : Value) (h' : Hp) (m' : Mp) (w' : World) : Prop where
  agree : Agree m m' h.n
  emb : Emb m' B h' w'
  below : Below B w w'
  grown : h.n ≤ h'.n
  val : lt h'.n v = true
/-- what one operation comes to -/
def Does (P : Program) (m : Mp) (B : Nat) (h : Hp) (w : World) (a : Act) (o : Oper) (v : Value) (h' : Hp) : Prop :=
  ∃ m' w' nx, (execOp a.eval o).run P w = .ok nx w' ∧ (nx = .value (mv m' v) ∨ nx = .skip ∧ v = undef) ∧ Came m B h w v h' m' w'
theorem Does.still {P : Program} {m : Mp} {B : Nat} {h : Hp} {w : World} {a : Act} {o : Oper} {v : Value} (E : Emb m B h w)
    (hr : (execOp a.eval o).run P w = .ok (.value (mv m v)) w) (hv : lt h.n v = true) : Does P m B h w a o v h :=
  ⟨m, w, _, hr, .inl rfl, ⟨Agree.refl _ _, E, Below.refl _ _, Nat.le_refl _, hv⟩⟩
/-! ### a row's cells -/
/-- what a slice of one-cell elements reads as -/
def rdS (h : Hp) : Value → Option (List Value)
  | .slice none 0 _ => some []
  | .slice (some ⟨b, o, none⟩) n _ =>
    match h.blk? b with
    | some x => if (!(tomb x.2) && Nat.ble (o + n) x.1.length) = true then some ((x.1.drop o).take n) else none
    | none => none
  | _ => none
theorem rdS_some {m : Mp} {B : Nat} {h : Hp} {w : World} {b o n c : Nat} {L : List Value} (E : Emb m B h w) (hr : rdS h (.slice (some ⟨b, o, none⟩) n c) = some L) :
    L.length = n ∧ (∀ v ∈ L, lt1 h.n v = true) ∧ (∀ j u, (L.map (mv1 m))[j]? = some u → w.cell? ((⟨(m b).1, o, none⟩ : Addr).add j) = some u) ∧ ∃ x, h.blk? b = some x ∧ tomb x.2 = false ∧ o + n ≤ x.1.length ∧ L = (x.1.drop o).take n := by
  simp only [rdS] at hr
  split at hr
  · rename_i x hx
    split at hr
    · rename_i hc
      simp only [Bool.and_eq_true, Bool.not_eq_true'] at hc
      have hle := Nat.le_of_ble_eq_true hc.2
      cases hr
      refine ⟨by simp; omega, fun v hv => E.wf _ _ hx v (List.mem_of_mem_drop (List.mem_of_mem_take hv)), fun j u hj => ?_, x, hx, hc.1, hle, rfl⟩
      rw [add_plain]
      rw [List.getElem?_map, List.getElem?_take] at hj
      split at hj
      · rw [List.getElem?_drop] at hj
        obtain ⟨u', hu, rfl⟩ := Option.map_eq_some_iff.1 hj
        exact cell_lies (E.lies _ _ hx hc.1) hu
      · simp at hj
    · cases hr
  · cases hr
/-! ### make -/
def okMake (bytes : Nat) (l c : Int) : Prop := 0 ≤ l ∧ l ≤ c ∧ c < 1099511627776 ∧ (bytes : Int) * c ≤ 281474976710656
def okMakeB (bytes : Nat) (l c : Int) : Bool := decide (0 ≤ l ∧ l ≤ c ∧ c < 1099511627776 ∧ (bytes : Int) * c ≤ 281474976710656)
def makeS (P : Program) (ty : TypeId) (l c : Value) (h : Hp) (s : List Dec) : StepR :=
  match P.underlying ty, l, c with
  | some (.slice e), .int _ ln, .int _ cp =>
    match P.info? e with
    | some i =>
      match i.zero with
      | some z =>
        if (Nat.beq i.size 1 && one z && lt 0 z && !(ro e)) = true then
          match s with
          | .inr (.inr (.inr (.inr (.inl _)))) :: s' => some (.slice (some ⟨h.n, 0, none⟩) ln.toNat cp.toNat, h.push (List.replicate cp.toNat z) e, s', [(okMakeB i.bytes ln cp, true)])
          | _ => if okMakeB i.bytes ln cp = true then some (.slice (some ⟨h.n, 0, none⟩) ln.toNat cp.toNat, h.push (List.replicate cp.toNat z) e, s, []) else none
        else none
      | none => none
    | none => none
  | _, _, _ => none
theorem one_cells {z : Value} (h : one z = true) : z.cells = #[z] := by cases z <;> simp_all [one, Value.cells]
theorem made_one (z : Value) (n : Nat) : madeCells #[z] n = (List.replicate n z).toArray := by
  unfold madeCells
  apply Array.ext'
  simp only [Array.toList_map, Array.toList_range]
  refine List.ext_getElem (by simp) fun j h1 h2 => ?_
  simp [Nat.mod_one]
theorem zero_one (z : Value) (n : Nat) : Builtin.zeroCells #[z] n = (List.replicate n z).toArray := by
  unfold Builtin.zeroCells
  apply Array.ext'
  simp only [Array.toList_map, Array.toList_range]
  refine List.ext_getElem (by simp) fun j h1 h2 => ?_
  simp [Nat.mod_one]
theorem makeS_run {m : Mp} {B : Nat} {P : Program} {ty : TypeId} {kl kc : IntKind} {ln cp : Int} {h : Hp} {w : World} {e : TypeId} {i : TypeInfo} {z : Value} (E : Emb m B h w) (hu : P.underlying ty = some (.slice e)) (hi : P.info? e = some i) (hz : i.zero = some z)
    (h1 : i.size = 1) (h2 : one z = true) (h3 : lt 0 z = true) (h4 : ro e = false) (hk : okMake i.bytes ln cp) :
    (Instr.makeSlice ty (.int kl ln) (.int kc cp)).run P w = .ok (.slice (some ⟨w.heap.size, 0, none⟩) ln.toNat cp.toNat) (w.alloc (.cells (List.replicate cp.toNat z).toArray e (0, 0))) ∧
      Came m B h w (.slice (some ⟨h.n, 0, none⟩) ln.toNat cp.toNat) (h.push (List.replicate cp.toNat z) e) (upd m h.n (w.heap.size, cp.toNat)) (w.alloc (.cells (List.replicate cp.toNat z).toArray e (0, 0))) := by
  obtain ⟨k1, k2, k3, k4⟩ := hk
  have hr := run_make (P := P) w ty e i z hu hi hz kl kc ln cp k1 k2 k4 (by omega)
  rw [h1, Nat.mul_one, one_cells h2, made_one] at hr
  have z1 : lt1 0 z = true := by rw [← lt_one h2]; exact h3
  have hall : ∀ v ∈ List.replicate cp.toNat z, lt1 h.n v = true := fun v hv => by rw [List.eq_of_mem_replicate hv]; exact lt1_mono (Nat.zero_le _) z1
  have E' := E.push (List.replicate cp.toNat z) [] e h4 hall (k := cp.toNat) (by simp)
  have e1 : (List.replicate cp.toNat z).map (mv1 m) = List.replicate cp.toNat z := by rw [List.map_replicate, mv1_still z1]
  rw [List.append_nil, e1] at E'
  refine ⟨hr, ⟨upd_agree _ _ _, E', (Below.refl _ _).alloc E.base _, Nat.le_succ _, ?_⟩⟩
  simp [lt, lt2, lt1, Hp.push]
/-! ### append -/
def grown : Nat := dead + 1
def appS (P : Program) (ty : TypeId) (x y : Value) (h : Hp) : Option (Value × Hp) :=
  match P.underlying ty with
  | some (.slice e) =>
    match P.info? e with
    | some i =>
      match i.zero with
      | some z =>
        if (Nat.beq i.size 1 && one z && lt 0 z && !(ro e) && Nat.ble i.bytes 64) = true then
          match y with
          | .slice (some ⟨_, _, none⟩) yn _ =>
            match rdS h y with
            | some nv =>
              if (Nat.blt 0 yn && nv.all one) = true then
                match x with
                | .slice none 0 0 => if Nat.ble yn 1073741824 = true then some (.slice (some ⟨h.n, 0, none⟩) yn grown, h.push nv e) else none
                | .slice (some ⟨b, 0, none⟩) n c =>
                  if Nat.ble (n + yn) 1073741824 = true then
                    match rdS h x, h.blk? b with
                    | some old, some xb =>
                      match smallC c with
                      | true =>
                        match Nat.ble (n + yn) c with
                        | true => if (!(ro xb.2) && Nat.beq xb.2 e && Nat.ble (n + yn) xb.1.length) = true then some (.slice (some ⟨b, 0, none⟩) (n + yn) c, h.put b (xb.1.take n ++ nv ++ xb.1.drop (n + yn), xb.2)) else none
                        | false => some (.slice (some ⟨h.n, 0, none⟩) (n + yn) grown, h.push (old ++ nv) e)
                      | false => if (!(ro xb.2) && Nat.beq xb.2 e && Nat.beq c grown) = true then some (.slice (some ⟨h.n, 0, none⟩) (n + yn) grown, (h.put b ([], 2 * dead)).push (old ++ nv) e) else none
                    | _, _ => none
                  else none
                | _ => none
              else none
            | none => none
          | _ => none
        else none
      | none => none
    | none => none
  | _ => none
theorem Emb.drew {m : Mp} {B : Nat} {h : Hp} {w : World} (E : Emb m B h w) : Emb m B h w.drew := ⟨E.len, E.lies, E.low, E.ros, E.inj, E.wf, E.base, E.ice, E.abs⟩
/-- a block that is no small one is written -/
theorem Emb.wild {m : Mp} {B : Nat} {h : Hp} {w : World} (E : Emb m B h w) {g : Nat} (hB : B ≤ g) (hf : ∀ b x, h.blk? b = some x → ro x.2 = false → (m b).1 ≠ g) (hsp : ∀ b x, h.blk? b = some x → spK x.2 = true → ¬ fpt (m b).1 (x.1.map (mv1 m)) x.2 g) {r0 : Array Value} {e : TypeId} (hl : w.heap[g]? = some (.cells r0 e (0, 0))) (r : Array Value) : Emb m B h (w.setRow g r) where
  len := E.len
  lies := fun b x hb hx => (E.lies b x hb hx).congr (setRow_other _ _ _ _ fun heq => by
    cases hr : ro x.2
    · exact hf b x hb hr heq.symm
    · have := E.ros b x hb hx hr
      omega)
  low := E.low
  ros := E.ros
  inj := E.inj
  wf := E.wf
  base := by rw [setRow_size]; exact E.base
  ice := fun k hk hk' => by
    rw [setRow_size] at hk'
    by_cases h1 : g = k
    · subst h1; exact iced_cells (setRow_heap w _ _ _ _ _ hl)
    · rw [setRow_other _ _ _ _ h1]; exact E.ice k hk hk'
  abs := fun b x hb hx => (E.abs b x hb hx).cells hB (setRow_size _ _ _).symm (fun hs => hsp b x hb hs) hl fun k hk => setRow_other _ _ _ _ hk.symm
/-- a special block lies elsewhere than one's own blocks -/
theorem Emb.apart {m : Mp} {B : Nat} {h : Hp} {w : World} (E : Emb m B h w) {b c : Nat} {x y : List Value × TypeId} (hb : h.blk? b = some x) (hx : spK x.2 = true) (hc : h.blk? c = some y) (hy : ro y.2 = false) : ¬ fpt (m b).1 (x.1.map (mv1 m)) x.2 (m c).1 :=
  ((E.abs b x hb (spK_ab hx)).2 hx).2.1 c y hc hy
/-- where a special block lies -/
theorem Emb.at_ {m : Mp} {B : Nat} {h : Hp} {w : World} (E : Emb m B h w) {b k : Nat} {x : List Value × TypeId} (hb : h.blk? b = some x) (hx : spK x.2 = true) (hf : fpt (m b).1 (x.1.map (mv1 m)) x.2 k) : k < w.heap.size :=
  ((E.abs b x hb (spK_ab hx)).2 hx).1.lt hf
theorem map_all {m : Mp} {L : List Value} (h : (L.all one) = true) : ∀ u ∈ L.map (mv1 m), u.oneCell' = true := fun u hu => by
  obtain ⟨v, hv, rfl⟩ := List.mem_map.1 hu
  exact one_mv1 (List.all_eq_true.1 h v hv)
theorem cap_grown (n : Nat) : cap n grown = n := by
  unfold cap grown
  rw [if_pos (Nat.ble_eq_true_of_le (Nat.le_succ _)), show (dead + 1) / dead - 1 = 0 from by decide, show (dead + 1) % dead = 1 from by decide, Nat.div_one, Nat.sub_zero]
set_option maxHeartbeats 1000000 in
theorem appS_run {m : Mp} {B : Nat} {P : Program} {ty rty : TypeId} {x y v : Value} {h h' : Hp} {w : World} (E : Emb m B h w) (hx : lt h.n x = true) (hs : appS P ty x y h = some (v, h')) :
    ∃ m' w', (Builtin.append_ #[ty, ty] rty #[mv m x, mv m y]).run P w = .ok (mv m' v) w' ∧ Came m B h w v h' m' w' := by
  unfold appS at hs
  split at hs
  · rename_i e hu
    split at hs
    · rename_i i hi
      split at hs
      · rename_i z hz
        split at hs
        · rename_i hc
          simp only [Bool.and_eq_true, Bool.not_eq_true'] at hc
          obtain ⟨⟨⟨⟨c1, c2⟩, c3⟩, c4⟩, c5⟩ := hc
          have c1 := Nat.eq_of_beq_eq_true c1
          have c5 := Nat.le_of_ble_eq_true c5
          have hzc := one_cells c2
          split at hs
          · rename_i yb yo yn yc
            split at hs
            · rename_i nv hnv
              obtain ⟨n1, n2, n3, _⟩ := rdS_some E hnv
              split at hs
              · rename_i hone
                simp only [Bool.and_eq_true, blt_iff] at hone
                obtain ⟨hpos, hone⟩ := hone
                have hl : (nv.map (mv1 m)).length = yn * i.size := by simp [n1, c1]
                have my : mv m (.slice (some ⟨yb, yo, none⟩) yn yc) = .slice (some ⟨(m yb).1, yo, none⟩) yn (cap (m yb).2 yc) := rfl
                rw [my]
                split at hs
                · -- nil
                  split at hs
                  · rename_i hb
                    have hb := Nat.le_of_ble_eq_true hb
                    cases hs
                    have hby : yn * i.bytes ≤ 281474976710656 := by
                      have : yn * i.bytes ≤ 1073741824 * 64 := Nat.mul_le_mul hb c5
                      omega
                    have hr := run_append_nil (P := P) w ty rty e i z hu hi hz ⟨(m yb).1, yo, none⟩ yn (cap (m yb).2 yc) (nv.map (mv1 m)) hl n3 hpos (by omega) hby
                    have hge := grownCap_ge w yn 0 e
                    have E' := E.drew.push nv (List.replicate (grownCap w yn 0 e - yn) z) e c4 n2 (k := grownCap w yn 0 e) (by simp [n1]; omega)
                    rw [hzc, zero_one] at hr
                    refine ⟨_, _, hr.trans ?_, ⟨upd_agree _ _ _, E', ((Below.refl _ _).drew).alloc E.base _, Nat.le_succ _, ?_⟩⟩
                    · have e1 : mv (upd m h.n (w.drew.heap.size, grownCap w yn 0 e)) (.slice (some ⟨h.n, 0, none⟩) yn grown) = .slice (some ⟨w.heap.size, 0, none⟩) yn (grownCap w yn 0 e) := by
                        simp only [mv, mv2, mv1, mvA, upd, if_pos, cap_grown]
                        rfl
                      rw [e1]
                      simp only [List.append_toArray]
                    · simp [lt, lt2, lt1, Hp.push]
                  · cases hs
                · rename_i b n c
                  split at hs
                  · rename_i hb
                    have hb := Nat.le_of_ble_eq_true hb
                    have hby : (n + yn) * i.bytes ≤ 140737488355328 := by
                      have : (n + yn) * i.bytes ≤ 1073741824 * 64 := Nat.mul_le_mul hb c5
                      omega
                    have mx : mv m (.slice (some ⟨b, 0, none⟩) n c) = .slice (some ⟨(m b).1, 0, none⟩) n (cap (m b).2 c) := rfl
                    rw [mx]
                    split at hs
                    · rename_i old xb hold hxb
                      obtain ⟨o1, o2, o3, xb', hxb', otb, o4, o5⟩ := rdS_some E hold
                      obtain rfl : xb = xb' := Option.some.inj (hxb.symm.trans hxb')
                      have lo : (old.map (mv1 m)).length = n * i.size := by simp [o1, c1]
                      have grow : ∀ (h1 : Hp), Emb m B h1 w → h1.n = h.n → cap (m b).2 c < n + yn → ∃ m' w', (Builtin.append_ #[ty, ty] rty #[.slice (some ⟨(m b).1, 0, none⟩) n (cap (m b).2 c), .slice (some ⟨(m yb).1, yo, none⟩) yn (cap (m yb).2 yc)]).run P w = .ok (mv m' (.slice (some ⟨h.n, 0, none⟩) (n + yn) grown)) w' ∧ Came m B h w (.slice (some ⟨h.n, 0, none⟩) (n + yn) grown) (h1.push (old ++ nv) e) m' w' := by
                        intro h1 E1 hn hlt
                        have hr := run_append_grow (P := P) w ty rty e i z hu hi hz ⟨(m b).1, 0, none⟩ n (cap (m b).2 c) (old.map (mv1 m)) lo o3 ⟨(m yb).1, yo, none⟩ yn (cap (m yb).2 yc) (nv.map (mv1 m)) hl n3 hlt (by omega) (growslice_fits hlt hby)
                        have hge := grownCap_ge w (n + yn) (cap (m b).2 c) e
                        have E' := E1.drew.push (old ++ nv) (List.replicate (grownCap w (n + yn) (cap (m b).2 c) e - (n + yn)) z) e c4 (fun u hu' => by
                          rw [hn]
                          rcases List.mem_append.1 hu' with hu' | hu'
                          · exact o2 u hu'
                          · exact n2 u hu') (k := grownCap w (n + yn) (cap (m b).2 c) e) (by simp [n1, o1]; omega)
                        rw [hzc, zero_one] at hr
                        rw [hn] at E'
                        refine ⟨_, _, hr.trans ?_, ⟨upd_agree _ _ _, E', ((Below.refl _ _).drew).alloc E.base _, by show h.n ≤ h1.n + 1; omega, ?_⟩⟩
                        · have e1 : mv (upd m h.n (w.drew.heap.size, grownCap w (n + yn) (cap (m b).2 c) e)) (.slice (some ⟨h.n, 0, none⟩) (n + yn) grown) = .slice (some ⟨w.heap.size, 0, none⟩) (n + yn) (grownCap w (n + yn) (cap (m b).2 c) e) := by
                            simp only [mv, mv2, mv1, mvA, upd, if_pos, cap_grown]
                            rfl
                          rw [e1, List.map_append]
                          simp only [List.append_toArray]
                        · simp [lt, lt2, lt1, Hp.push, hn]
                      split at hs
                      · rename_i hsm
                        rw [cap_small hsm] at *
                        split at hs
                        · rename_i hroom
                          have hroom := Nat.le_of_ble_eq_true hroom
                          split at hs
                          · rename_i hq
                            simp only [Bool.and_eq_true, Bool.not_eq_true'] at hq
                            obtain ⟨⟨q1, q2⟩, q3⟩ := hq
                            have q2 := Nat.eq_of_beq_eq_true q2
                            have q3 := Nat.le_of_ble_eq_true q3
                            cases hs
                            obtain ⟨r, zz, l0, l1, l2⟩ := E.lies _ _ hxb (tomb_ro q1)
                            have ert : rt xb.2 = e := by rw [rt_own q1, q2]
                            rw [(l2 q1).1, (l2 q1).2] at l1
                            have l1' := l1
                            rw [ert] at l1
                            have hr := run_append_room (P := P) w ty rty e i hu hi (m b).1 n c _ l1 ⟨(m yb).1, yo, none⟩ yn (cap (m yb).2 yc) (nv.map (mv1 m)) hl n3 (map_all hone) hroom (by simp [c1, n1]; omega)
                            have esp : (xb.1.map (mv1 m) ++ r).take n ++ nv.map (mv1 m) ++ (xb.1.map (mv1 m) ++ r).drop (n + yn) = (xb.1.take n ++ nv ++ xb.1.drop (n + yn)).map (mv1 m) ++ r := by
                              rw [List.take_append_of_le_length (by simp; omega), List.drop_append_of_le_length (by simpa using q3)]
                              simp
                            have wf := E.wf _ _ hxb
                            refine ⟨m, _, hr.trans ?_, ⟨Agree.refl _ _, E.put hxb q1 l1' (xb.1.take n ++ nv ++ xb.1.drop (n + yn)) r (fun u hu' => ?_) (by simp [n1] at l0 ⊢; omega), below_setRow (Below.refl _ _) (E.low _ _ hxb q1) _, by simp [Hp.put], ?_⟩⟩
                            · simp only [c1, Nat.mul_one, List.length_map, n1, esp]
                              congr 1
                              simp [mv, mv2, mv1, mvA, cap_small hsm]
                            · simp only [List.mem_append] at hu'
                              rcases hu' with (hu' | hu') | hu'
                              · exact wf u (List.mem_of_mem_take hu')
                              · exact n2 u hu'
                              · exact wf u (List.mem_of_mem_drop hu')
                            · simpa [lt, lt2, lt1, Hp.put] using hx
                          · cases hs
                        · rename_i hroom
                          cases hs
                          have hroom : ¬ n + yn ≤ c := fun hle => by rw [Nat.ble_eq_true_of_le hle] at hroom; cases hroom
                          exact grow h E rfl (by omega)
                      · split at hs
                        · rename_i hq
                          simp only [Bool.and_eq_true, Bool.not_eq_true'] at hq
                          obtain ⟨⟨q1, q2⟩, q3⟩ := hq
                          have q2 := Nat.eq_of_beq_eq_true q2
                          have q3 := Nat.eq_of_beq_eq_true q3
                          subst q3
                          cases hs
                          have hblt := Hp.blk_lt hxb
                          have Eb := E.bury hblt
                          by_cases hroom : n + yn ≤ (m b).2
                          · obtain ⟨r, zz, l0, l1, l2⟩ := E.lies _ _ hxb (tomb_ro q1)
                            have ert : rt xb.2 = e := by rw [rt_own q1, q2]
                            rw [(l2 q1).1, (l2 q1).2, ert] at l1
                            rw [cap_grown]
                            have hr := run_append_room (P := P) w ty rty e i hu hi (m b).1 n (m b).2 _ l1 ⟨(m yb).1, yo, none⟩ yn (cap (m yb).2 yc) (nv.map (mv1 m)) hl n3 (map_all hone) hroom (by simp [c1, n1] at l0 ⊢; omega)
                            have other : ∀ b' x', (h.put b ([], 2 * dead)).blk? b' = some x' → ro x'.2 = false → (m b').1 ≠ (m b).1 := by
                              intro b' x' hb' hx' heq
                              rw [Hp.blk_put E.len hblt] at hb'
                              split at hb'
                              · cases hb'; cases hx'
                              · rename_i hne
                                exact hne (E.inj _ _ _ _ hb' hxb hx' q1 heq)
                            have special : ∀ b' x', (h.put b ([], 2 * dead)).blk? b' = some x' → spK x'.2 = true → ¬ fpt (m b').1 (x'.1.map (mv1 m)) x'.2 (m b).1 := by
                              intro b' x' hb' hx'
                              rw [Hp.blk_put E.len hblt] at hb'
                              split at hb'
                              · cases hb'; cases hx'
                              · exact E.apart hb' hx' hxb q1
                            have Ew := Eb.wild (E.low _ _ hxb q1) other special l1 ((List.take (n * i.size) (xb.1.map (mv1 m) ++ r).toArray.toList ++ nv.map (mv1 m) ++ List.drop (n * i.size + (nv.map (mv1 m)).length) (xb.1.map (mv1 m) ++ r).toArray.toList).toArray)
                            have e0 : (xb.1.map (mv1 m) ++ r).take n = old.map (mv1 m) := by
                              rw [List.take_append_of_le_length (by simp; omega), o5]
                              simp
                            have Ea := Ew.adopt (old ++ nv) e c4 (fun u hu' => by
                              rcases List.mem_append.1 hu' with hu' | hu'
                              · exact o2 u hu'
                              · exact n2 u hu') (k := m b) ⟨(xb.1.map (mv1 m) ++ r).drop (n + yn), (e, 0, 0), by simp [n1, o1] at l0 ⊢; omega, by
                                rw [setRow_heap w _ _ _ _ _ l1]
                                simp [c1, n1, e0], fun _ => ⟨(rt_own c4).symm, rfl⟩⟩ (E.low _ _ hxb q1) other special
                            have e1 : mv (upd m h.n (m b)) (.slice (some ⟨h.n, 0, none⟩) (n + yn) grown) = .slice (some ⟨(m b).1, 0, none⟩) (n + yn) (m b).2 := by
                              simp only [mv, mv2, mv1, mvA, upd, if_pos, cap_grown]
                            refine ⟨upd m h.n (m b), _, hr.trans ?_, ⟨upd_agree _ _ _, Ea, below_setRow (Below.refl _ _) (E.low _ _ hxb q1) _, Nat.le_succ _, ?_⟩⟩
                            · rw [e1]
                            · show Nat.blt h.n (h.n + 1) = true
                              exact blt_iff.2 (Nat.lt_succ_self _)
                          · exact grow _ Eb rfl (by rw [cap_grown]; omega)
                        · cases hs
                    · cases hs
                  · cases hs
                · cases hs
              · cases hs
            · cases hs
          · cases hs
        · cases hs
      · cases hs
    · cases hs
  · cases hs
/-! ### a row that is written out -/
def fillL : List Value → List (Nat × Value) → Option (List Value)
  | l, [] => some l
  | l, (i, v) :: ps => if (Nat.blt i l.length && one v) = true then fillL (l.set i v) ps else none
theorem fillL_spec : ∀ (ps : List (Nat × Value)) (l l' : List Value), fillL l ps = some l' → Instr.fill (fun i => some (i * 1, 1)) l.toArray ps = some l'.toArray ∧ l'.length = l.length
  | [], l, l', h => by
    simp only [fillL] at h
    cases h
    exact ⟨rfl, rfl⟩
  | (i, v) :: ps, l, l', h => by
    simp only [fillL] at h
    split at h
    · rename_i hc
      simp only [Bool.and_eq_true, blt_iff] at hc
      obtain ⟨h1, h2⟩ := fillL_spec ps _ _ h
      refine ⟨?_, by rw [h2]; simp⟩
      have e : v.cells = #[v] := one_cells hc.2
      simp only [Instr.fill, e]
      have hi : i + 1 ≤ l.length := by omega
      simp [hi]
      simpa using h1
    · cases h
def buildS (P : Program) (ty : TypeId) (n : Nat) (ps : List (Nat × Value)) (h : Hp) : Option (Value × Hp) :=
  match P.underlying ty with
  | some (.slice e) =>
    match P.info? e with
    | some i =>
      match i.zero with
      | some z =>
        if (Nat.beq i.size 1 && one z && lt 0 z && !(ro e) && Nat.ble n 1048576 && ps.all fun p => lt 0 p.2) = true then
          match fillL (List.replicate n z) ps with
          | some l => if (l.all (lt1 0)) = true then some (.slice (some ⟨h.n, 0, none⟩) n n, h.push l e) else none
          | none => none
        else none
      | none => none
    | none => none
  | _ => none
theorem buildS_run {m : Mp} {B : Nat} {P : Program} {ty : TypeId} {n : Nat} {ps : List (Nat × Value)} {v : Value} {h h' : Hp} {w : World} (E : Emb m B h w) (hs : buildS P ty n ps h = some (v, h')) :
    (ps.all fun p => lt 0 p.2) = true ∧ ∃ m' w', (Instr.buildSlice ty n ps.toArray).run P w = .ok (mv m' v) w' ∧ Came m B h w v h' m' w' := by
  unfold buildS at hs
  split at hs
  · rename_i e hu
    split at hs
    · rename_i i hi
      split at hs
      · rename_i z hz
        split at hs
        · rename_i hc
          simp only [Bool.and_eq_true, Bool.not_eq_true'] at hc
          obtain ⟨⟨⟨⟨⟨c1, c2⟩, c3⟩, c4⟩, c5⟩, c6⟩ := hc
          have c1 := Nat.eq_of_beq_eq_true c1
          have c5 := Nat.le_of_ble_eq_true c5
          split at hs
          · rename_i l hl
            split at hs
            · rename_i hall
              cases hs
              refine ⟨c6, ?_⟩
              obtain ⟨f1, f2⟩ := fillL_spec _ _ _ hl
              rw [List.length_replicate] at f2
              have hall' : ∀ u ∈ l, lt1 0 u = true := List.all_eq_true.1 hall
              have e1 : l.map (mv1 m) = l := (List.map_congr_left fun u hu => mv1_still (hall' u hu)).trans (List.map_id' _)
              have hr : (Instr.buildSlice ty n ps.toArray).run P w = .ok (.slice (some ⟨w.heap.size, 0, none⟩) n n) (w.alloc (.cells l.toArray e (0, 0))) := by
                have hbig : ¬ (16777216 < n) := by omega
                by_cases hn : n = 0
                · subst hn
                  have f1' : Instr.fill (fun i => some (i, 1)) #[] ps = some l.toArray := by simpa using f1
                  simp [Instr.buildSlice, run_underlying hu, sizeOf, typeInfo, hi, c1, newRow, f1', Array.range_zero']
                · have f1' : Instr.fill (fun i => some (i, 1)) (List.replicate n z).toArray ps = some l.toArray := by simpa using f1
                  have hm' : (Array.range n).map (fun x => ([z] : List Value)[x % 1]?.getD default) = (List.replicate n z).toArray := by
                    apply Array.ext'
                    simp only [Array.toList_map, Array.toList_range]
                    refine List.ext_getElem (by simp) fun j h1 h2 => ?_
                    simp [Nat.mod_one]
                  simp [Instr.buildSlice, run_underlying hu, sizeOf, typeInfo, c1, zeroValue, hbig, hn, hi, hz, one_cells c2, newRow]
                  rw [hm', f1']
                  simp
              have E' := E.push l [] e c4 (fun u hu => lt1_mono (Nat.zero_le _) (hall' u hu)) (k := n) (by simp [f2])
              rw [List.append_nil, e1] at E'
              refine ⟨upd m h.n (w.heap.size, n), _, hr.trans ?_, ⟨upd_agree _ _ _, E', (Below.refl _ _).alloc E.base _, Nat.le_succ _, ?_⟩⟩
              · have hs : smallC n = true := blt_iff.2 (by unfold dead; omega)
                simp only [mv, mv2, mv1, mvA, upd, if_pos, cap_small hs]
              · show Nat.blt h.n (h.n + 1) = true
                exact blt_iff.2 (Nat.lt_succ_self _)
            · cases hs
          · cases hs
        · cases hs
      · cases hs
    · cases hs
  · cases hs
/-! ### copy -/
def copyS (P : Program) (ty : TypeId) (x y : Value) (h : Hp) : Option (Value × Hp × Bool) :=
  match P.underlying ty, x, y with
  | some (.slice e), .slice (some ⟨b, o, none⟩) dn _, .slice (some ⟨b', o', none⟩) sn _ =>
    match (P.info? e).map (fun i => i.size), h.blk? b, h.blk? b' with
    | some 1, some xb, some yb =>
      some (goInt (Nat.min sn dn), h.put b (xb.1.take o ++ (yb.1.drop o').take (Nat.min sn dn) ++ xb.1.drop (o + Nat.min sn dn), xb.2),
        !(tomb yb.2) && !(ro xb.2) && Nat.ble (o' + Nat.min sn dn) yb.1.length && Nat.ble (o + Nat.min sn dn) xb.1.length && ((yb.1.drop o').take (Nat.min sn dn)).all one)
    | _, _, _ => none
  | some (.slice e), .slice (some _) _ _, .slice none 0 0 =>
    match P.info? e with
    | some _ => some (goInt 0, h, true)
    | none => none
  | _, _, _ => none
theorem copyS_run {m : Mp} {B : Nat} {P : Program} {ty ty' rty : TypeId} {x y v : Value} {h h' : Hp} {w : World} {d : Bool} (E : Emb m B h w) (hs : copyS P ty x y h = some (v, h', d)) (hd : d = true) :
    ∃ w', (Builtin.copy_ #[ty, ty'] rty #[mv m x, mv m y]).run P w = .ok (mv m v) w' ∧ Came m B h w v h' m w' := by
  subst hd
  unfold copyS at hs
  split at hs
  · rename_i e b o dn dc b' o' sn sc hu
    split at hs
    · rename_i xb yb hi hxb hyb
      simp only [Option.some.injEq, Prod.mk.injEq] at hs
      obtain ⟨rfl, rfl, hd⟩ := hs
      simp only [Bool.and_eq_true, Bool.not_eq_true'] at hd
      obtain ⟨⟨⟨⟨d1, d2⟩, d3⟩, d4⟩, d5⟩ := hd
      have d3 := Nat.le_of_ble_eq_true d3
      have d4 := Nat.le_of_ble_eq_true d4
      generalize hk : Nat.min sn dn = k at *
      obtain ⟨r, zz, l0, l1, l2⟩ := E.lies _ _ hxb (tomb_ro d2)
      rw [(l2 d2).1, (l2 d2).2] at l1
      have lc : ((yb.1.drop o').take k).length = k := by simp; omega
      have wy := E.wf _ _ hyb
      have wx := E.wf _ _ hxb
      have hr := run_copy_row (P := P) w ty ty' rty e (m b).1 o dn (cap (m b).2 dc) ⟨(m b').1, o', none⟩ sn (cap (m b').2 sc) _ (rt xb.2) (((yb.1.drop o').take k).map (mv1 m)) hu hi l1 (by rw [List.length_map, lc, hk]) (fun j u hj => by
        rw [add_plain]
        rw [List.getElem?_map, List.getElem?_take] at hj
        split at hj
        · rw [List.getElem?_drop] at hj
          obtain ⟨u', hu', rfl⟩ := Option.map_eq_some_iff.1 hj
          exact cell_lies (E.lies _ _ hyb d1) hu'
        · simp at hj) (by simp; omega) (map_all d5)
      have esp : (xb.1.map (mv1 m) ++ r).take o ++ ((yb.1.drop o').take k).map (mv1 m) ++ (xb.1.map (mv1 m) ++ r).drop (o + k) = (xb.1.take o ++ (yb.1.drop o').take k ++ xb.1.drop (o + k)).map (mv1 m) ++ r := by
        rw [List.take_append_of_le_length (by simp; omega), List.drop_append_of_le_length (by simpa using d4)]
        simp
      refine ⟨_, hr.trans ?_, ⟨Agree.refl _ _, E.put hxb d2 l1 (xb.1.take o ++ (yb.1.drop o').take k ++ xb.1.drop (o + k)) r (fun u hu' => ?_) (by simp at l0 ⊢; omega), below_setRow (Below.refl _ _) (E.low _ _ hxb d2) _, Nat.le_refl _, rfl⟩⟩
      · simp only [List.length_map, lc, esp]
        rfl
      · simp only [List.mem_append] at hu'
        rcases hu' with (hu' | hu') | hu'
        · exact wx u (List.mem_of_mem_take hu')
        · exact wy u (List.mem_of_mem_drop (List.mem_of_mem_take hu'))
        · exact wx u (List.mem_of_mem_drop hu')
    · cases hs
  · rename_i e ad dn dc hu
    split at hs
    · rename_i i hi
      simp only [Option.some.injEq, Prod.mk.injEq] at hs
      obtain ⟨rfl, rfl, _⟩ := hs
      refine ⟨w, ?_, ⟨Agree.refl _ _, E, Below.refl _ _, Nat.le_refl _, rfl⟩⟩
      exact run_copy_nil (P := P) (w := w) (dT := ty) (sT := ty') (ty := rty) (elem := e) (a := mvA m ad) (dLen := dn) (dCap := _) hu (by simp [hi])
    · cases hs
  · cases hs
/-! ### a part of a row, told ahead; of a row whose capacity is not known -/
def num0 : Option Value → Int → Option Int
  | none, d => some d
  | some (.int _ n), _ => some n
  | some _, _ => none
def okPart (l h m c : Int) : Bool := decide (0 ≤ l ∧ l ≤ h ∧ h ≤ m ∧ m ≤ c ∧ c < 4611686018427387904)
def partS (P : Program) (ty : TypeId) (x : Value) (lo hi mx : Option Value) (h : Hp) : Option (Value × Log) :=
  match P.underlying ty, x with
  | some (.slice e), .slice (some ⟨b, o, none⟩) n c =>
    match P.info? e, h.blk? b, num0 lo 0, num0 hi n, smallC c with
    | some i, some _, some l, some t, true =>
      match num0 mx c with
      | some k => if (hi.isSome || !(mx.isSome)) = true then some (.slice (some ⟨b, o + l.toNat * i.size, none⟩) (t.toNat - l.toNat) (k.toNat - l.toNat), [(okPart l t k c, true), (decide (k = l ∧ l ≠ 0), false)]) else none
      | none => none
    | some i, some xb, some l, some t, false =>
      if Nat.beq c grown = true then
        match mx with
        | some (.int _ k) => if hi.isSome = true then some (.slice (some ⟨b, o + l.toNat * i.size, none⟩) (t.toNat - l.toNat) (k.toNat - l.toNat), [(okPart l t k n, true), (decide (k = l ∧ l ≠ 0), false), (!(tomb xb.2) && Nat.ble n xb.1.length, true)]) else none
        | none => if lo.isNone = true then some (.slice (some ⟨b, o, none⟩) t.toNat c, [(okPart 0 t n n, true), (!(tomb xb.2) && Nat.ble n xb.1.length, true)]) else none
        | _ => none
      else none
    | _, _, _, _, _ => none
  | _, _ => none
theorem bound_run {P : Program} {k : IntKind} {n : Int} {y : Nat} {code : BoundsCode} (h0 : 0 ≤ n) (h1 : n ≤ y) (w : World) : (Instr.sliceBound (.int k n) y code).run P w = .ok n.toNat w := by
  simp [Instr.sliceBound, asIntOf, h0, h1]
theorem num0_cases {o : Option Value} {d n : Int} (h : num0 o d = some n) : (o = none ∧ n = d) ∨ ∃ k, o = some (.int k n) := by
  cases o with
  | none => simp only [num0, Option.some.injEq] at h; exact .inl ⟨rfl, h.symm⟩
  | some v =>
    cases v <;> simp only [num0] at h <;> first | (cases h; exact .inr ⟨_, rfl⟩) | cases h
set_option linter.unusedSimpArgs false in
theorem bounds_run {P : Program} {len C : Nat} {lo hi mx : Option Value} {l t k : Int} (hl : num0 lo 0 = some l) (ht : num0 hi len = some t) (hk : num0 mx C = some k) (hh : (hi.isSome || !(mx.isSome)) = true) (h0 : 0 ≤ l) (h1 : l ≤ t) (h2 : t ≤ k) (h3 : k ≤ C) (w : World) :
    (Instr.sliceBounds true len C lo hi mx).run P w = .ok (l.toNat, t.toNat, k.toNat) w := by
  have g1 : ∀ (kd : IntKind) (code : BoundsCode), (Instr.sliceBound (.int kd k) C code).run P w = .ok k.toNat w := fun kd code => bound_run (by omega) h3 w
  have g2 : ∀ (kd : IntKind) (code : BoundsCode), (Instr.sliceBound (.int kd t) k.toNat code).run P w = .ok t.toNat w := fun kd code => bound_run (by omega) (by omega) w
  have g3 : ∀ (kd : IntKind) (code : BoundsCode), (Instr.sliceBound (.int kd l) t.toNat code).run P w = .ok l.toNat w := fun kd code => bound_run h0 (by omega) w
  rcases num0_cases hl with ⟨rfl, rfl⟩ | ⟨kl, rfl⟩ <;> rcases num0_cases ht with ⟨rfl, rfl⟩ | ⟨kt, rfl⟩ <;> rcases num0_cases hk with ⟨rfl, rfl⟩ | ⟨kk, rfl⟩ <;> first
    | (simp at hh; done)
    | (simp [Instr.sliceBounds, g1, g2, g3]; done)
    | (simp only [Int.toNat_natCast] at g2 g3; simp [Instr.sliceBounds, g2, g3]; done)
    | (simp only [Int.toNat_natCast] at g2; simp [Instr.sliceBounds, g2, g3]; done)
    | (simp only [Int.toNat_natCast] at g3; simp [Instr.sliceBounds, g3]; done)
theorem partS_run {m : Mp} {B : Nat} {P : Program} {ty : TypeId} {x v : Value} {lo hi mx : Option Value} {h : Hp} {w : World} {lg : Log} (E : Emb m B h w) (hx : lt h.n x = true) (hs : partS P ty x lo hi mx h = some (v, lg)) (hlg : okLog lg) :
    (Instr.sliceAt ty (mv m x) lo hi mx).run P w = .ok (mv m v) w ∧ lt h.n v = true := by
  unfold partS at hs
  split at hs
  · rename_i e b o n c hu
    have key : ∀ (i : TypeInfo) (l t k : Int) (C : Nat), P.info? e = some i → num0 lo 0 = some l → num0 hi n = some t → num0 mx C = some k → (hi.isSome || !(mx.isSome)) = true → 0 ≤ l → l ≤ t → t ≤ k → k ≤ C → ¬ (k = l ∧ l ≠ 0) →
        (Instr.sliceAt ty (.slice (some ⟨(m b).1, o, none⟩) n C) lo hi mx).run P w = .ok (.slice (some ⟨(m b).1, o + l.toNat * i.size, none⟩) (t.toNat - l.toNat) (k.toNat - l.toNat)) w := by
      intro i l t k C hi' h1 h2 h3 h4 h5 h6 h7 h8 h9
      have hb := bounds_run (P := P) h1 h2 h3 h4 h5 h6 h7 h8 w
      simp only [Instr.sliceAt, Instr.slice, underlying, Sem.run_bind, run_program, Result.andThen_ok, hu, Sem.run_pure, hb, sizeOf, typeInfo, hi']
      by_cases hkl : k.toNat = l.toNat
      · have : l = 0 := by
          rcases Int.lt_or_le 0 l with hh | hh
          · exact absurd ⟨by omega, by omega⟩ h9
          · omega
        subst this
        simp [hkl]
      · simp [hkl, add_plain]
    split at hs
    · rename_i i xb l t hi' hxb hl ht hc
      split at hs
      · rename_i k hk
        split at hs
        · rename_i hh
          cases hs
          have g1 := hlg _ (List.mem_cons_self)
          have g2 := hlg _ (List.mem_cons_of_mem _ (List.mem_singleton.2 rfl))
          simp only [okPart, decide_eq_true_eq, decide_eq_false_iff_not] at g1 g2
          obtain ⟨a1, a2, a3, a4, a5⟩ := g1
          have hr := key i l t k c hi' hl ht hk hh a1 a2 a3 a4 g2
          have hsm : smallC (k.toNat - l.toNat) = true := blt_iff.2 (by unfold dead; omega)
          refine ⟨?_, by simpa [lt, lt2, lt1] using hx⟩
          simp only [mv, mv2, mv1, mvA, cap_small hc, cap_small hsm]
          exact hr
        · cases hs
      · cases hs
    · rename_i i xb l t hi' hxb hl ht hc
      split at hs
      · rename_i hg
        have hg := Nat.eq_of_beq_eq_true hg
        subst hg
        have room : (!(tomb xb.2) && Nat.ble n xb.1.length) = true → n ≤ (m b).2 := fun hq => by
          simp only [Bool.and_eq_true, Bool.not_eq_true'] at hq
          obtain ⟨r, zz, l0, _, _⟩ := E.lies _ _ hxb hq.1
          have := Nat.le_of_ble_eq_true hq.2
          simp at l0
          omega
        split at hs
        · rename_i kk k
          split at hs
          · rename_i hh
            cases hs
            have g1 := hlg _ (List.mem_cons_self)
            have g2 := hlg _ (List.mem_cons_of_mem _ List.mem_cons_self)
            have g3 := hlg _ (List.mem_cons_of_mem _ (List.mem_cons_of_mem _ (List.mem_singleton.2 rfl)))
            simp only [okPart, decide_eq_true_eq, decide_eq_false_iff_not] at g1 g2
            obtain ⟨a1, a2, a3, a4, a5⟩ := g1
            have hn := room g3
            have hr := key i l t k (m b).2 hi' hl ht rfl (by simp [hh]) a1 a2 a3 (by omega) g2
            have hsm : smallC (k.toNat - l.toNat) = true := blt_iff.2 (by unfold dead; omega)
            refine ⟨?_, by simpa [lt, lt2, lt1] using hx⟩
            simp only [mv, mv2, mv1, mvA, cap_grown, cap_small hsm]
            exact hr
          · cases hs
        · split at hs
          · rename_i hlo
            cases hs
            have g1 := hlg _ (List.mem_cons_self)
            have g3 := hlg _ (List.mem_cons_of_mem _ (List.mem_singleton.2 rfl))
            simp only [okPart, decide_eq_true_eq] at g1
            obtain ⟨a1, a2, a3, a4, a5⟩ := g1
            have hn := room g3
            have hlo' : lo = none := by cases lo <;> simp_all
            subst hlo'
            simp only [num0, Option.some.injEq] at hl
            subst hl
            have hr := key i 0 t (m b).2 (m b).2 hi' rfl ht rfl (by simp) (by omega) (by omega) (by omega) (by omega) (by omega)
            refine ⟨?_, by simpa [lt, lt2, lt1] using hx⟩
            simp only [mv, mv2, mv1, mvA, cap_grown]
            simpa using hr
          · cases hs
        · cases hs
      · cases hs
    · cases hs
  · cases hs
/-- the same of a row whose capacity is a letter -/
def partP (P : Program) (ty : TypeId) (x : Value) (lo hi mx : Option Value) : Option (Value × Log) :=
  match P.underlying ty, x with
  | some (.slice e), .slice (some ⟨b, o, none⟩) n c =>
    match P.info? e, num0 lo 0, num0 hi n, num0 mx c with
    | some i, some l, some t, some k =>
      if (hi.isSome || !(mx.isSome)) = true then some (.slice (some ⟨b, o + l.toNat * i.size, none⟩) (t.toNat - l.toNat) (k.toNat - l.toNat), [(smallC c, true), (okPart l t k c, true), (decide (k = l ∧ l ≠ 0), false)]) else none
    | _, _, _, _ => none
  | _, _ => none
theorem partP_run {m : Mp} {P : Program} {ty : TypeId} {x v : Value} {lo hi mx : Option Value} {N : Nat} {w : World} {lg : Log} (hx : lt N x = true) (hs : partP P ty x lo hi mx = some (v, lg)) (hlg : okLog lg) :
    (Instr.sliceAt ty (mv m x) lo hi mx).run P w = .ok (mv m v) w ∧ lt N v = true := by
  unfold partP at hs
  split at hs
  · rename_i e b o n c hu
    split at hs
    · rename_i i l t k hi' hl ht hk
      split at hs
      · rename_i hh
        cases hs
        have g0 := hlg _ (List.mem_cons_self)
        have g1 := hlg _ (List.mem_cons_of_mem _ List.mem_cons_self)
        have g2 := hlg _ (List.mem_cons_of_mem _ (List.mem_cons_of_mem _ (List.mem_singleton.2 rfl)))
        simp only [okPart, decide_eq_true_eq, decide_eq_false_iff_not] at g1 g2
        simp only at g0
        obtain ⟨a1, a2, a3, a4, a5⟩ := g1
        have hb := bounds_run (P := P) hl ht hk hh a1 a2 a3 a4 w
        have hsm : smallC (k.toNat - l.toNat) = true := blt_iff.2 (by unfold dead; omega)
        refine ⟨?_, by simpa [lt, lt2, lt1] using hx⟩
        simp only [mv, mv2, mv1, mvA, cap_small g0, cap_small hsm]
        simp only [Instr.sliceAt, Instr.slice, underlying, Sem.run_bind, run_program, Result.andThen_ok, hu, Sem.run_pure, hb, sizeOf, typeInfo, hi']
        by_cases hkl : k.toNat = l.toNat
        · have : l = 0 := by
            rcases Int.lt_or_le 0 l with hh' | hh'
            · exact absurd ⟨by omega, by omega⟩ g2
            · omega
          subst this
          simp [hkl]
        · simp [hkl, add_plain]
      · cases hs
    · cases hs
  · cases hs
/-! ### a text of bytes -/
def bytesL : List Value → Option (List Int)
  | [] => some []
  | .int .u8 n :: r =>
    match bytesL r with
    | some l => some (n :: l)
    | none => none
  | _ => none
theorem bytesL_spec : ∀ (l : List Value) (ns : List Int), bytesL l = some ns → l = ns.map (Value.int .u8)
  | [], ns, h => by simp only [bytesL] at h; cases h; rfl
  | v :: r, ns, h => by
    unfold bytesL at h
    split at h
    · rename_i heq; cases heq
    · rename_i n r' heq
      cases heq
      split at h
      · rename_i l hl
        cases h
        rw [bytesL_spec _ _ hl]
        rfl
      · cases h
    · cases h
theorem push_all (ns : List Int) : ∀ r : ByteArray, ns.foldl (fun r n => r.push (UInt8.ofNat n.toNat)) r = ⟨(r.data.toList ++ ns.map fun n => UInt8.ofNat n.toNat).toArray⟩ := by
  induction ns with
  | nil => intro r; simp
  | cons n ns ih =>
    intro r
    rw [List.foldl_cons, ih]
    simp [ByteArray.push]
def textS (P : Program) (src dst : TypeId) (x : Value) (h : Hp) : Option Value :=
  match P.underlying src, P.underlying dst, x with
  | some (.slice e), some .string, .slice (some ⟨_, _, none⟩) _ _ =>
    match P.underlying e, rdS h x with
    | some (.int .u8), some l =>
      match bytesL l with
      | some ns => some (.string ⟨(ns.map fun n => UInt8.ofNat n.toNat).toArray⟩)
      | none => none
    | _, _ => none
  | _, _, _ => none
theorem textS_run {m : Mp} {B : Nat} {P : Program} {src dst : TypeId} {x v : Value} {h : Hp} {w : World} (E : Emb m B h w) (hs : textS P src dst x h = some v) : (convert src dst (mv m x)).run P w = .ok (mv m v) w ∧ lt h.n v = true := by
  unfold textS at hs
  split at hs
  · rename_i e b o n c hu hd
    split at hs
    · rename_i l he hl
      split at hs
      · rename_i ns hns
        cases hs
        refine ⟨?_, rfl⟩
        obtain ⟨l1, l2, l3, _⟩ := rdS_some E hl
        have e1 := bytesL_spec _ _ hns
        subst e1
        have e2 : (ns.map (Value.int .u8)).map (mv1 m) = ns.map (Value.int .u8) := by rw [List.map_map]; rfl
        rw [e2] at l3
        have hld := run_loadCells_list (P := P) w ⟨(m b).1, o, none⟩ (ns.map (Value.int .u8)) l3
        rw [l1] at hld
        have hr := run_bytesToString (P := P) w ⟨(m b).1, o, none⟩ n (cap (m b).2 c) ns hld
        rw [push_all] at hr
        have mx : mv m (.slice (some ⟨b, o, none⟩) n c) = .slice (some ⟨(m b).1, o, none⟩) n (cap (m b).2 c) := rfl
        rw [mx]
        simp only [convert, Sem.run_bind, run_underlying hu, run_underlying hd, run_underlying he, Result.andThen_ok]
        rw [hr]
        rfl
      · cases hs
    · cases hs
  · cases hs
/-! ### nothing is appended -/
def appE (P : Program) (ty : TypeId) (x y : Value) : Option Value :=
  match y with
  | .slice _ 0 _ =>
    match P.underlying ty with
    | some (.slice e) =>
      match P.info? e with
      | some _ =>
        match x with
        | .slice p n c => if (smallC c && Nat.ble n c) = true then some (.slice p n c) else none
        | _ => none
      | none => none
    | _ => none
  | _ => none
def appT (P : Program) (ty : TypeId) (x y : Value) (h : Hp) : Option (Value × Hp) :=
  match appE P ty x y with
  | some v => some (v, h)
  | none => appS P ty x y h
theorem append_none {P : Program} (w : World) (t ty e : TypeId) (i : TypeInfo) (ht : P.underlying t = some (.slice e)) (hi : P.info? e = some i) (base : Option Addr) (sLen sCap : Nat) (hle : sLen ≤ sCap) (x : Value) (hs : Src P i.size t x 0 [] w) :
    (Builtin.append_ #[t, t] ty #[.slice base sLen sCap, x]).run P w = .ok (.slice base sLen sCap) w := by
  cases base <;> simp [Builtin.append_, run_underlying ht, sizeOf, typeInfo, hi, hs.len, hle, hs.cells, storeCells]
theorem appT_run {m : Mp} {B : Nat} {P : Program} {ty rty : TypeId} {x y v : Value} {h h' : Hp} {w : World} (E : Emb m B h w) (hx : lt h.n x = true) (hs : appT P ty x y h = some (v, h')) :
    ∃ m' w', (Builtin.append_ #[ty, ty] rty #[mv m x, mv m y]).run P w = .ok (mv m' v) w' ∧ Came m B h w v h' m' w' := by
  unfold appT at hs
  split at hs
  · rename_i u hu
    cases hs
    unfold appE at hu
    split at hu
    · rename_i yp yc
      split at hu
      · rename_i e he
        split at hu
        · rename_i i hi
          split at hu
          · rename_i p n c
            split at hu
            · rename_i hc
              cases hu
              simp only [Bool.and_eq_true] at hc
              have hle := Nat.le_of_ble_eq_true hc.2
              refine ⟨m, w, ?_, ⟨Agree.refl _ _, E, Below.refl _ _, Nat.le_refl _, hx⟩⟩
              have src : Src P i.size ty (mv m (.slice yp 0 yc)) 0 [] w := by
                cases yp with
                | none => exact Src.ofNil w he yc
                | some a => exact Src.ofSlice w he _ 0 _ [] (by simp) (fun j u hj => by simp at hj) (fun u hu => by cases hu)
              cases p with
              | none => exact append_none w ty rty e i he hi none n c hle _ src
              | some a =>
                have e1 : mv m (.slice (some a) n c) = .slice (some (mvA m a)) n c := by simp only [mv, mv2, mv1, cap_small hc.1]
                rw [e1]
                exact append_none w ty rty e i he hi (some (mvA m a)) n c hle _ src
            · cases hu
          · cases hu
        · cases hu
      · cases hu
    · cases hu
  · exact appS_run E hx hs
/-! ### append to a row of letters, its capacity not known: that it is so is told ahead -/
def appChk (e : TypeId) (xb yb : List Value × TypeId) (n yo yn : Nat) : Bool :=
  Nat.beq n xb.1.length && Nat.ble (n + yn) 1073741824 && !(tomb xb.2) && !(ro xb.2) && Nat.beq xb.2 e && !(tomb yb.2) && Nat.ble (yo + yn) yb.1.length && Nat.blt 0 yn && ((yb.1.drop yo).take yn).all one
def appChn (yb : List Value × TypeId) (yo yn : Nat) : Bool :=
  !(tomb yb.2) && Nat.ble (yo + yn) yb.1.length && Nat.blt 0 yn && ((yb.1.drop yo).take yn).all one && Nat.ble yn 1073741824
def appY (P : Program) (ty : TypeId) (x y : Value) (h : Hp) : Option (Value × Hp × Log) :=
  match P.underlying ty with
  | some (.slice e) =>
    match P.info? e with
    | some i =>
      match i.zero with
      | some z =>
        if (Nat.beq i.size 1 && one z && lt 0 z && !(ro e) && Nat.ble i.bytes 64) = true then
          match x, y with
          | .slice (some ⟨b, 0, none⟩) n c, .slice (some ⟨yb, yo, none⟩) yn _ =>
            match h.blk? b, h.blk? yb with
            | some xb, some yb => if Nat.beq c grown = true then some (.slice (some ⟨h.n, 0, none⟩) (n + yn) grown, (h.put b ([], 2 * dead)).push (xb.1 ++ (yb.1.drop yo).take yn) e, [(appChk e xb yb n yo yn, true)]) else none
            | _, _ => none
          | .slice none 0 0, .slice (some ⟨yb, yo, none⟩) yn _ =>
            match h.blk? yb with
            | some yb => some (.slice (some ⟨h.n, 0, none⟩) yn grown, h.push ((yb.1.drop yo).take yn) e, [(appChn yb yo yn, true)])
            | none => none
          | _, _ => none
        else none
      | none => none
    | none => none
  | _ => none
theorem appY_S {P : Program} {ty : TypeId} {x y v : Value} {h h' : Hp} {lg : Log} (hs : appY P ty x y h = some (v, h', lg)) (hl : okLog lg) : appS P ty x y h = some (v, h') := by
  unfold appY at hs
  split at hs
  · rename_i e hu
    split at hs
    · rename_i i hi
      split at hs
      · rename_i z hz
        split at hs
        · rename_i hc
          split at hs
          · rename_i b n c yb yo yn yc
            split at hs
            · rename_i xb yb' hxb hyb
              split at hs
              · rename_i hg
                cases hs
                have h1 := hl _ (List.mem_singleton.2 rfl)
                simp only [appChk, Bool.and_eq_true, Bool.not_eq_true'] at h1
                obtain ⟨⟨⟨⟨⟨⟨⟨⟨q1, q2⟩, q3⟩, q4⟩, q5⟩, q6⟩, q7⟩, q8⟩, q9⟩ := h1
                have q1' := Nat.eq_of_beq_eq_true q1
                have hg' := Nat.eq_of_beq_eq_true hg
                have hsm : smallC c = false := by rw [hg']; rfl
                have r1 : rdS h (.slice (some ⟨yb, yo, none⟩) yn yc) = some ((yb'.1.drop yo).take yn) := by
                  simp [rdS, hyb, q6, Nat.le_of_ble_eq_true q7]
                have r2 : rdS h (.slice (some ⟨b, 0, none⟩) n c) = some xb.1 := by
                  simp [rdS, hxb, q3, q1']
                unfold appS
                simp only [hu, hi, hz, hc, if_true, r1, r2, hxb, q8, q9, Bool.and_self, q2, hsm, q4, q5, hg, Bool.not_false]
              · cases hs
            · cases hs
          · rename_i yb yo yn yc
            split at hs
            · rename_i yb' hyb
              cases hs
              have h1 := hl _ (List.mem_singleton.2 rfl)
              simp only [appChn, Bool.and_eq_true, Bool.not_eq_true'] at h1
              obtain ⟨⟨⟨⟨q6, q7⟩, q8⟩, q9⟩, q2⟩ := h1
              have r1 : rdS h (.slice (some ⟨yb, yo, none⟩) yn yc) = some ((yb'.1.drop yo).take yn) := by
                simp [rdS, hyb, q6, Nat.le_of_ble_eq_true q7]
              unfold appS
              simp only [hu, hi, hz, hc, if_true, r1, q8, q9, Bool.and_self, q2]
            · cases hs
          · cases hs
        · cases hs
      · cases hs
    · cases hs
  · cases hs
/-! ### append to a row whose capacity is known and full: told ahead, too -/
def appChz (xb yb : List Value × TypeId) (n c yo yn : Nat) : Bool :=
  Nat.beq n xb.1.length && Nat.ble (n + yn) 1073741824 && !(tomb xb.2) && smallC c && !(Nat.ble (n + yn) c) && !(tomb yb.2) && Nat.ble (yo + yn) yb.1.length && Nat.blt 0 yn && ((yb.1.drop yo).take yn).all one
def appZ (P : Program) (ty : TypeId) (x y : Value) (h : Hp) : Option (Value × Hp × Log) :=
  match P.underlying ty with
  | some (.slice e) =>
    match P.info? e with
    | some i =>
      match i.zero with
      | some z =>
        if (Nat.beq i.size 1 && one z && lt 0 z && !(ro e) && Nat.ble i.bytes 64) = true then
          match x, y with
          | .slice (some ⟨b, 0, none⟩) n c, .slice (some ⟨yb, yo, none⟩) yn _ =>
            match h.blk? b, h.blk? yb with
            | some xb, some yb => some (.slice (some ⟨h.n, 0, none⟩) (n + yn) grown, h.push (xb.1 ++ (yb.1.drop yo).take yn) e, [(appChz xb yb n c yo yn, true)])
            | _, _ => none
          | _, _ => none
        else none
      | none => none
    | none => none
  | _ => none
theorem appZ_S {P : Program} {ty : TypeId} {x y v : Value} {h h' : Hp} {lg : Log} (hs : appZ P ty x y h = some (v, h', lg)) (hl : okLog lg) : appS P ty x y h = some (v, h') := by
  unfold appZ at hs
  split at hs
  · rename_i e hu
    split at hs
    · rename_i i hi
      split at hs
      · rename_i z hz
        split at hs
        · rename_i hc
          split at hs
          · rename_i b n c yb yo yn yc
            split at hs
            · rename_i xb yb' hxb hyb
              cases hs
              have h1 := hl _ (List.mem_singleton.2 rfl)
              simp only [appChz, Bool.and_eq_true, Bool.not_eq_true'] at h1
              obtain ⟨⟨⟨⟨⟨⟨⟨⟨q1, q2⟩, q3⟩, q4⟩, q5⟩, q6⟩, q7⟩, q8⟩, q9⟩ := h1
              have q1' := Nat.eq_of_beq_eq_true q1
              have r1 : rdS h (.slice (some ⟨yb, yo, none⟩) yn yc) = some ((yb'.1.drop yo).take yn) := by
                simp [rdS, hyb, q6, Nat.le_of_ble_eq_true q7]
              have r2 : rdS h (.slice (some ⟨b, 0, none⟩) n c) = some xb.1 := by
                simp [rdS, hxb, q3, q1']
              unfold appS
              simp only [hu, hi, hz, hc, if_true, r1, r2, hxb, q8, q9, Bool.and_self, q2, q4, q5]
            · cases hs
          · cases hs
        · cases hs
      · cases hs
    · cases hs
  · cases hs
/-! ### append to a row that has room for it, with letters: told ahead, too -/
def appChx (e : TypeId) (xb yb : List Value × TypeId) (n c yo yn : Nat) : Bool :=
  Nat.ble (n + yn) xb.1.length && Nat.ble (n + yn) 1073741824 && !(tomb xb.2) && smallC c && Nat.ble (n + yn) c && !(ro xb.2) && Nat.beq xb.2 e && !(tomb yb.2) && Nat.ble (yo + yn) yb.1.length && Nat.blt 0 yn && ((yb.1.drop yo).take yn).all one
def appX (P : Program) (ty : TypeId) (x y : Value) (h : Hp) : Option (Value × Hp × Log) :=
  match P.underlying ty with
  | some (.slice e) =>
    match P.info? e with
    | some i =>
      match i.zero with
      | some z =>
        if (Nat.beq i.size 1 && one z && lt 0 z && !(ro e) && Nat.ble i.bytes 64) = true then
          match x, y with
          | .slice (some ⟨b, 0, none⟩) n c, .slice (some ⟨yb, yo, none⟩) yn _ =>
            match h.blk? b, h.blk? yb with
            | some xb, some yb => some (.slice (some ⟨b, 0, none⟩) (n + yn) c, h.put b (xb.1.take n ++ (yb.1.drop yo).take yn ++ xb.1.drop (n + yn), xb.2), [(appChx e xb yb n c yo yn, true)])
            | _, _ => none
          | _, _ => none
        else none
      | none => none
    | none => none
  | _ => none
theorem appX_S {P : Program} {ty : TypeId} {x y v : Value} {h h' : Hp} {lg : Log} (hs : appX P ty x y h = some (v, h', lg)) (hl : okLog lg) : appS P ty x y h = some (v, h') := by
  unfold appX at hs
  split at hs
  · rename_i e hu
    split at hs
    · rename_i i hi
      split at hs
      · rename_i z hz
        split at hs
        · rename_i hc
          split at hs
          · rename_i b n c yb yo yn yc
            split at hs
            · rename_i xb yb' hxb hyb
              cases hs
              have h1 := hl _ (List.mem_singleton.2 rfl)
              simp only [appChx, Bool.and_eq_true, Bool.not_eq_true'] at h1
              obtain ⟨⟨⟨⟨⟨⟨⟨⟨⟨⟨q0, q2⟩, q3⟩, q4⟩, q5⟩, qr⟩, qe⟩, q6⟩, q7⟩, q8⟩, q9⟩ := h1
              have q0' := Nat.le_of_ble_eq_true q0
              have r1 : rdS h (.slice (some ⟨yb, yo, none⟩) yn yc) = some ((yb'.1.drop yo).take yn) := by
                simp [rdS, hyb, q6, Nat.le_of_ble_eq_true q7]
              have r2 : rdS h (.slice (some ⟨b, 0, none⟩) n c) = some (xb.1.take n) := by
                simp [rdS, hxb, q3]
                omega
              unfold appS
              simp only [hu, hi, hz, hc, if_true, r1, r2, hxb, q8, q9, Bool.and_self, q2, q4, q5, qr, qe, q0, Bool.not_false]
            · cases hs
          · cases hs
        · cases hs
      · cases hs
    · cases hs
  · cases hs
/-! ### a text of bytes with letters: the text is told ahead -/
def txtChk (xb : List Value × TypeId) (o n : Nat) (b : ByteArray) : Bool :=
  !(tomb xb.2) && Nat.ble (o + n) xb.1.length && (match bytesL ((xb.1.drop o).take n) with | some ns => decide (ns.map (fun n => UInt8.ofNat n.toNat) = b.data.toList) | none => false)
def textT (P : Program) (src dst : TypeId) (x : Value) (h : Hp) (b : ByteArray) : Option Log :=
  match P.underlying src, P.underlying dst, x with
  | some (.slice e), some .string, .slice (some ⟨bk, o, none⟩) n _ =>
    match P.underlying e, h.blk? bk with
    | some (.int .u8), some xb => some [(txtChk xb o n b, true)]
    | _, _ => none
  | _, _, _ => none
theorem textT_S {P : Program} {src dst : TypeId} {x : Value} {h : Hp} {b : ByteArray} {lg : Log} (hs : textT P src dst x h b = some lg) (hl : okLog lg) : textS P src dst x h = some (.string b) := by
  unfold textT at hs
  split at hs
  · rename_i e bk o n c hu hd
    split at hs
    · rename_i xb he hb
      cases hs
      have h1 := hl _ (List.mem_singleton.2 rfl)
      simp only [txtChk, Bool.and_eq_true, Bool.not_eq_true'] at h1
      obtain ⟨⟨q1, q2⟩, q3⟩ := h1
      have r1 : rdS h (.slice (some ⟨bk, o, none⟩) n c) = some ((xb.1.drop o).take n) := by
        simp [rdS, hb, q1, Nat.le_of_ble_eq_true q2]
      unfold textS
      simp only [hu, hd, he, r1]
      split at q3
      · rename_i ns hns
        have q3 := of_decide_eq_true q3
        rw [q3]
      · cases q3
    · cases hs
  · cases hs
/-! ### one such operation -/
def isSam : List Dec → Bool
  | .inr (.inr (.inl _)) :: _ => true
  | _ => false
def isAt : List Dec → Bool
  | .inr (.inr (.inr (.inr (.inl _)))) :: _ => true
  | _ => false
def isNum : List Dec → Bool
  | .inr (.inl _) :: _ => true
  | _ => false
def memOp (P : Program) (t : List Value) (h : Hp) (s : List Dec) (o : Oper) : StepR :=
  match o.op with
  | .makeSlice ty l c => if (okX l && okX c) = true then makeS P ty (ev t l) (ev t c) h s else none
  | .buildSlice ty n parts =>
    if (parts.toList.all fun p => okX p.2) = true then
      match buildS P ty n (parts.toList.map fun p => (p.1, ev t p.2)) h with
      | some r => some (r.1, r.2, s, [])
      | none => none
    else none
  | .slice ty x lo hi mx =>
    if (okX x && stillO lo t && stillO hi t && stillO mx t) = true then
      match ev t x with
      | .slice (some _) _ c =>
        match isNum s with
        | true =>
          match partP P ty (ev t x) (lo.map (ev t)) (hi.map (ev t)) (mx.map (ev t)) with
          | some r => some (r.1, h, s.tail, r.2)
          | none => none
        | false =>
        match isAt s with
        | true =>
          match partS P ty (ev t x) (lo.map (ev t)) (hi.map (ev t)) (mx.map (ev t)) h with
          | some r => some (r.1, h, s.tail, r.2)
          | none => none
        | false =>
          match smallC c with
          | true => none
          | false =>
            match partS P ty (ev t x) (lo.map (ev t)) (hi.map (ev t)) (mx.map (ev t)) h with
            | some r => if (r.2.all fun p => p.1 == p.2) = true then some (r.1, h, s, []) else none
            | none => none
      | _ => none
    else none
  | .call c =>
    match c.callee, c.args.toList, c.argTypes.toList with
    | .builtin .append, [x, y], [ty, ty'] =>
      if (okX x && okX y && Nat.beq ty ty') = true then
        match isNum s with
        | true =>
          match appZ P ty (ev t x) (ev t y) h with
          | some r => some (r.1, r.2.1, s.tail, r.2.2)
          | none => none
        | false =>
        match isSam s with
        | true =>
          match appX P ty (ev t x) (ev t y) h with
          | some r => some (r.1, r.2.1, s.tail, r.2.2)
          | none => none
        | false =>
        match isAt s with
        | true =>
          match appY P ty (ev t x) (ev t y) h with
          | some r => some (r.1, r.2.1, s.tail, r.2.2)
          | none => none
        | false =>
        match appT P ty (ev t x) (ev t y) h with
        | some r => some (r.1, r.2, s, [])
        | none => none
      else none
    | .builtin .copy, [x, y], [ty, _] =>
      if (okX x && okX y) = true then
        match copyS P ty (ev t x) (ev t y) h with
        | some r =>
          match isAt s with
          | true => some (r.1, r.2.1, s.tail, [(r.2.2, true)])
          | false => if r.2.2 = true then some (r.1, r.2.1, s, []) else none
        | none => none
      else none
    | _, _, _ => none
  | .convert src dst x =>
    if okX x = true then
      match s with
      | .inr (.inr (.inr (.inr (.inr (.string b))))) :: s' =>
        match textT P src dst (ev t x) h b with
        | some lg => some (.string b, h, s', lg)
        | none => none
      | _ =>
        match textS P src dst (ev t x) h with
        | some v => some (v, h, s, [])
        | none => none
    else none
  | _ => none
theorem memOp_ok {P : Program} {m : Mp} {B : Nat} {t : List Value} {h h' : Hp} {s s' : List Dec} {lg : Log} {w : World} {a : Act} {o : Oper} {v : Value}
    (ha : a.tmps = (t.map (mv m)).toArray) (E : Emb m B h w) (ht : ∀ v ∈ t, lt h.n v = true) (hs : memOp P t h s o = some (v, h', s', lg)) (hlg : okLog lg) : Does P m B h w a o v h' := by
  unfold memOp at hs
  split at hs
  · -- make
    rename_i ty l c ho
    split at hs
    · rename_i hx
      simp only [Bool.and_eq_true] at hx
      unfold makeS at hs
      split at hs
      · rename_i e kl ln kc cp hu el ec
        split at hs
        · rename_i i hi
          split at hs
          · rename_i z hz
            split at hs
            · rename_i hc
              simp only [Bool.and_eq_true, Bool.not_eq_true'] at hc
              obtain ⟨⟨⟨c1, c2⟩, c3⟩, c4⟩ := hc
              have c1 := Nat.eq_of_beq_eq_true c1
              have done : okMake i.bytes ln cp → Does P m B h w a o (.slice (some ⟨h.n, 0, none⟩) ln.toNat cp.toNat) (h.push (List.replicate cp.toNat z) e) := fun hk => by
                obtain ⟨hr, C⟩ := makeS_run (kl := kl) (kc := kc) E hu hi hz c1 c2 c3 c4 hk
                refine ⟨_, _, _, ?_, .inl rfl, C⟩
                have hsm : smallC cp.toNat = true := blt_iff.2 (by have := hk.2.2.1; unfold dead; omega)
                have e1 : mv (upd m h.n (w.heap.size, cp.toNat)) (.slice (some ⟨h.n, 0, none⟩) ln.toNat cp.toNat) = .slice (some ⟨w.heap.size, 0, none⟩) ln.toNat cp.toNat := by
                  simp only [mv, mv2, mv1, mvA, upd, if_pos, cap_small hsm]
                rw [e1]
                have el' : a.eval l = .int kl ln := by rw [eval_mv ha hx.1, el]; rfl
                have ec' : a.eval c = .int kc cp := by rw [eval_mv ha hx.2, ec]; rfl
                simp only [execOp, ho, el', ec', Sem.run_bind, hr, Result.andThen_ok, Sem.run_pure]
              split at hs
              · cases hs
                have g := hlg _ (List.mem_singleton.2 rfl)
                simp only [okMakeB, decide_eq_true_eq] at g
                exact done g
              · split at hs
                · rename_i g
                  cases hs
                  simp only [okMakeB, decide_eq_true_eq] at g
                  exact done g
                · cases hs
            · cases hs
          · cases hs
        · cases hs
      · cases hs
    · cases hs
  · -- a row written out
    rename_i ty n parts ho
    split at hs
    · rename_i hall
      simp only [List.all_eq_true] at hall
      split at hs
      · rename_i r hr
        cases hs
        obtain ⟨hz, m', w', h1, h2⟩ := buildS_run (v := r.1) (h' := r.2) E hr
        refine ⟨m', w', _, ?_, .inl rfl, h2⟩
        have e : (parts.map fun p => (p.1, a.eval p.2)) = (parts.toList.map fun p => (p.1, ev t p.2)).toArray := by
          have : (parts.map fun p => (p.1, a.eval p.2)) = (parts.map fun p => (p.1, ev t p.2)) := Array.map_congr_left fun p hp => by
            have h3 := List.all_eq_true.1 hz (p.1, ev t p.2) (List.mem_map.2 ⟨p, by simpa using hp, rfl⟩)
            rw [eval_mv ha (hall p (by simpa using hp)), mv_still h3]
          rw [this]
          cases parts; simp
        simp only [execOp, ho, Sem.run_bind, Sem.run_pure]
        rw [← e] at h1
        simp only [h1, Result.andThen_ok]
      · cases hs
    · cases hs
  · -- a part of a row
    rename_i ty x lo hi mx ho
    split at hs
    · rename_i hx
      simp only [Bool.and_eq_true] at hx
      obtain ⟨⟨⟨hx, hlo⟩, hhi⟩, hmx⟩ := hx
      have done : ∀ r : Value × Log, partS P ty (ev t x) (lo.map (ev t)) (hi.map (ev t)) (mx.map (ev t)) h = some r → okLog r.2 → Does P m B h w a o r.1 h := fun r hr hl => by
        obtain ⟨h1, h2⟩ := partS_run (v := r.1) (lg := r.2) E (ev_lt ht hx) hr hl
        refine ⟨m, w, _, ?_, .inl rfl, ⟨Agree.refl _ _, E, Below.refl _ _, Nat.le_refl _, h2⟩⟩
        simp only [execOp, ho, eval_mv ha hx, stillO_map ha hlo, stillO_map ha hhi, stillO_map ha hmx, Sem.run_bind, h1, Result.andThen_ok, Sem.run_pure]
      split at hs
      · split at hs
        · split at hs
          · rename_i r hr
            cases hs
            obtain ⟨h1, h2⟩ := partP_run (m := m) (w := w) (v := r.1) (lg := r.2) (ev_lt ht hx) hr hlg
            refine ⟨m, w, _, ?_, .inl rfl, ⟨Agree.refl _ _, E, Below.refl _ _, Nat.le_refl _, h2⟩⟩
            simp only [execOp, ho, eval_mv ha hx, stillO_map ha hlo, stillO_map ha hhi, stillO_map ha hmx, Sem.run_bind, h1, Result.andThen_ok, Sem.run_pure]
          · cases hs
        split at hs
        · split at hs
          · rename_i r hr
            cases hs
            exact done r hr hlg
          · cases hs
        · split at hs
          · cases hs
          · split at hs
            · rename_i r hr
              split at hs
              · rename_i hall
                cases hs
                exact done r hr fun p hp => by simpa using List.all_eq_true.1 hall p hp
              · cases hs
            · cases hs
      · cases hs
    · cases hs
  · -- append, copy
    rename_i c ho
    split at hs
    · rename_i x y ty ty' hcal hargs htys
      split at hs
      · rename_i hx
        simp only [Bool.and_eq_true] at hx
        obtain ⟨⟨hx, hy⟩, hty⟩ := hx
        have hty := Nat.eq_of_beq_eq_true hty
        subst hty
        have done : ∀ r : Value × Hp, appS P ty (ev t x) (ev t y) h = some r → Does P m B h w a o r.1 r.2 := fun r hr => by
          obtain ⟨callee, args, tys⟩ := c
          obtain ⟨args⟩ := args
          obtain ⟨tys⟩ := tys
          simp only at hcal hargs htys
          subst hcal hargs htys
          obtain ⟨m', w', h1, h2⟩ := appS_run (rty := o.type) (v := r.1) (h' := r.2) E (ev_lt ht hx) hr
          refine ⟨m', w', _, ?_, .inl rfl, h2⟩
          simp [execOp, ho, resolve, invoke, builtin, eval_mv ha hx, eval_mv ha hy, h1]
        have doneT : ∀ r : Value × Hp, appT P ty (ev t x) (ev t y) h = some r → Does P m B h w a o r.1 r.2 := fun r hr => by
          obtain ⟨callee, args, tys⟩ := c
          obtain ⟨args⟩ := args
          obtain ⟨tys⟩ := tys
          simp only at hcal hargs htys
          subst hcal hargs htys
          obtain ⟨m', w', h1, h2⟩ := appT_run (rty := o.type) (v := r.1) (h' := r.2) E (ev_lt ht hx) hr
          refine ⟨m', w', _, ?_, .inl rfl, h2⟩
          simp [execOp, ho, resolve, invoke, builtin, eval_mv ha hx, eval_mv ha hy, h1]
        split at hs
        · split at hs
          · rename_i r hr
            cases hs
            exact done (r.1, r.2.1) (appZ_S (v := r.1) (h' := r.2.1) (lg := r.2.2) hr hlg)
          · cases hs
        split at hs
        · split at hs
          · rename_i r hr
            cases hs
            exact done (r.1, r.2.1) (appX_S (v := r.1) (h' := r.2.1) (lg := r.2.2) hr hlg)
          · cases hs
        split at hs
        · split at hs
          · rename_i r hr
            cases hs
            exact done (r.1, r.2.1) (appY_S (v := r.1) (h' := r.2.1) (lg := r.2.2) hr hlg)
          · cases hs
        · split at hs
          · rename_i r hr
            cases hs
            exact doneT r hr
          · cases hs
      · cases hs
    · rename_i x y ty ty' hcal hargs htys
      split at hs
      · rename_i hx
        simp only [Bool.and_eq_true] at hx
        obtain ⟨hx, hy⟩ := hx
        split at hs
        · rename_i r hr
          have done : r.2.2 = true → Does P m B h w a o r.1 r.2.1 := fun hd => by
            obtain ⟨callee, args, tys⟩ := c
            obtain ⟨args⟩ := args
            obtain ⟨tys⟩ := tys
            simp only at hcal hargs htys
            subst hcal hargs htys
            obtain ⟨w', h1, h2⟩ := copyS_run (rty := o.type) (ty' := ty') (v := r.1) (h' := r.2.1) (d := r.2.2) E hr hd
            refine ⟨m, w', _, ?_, .inl rfl, h2⟩
            simp [execOp, ho, resolve, invoke, builtin, eval_mv ha hx, eval_mv ha hy, h1]
          split at hs
          · cases hs
            exact done (hlg _ (List.mem_singleton.2 rfl))
          · split at hs
            · rename_i hd
              cases hs
              exact done hd
            · cases hs
        · cases hs
      · cases hs
    · cases hs
  · -- a text
    rename_i src dst x ho
    split at hs
    · rename_i hx
      split at hs
      · rename_i b s2
        split at hs
        · rename_i lg' hu
          cases hs
          obtain ⟨h1, h2⟩ := textS_run E (textT_S hu hlg)
          refine ⟨m, w, _, ?_, .inl rfl, ⟨Agree.refl _ _, E, Below.refl _ _, Nat.le_refl _, h2⟩⟩
          simp only [execOp, ho, eval_mv ha hx, Sem.run_bind, h1, Result.andThen_ok, Sem.run_pure]
        · cases hs
      · split at hs
        · rename_i u hu
          cases hs
          obtain ⟨h1, h2⟩ := textS_run E hu
          refine ⟨m, w, _, ?_, .inl rfl, ⟨Agree.refl _ _, E, Below.refl _ _, Nat.le_refl _, h2⟩⟩
          simp only [execOp, ho, eval_mv ha hx, Sem.run_bind, h1, Result.andThen_ok, Sem.run_pure]
        · cases hs
    · cases hs
  · cases hs
end Go.KRun
