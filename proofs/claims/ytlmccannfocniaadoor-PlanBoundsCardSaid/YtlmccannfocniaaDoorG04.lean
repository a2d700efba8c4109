/-
  RunQ
-/
import Derived.Test.YtlmccannfocniaaDoorG03
namespace Go.KRun
open Go.RowKit
/-- an element's cells, if they are more than one, and how many bytes it takes -/
def elK (P : Program) (e : TypeId) : Option (Nat × List Value × Nat) :=
  match P.info? e with
  | some i =>
    match i.zero with
    | some z => if (noT z && Nat.beq (cellsL z).length i.size && Nat.blt 1 i.size && (cellsL z).all one && (cellsL z).all (lt1 0) && !(ro e) && Nat.ble i.bytes 64 && Nat.blt i.size dead) = true then some (i.size, cellsL z, i.bytes) else none
    | none => none
  | none => none
structure ElK (P : Program) (e : TypeId) (k : Nat) (zc : List Value) (by_ : Nat) (i : TypeInfo) (z : Value) : Prop where
  hi : P.info? e = some i
  hz : i.zero = some z
  size : i.size = k
  bytes : i.bytes = by_
  cells : z.cells = zc.toArray
  len : zc.length = k
  two : 1 < k
  one : ∀ v ∈ zc, one v = true
  still : ∀ v ∈ zc, lt1 0 v = true
  ro : ro e = false
  b64 : by_ ≤ 64
  kd : k < dead
theorem cells_L {v : Value} (h : noT v = true) : v.cells = (cellsL v).toArray := by
  cases v <;> simp_all [noT, Value.cells, cellsL]
theorem elK_spec {P : Program} {e : TypeId} {k by_ : Nat} {zc : List Value} (h : elK P e = some (k, zc, by_)) : ∃ i z, ElK P e k zc by_ i z := by
  unfold elK at h
  split at h
  · rename_i i hi
    split at h
    · rename_i z hz
      split at h
      · rename_i hc
        cases h
        simp only [Bool.and_eq_true, List.all_eq_true, Bool.not_eq_true', blt_iff] at hc
        obtain ⟨⟨⟨⟨⟨⟨⟨c1, c2⟩, c3⟩, c4⟩, c5⟩, c6⟩, c7⟩, c8⟩ := hc
        exact ⟨i, z, hi, hz, rfl, rfl, cells_L c1, Nat.eq_of_beq_eq_true c2, c3, c4, c5, c6, Nat.le_of_ble_eq_true c7, c8⟩
      · cases h
    · cases h
  · cases h
/-- so many elements -/
def repK (n : Nat) (zc : List Value) : List Value := (List.replicate n zc).flatten
theorem repK_len (n : Nat) (zc : List Value) : (repK n zc).length = n * zc.length := by
  unfold repK
  rw [List.length_flatten, List.map_replicate, List.sum_replicate_nat]
theorem repK_get (zc : List Value) (h : 0 < zc.length) : ∀ (n j : Nat), j < n * zc.length → (repK n zc)[j]? = zc[j % zc.length]?
  | 0, j, hj => by omega
  | n + 1, j, hj => by
    have e : repK (n + 1) zc = zc ++ repK n zc := by unfold repK; rw [List.replicate_succ, List.flatten_cons]
    rw [e]
    rw [Nat.succ_mul] at hj
    rcases Nat.lt_or_ge j zc.length with c | c
    · rw [List.getElem?_append_left c, Nat.mod_eq_of_lt c]
    · rw [List.getElem?_append_right c, repK_get zc h n (j - zc.length) (by omega), Nat.mod_eq_sub_mod c]
theorem made_K {zc : List Value} (h : 0 < zc.length) (n : Nat) : madeCells zc.toArray (n * zc.length) = (repK n zc).toArray := by
  unfold madeCells
  apply Array.ext'
  simp only [Array.toList_map, Array.toList_range]
  refine List.ext_getElem? fun j => ?_
  rcases Nat.lt_or_ge j (n * zc.length) with c | c
  · rw [repK_get zc h n j c, List.getElem?_map, List.getElem?_range c]
    have hm := Nat.mod_lt j h
    simp [hm]
  · rw [List.getElem?_eq_none (by simpa using c), List.getElem?_eq_none (by rw [repK_len]; exact c)]
theorem zero_K {zc : List Value} (h : 0 < zc.length) (n : Nat) : Builtin.zeroCells zc.toArray n = (repK n zc).toArray := by
  have := made_K h n
  unfold madeCells at this
  unfold Builtin.zeroCells
  simpa using this
theorem repK_mem {n : Nat} {zc : List Value} {v : Value} (h : v ∈ repK n zc) : v ∈ zc := by
  unfold repK at h
  obtain ⟨l, h1, h2⟩ := List.mem_flatten.1 h
  rw [List.eq_of_mem_replicate h1] at h2
  exact h2
theorem cap_O {k o n : Nat} (hk : k < dead) : cap n (dead * (1 + o) + k) = (n - o) / k := by
  unfold cap
  have h1 : dead ≤ dead * (1 + o) + k := by rw [Nat.mul_add]; omega
  have h2 : (dead * (1 + o) + k) / dead = 1 + o := by
    rw [Nat.mul_add_div (by decide : dead > 0), Nat.div_eq_of_lt hk, Nat.add_zero]
  rw [if_pos (Nat.ble_eq_true_of_le h1), h2, Nat.mul_add_mod, Nat.mod_eq_of_lt hk, Nat.add_sub_cancel_left]
theorem cap_Q {k n : Nat} (hk : k < dead) : cap n (dead + k) = n / k := by
  have := cap_O (o := 0) (n := n) hk
  simpa using this
theorem cap_K {k n : Nat} (h : 0 < k) (hk : k < dead) : cap (n * k) (dead + k) = n := by
  rw [cap_Q hk, Nat.mul_div_cancel _ h]
/-! ### make -/
def makeK (P : Program) (ty : TypeId) (l c : Value) (h : Hp) (s : List Dec) : StepR :=
  match P.underlying ty, l, c with
  | some (.slice e), .int _ ln, .int _ cp =>
    match elK P e with
    | some r =>
      match s with
      | .inr (.inr (.inr (.inr (.inl _)))) :: s' => some (.slice (some ⟨h.n, 0, none⟩) ln.toNat cp.toNat, h.push (repK cp.toNat r.2.1) e, s', [(okMakeB r.2.2 ln cp, true)])
      | _ => if okMakeB r.2.2 ln cp = true then some (.slice (some ⟨h.n, 0, none⟩) ln.toNat cp.toNat, h.push (repK cp.toNat r.2.1) e, s, []) else none
    | none => none
  | _, _, _ => none
theorem makeK_run {m : Mp} {B : Nat} {P : Program} {ty : TypeId} {kl kc : IntKind} {ln cp : Int} {h : Hp} {w : World} {e : TypeId} {k by_ : Nat} {zc : List Value} {i : TypeInfo} {z : Value} (E : Emb m B h w) (hu : P.underlying ty = some (.slice e)) (K : ElK P e k zc by_ i z) (hk : okMake by_ ln cp) :
    ∃ m' w', (Instr.makeSlice ty (.int kl ln) (.int kc cp)).run P w = .ok (mv m' (.slice (some ⟨h.n, 0, none⟩) ln.toNat cp.toNat)) w' ∧ Came m B h w (.slice (some ⟨h.n, 0, none⟩) ln.toNat cp.toNat) (h.push (repK cp.toNat zc) e) m' w' := by
  obtain ⟨k1, k2, k3, k4⟩ := hk
  have hr := run_make (P := P) w ty e i z hu K.hi K.hz kl kc ln cp k1 k2 (by rw [K.bytes]; exact k4) (by omega)
  have hp : 0 < zc.length := by have := K.two; have := K.len; omega
  rw [K.cells, K.size, ← K.len, made_K hp] at hr
  have hall : ∀ v ∈ repK cp.toNat zc, lt1 h.n v = true := fun v hv => lt1_mono (Nat.zero_le _) (K.still v (repK_mem hv))
  have E' := E.push (repK cp.toNat zc) [] e K.ro hall (k := cp.toNat * zc.length) (by rw [repK_len]; rfl)
  have e1 : (repK cp.toNat zc).map (mv1 m) = repK cp.toNat zc := (List.map_congr_left fun v hv => mv1_still (K.still v (repK_mem hv))).trans (List.map_id' _)
  rw [List.append_nil, e1] at E'
  refine ⟨_, _, hr.trans ?_, ⟨upd_agree _ _ _, E', (Below.refl _ _).alloc E.base _, Nat.le_succ _, by simp [lt, lt2, lt1, Hp.push]⟩⟩
  have hsm : smallC cp.toNat = true := blt_iff.2 (by unfold dead; omega)
  simp only [mv, mv2, mv1, mvA, upd, if_pos, cap_small hsm]
/-! ### append: told ahead what is asked; what comes behind another row's cells -/
def bndK (by_ n yn : Nat) : Bool := Nat.ble (n + yn) 140737488355328 && Nat.ble ((n + yn) * by_) 140737488355328 && Nat.blt 0 yn
def srcK (yb : List Value × TypeId) (k yo yn : Nat) : Bool := !(tomb yb.2) && Nat.ble (yo + yn * k) yb.1.length && ((yb.1.drop yo).take (yn * k)).all one
/-- 0: the row's capacity is not known · 1: it is known, and full · 2: it is known, and there is room · 3: it is not known, but there is room among the known cells -/
def appK (md : Nat) (P : Program) (ty : TypeId) (x y : Value) (h : Hp) : Option (Value × Hp × Log) :=
  match P.underlying ty with
  | some (.slice e) =>
    match elK P e with
    | some r =>
      match x, y with
      | .slice none 0 0, .slice (some ⟨yb, yo, none⟩) yn _ =>
        match h.blk? yb with
        | some yb => some (.slice (some ⟨h.n, 0, none⟩) yn (dead + r.1), h.push ((yb.1.drop yo).take (yn * r.1)) e, [(bndK r.2.2 0 yn && srcK yb r.1 yo yn, true)])
        | none => none
      | .slice (some ⟨b, 0, none⟩) n c, .slice (some ⟨yb, yo, none⟩) yn _ =>
        match h.blk? b, h.blk? yb with
        | some xb, some yb =>
          match md with
          | 0 => if Nat.beq c (dead + r.1) = true then some (.slice (some ⟨h.n, 0, none⟩) (n + yn) (dead + r.1), (h.put b ([], 2 * dead)).push (xb.1 ++ (yb.1.drop yo).take (yn * r.1)) e, [(bndK r.2.2 n yn && srcK yb r.1 yo yn && Nat.beq (n * r.1) xb.1.length && !(ro xb.2) && Nat.beq xb.2 e, true)]) else none
          | 1 => some (.slice (some ⟨h.n, 0, none⟩) (n + yn) (dead + r.1), h.push (xb.1 ++ (yb.1.drop yo).take (yn * r.1)) e, [(bndK r.2.2 n yn && srcK yb r.1 yo yn && Nat.beq (n * r.1) xb.1.length && !(tomb xb.2) && smallC c && Nat.blt c (n + yn), true)])
          | 2 => some (.slice (some ⟨b, 0, none⟩) (n + yn) c, h.put b (xb.1.take (n * r.1) ++ (yb.1.drop yo).take (yn * r.1) ++ xb.1.drop ((n + yn) * r.1), xb.2), [(bndK r.2.2 n yn && srcK yb r.1 yo yn && Nat.ble ((n + yn) * r.1) xb.1.length && !(ro xb.2) && Nat.beq xb.2 e && smallC c && Nat.ble (n + yn) c, true)])
          | _ => if Nat.beq c (dead + r.1) = true then some (.slice (some ⟨b, 0, none⟩) (n + yn) c, h.put b (xb.1.take (n * r.1) ++ (yb.1.drop yo).take (yn * r.1) ++ xb.1.drop ((n + yn) * r.1), xb.2), [(bndK r.2.2 n yn && srcK yb r.1 yo yn && Nat.ble ((n + yn) * r.1) xb.1.length && !(ro xb.2) && Nat.beq xb.2 e, true)]) else none
        | _, _ => none
      | _, _ => none
    | none => none
  | _ => none
theorem srcK_spec {m : Mp} {B : Nat} {h : Hp} {w : World} (E : Emb m B h w) {b k o n : Nat} {x : List Value × TypeId} (hb : h.blk? b = some x) (hs : srcK x k o n = true) :
    (((x.1.drop o).take (n * k)).map (mv1 m)).length = n * k ∧ (∀ v ∈ (x.1.drop o).take (n * k), lt1 h.n v = true) ∧ (∀ j u, (((x.1.drop o).take (n * k)).map (mv1 m))[j]? = some u → w.cell? ((⟨(m b).1, o, none⟩ : Addr).add j) = some u) ∧ ∀ u ∈ ((x.1.drop o).take (n * k)).map (mv1 m), u.oneCell' = true := by
  simp only [srcK, Bool.and_eq_true, Bool.not_eq_true'] at hs
  obtain ⟨⟨s1, s2⟩, s3⟩ := hs
  have s2 := Nat.le_of_ble_eq_true s2
  refine ⟨by simp; omega, fun v hv => E.wf _ _ hb v (List.mem_of_mem_drop (List.mem_of_mem_take hv)), fun j u hj => ?_, map_all s3⟩
  rw [add_plain]
  rw [List.getElem?_map, List.getElem?_take] at hj
  split at hj
  · rw [List.getElem?_drop] at hj
    obtain ⟨u', hu, rfl⟩ := Option.map_eq_some_iff.1 hj
    exact cell_lies (E.lies _ _ hb s1) hu
  · simp at hj
set_option maxHeartbeats 1000000 in
theorem appK_run {md : Nat} {m : Mp} {B : Nat} {P : Program} {ty rty : TypeId} {x y v : Value} {h h' : Hp} {w : World} {lg : Log} (E : Emb m B h w) (hx : lt h.n x = true) (hs : appK md P ty x y h = some (v, h', lg)) (hlg : okLog lg) :
    ∃ m' w', (Builtin.append_ #[ty, ty] rty #[mv m x, mv m y]).run P w = .ok (mv m' v) w' ∧ Came m B h w v h' m' w' := by
  unfold appK at hs
  split at hs
  · rename_i e hu
    split at hs
    · rename_i r hr0
      obtain ⟨k, zc, by_⟩ := r
      obtain ⟨i, z, K⟩ := elK_spec hr0
      have hp : 0 < zc.length := by have := K.two; have := K.len; omega
      have kp : 0 < k := by have := K.two; omega
      simp only at hs
      split at hs
      · -- nil
        rename_i yb yo yn yc
        split at hs
        · rename_i ybb hyb
          cases hs
          have h1 := hlg _ (List.mem_singleton.2 rfl)
          simp only [bndK, Bool.and_eq_true, blt_iff] at h1
          obtain ⟨⟨⟨b1, b3⟩, b2⟩, sk⟩ := h1
          have b1 := Nat.le_of_ble_eq_true b1
          have b3 := Nat.le_of_ble_eq_true b3
          obtain ⟨q1, q2, q3, _⟩ := srcK_spec E hyb sk
          have my : mv m (.slice (some ⟨yb, yo, none⟩) yn yc) = .slice (some ⟨(m yb).1, yo, none⟩) yn (cap (m yb).2 yc) := rfl
          rw [my]
          have hby : yn * i.bytes ≤ 281474976710656 := by
            rw [Nat.zero_add] at b3
            rw [K.bytes]
            omega
          have hr := run_append_nil (P := P) w ty rty e i z hu K.hi K.hz ⟨(m yb).1, yo, none⟩ yn (cap (m yb).2 yc) (((ybb.1.drop yo).take (yn * k)).map (mv1 m)) (by rw [q1, K.size]) q3 b2 (by omega) hby
          have hge := grownCap_ge w yn 0 e
          have E' := E.drew.push ((ybb.1.drop yo).take (yn * k)) (repK (grownCap w yn 0 e - yn) zc) e K.ro q2 (k := grownCap w yn 0 e * k) (by
            rw [repK_len, K.len]
            have : ((ybb.1.drop yo).take (yn * k)).length = yn * k := (List.length_map _).symm.trans q1
            rw [this, ← Nat.add_mul]
            congr 1
            omega)
          rw [K.cells, zero_K hp] at hr
          refine ⟨_, _, hr.trans ?_, ⟨upd_agree _ _ _, E', ((Below.refl _ _).drew).alloc E.base _, Nat.le_succ _, by simp [lt, lt2, lt1, Hp.push]⟩⟩
          have e1 : mv (upd m h.n (w.drew.heap.size, grownCap w yn 0 e * k)) (.slice (some ⟨h.n, 0, none⟩) yn (dead + k)) = .slice (some ⟨w.heap.size, 0, none⟩) yn (grownCap w yn 0 e) := by
            simp only [mv, mv2, mv1, mvA, upd, if_pos, cap_K kp K.kd]
            rfl
          rw [e1]
          simp only [List.append_toArray]
        · cases hs
      · rename_i b n c yb yo yn yc
        split at hs
        · rename_i xb ybb hxb hyb
          have my : mv m (.slice (some ⟨yb, yo, none⟩) yn yc) = .slice (some ⟨(m yb).1, yo, none⟩) yn (cap (m yb).2 yc) := rfl
          have mx : mv m (.slice (some ⟨b, 0, none⟩) n c) = .slice (some ⟨(m b).1, 0, none⟩) n (cap (m b).2 c) := rfl
          rw [my, mx]
          have wfx := E.wf _ _ hxb
          have grow : ∀ (h1 : Hp), Emb m B h1 w → h1.n = h.n → cap (m b).2 c < n + yn → n * k = xb.1.length → tomb xb.2 = false → bndK by_ n yn = true → srcK ybb k yo yn = true → ∃ m' w', (Builtin.append_ #[ty, ty] rty #[.slice (some ⟨(m b).1, 0, none⟩) n (cap (m b).2 c), .slice (some ⟨(m yb).1, yo, none⟩) yn (cap (m yb).2 yc)]).run P w = .ok (mv m' (.slice (some ⟨h.n, 0, none⟩) (n + yn) (dead + k))) w' ∧ Came m B h w (.slice (some ⟨h.n, 0, none⟩) (n + yn) (dead + k)) (h1.push (xb.1 ++ (ybb.1.drop yo).take (yn * k)) e) m' w' := by
            intro h1 E1 hn hlt hnk htb hbn sk
            simp only [bndK, Bool.and_eq_true, blt_iff] at hbn
            have b1 := Nat.le_of_ble_eq_true hbn.1.1
            have b3 := Nat.le_of_ble_eq_true hbn.1.2
            obtain ⟨q1, q2, q3, _⟩ := srcK_spec E hyb sk
            have hby : (n + yn) * i.bytes ≤ 140737488355328 := by
              rw [K.bytes]
              exact b3
            have hr := run_append_grow (P := P) w ty rty e i z hu K.hi K.hz ⟨(m b).1, 0, none⟩ n (cap (m b).2 c) (xb.1.map (mv1 m)) (by rw [List.length_map, K.size, hnk]) (fun j u hj => by
              rw [add_plain, Nat.zero_add]
              rw [List.getElem?_map] at hj
              obtain ⟨u', hu', rfl⟩ := Option.map_eq_some_iff.1 hj
              exact cell_lies (E.lies _ _ hxb htb) hu') ⟨(m yb).1, yo, none⟩ yn (cap (m yb).2 yc) (((ybb.1.drop yo).take (yn * k)).map (mv1 m)) (by rw [q1, K.size]) q3 hlt (by omega) (growslice_fits hlt hby)
            have hge := grownCap_ge w (n + yn) (cap (m b).2 c) e
            have E' := E1.drew.push (xb.1 ++ (ybb.1.drop yo).take (yn * k)) (repK (grownCap w (n + yn) (cap (m b).2 c) e - (n + yn)) zc) e K.ro (fun u hu' => by
              rw [hn]
              rcases List.mem_append.1 hu' with hu' | hu'
              · exact wfx u hu'
              · exact q2 u hu') (k := grownCap w (n + yn) (cap (m b).2 c) e * k) (by
              rw [repK_len, K.len, List.length_append, ← hnk]
              have : ((ybb.1.drop yo).take (yn * k)).length = yn * k := (List.length_map _).symm.trans q1
              rw [this, ← Nat.add_mul, ← Nat.add_mul]
              congr 1
              omega)
            rw [K.cells, zero_K hp] at hr
            rw [hn] at E'
            refine ⟨_, _, hr.trans ?_, ⟨upd_agree _ _ _, E', ((Below.refl _ _).drew).alloc E.base _, by show h.n ≤ h1.n + 1; omega, by simp [lt, lt2, lt1, Hp.push, hn]⟩⟩
            have e1 : mv (upd m h.n (w.drew.heap.size, grownCap w (n + yn) (cap (m b).2 c) e * k)) (.slice (some ⟨h.n, 0, none⟩) (n + yn) (dead + k)) = .slice (some ⟨w.heap.size, 0, none⟩) (n + yn) (grownCap w (n + yn) (cap (m b).2 c) e) := by
              simp only [mv, mv2, mv1, mvA, upd, if_pos, cap_K kp K.kd]
              rfl
            rw [e1, List.map_append]
            simp only [List.append_toArray]
          split at hs
          · -- its capacity is not known
            split at hs
            · rename_i hcq
              have hcq := Nat.eq_of_beq_eq_true hcq
              subst hcq
              cases hs
              have h1 := hlg _ (List.mem_singleton.2 rfl)
              simp only [Bool.and_eq_true, Bool.not_eq_true'] at h1
              obtain ⟨⟨⟨⟨hbn, sk⟩, hnk⟩, q1⟩, q2⟩ := h1
              have hnk := Nat.eq_of_beq_eq_true hnk
              have q2 := Nat.eq_of_beq_eq_true q2
              have hblt := Hp.blk_lt hxb
              have Eb := E.bury hblt
              by_cases hroom : n + yn ≤ cap (m b).2 (dead + k)
              · obtain ⟨s1, s2, s3, s4⟩ := srcK_spec E hyb sk
                obtain ⟨r, zz, l0, l1, l2⟩ := E.lies _ _ hxb (tomb_ro q1)
                have ert : rt xb.2 = e := by rw [rt_own q1, q2]
                rw [(l2 q1).1, (l2 q1).2, ert] at l1
                have hroom2 : (n + yn) * k ≤ (m b).2 := by
                  rw [cap_Q K.kd] at hroom
                  exact (Nat.le_div_iff_mul_le kp).1 hroom
                rw [Nat.add_mul] at hroom2
                have hr := run_append_room (P := P) w ty rty e i hu K.hi (m b).1 n (cap (m b).2 (dead + k)) _ l1 ⟨(m yb).1, yo, none⟩ yn (cap (m yb).2 yc) (((ybb.1.drop yo).take (yn * k)).map (mv1 m)) (by rw [s1, K.size]) s3 s4 hroom (by
                  rw [s1, K.size]
                  have : (xb.1.map (mv1 m) ++ r).toArray.size = (m b).2 := by rw [List.size_toArray, List.length_append, l0]
                  omega)
                have other : ∀ b' x', (h.put b ([], 2 * dead)).blk? b' = some x' → ro x'.2 = false → (m b').1 ≠ (m b).1 := by
                  intro b' x' hb' hx' heq
                  rw [Hp.blk_put E.len hblt] at hb'
                  split at hb'
                  · cases hb'; cases hx'
                  · rename_i hne
                    exact hne (E.inj _ _ _ _ hb' hxb hx' q1 heq)
                have special : ∀ b' x', (h.put b ([], 2 * dead)).blk? b' = some x' → spK x'.2 = true → ¬ fpt (m b').1 (x'.1.map (mv1 m)) x'.2 (m b).1 := by
                  intro b' x' hb' hx'
                  rw [Hp.blk_put E.len hblt] at hb'
                  split at hb'
                  · cases hb'; cases hx'
                  · exact E.apart hb' hx' hxb q1
                have Ew := Eb.wild (E.low _ _ hxb q1) other special l1 ((List.take (n * i.size) (xb.1.map (mv1 m) ++ r).toArray.toList ++ ((ybb.1.drop yo).take (yn * k)).map (mv1 m) ++ List.drop (n * i.size + (((ybb.1.drop yo).take (yn * k)).map (mv1 m)).length) (xb.1.map (mv1 m) ++ r).toArray.toList).toArray)
                have e0 : (xb.1.map (mv1 m) ++ r).take (n * k) = xb.1.map (mv1 m) := by
                  rw [hnk, List.take_append_of_le_length (by simp), List.take_of_length_le (by simp)]
                have ls : ((ybb.1.drop yo).take (yn * k)).length = yn * k := (List.length_map _).symm.trans s1
                have Ea := Ew.adopt (xb.1 ++ (ybb.1.drop yo).take (yn * k)) e K.ro (fun u hu' => by
                  rcases List.mem_append.1 hu' with hu' | hu'
                  · exact wfx u hu'
                  · exact s2 u hu') (k := m b) ⟨(xb.1.map (mv1 m) ++ r).drop (n * k + yn * k), (e, 0, 0), by
                    have hl : (xb.1.map (mv1 m) ++ r).length = (m b).2 := by rw [List.length_append, l0]
                    simp only [List.length_map, List.length_append, ls, List.length_drop] at hl ⊢
                    omega, by
                    rw [setRow_heap w _ _ _ _ _ l1, s1, K.size]
                    simp only [List.map_append, e0], fun _ => ⟨(rt_own K.ro).symm, rfl⟩⟩ (E.low _ _ hxb q1) other special
                have e1 : mv (upd m h.n (m b)) (.slice (some ⟨h.n, 0, none⟩) (n + yn) (dead + k)) = .slice (some ⟨(m b).1, 0, none⟩) (n + yn) (cap (m b).2 (dead + k)) := by
                  simp only [mv, mv2, mv1, mvA, upd, if_pos]
                refine ⟨upd m h.n (m b), _, hr.trans ?_, ⟨upd_agree _ _ _, Ea, below_setRow (Below.refl _ _) (E.low _ _ hxb q1) _, Nat.le_succ _, ?_⟩⟩
                · rw [e1]
                · show Nat.blt h.n (h.n + 1) = true
                  exact blt_iff.2 (Nat.lt_succ_self _)
              · exact grow _ Eb rfl (by omega) hnk (tomb_ro q1) hbn sk
            · cases hs
          · -- full
            cases hs
            have h1 := hlg _ (List.mem_singleton.2 rfl)
            simp only [Bool.and_eq_true, Bool.not_eq_true', blt_iff] at h1
            obtain ⟨⟨⟨⟨⟨hbn, sk⟩, hnk⟩, q1⟩, q2⟩, q3⟩ := h1
            have hnk := Nat.eq_of_beq_eq_true hnk
            exact grow h E rfl (by rw [cap_small q2]; exact q3) hnk q1 hbn sk
          · -- room
            cases hs
            have h1 := hlg _ (List.mem_singleton.2 rfl)
            simp only [Bool.and_eq_true, Bool.not_eq_true'] at h1
            obtain ⟨⟨⟨⟨⟨⟨hbn, sk⟩, hnk⟩, q1⟩, q2⟩, q3⟩, q4⟩ := h1
            have hnk := Nat.le_of_ble_eq_true hnk
            have q2 := Nat.eq_of_beq_eq_true q2
            have q4 := Nat.le_of_ble_eq_true q4
            obtain ⟨s1, s2, s3, s4⟩ := srcK_spec E hyb sk
            obtain ⟨r, zz, l0, l1, l2⟩ := E.lies _ _ hxb (tomb_ro q1)
            have ert : rt xb.2 = e := by rw [rt_own q1, q2]
            rw [(l2 q1).1, (l2 q1).2] at l1
            have l1' := l1
            rw [ert] at l1
            rw [Nat.add_mul] at hnk
            rw [cap_small q3]
            have ls : ((ybb.1.drop yo).take (yn * k)).length = yn * k := (List.length_map _).symm.trans s1
            have hr := run_append_room (P := P) w ty rty e i hu K.hi (m b).1 n c _ l1 ⟨(m yb).1, yo, none⟩ yn (cap (m yb).2 yc) (((ybb.1.drop yo).take (yn * k)).map (mv1 m)) (by rw [s1, K.size]) s3 s4 q4 (by rw [s1, K.size, List.size_toArray, List.length_append, List.length_map]; omega)
            have esp : (xb.1.map (mv1 m) ++ r).take (n * k) ++ ((ybb.1.drop yo).take (yn * k)).map (mv1 m) ++ (xb.1.map (mv1 m) ++ r).drop (n * k + yn * k) = (xb.1.take (n * k) ++ (ybb.1.drop yo).take (yn * k) ++ xb.1.drop ((n + yn) * k)).map (mv1 m) ++ r := by
              rw [List.take_append_of_le_length (by simp; omega), List.drop_append_of_le_length (by simp; omega), Nat.add_mul]
              simp
            refine ⟨m, _, hr.trans ?_, ⟨Agree.refl _ _, E.put hxb q1 l1' (xb.1.take (n * k) ++ (ybb.1.drop yo).take (yn * k) ++ xb.1.drop ((n + yn) * k)) r (fun u hu' => ?_) (by rw [Nat.add_mul]; simp only [List.length_map, List.length_append, List.length_take, List.length_drop] at l0 ls ⊢; omega), below_setRow (Below.refl _ _) (E.low _ _ hxb q1) _, by simp [Hp.put], by simpa [lt, lt2, lt1, Hp.put] using hx⟩⟩
            · rw [s1, K.size]
              simp only [esp]
              congr 1
              simp [mv, mv2, mv1, mvA, cap_small q3]
            · simp only [List.mem_append] at hu'
              rcases hu' with (hu' | hu') | hu'
              · exact wfx u (List.mem_of_mem_take hu')
              · exact s2 u hu'
              · exact wfx u (List.mem_of_mem_drop hu')
          · -- room among the known cells
            split at hs
            · rename_i hcq
              have hcq := Nat.eq_of_beq_eq_true hcq
              subst hcq
              cases hs
              have h1 := hlg _ (List.mem_singleton.2 rfl)
              simp only [Bool.and_eq_true, Bool.not_eq_true'] at h1
              obtain ⟨⟨⟨⟨hbn, sk⟩, hnk⟩, q1⟩, q2⟩ := h1
              have hnk := Nat.le_of_ble_eq_true hnk
              have q2 := Nat.eq_of_beq_eq_true q2
              obtain ⟨s1, s2, s3, s4⟩ := srcK_spec E hyb sk
              obtain ⟨r, zz, l0, l1, l2⟩ := E.lies _ _ hxb (tomb_ro q1)
              have ert : rt xb.2 = e := by rw [rt_own q1, q2]
              rw [(l2 q1).1, (l2 q1).2] at l1
              have l1' := l1
              rw [ert] at l1
              rw [Nat.add_mul] at hnk
              have q4 : n + yn ≤ cap (m b).2 (dead + k) := by
                rw [cap_Q K.kd]
                have l0' : xb.1.length + r.length = (m b).2 := by simpa using l0
                exact (Nat.le_div_iff_mul_le kp).2 (by rw [Nat.add_mul]; omega)
              have ls : ((ybb.1.drop yo).take (yn * k)).length = yn * k := (List.length_map _).symm.trans s1
              have hr := run_append_room (P := P) w ty rty e i hu K.hi (m b).1 n (cap (m b).2 (dead + k)) _ l1 ⟨(m yb).1, yo, none⟩ yn (cap (m yb).2 yc) (((ybb.1.drop yo).take (yn * k)).map (mv1 m)) (by rw [s1, K.size]) s3 s4 q4 (by rw [s1, K.size, List.size_toArray, List.length_append, List.length_map]; omega)
              have esp : (xb.1.map (mv1 m) ++ r).take (n * k) ++ ((ybb.1.drop yo).take (yn * k)).map (mv1 m) ++ (xb.1.map (mv1 m) ++ r).drop (n * k + yn * k) = (xb.1.take (n * k) ++ (ybb.1.drop yo).take (yn * k) ++ xb.1.drop ((n + yn) * k)).map (mv1 m) ++ r := by
                rw [List.take_append_of_le_length (by simp; omega), List.drop_append_of_le_length (by simp; omega), Nat.add_mul]
                simp
              refine ⟨m, _, hr.trans ?_, ⟨Agree.refl _ _, E.put hxb q1 l1' (xb.1.take (n * k) ++ (ybb.1.drop yo).take (yn * k) ++ xb.1.drop ((n + yn) * k)) r (fun u hu' => ?_) (by rw [Nat.add_mul]; simp only [List.length_map, List.length_append, List.length_take, List.length_drop] at l0 ls ⊢; omega), below_setRow (Below.refl _ _) (E.low _ _ hxb q1) _, by simp [Hp.put], by simpa [lt, lt2, lt1, Hp.put] using hx⟩⟩
              · rw [s1, K.size]
                simp only [esp]
                congr 1
              · simp only [List.mem_append] at hu'
                rcases hu' with (hu' | hu') | hu'
                · exact wfx u (List.mem_of_mem_take hu')
                · exact s2 u hu'
                · exact wfx u (List.mem_of_mem_drop hu')
            · cases hs
        · cases hs
      · cases hs
    · cases hs
  · cases hs
/-! ### a row that is written out -/
def buildK (P : Program) (ty : TypeId) (n : Nat) (ps : List (Nat × Value)) (h : Hp) : Option (Value × Hp) :=
  match P.underlying ty with
  | some (.slice e) =>
    match elK P e with
    | some r =>
      match Instr.fill (fun i => some (i * r.1, r.1)) (repK n r.2.1).toArray ps with
      | some a => if (Nat.ble (n * r.1) 1048576 && (ps.all fun p => lt 0 p.2) && a.toList.all (lt1 0)) = true then some (.slice (some ⟨h.n, 0, none⟩) n n, h.push a.toList e) else none
      | none => none
    | none => none
  | _ => none
theorem buildK_run {m : Mp} {B : Nat} {P : Program} {ty : TypeId} {n : Nat} {ps : List (Nat × Value)} {v : Value} {h h' : Hp} {w : World} (E : Emb m B h w) (hs : buildK P ty n ps h = some (v, h')) :
    (ps.all fun p => lt 0 p.2) = true ∧ ∃ m' w', (Instr.buildSlice ty n ps.toArray).run P w = .ok (mv m' v) w' ∧ Came m B h w v h' m' w' := by
  unfold buildK at hs
  split at hs
  · rename_i e hu
    split at hs
    · rename_i r hr0
      obtain ⟨k, zc, by_⟩ := r
      obtain ⟨i, z, K⟩ := elK_spec hr0
      have hp : 0 < zc.length := by have := K.two; have := K.len; omega
      simp only at hs
      split at hs
      · rename_i a ha
        split at hs
        · rename_i hc
          cases hs
          simp only [Bool.and_eq_true] at hc
          obtain ⟨⟨c1, c2⟩, c3⟩ := hc
          have c1 := Nat.le_of_ble_eq_true c1
          refine ⟨c2, ?_⟩
          have hall : ∀ u ∈ a.toList, lt1 0 u = true := List.all_eq_true.1 c3
          have e1 : a.toList.map (mv1 m) = a.toList := (List.map_congr_left fun u hu => mv1_still (hall u hu)).trans (List.map_id' _)
          have hr : (Instr.buildSlice ty n ps.toArray).run P w = .ok (.slice (some ⟨w.heap.size, 0, none⟩) n n) (w.alloc (.cells a e (0, 0))) := by
            have hbig : ¬ (16777216 < n * k) := by omega
            have hm := made_K hp n
            unfold madeCells at hm
            rw [K.len] at hm
            by_cases hn : n * k = 0
            · have en : repK n zc = [] := List.length_eq_zero_iff.1 (by rw [repK_len, K.len, hn])
              rw [en] at ha
              simp [Instr.buildSlice, run_underlying hu, sizeOf, typeInfo, K.hi, K.size, hn, newRow, ha, Array.range_zero']
            · simp [Instr.buildSlice, run_underlying hu, sizeOf, typeInfo, zeroValue, hbig, hn, K.hi, K.hz, K.size, K.cells, newRow]
              rw [K.len]
              rw [List.size_toArray, K.len] at hm
              simp only [List.getElem!_toArray, List.getElem!_eq_getElem?_getD] at hm
              rw [hm, ha]
              simp
          have E' := E.push a.toList [] e K.ro (fun u hu => lt1_mono (Nat.zero_le _) (hall u hu)) (k := a.toList.length) (by simp)
          rw [List.append_nil, e1, Array.toArray_toList] at E'
          refine ⟨upd m h.n (w.heap.size, a.toList.length), _, hr.trans ?_, ⟨upd_agree _ _ _, E', (Below.refl _ _).alloc E.base _, Nat.le_succ _, ?_⟩⟩
          · have hn : n ≤ n * k := Nat.le_mul_of_pos_right n (by have := K.two; omega)
            have hs : smallC n = true := blt_iff.2 (by unfold dead; omega)
            simp only [mv, mv2, mv1, mvA, upd, if_pos, cap_small hs]
          · show Nat.blt h.n (h.n + 1) = true
            exact blt_iff.2 (Nat.lt_succ_self _)
        · cases hs
      · cases hs
    · cases hs
  · cases hs
/-! ### copy -/
theorem run_copy_rowK {P : Program} (w : World) (dT sT ty elem : TypeId) (k g o dLen dCap : Nat) (a : Addr) (sLen sCap : Nat) (cur : Array Value) (t : TypeId) (cs : List Value) {i : TypeInfo}
    (hu : P.underlying dT = some (.slice elem)) (hq : P.info? elem = some i) (hi : i.size = k)
    (hg : w.heap[g]? = some (.cells cur t (0, 0))) (hn : cs.length = Nat.min sLen dLen * k)
    (hsrc : ∀ j v, cs[j]? = some v → w.cell? (a.add j) = some v) (hfit : o + cs.length ≤ cur.size) (h1 : ∀ v ∈ cs, v.oneCell' = true) :
    (Builtin.copy_ #[dT, sT] ty #[.slice (some ⟨g, o, none⟩) dLen dCap, .slice (some a) sLen sCap]).run P w =
      .ok (goInt (Nat.min sLen dLen)) (w.setRow g (cur.toList.take o ++ cs ++ cur.toList.drop (o + cs.length)).toArray) := by
  have hl := run_loadCells_list (P := P) w a cs hsrc
  have hst := run_storeCells_at P g o t cs 0 cur w hg (by simpa using hfit) h1
  simp [Builtin.copy_, run_underlying hu, Builtin.lenOf, Builtin.firstCells, sizeOf, typeInfo, hq, hi, ← hn, hl, hst]
def copyK (P : Program) (ty : TypeId) (x y : Value) (h : Hp) : Option (Value × Hp × Bool) :=
  match P.underlying ty, x, y with
  | some (.slice e), .slice (some ⟨b, o, none⟩) dn _, .slice (some ⟨b', o', none⟩) sn _ =>
    match elK P e, h.blk? b, h.blk? b' with
    | some r, some xb, some yb =>
      some (goInt (Nat.min sn dn), h.put b (xb.1.take o ++ (yb.1.drop o').take (Nat.min sn dn * r.1) ++ xb.1.drop (o + Nat.min sn dn * r.1), xb.2),
        !(ro xb.2) && srcK yb r.1 o' (Nat.min sn dn) && Nat.ble (o + Nat.min sn dn * r.1) xb.1.length)
    | _, _, _ => none
  | _, _, _ => none
theorem copyK_run {m : Mp} {B : Nat} {P : Program} {ty ty' rty : TypeId} {x y v : Value} {h h' : Hp} {w : World} {d : Bool} (E : Emb m B h w) (hs : copyK P ty x y h = some (v, h', d)) (hd : d = true) :
    ∃ w', (Builtin.copy_ #[ty, ty'] rty #[mv m x, mv m y]).run P w = .ok (mv m v) w' ∧ Came m B h w v h' m w' := by
  subst hd
  unfold copyK at hs
  split at hs
  · rename_i e b o dn dc b' o' sn sc hu
    split at hs
    · rename_i r0 xb yb hr0 hxb hyb
      obtain ⟨k, zc, by_⟩ := r0
      obtain ⟨i, z, K⟩ := elK_spec hr0
      simp only [Option.some.injEq, Prod.mk.injEq] at hs
      obtain ⟨rfl, rfl, hd⟩ := hs
      simp only [Bool.and_eq_true, Bool.not_eq_true'] at hd
      obtain ⟨⟨d2, d1⟩, d4⟩ := hd
      have d4 := Nat.le_of_ble_eq_true d4
      generalize hk : Nat.min sn dn = q at *
      obtain ⟨r, zz, l0, l1, l2⟩ := E.lies _ _ hxb (tomb_ro d2)
      rw [(l2 d2).1, (l2 d2).2] at l1
      obtain ⟨s1, s2, s3, s4⟩ := srcK_spec E hyb d1
      have ls : ((yb.1.drop o').take (q * k)).length = q * k := (List.length_map _).symm.trans s1
      have wx := E.wf _ _ hxb
      have hr := run_copy_rowK (P := P) w ty ty' rty e k (m b).1 o dn (cap (m b).2 dc) ⟨(m b').1, o', none⟩ sn (cap (m b').2 sc) _ (rt xb.2) (((yb.1.drop o').take (q * k)).map (mv1 m)) hu K.hi K.size l1 (by rw [s1, hk]) s3 (by rw [s1]; simp; omega) s4
      have esp : (xb.1.map (mv1 m) ++ r).take o ++ ((yb.1.drop o').take (q * k)).map (mv1 m) ++ (xb.1.map (mv1 m) ++ r).drop (o + q * k) = (xb.1.take o ++ (yb.1.drop o').take (q * k) ++ xb.1.drop (o + q * k)).map (mv1 m) ++ r := by
        rw [List.take_append_of_le_length (by simp; omega), List.drop_append_of_le_length (by simpa using d4)]
        simp
      refine ⟨_, hr.trans ?_, ⟨Agree.refl _ _, E.put hxb d2 l1 (xb.1.take o ++ (yb.1.drop o').take (q * k) ++ xb.1.drop (o + q * k)) r (fun u hu' => ?_) (by simp only [List.length_map, List.length_append, List.length_take, List.length_drop] at l0 ls ⊢; omega), below_setRow (Below.refl _ _) (E.low _ _ hxb d2) _, Nat.le_refl _, rfl⟩⟩
      · rw [s1, hk]
        simp only [esp]
        rfl
      · simp only [List.mem_append] at hu'
        rcases hu' with (hu' | hu') | hu'
        · exact wx u (List.mem_of_mem_take hu')
        · exact s2 u hu'
        · exact wx u (List.mem_of_mem_drop hu')
    · cases hs
  · cases hs
/-! ### a part of a row whose capacity is not known -/
def partK (P : Program) (ty : TypeId) (x : Value) (lo hi mx : Option Value) (h : Hp) : Option Value :=
  match P.underlying ty, x, mx with
  | some (.slice e), .slice (some ⟨b, o, none⟩) n c, none =>
    match elK P e, h.blk? b, num0 lo 0, num0 hi n with
    | some r, some xb, some l, some t =>
      if (Nat.beq c (dead * (1 + o) + r.1) && decide (0 ≤ l ∧ l ≤ t ∧ t ≤ n ∧ (l = 0 ∨ l < t)) && !(tomb xb.2) && Nat.ble (o + n * r.1) xb.1.length) = true then some (.slice (some ⟨b, o + l.toNat * r.1, none⟩) (t.toNat - l.toNat) (dead * (1 + (o + l.toNat * r.1)) + r.1)) else none
    | _, _, _, _ => none
  | _, _, _ => none
theorem partK_run {m : Mp} {B : Nat} {P : Program} {ty : TypeId} {x v : Value} {lo hi mx : Option Value} {h : Hp} {w : World} (E : Emb m B h w) (hx : lt h.n x = true) (hs : partK P ty x lo hi mx h = some v) :
    (Instr.sliceAt ty (mv m x) lo hi mx).run P w = .ok (mv m v) w ∧ lt h.n v = true := by
  unfold partK at hs
  split at hs
  · rename_i e b o n c hu
    split at hs
    · rename_i r0 xb l t hr0 hxb hl ht
      obtain ⟨k, zc, by_⟩ := r0
      obtain ⟨i, z, K⟩ := elK_spec hr0
      split at hs
      · rename_i hc
        cases hs
        simp only [Bool.and_eq_true, Bool.not_eq_true', decide_eq_true_eq] at hc
        obtain ⟨⟨⟨hc1, h5, h6, h7, h8⟩, htb⟩, hln⟩ := hc
        have hc1 := Nat.eq_of_beq_eq_true hc1
        have hln := Nat.le_of_ble_eq_true hln
        subst hc1
        obtain ⟨r, zz, l0, _, _⟩ := E.lies _ _ hxb htb
        have kp : 0 < k := by have := K.two; omega
        have l0' : xb.1.length + r.length = (m b).2 := by simpa using l0
        have hC : cap (m b).2 (dead * (1 + o) + k) = ((m b).2 - o) / k := cap_O K.kd
        have hn : n ≤ ((m b).2 - o) / k := (Nat.le_div_iff_mul_le kp).2 (by omega)
        have hb := bounds_run (P := P) (len := n) (C := ((m b).2 - o) / k) (lo := lo) (hi := hi) (mx := none) (k := ((((m b).2 - o) / k : Nat) : Int)) hl ht rfl (by simp) h5 h6 (by omega) (by omega) w
        rw [Int.toNat_natCast] at hb
        have e2 : cap (m b).2 (dead * (1 + (o + l.toNat * k)) + k) = ((m b).2 - o) / k - l.toNat := by
          rw [cap_O K.kd, ← Nat.sub_sub, Nat.mul_comm l.toNat k, Nat.sub_mul_div]
        refine ⟨?_, by simpa [lt, lt2, lt1] using hx⟩
        simp only [mv, mv2, mv1, mvA, hC, e2]
        simp only [Instr.sliceAt, Instr.slice, underlying, Sem.run_bind, run_program, Result.andThen_ok, hu, Sem.run_pure, hb, sizeOf, typeInfo, K.hi, K.size]
        by_cases hkl : (((m b).2 - o) / k : Nat) = l.toNat
        · have : l = 0 := by omega
          subst this
          simp [hkl]
        · simp [hkl, add_plain]
      · cases hs
    · cases hs
  · cases hs
/-! ### a row of addresses that is written out -/
theorem one_one {m : Mp} {v : Value} (h : one v = true) : one (mv1 m v) = true := by
  cases v with
  | pointer a => cases a <;> rfl
  | map a => cases a <;> rfl
  | slice a l c => cases a <;> rfl
  | agg cs => simp [one] at h
  | tuple cs => simp [one] at h
  | iface t u =>
    have ht : Nat.beq t dead = false := by simpa [one] using h
    simp [mv1, one, ht]
  | _ => rfl
theorem fillL_map {m : Mp} : ∀ (ps : List (Nat × Value)) (L l : List Value), fillL L ps = some l → fillL (L.map (mv1 m)) (ps.map fun p => (p.1, mv m p.2)) = some (l.map (mv1 m))
  | [], L, l, h => by
    simp only [fillL] at h
    cases h
    rfl
  | (i, v) :: ps, L, l, h => by
    simp only [fillL] at h
    split at h
    · rename_i hc
      simp only [Bool.and_eq_true] at hc
      have r := fillL_map (m := m) ps _ _ h
      have e : mv m v = mv1 m v := mv_one hc.2
      simp only [List.map_cons, fillL, e, List.length_map]
      rw [if_pos (by rw [Bool.and_eq_true]; exact ⟨hc.1, one_one hc.2⟩), ← List.map_set]
      exact r
    · cases h
def buildA (P : Program) (ty : TypeId) (n : Nat) (ps : List (Nat × Value)) (h : Hp) : Option (Value × Hp) :=
  match P.underlying ty with
  | some (.slice e) =>
    match P.info? e with
    | some i =>
      match i.zero with
      | some z =>
        if (Nat.beq i.size 1 && one z && lt1 0 z && !(ro e) && Nat.ble n 1048576) = true then
          match fillL (List.replicate n z) ps with
          | some l => if (l.all (lt1 h.n)) = true then some (.slice (some ⟨h.n, 0, none⟩) n n, h.push l e) else none
          | none => none
        else none
      | none => none
    | none => none
  | _ => none
theorem buildA_run {m : Mp} {B : Nat} {P : Program} {ty : TypeId} {n : Nat} {ps : List (Nat × Value)} {v : Value} {h h' : Hp} {w : World} (E : Emb m B h w) (hs : buildA P ty n ps h = some (v, h')) :
    ∃ m' w', (Instr.buildSlice ty n (ps.map fun p => (p.1, mv m p.2)).toArray).run P w = .ok (mv m' v) w' ∧ Came m B h w v h' m' w' := by
  unfold buildA at hs
  split at hs
  · rename_i e hu
    split at hs
    · rename_i i hi
      split at hs
      · rename_i z hz
        split at hs
        · rename_i hc
          simp only [Bool.and_eq_true, Bool.not_eq_true'] at hc
          obtain ⟨⟨⟨⟨c1, c2⟩, c3⟩, c4⟩, c5⟩ := hc
          have c1 := Nat.eq_of_beq_eq_true c1
          have c5 := Nat.le_of_ble_eq_true c5
          split at hs
          · rename_i l hl
            split at hs
            · rename_i hall
              cases hs
              have hl' := fillL_map (m := m) ps _ _ hl
              rw [List.map_replicate, mv1_still c3] at hl'
              obtain ⟨f1, f2⟩ := fillL_spec _ _ _ hl'
              rw [List.length_replicate, List.length_map] at f2
              have hr : (Instr.buildSlice ty n (ps.map fun p => (p.1, mv m p.2)).toArray).run P w = .ok (.slice (some ⟨w.heap.size, 0, none⟩) n n) (w.alloc (.cells (l.map (mv1 m)).toArray e (0, 0))) := by
                have hbig : ¬ (16777216 < n) := by omega
                generalize (ps.map fun p => (p.1, mv m p.2)) = ps' at f1 hl'
                generalize l.map (mv1 m) = l' at f1 hl'
                by_cases hn : n = 0
                · subst hn
                  have f1' : Instr.fill (fun i => some (i, 1)) #[] ps' = some l'.toArray := by simpa using f1
                  simp [Instr.buildSlice, run_underlying hu, sizeOf, typeInfo, hi, c1, newRow, f1', Array.range_zero']
                · have f1' : Instr.fill (fun i => some (i, 1)) (List.replicate n z).toArray ps' = some l'.toArray := by simpa using f1
                  have hm' : (Array.range n).map (fun x => ([z] : List Value)[x % 1]?.getD default) = (List.replicate n z).toArray := by
                    apply Array.ext'
                    simp only [Array.toList_map, Array.toList_range]
                    refine List.ext_getElem (by simp) fun j h1 h2 => ?_
                    simp [Nat.mod_one]
                  simp [Instr.buildSlice, run_underlying hu, sizeOf, typeInfo, c1, zeroValue, hbig, hn, hi, hz, one_cells c2, newRow]
                  rw [hm', f1']
                  simp
              have E' := E.push l [] e c4 (List.all_eq_true.1 hall) (k := n) (by simp [f2])
              rw [List.append_nil] at E'
              refine ⟨upd m h.n (w.heap.size, n), _, hr.trans ?_, ⟨upd_agree _ _ _, E', (Below.refl _ _).alloc E.base _, Nat.le_succ _, ?_⟩⟩
              · have hs : smallC n = true := blt_iff.2 (by unfold dead; omega)
                simp only [mv, mv2, mv1, mvA, upd, if_pos, cap_small hs]
              · show Nat.blt h.n (h.n + 1) = true
                exact blt_iff.2 (Nat.lt_succ_self _)
            · cases hs
          · cases hs
        · cases hs
      · cases hs
    · cases hs
  · cases hs
/-! ### a part of nil; nil lengthened by noughts -/
def partN (P : Program) (ty : TypeId) (lo hi mx : Option Value) : Option Value :=
  match P.underlying ty, num0 lo 0, num0 hi 0, mx with
  | some (.slice e), some 0, some 0, none => if (P.info? e).isSome = true then some (.slice none 0 0) else none
  | _, _, _, _ => none
theorem partN_run {P : Program} {ty : TypeId} {v : Value} {lo hi mx : Option Value} {w : World} (hs : partN P ty lo hi mx = some v) :
    (Instr.sliceAt ty (.slice none 0 0) lo hi mx).run P w = .ok v w ∧ v = .slice none 0 0 := by
  unfold partN at hs
  split at hs
  · rename_i e hu hl ht
    split at hs
    · rename_i hi'
      cases hs
      obtain ⟨i, hi'⟩ := Option.isSome_iff_exists.1 hi'
      have hb := bounds_run (P := P) (len := 0) (C := 0) (lo := lo) (hi := hi) (mx := none) (k := 0) hl ht rfl (by simp) (by omega) (by omega) (by omega) (by omega) w
      refine ⟨?_, rfl⟩
      simp [Instr.sliceAt, Instr.slice, underlying, hu, hb, sizeOf, typeInfo, hi']
    · cases hs
  · cases hs
theorem run_append_zeros {P : Program} (w : World) (t u ty e : TypeId) (i : TypeInfo) (z : Value) (ht : P.underlying t = some (.slice e)) (hu : P.underlying u = some (.int .i64)) (hi : P.info? e = some i) (hz : i.zero = some z) (n : Nat) (h0 : 0 < n) (hn : n ≤ 1073741824) (hb : i.bytes ≤ 64) (hk : 0 < i.size) :
    (Builtin.append_ #[t, u] ty #[.slice none 0 0, .int .i64 (n : Int)]).run P w =
      .ok (.slice (some ⟨w.heap.size, 0, none⟩) n (grownCap w n 0 e)) (w.drew.alloc (.cells (Builtin.zeroCells z.cells n ++ Builtin.zeroCells z.cells (grownCap w n 0 e - n)) e)) := by
  have hn0 : n ≠ 0 := by omega
  have h48 : n * i.bytes ≤ 1073741824 * 64 := Nat.mul_le_mul hn hb
  have hw : IntKind.i64.wrap (n : Int) = (n : Int) := by simp [IntKind.wrap, IntKind.bits, IntKind.signed]; omega
  have h1 : ¬ ((n : Int) < 0) := by omega
  have h2 : ¬ (281474976710656 < (n : Int) * (i.bytes : Int)) := by
    rw [← Int.natCast_mul]; omega
  have h63' : ¬ (9223372036854775807 < (n : Int)) := by omega
  have h48' : ¬ (281474976710656 < Builtin.nextslicecap n 0 * i.bytes) := by rw [nextslicecap_zero h0]; omega
  have h3 : ¬ (n * i.size = 0) := by
    have := Nat.mul_pos h0 hk
    omega
  simp [Builtin.append_, run_underlying ht, run_underlying hu, sizeOf, typeInfo, zeroValue, hi, hz, asInt, asIntOf, hw, h1, h2, hn0, h63', h48', h3, Question.forced, run_firstCells_none, newRow, grownCap]
def appI (P : Program) (ty ty' : TypeId) (x y : Value) (h : Hp) : Option (Value × Hp) :=
  match P.underlying ty, P.underlying ty', x, y with
  | some (.slice e), some (.int .i64), .slice none 0 0, .int .i64 n =>
    match elK P e with
    | some r => if decide (0 < n ∧ n ≤ 1073741824) = true then some (.slice (some ⟨h.n, 0, none⟩) n.toNat (dead + r.1), h.push (repK n.toNat r.2.1) e) else none
    | none => none
  | _, _, _, _ => none
theorem appI_run {m : Mp} {B : Nat} {P : Program} {ty ty' rty : TypeId} {x y v : Value} {h h' : Hp} {w : World} (E : Emb m B h w) (hs : appI P ty ty' x y h = some (v, h')) :
    ∃ m' w', (Builtin.append_ #[ty, ty'] rty #[mv m x, mv m y]).run P w = .ok (mv m' v) w' ∧ Came m B h w v h' m' w' := by
  unfold appI at hs
  split at hs
  · rename_i e n hu hu'
    split at hs
    · rename_i r hr0
      obtain ⟨k, zc, by_⟩ := r
      obtain ⟨i, z, K⟩ := elK_spec hr0
      split at hs
      · rename_i hc
        cases hs
        have hc := of_decide_eq_true hc
        obtain ⟨N, rfl⟩ := Int.eq_ofNat_of_zero_le (show 0 ≤ n by omega)
        have kp : 0 < k := by have := K.two; omega
        have hp : 0 < zc.length := by have := K.len; omega
        have hr := run_append_zeros (P := P) w ty ty' rty e i z hu hu' K.hi K.hz N (by omega) (by omega) (by rw [K.bytes]; exact K.b64) (by rw [K.size]; exact kp)
        have hge := grownCap_ge w N 0 e
        have hall : ∀ u ∈ repK N zc, lt1 h.n u = true := fun u hu => lt1_mono (Nat.zero_le _) (K.still u (repK_mem hu))
        have e0 : (repK N zc).map (mv1 m) = repK N zc := (List.map_congr_left fun u hu => mv1_still (K.still u (repK_mem hu))).trans (List.map_id' _)
        have E' := E.drew.push (repK N zc) (repK (grownCap w N 0 e - N) zc) e K.ro hall (k := grownCap w N 0 e * k) (by
          rw [repK_len, repK_len, K.len, ← Nat.add_mul]
          congr 1
          omega)
        rw [K.cells, zero_K hp, zero_K hp] at hr
        rw [e0] at E'
        refine ⟨_, _, hr.trans ?_, ⟨upd_agree _ _ _, E', ((Below.refl _ _).drew).alloc E.base _, Nat.le_succ _, by simp [lt, lt2, lt1, Hp.push]⟩⟩
        have e1 : mv (upd m h.n (w.drew.heap.size, grownCap w N 0 e * k)) (.slice (some ⟨h.n, 0, none⟩) ((N : Nat) : Int).toNat (dead + k)) = .slice (some ⟨w.heap.size, 0, none⟩) N (grownCap w N 0 e) := by
          simp only [mv, mv2, mv1, mvA, upd, if_pos, cap_K kp K.kd, Int.toNat_natCast]
          rfl
        rw [e1]
        simp only [List.append_toArray]
      · cases hs
    · cases hs
  · cases hs
/-! ### one such operation -/
def okB (l : Log) : Bool := l.all fun p => p.1 == p.2
theorem okB_ok {l : Log} (h : okB l = true) : okLog l := fun p hp => by simpa using List.all_eq_true.1 h p hp
def appKs (P : Program) (ty : TypeId) (x y : Value) (h : Hp) (s : List Dec) : StepR :=
  match isNum s with
  | true => match appK 1 P ty x y h with | some r => some (r.1, r.2.1, s.tail, r.2.2) | none => none
  | false =>
    match isSam s with
    | true => match appK 2 P ty x y h with | some r => some (r.1, r.2.1, s.tail, r.2.2) | none => none
    | false =>
      match isAt s with
      | true => match appK 0 P ty x y h with | some r => some (r.1, r.2.1, s.tail, r.2.2) | none => none
      | false =>
        match (match x with | .slice none _ _ => true | .slice _ _ c => !(smallC c) | _ => false) with
        | true =>
          match (match appK 3 P ty x y h with | some r => okB r.2.2 | none => false) with
          | true => match appK 3 P ty x y h with | some r => if okB r.2.2 = true then some (r.1, r.2.1, s, []) else none | none => none
          | false => match appK 0 P ty x y h with | some r => if okB r.2.2 = true then some (r.1, r.2.1, s, []) else none | none => none
        | false =>
          match (match appK 2 P ty x y h with | some r => okB r.2.2 | none => false) with
          | true => match appK 2 P ty x y h with | some r => if okB r.2.2 = true then some (r.1, r.2.1, s, []) else none | none => none
          | false => match appK 1 P ty x y h with | some r => if okB r.2.2 = true then some (r.1, r.2.1, s, []) else none | none => none
theorem appKs_run {m : Mp} {B : Nat} {P : Program} {ty rty : TypeId} {x y v : Value} {h h' : Hp} {w : World} {s s' : List Dec} {lg : Log} (E : Emb m B h w) (hx : lt h.n x = true) (hs : appKs P ty x y h s = some (v, h', s', lg)) (hlg : okLog lg) :
    ∃ m' w', (Builtin.append_ #[ty, ty] rty #[mv m x, mv m y]).run P w = .ok (mv m' v) w' ∧ Came m B h w v h' m' w' := by
  unfold appKs at hs
  split at hs
  · split at hs
    · rename_i r hr; cases hs; exact appK_run (lg := r.2.2) E hx hr hlg
    · cases hs
  · split at hs
    · split at hs
      · rename_i r hr; cases hs; exact appK_run (lg := r.2.2) E hx hr hlg
      · cases hs
    · split at hs
      · split at hs
        · rename_i r hr; cases hs; exact appK_run (lg := r.2.2) E hx hr hlg
        · cases hs
      · split at hs
        · split at hs
          · split at hs
            · rename_i r hr
              split at hs
              · rename_i hk; cases hs; exact appK_run (lg := r.2.2) E hx hr (okB_ok hk)
              · cases hs
            · cases hs
          · split at hs
            · rename_i r hr
              split at hs
              · rename_i hk; cases hs; exact appK_run (lg := r.2.2) E hx hr (okB_ok hk)
              · cases hs
            · cases hs
        · split at hs
          · split at hs
            · rename_i r hr
              split at hs
              · rename_i hk; cases hs; exact appK_run (lg := r.2.2) E hx hr (okB_ok hk)
              · cases hs
            · cases hs
          · split at hs
            · rename_i r hr
              split at hs
              · rename_i hk; cases hs; exact appK_run (lg := r.2.2) E hx hr (okB_ok hk)
              · cases hs
            · cases hs
def memK (P : Program) (t : List Value) (h : Hp) (s : List Dec) (o : Oper) : StepR :=
  match o.op with
  | .makeSlice ty l c => if (okX l && okX c) = true then makeK P ty (ev t l) (ev t c) h s else none
  | .buildSlice ty n parts =>
    if (parts.toList.all fun p => okX p.2) = true then
      match buildK P ty n (parts.toList.map fun p => (p.1, ev t p.2)) h with
      | some r => some (r.1, r.2, s, [])
      | none =>
        match buildA P ty n (parts.toList.map fun p => (p.1, ev t p.2)) h with
        | some r => some (r.1, r.2, s, [])
        | none => none
    else none
  | .slice ty x lo hi mx =>
    if (okX x && stillO lo t && stillO hi t && stillO mx t) = true then
      match ev t x with
      | .slice none 0 0 =>
        match partN P ty (lo.map (ev t)) (hi.map (ev t)) (mx.map (ev t)) with
        | some v => some (v, h, s, [])
        | none => none
      | x' =>
        match partK P ty x' (lo.map (ev t)) (hi.map (ev t)) (mx.map (ev t)) h with
        | some v => some (v, h, s, [])
        | none => none
    else none
  | .call c =>
    match c.callee, c.args.toList, c.argTypes.toList with
    | .builtin .append, [x, y], [ty, ty'] =>
      if (okX x && okX y && Nat.beq ty ty') = true then appKs P ty (ev t x) (ev t y) h s
      else if (okX x && okX y) = true then
        match appI P ty ty' (ev t x) (ev t y) h with
        | some r => some (r.1, r.2, s, [])
        | none => none
      else none
    | .builtin .copy, [x, y], [ty, _] =>
      if (okX x && okX y) = true then
        match copyK P ty (ev t x) (ev t y) h with
        | some r => if r.2.2 = true then some (r.1, r.2.1, s, []) else none
        | none => none
      else none
    | _, _, _ => none
  | _ => none
def memQ (P : Program) (t : List Value) (h : Hp) (s : List Dec) (o : Oper) : StepR :=
  match memOp P t h s o with
  | some r => some r
  | none => memK P t h s o
theorem memK_ok {P : Program} {m : Mp} {B : Nat} {t : List Value} {h h' : Hp} {s s' : List Dec} {lg : Log} {w : World} {a : Act} {o : Oper} {v : Value}
    (ha : a.tmps = (t.map (mv m)).toArray) (E : Emb m B h w) (ht : ∀ v ∈ t, lt h.n v = true) (hs : memK P t h s o = some (v, h', s', lg)) (hlg : okLog lg) : Does P m B h w a o v h' := by
  unfold memK at hs
  split at hs
  · rename_i ty l c ho
    split at hs
    · rename_i hx
      simp only [Bool.and_eq_true] at hx
      unfold makeK at hs
      split at hs
      · rename_i e kl ln kc cp hu el ec
        split at hs
        · rename_i r hr0
          obtain ⟨k, zc, by_⟩ := r
          obtain ⟨i, z, K⟩ := elK_spec hr0
          simp only at hs
          have el' : a.eval l = .int kl ln := by rw [eval_mv ha hx.1, el]; rfl
          have ec' : a.eval c = .int kc cp := by rw [eval_mv ha hx.2, ec]; rfl
          have done : okMake by_ ln cp → Does P m B h w a o (.slice (some ⟨h.n, 0, none⟩) ln.toNat cp.toNat) (h.push (repK cp.toNat zc) e) := fun hk => by
            obtain ⟨m', w', hr, C⟩ := makeK_run (kl := kl) (kc := kc) E hu K hk
            refine ⟨m', w', _, ?_, .inl rfl, C⟩
            simp only [execOp, ho, el', ec', Sem.run_bind, hr, Result.andThen_ok, Sem.run_pure]
          split at hs
          · cases hs
            have g := hlg _ (List.mem_singleton.2 rfl)
            simp only [okMakeB, decide_eq_true_eq] at g
            exact done g
          · split at hs
            · rename_i g
              cases hs
              simp only [okMakeB, decide_eq_true_eq] at g
              exact done g
            · cases hs
        · cases hs
      · cases hs
    · cases hs
  · rename_i ty n parts ho
    split at hs
    · rename_i hall
      simp only [List.all_eq_true] at hall
      split at hs
      · rename_i r hr
        cases hs
        obtain ⟨hst, m', w', h1, C⟩ := buildK_run (v := r.1) (h' := r.2) E hr
        refine ⟨m', w', _, ?_, .inl rfl, C⟩
        have e : (parts.map fun p => (p.1, a.eval p.2)) = (parts.toList.map fun p => (p.1, ev t p.2)).toArray := by
          have : (parts.map fun p => (p.1, a.eval p.2)) = (parts.map fun p => (p.1, ev t p.2)) := Array.map_congr_left fun p hp => by
            have h2 := hall p (by simpa using hp)
            have h3 := List.all_eq_true.1 hst (p.1, ev t p.2) (List.mem_map.2 ⟨p, by simpa using hp, rfl⟩)
            rw [eval_mv ha h2, mv_still h3]
          rw [this]
          cases parts; simp
        simp only [execOp, ho, e, Sem.run_bind, h1, Result.andThen_ok, Sem.run_pure]
      · split at hs
        · rename_i r hr
          cases hs
          obtain ⟨m', w', h1, C⟩ := buildA_run (v := r.1) (h' := r.2) E hr
          refine ⟨m', w', _, ?_, .inl rfl, C⟩
          have e : (parts.map fun p => (p.1, a.eval p.2)) = ((parts.toList.map fun p => (p.1, ev t p.2)).map fun p => (p.1, mv m p.2)).toArray := by
            have : (parts.map fun p => (p.1, a.eval p.2)) = (parts.map fun p => (p.1, mv m (ev t p.2))) := Array.map_congr_left fun p hp => by
              have h2 := hall p (by simpa using hp)
              rw [eval_mv ha h2]
            rw [this]
            cases parts; simp
          simp only [execOp, ho, e, Sem.run_bind, h1, Result.andThen_ok, Sem.run_pure]
        · cases hs
    · cases hs
  · rename_i ty x lo hi mx ho
    split at hs
    · rename_i hx
      simp only [Bool.and_eq_true] at hx
      obtain ⟨⟨⟨hx, hlo⟩, hhi⟩, hmx⟩ := hx
      split at hs
      · rename_i hn
        split at hs
        · rename_i v' hr
          cases hs
          obtain ⟨h1, rfl⟩ := partN_run (w := w) hr
          refine ⟨m, w, _, ?_, .inl rfl, ⟨Agree.refl _ _, E, Below.refl _ _, Nat.le_refl _, rfl⟩⟩
          have en : a.eval x = .slice none 0 0 := by rw [eval_mv ha hx, hn]; rfl
          simp only [execOp, ho, en, stillO_map ha hlo, stillO_map ha hhi, stillO_map ha hmx, Sem.run_bind, h1, Result.andThen_ok, Sem.run_pure]
          rfl
        · cases hs
      · split at hs
        · rename_i v' hr
          cases hs
          obtain ⟨h1, h2⟩ := partK_run E (ev_lt ht hx) hr
          refine ⟨m, w, _, ?_, .inl rfl, ⟨Agree.refl _ _, E, Below.refl _ _, Nat.le_refl _, h2⟩⟩
          simp only [execOp, ho, eval_mv ha hx, stillO_map ha hlo, stillO_map ha hhi, stillO_map ha hmx, Sem.run_bind, h1, Result.andThen_ok, Sem.run_pure]
        · cases hs
    · cases hs
  · rename_i c ho
    split at hs
    · rename_i x y ty ty' hcal hargs htys
      split at hs
      · rename_i hc
        simp only [Bool.and_eq_true] at hc
        obtain ⟨⟨hx, hy⟩, hty⟩ := hc
        have hty := Nat.eq_of_beq_eq_true hty
        subst hty
        obtain ⟨callee, args, tys⟩ := c
        obtain ⟨args⟩ := args
        obtain ⟨tys⟩ := tys
        simp only at hcal hargs htys
        subst hcal hargs htys
        obtain ⟨m', w', h1, C⟩ := appKs_run (rty := o.type) E (ev_lt ht hx) hs hlg
        refine ⟨m', w', _, ?_, .inl rfl, C⟩
        simp [execOp, ho, resolve, invoke, builtin, eval_mv ha hx, eval_mv ha hy, h1]
      · split at hs
        · rename_i hx
          simp only [Bool.and_eq_true] at hx
          obtain ⟨hx, hy⟩ := hx
          split at hs
          · rename_i r hr
            cases hs
            obtain ⟨callee, args, tys⟩ := c
            obtain ⟨args⟩ := args
            obtain ⟨tys⟩ := tys
            simp only at hcal hargs htys
            subst hcal hargs htys
            obtain ⟨m', w', h1, h2⟩ := appI_run (rty := o.type) (v := r.1) (h' := r.2) E hr
            refine ⟨m', w', _, ?_, .inl rfl, h2⟩
            simp [execOp, ho, resolve, invoke, builtin, eval_mv ha hx, eval_mv ha hy, h1]
          · cases hs
        · cases hs
    · rename_i x y ty ty' hcal hargs htys
      split at hs
      · rename_i hx
        simp only [Bool.and_eq_true] at hx
        obtain ⟨hx, hy⟩ := hx
        split at hs
        · rename_i r hr
          split at hs
          · rename_i hd
            cases hs
            obtain ⟨callee, args, tys⟩ := c
            obtain ⟨args⟩ := args
            obtain ⟨tys⟩ := tys
            simp only at hcal hargs htys
            subst hcal hargs htys
            obtain ⟨w', h1, h2⟩ := copyK_run (rty := o.type) (ty' := ty') (v := r.1) (h' := r.2.1) (d := r.2.2) E hr hd
            refine ⟨m, w', _, ?_, .inl rfl, h2⟩
            simp [execOp, ho, resolve, invoke, builtin, eval_mv ha hx, eval_mv ha hy, h1]
          · cases hs
        · cases hs
      · cases hs
    · cases hs
  · cases hs
theorem memQ_ok {P : Program} {m : Mp} {B : Nat} {t : List Value} {h h' : Hp} {s s' : List Dec} {lg : Log} {w : World} {a : Act} {o : Oper} {v : Value}
    (ha : a.tmps = (t.map (mv m)).toArray) (E : Emb m B h w) (ht : ∀ v ∈ t, lt h.n v = true) (hs : memQ P t h s o = some (v, h', s', lg)) (hlg : okLog lg) : Does P m B h w a o v h' := by
  unfold memQ at hs
  split at hs
  · rename_i r hr
    cases hs
    exact memOp_ok ha E ht hr hlg
  · exact memK_ok ha E ht hs hlg
end Go.KRun
