/-
  The document's rows of parts of 16 bits (tillerref02): Of, Low and Bit, as calls.
-/
import Derived.Test.YtbcpnpchioncbaaG11
import Derived.Test.YtbcpnpchioncbaaG10
namespace Go.Proofs.Ytbcpnpchioncbaa
open Go.KRun Go.Nt
set_option maxRecDepth 100000

/-! ### Of -/
def f4 (n : Int) : List Int := [IntKind.u32.wrap (n.tmod 65536), IntKind.u32.wrap ((IntKind.u64.wrap (n.tdiv 65536)).tmod 65536), IntKind.u32.wrap ((IntKind.u64.wrap (n.tdiv 4294967296)).tmod 65536), IntKind.u32.wrap (IntKind.u64.wrap (n.tdiv 281474976710656))]
theorem uof_body : Try.f24.body = some (cBody Try.f24) := by kernel_rfl
theorem uof_go (n : Int) : GoesT (evC (tabH Try.prog extY conN hcV) 100 false (cBody Try.f24) ([.int .u64 n] ++ List.replicate 18 undef, ⟨0, []⟩, [cmp true, cmp true, cmp true]) ⟨[], [], []⟩) 3 16 (some none) [.int .u64 n, undef, sl 0 0 (trimN (cutI (wU (f4 n)) 0 4)) (trimN (cutI (wU (f4 n)) 0 4))] ⟨1, [(wU (f4 n), tU)]⟩ [(rowC tU (wU (f4 n)) 0 4 4, true), (decide ((65536 : Int) = 0), false), (decide ((65536 : Int) = 0), false), (decide ((65536 : Int) = 0), false)] := ⟨by kernel_rfl, by kernel_rfl, by kernel_rfl⟩
theorem wrap64 {n : Int} (h0 : 0 ≤ n) (h1 : n < 18446744073709551616) : IntKind.u64.wrap n = n := by simp [IntKind.wrap, IntKind.bits, IntKind.signed]; omega
theorem f4_eq {n : Int} (h0 : 0 ≤ n) (h1 : n < 18446744073709551616) : f4 n = [n % 65536, n / 65536 % 65536, n / 4294967296 % 65536, n / 281474976710656] := by
  unfold f4
  rw [Int.tmod_eq_emod_of_nonneg h0, Int.tdiv_eq_ediv_of_nonneg h0, Int.tdiv_eq_ediv_of_nonneg h0, Int.tdiv_eq_ediv_of_nonneg h0, wrap64 (n := n / 65536) (by omega) (by omega), wrap64 (n := n / 4294967296) (by omega) (by omega), wrap64 (n := n / 281474976710656) (by omega) (by omega), Int.tmod_eq_emod_of_nonneg (by omega), Int.tmod_eq_emod_of_nonneg (by omega), wrap32 (n := n % 65536) (by omega) (by omega), wrap32 (n := n / 65536 % 65536) (by omega) (by omega), wrap32 (n := n / 4294967296 % 65536) (by omega) (by omega), wrap32 (by omega) (by omega)]
theorem f4_dg {n : Int} (h0 : 0 ≤ n) (h1 : n < 18446744073709551616) : ∀ x ∈ f4 n, Dg 65536 x := by
  rw [f4_eq h0 h1]
  intro x hx
  simp only [List.mem_cons, List.not_mem_nil, or_false] at hx
  rcases hx with rfl | rfl | rfl | rfl <;> exact ⟨by omega, by omega⟩
theorem f4_val {n : Int} (h0 : 0 ≤ n) (h1 : n < 18446744073709551616) : vb 65536 (f4 n) = n.toNat := by
  rw [f4_eq h0 h1]
  simp only [vb]
  omega
def gUof : AnsH := fun vals h s =>
  match vals with
  | [.int .u64 n] => mk16 n.toNat h s [(decide (0 ≤ n ∧ n < 18446744073709551616), true)]
  | _ => none
theorem gUof_ok : AnsHOk 24 gUof := by
  intro vals h s v h' s' lg hg hl m B w E hv
  unfold gUof at hg
  split at hg
  · rename_i n
    unfold mk16 at hg
    cases hg
    have q := of_decide_eq_true (hl _ (List.mem_singleton.2 rfl))
    have hd := f4_dg q.1 q.2
    have hv4 := f4_val q.1 q.2
    have hl4 : (f4 n).length = 4 := rfl
    have ec : cutI (wU (f4 n)) 0 4 = f4 n := by
      have := cut_wU (f4 n)
      rw [hl4] at this
      exact this
    have et : trimN (f4 n) = (d16 n.toNat).length := by
      rw [trim_len (by omega) hd, hv4]
      rfl
    have hrow : rowC tU (wU (f4 n)) 0 4 4 = true := by
      have := rowC_wU (L := f4 n) (fun x hx => ⟨(hd x hx).1, by have := (hd x hx).2; omega⟩) (by rw [hl4]; omega) (c := 4) (by rw [hl4]; rfl)
      rw [hl4] at this
      exact this
    have hr : Runs (tabH Try.prog extY conN hcV) (cBody Try.f24) ([.int .u64 n] ++ List.replicate 18 undef, ⟨0, []⟩, []) fun e z => (e = none ∨ e = some none) ∧ resS Try.prog Try.f24 z.1 z.2.1 = some (sl 0 0 (d16 n.toNat).length (d16 n.toNat).length) ∧ ∃ r, z.2.1.blk? 0 = some (wU (d16 n.toNat) ++ r, tU) := by
      refine (goesT_runs (tabH_ok conN_ok hcV_ok) (uof_go n) (okTwo hrow (okTwo rfl (okTwo rfl (okOne rfl))))).mono fun e z he => ?_
      obtain ⟨rfl, ⟨g, e1⟩, e2⟩ := he
      refine ⟨.inr rfl, ?_, ?_⟩
      · rw [e1, e2, ec, et]
        rfl
      · rw [e2]
        refine ⟨wU ((f4 n).drop (trimN (f4 n))), ?_⟩
        have e3 : wU (d16 n.toNat) ++ wU ((f4 n).drop (trimN (f4 n))) = wU (f4 n) := by
          unfold d16
          rw [← hv4, ← take_trim (by omega) _ hd, ← wU_append, List.take_append_drop]
        rw [e3]
        rfl
    have := row_calls1 (T := tabH Try.prog extY conN hcV) Try.func24 uof_body (h0 := ⟨0, []⟩) ⟨rfl, fun b x hx => by have : b < 0 := Hp.blk_lt hx; omega⟩ (vals := [.int .u64 n]) (fun v hv => by rw [List.mem_singleton.1 hv]; rfl) (k := 0) (cs := wU (d16 n.toNat)) (ty := tU) (wU_lt _) (by kernel_rfl) hr.w (by rfl) E (s := fun i => i) (fun i x hx _ => by have : i < 0 := Hp.blk_lt hx; omega)
    exact this
  · cases hg

/-! ### Low -/
def wPre (F : Func) : List Code := [cFst (cBody F), cFst (cSnd (cBody F))]
def wR2 (F : Func) : Code := cFst (cFst (cSnd (cSnd (cBody F))))
def wLp (F : Func) : Code := cIn (cIn (cSnd (cFst (cSnd (cSnd (cBody F))))))
def wEn (F : Func) : Code := cSnd (cSnd (cSnd (cBody F)))
def m4 (n : Nat) : Int := IntKind.i64.wrap ((if (4 : Int) < (n : Int) then 4 else (n : Int)) - 1)
theorem ulow_body : Try.f49.body = some (seqs (wPre Try.f49) (.seq (.seq (wR2 Try.f49) (.block 0 (.loop (wLp Try.f49)))) (wEn Try.f49))) := by kernel_rfl
theorem ulow_pre (a : Value) (h : Hp) : GoesT (evL (tabH Try.prog extY conN hcV) 100 (wPre Try.f49) ([a] ++ List.replicate 21 undef, h, []) ⟨[], [], []⟩) 4 18 none [a, undef, .int .u64 0, .int .u64 0] h [] := ⟨by kernel_rfl, by kernel_rfl, by kernel_rfl⟩
theorem ulow_r2 (p : Option Addr) (n c : Nat) (h : Hp) (g : Nat → Value) : GoesT (evC (tabH Try.prog extY conN hcV) 100 false (wR2 Try.f49) ([.slice p n c, undef, .int .u64 0, .int .u64 0] ++ tl 18 g, h, []) ⟨[], [], []⟩) 5 17 none [.slice p n c, undef, .int .u64 0, .int .u64 0, .int .i64 (m4 n)] h [] := ⟨by kernel_rfl, by kernel_rfl, by kernel_rfl⟩
def lw (y x : Int) : Int := IntKind.u64.wrap (IntKind.u64.wrap (65536 * y) + IntKind.u64.wrap x)
theorem ulow_go (o n c : Nat) (x y k : Int) (l : List Value) (g : Nat → Value) : GoesT (evC (tabH Try.prog extY conN hcV) 100 false (wLp Try.f49) ([sl 0 o n c, undef, .int .u64 0, .int .u64 y, .int .i64 k] ++ tl 17 g, ⟨1, [(l, tR)]⟩, [cmp true, at_, val (.int .u32 x)]) ⟨[], [], []⟩) 5 17 none [sl 0 o n c, undef, .int .u64 0, .int .u64 (lw y x), .int .i64 (IntKind.i64.wrap (k - 1))] ⟨1, [(l, tR)]⟩ [(cellIs (l[o + k.toNat * 1]?) (.int .u32 x), true), (decide (0 ≤ k ∧ k < n), true), (decide (k ≥ 0), true)] := ⟨by kernel_rfl, by kernel_rfl, by kernel_rfl⟩
theorem ulow_out (a : Value) (y k : Int) (h : Hp) (g : Nat → Value) : GoesT (evC (tabH Try.prog extY conN hcV) 100 false (wLp Try.f49) ([a, undef, .int .u64 0, .int .u64 y, .int .i64 k] ++ tl 17 g, h, [cmp false]) ⟨[], [], []⟩) 5 17 (some (some 0)) [a, undef, .int .u64 0, .int .u64 y, .int .i64 k] h [(decide (k ≥ 0), false)] := ⟨by kernel_rfl, by kernel_rfl, by kernel_rfl⟩
theorem ulow_end (a : Value) (y k : Int) (h : Hp) (g : Nat → Value) : GoesT (evC (tabH Try.prog extY conN hcV) 100 false (wEn Try.f49) ([a, undef, .int .u64 0, .int .u64 y, .int .i64 k] ++ tl 17 g, h, []) ⟨[], [], []⟩) 3 19 (some none) [a, undef, .int .u64 y] h [] := ⟨by kernel_rfl, by kernel_rfl, by kernel_rfl⟩
/-- the digits from k on, of the first four -/
def hiV (L : List Int) (k : Nat) : Nat := vb 65536 ((L.take 4).drop k)
theorem hiV_step {L : List Int} {k : Nat} (hk : k < (L.take 4).length) : hiV L k = dgN L k + 65536 * hiV L (k + 1) := by
  unfold hiV dgN
  rw [List.drop_eq_getElem_cons hk]
  simp only [vb]
  congr 2
  rw [List.getElem_take]
  rw [List.length_take] at hk
  simp [List.getD, List.getElem?_eq_getElem (show k < L.length by omega)]
theorem hiV_lt {L : List Int} (hd : ∀ x ∈ L, Dg 65536 x) (k : Nat) : hiV L k < 65536 ^ (4 - k) := by
  have h := vb_lt (b := 65536) (by omega) ((L.take 4).drop k) (fun x hx => hd x (List.mem_of_mem_take (List.mem_of_mem_drop hx)))
  have hl : ((L.take 4).drop k).length ≤ 4 - k := by simp; omega
  exact Nat.lt_of_lt_of_le h (Nat.pow_le_pow_right (by omega) hl)
theorem hiV_zero {L : List Int} (hd : ∀ x ∈ L, Dg 65536 x) : hiV L 0 = vb 65536 L % 18446744073709551616 := by
  have e : L = L.take 4 ++ L.drop 4 := (List.take_append_drop 4 L).symm
  have h4 := hiV_lt hd 0
  unfold hiV at *
  rw [List.drop_zero] at *
  have ev : vb 65536 L = vb 65536 (L.take 4) + 65536 ^ (L.take 4).length * vb 65536 (L.drop 4) := by
    conv => lhs; rw [e]
    exact vb_append _ _ _
  rw [ev]
  have e4 : (65536 : Nat) ^ (4 - 0) = 18446744073709551616 := rfl
  by_cases hl : L.length ≤ 4
  · rw [List.drop_of_length_le hl]
    simp only [vb, Nat.mul_zero, Nat.add_zero]
    omega
  · have : (L.take 4).length = 4 := by simp; omega
    have e5 : (65536 : Nat) ^ 4 = 18446744073709551616 := rfl
    rw [this, e5]
    omega
theorem ulow_runs {l : List Value} {o c : Nat} {L : List Int} (hR : Row l o L) (hd : ∀ x ∈ L, Dg 65536 x) (hn : L.length < 1073741824) :
    Runs (tabH Try.prog extY conN hcV) (seqs (wPre Try.f49) (.seq (.seq (wR2 Try.f49) (.block 0 (.loop (wLp Try.f49)))) (wEn Try.f49))) ([sl 0 o L.length c] ++ List.replicate 21 undef, ⟨1, [(l, tR)]⟩, []) fun e z => (e = none ∨ e = some none) ∧ resS Try.prog Try.f49 z.1 z.2.1 = some (.int .u64 ((vb 65536 L % 18446744073709551616 : Nat) : Int)) := by
  have hm : m4 L.length = (((L.take 4).length : Nat) : Int) - 1 := by
    unfold m4
    rw [List.length_take]
    split
    · rw [wrapI (by omega) (by omega)]; omega
    · rw [wrapI (by omega) (by omega)]; omega
  have hz : hiV L (L.take 4).length = 0 := by unfold hiV; rw [List.drop_of_length_le (Nat.le_refl _)]; rfl
  refine goesT_list (tabH_ok conN_ok hcV_ok) (ulow_pre _ _) (fun x hx => by cases hx) fun g => ?_
  refine Runs.seq (P1 := fun e Y => match e with | none => (∃ g, Y.1 = [sl 0 o L.length c, undef, .int .u64 0, .int .u64 (hiV L 0 : Nat), .int .i64 (-1)] ++ tl 17 g) ∧ Y.2.1 = ⟨1, [(l, tR)]⟩ | some none => False | some (some _) => False) (Runs.seq (P1 := fun e Y => e = none ∧ (∃ g, Y.1 = [sl 0 o L.length c, undef, .int .u64 0, .int .u64 0, .int .i64 (m4 L.length)] ++ tl 17 g) ∧ Y.2.1 = ⟨1, [(l, tR)]⟩) (goesT_runs (tabH_ok conN_ok hcV_ok) (ulow_r2 _ L.length c _ g) (fun x hx => by cases hx)) ?_ (fun e y he => by cases he.1)) ?_ (fun e Y he => by match e, he with | none, he => exact he.elim | some id, he => exact he.elim)
  · rintro ⟨t, h', s⟩ ⟨_, ⟨g', ht⟩, hh⟩
    simp only at ht hh
    subst ht hh
    refine Runs.script (s := []) (Runs.forLoop (P := fun Y => (∃ g, Y.1 = [sl 0 o L.length c, undef, .int .u64 0, .int .u64 (hiV L 0 : Nat), .int .i64 (-1)] ++ tl 17 g) ∧ Y.2.1 = ⟨1, [(l, tR)]⟩) (R := fun _ => False)
      (fun k Y => k ≤ (L.take 4).length ∧ (∃ g, Y.1 = [sl 0 o L.length c, undef, .int .u64 0, .int .u64 (hiV L k : Nat), .int .i64 ((k : Int) - 1)] ++ tl 17 g) ∧ Y.2.1 = ⟨1, [(l, tR)]⟩) ?_ (n := (L.take 4).length) ⟨Nat.le_refl _, ⟨g', by rw [hz, hm]; rfl⟩, rfl⟩)
    rintro k ⟨t, h', s⟩ ⟨hk, ⟨g, ht⟩, hh⟩
    simp only at ht hh
    subst ht hh
    have hl4 : (L.take 4).length ≤ L.length := by simp; omega
    have hl5 : (L.take 4).length ≤ 4 := by simp; omega
    cases k with
    | zero =>
      refine (goesT_runs (tabH_ok conN_ok hcV_ok) (ulow_out _ _ _ _ g) (okOne (decide_eq_false (by omega)))).mono fun e z hz => ?_
      obtain ⟨rfl, ⟨g', z1⟩, z2⟩ := hz
      exact ⟨rfl, ⟨g', z1⟩, z2⟩
    | succ k =>
      have hd1 := dgN_lt hd k
      have hlt := hiV_lt hd (k + 1)
      have hs := hiV_step (L := L) (k := k) (by omega)
      have ek : ((k + 1 : Nat) : Int) - 1 = (k : Int) := by omega
      have hp : hiV L (k + 1) < 281474976710656 := by
        have : 65536 ^ (4 - (k + 1)) ≤ 65536 ^ 3 := Nat.pow_le_pow_right (by omega) (by omega)
        have e3 : (65536 : Nat) ^ 3 = 281474976710656 := rfl
        omega
      rw [ek]
      refine (goesT_runs (tabH_ok conN_ok hcV_ok) (ulow_go o L.length c (L.getD k 0) _ k l g) (okTwo (by rw [Int.toNat_natCast, Nat.mul_one, hR.cell (by omega)]; simp [cellIs]) (okTwo (decide_eq_true (by omega)) (okOne (show decide ((k : Int) ≥ 0) = true from decide_eq_true (by omega)))))).mono fun e z hz => ?_
      obtain ⟨rfl, ⟨g', z1⟩, z2⟩ := hz
      have e1 : lw (hiV L (k + 1) : Nat) (L.getD k 0) = ((hiV L k : Nat) : Int) := by
        unfold lw
        rw [← hd1.2, wrap64 (n := 65536 * ((hiV L (k + 1) : Nat) : Int)) (by omega) (by omega), wrap64 (n := ((dgN L k : Nat) : Int)) (by omega) (by omega), wrap64 (by omega) (by omega)]
        omega
      have e2 : IntKind.i64.wrap ((k : Int) - 1) = (k : Int) - 1 := wrapI (by omega) (by omega)
      exact ⟨k, by omega, by omega, ⟨g', by rw [z1, e1, e2]⟩, z2⟩
  · rintro ⟨t, h', s⟩ ⟨⟨g', ht⟩, hh⟩
    simp only at ht hh
    subst ht hh
    refine (goesT_runs (tabH_ok conN_ok hcV_ok) (ulow_end _ _ _ _ g') (fun x hx => by cases hx)).mono fun e z hz => ?_
    obtain ⟨rfl, ⟨g2, z1⟩, z2⟩ := hz
    refine ⟨.inr rfl, ?_⟩
    rw [z1, z2, hiV_zero hd]
    rfl
theorem ulow_body1 : Try.f49.body = some (cBody Try.f49) := by kernel_rfl
theorem ulow_zero (p : Option Addr) (c : Nat) (h : Hp) : GoesT (evC (tabH Try.prog extY conN hcV) 100 false (cBody Try.f49) ([.slice p 0 c] ++ List.replicate 21 undef, h, [cmp false]) ⟨[], [], []⟩) 3 19 (some none) [.slice p 0 c, undef, .int .u64 0] h [(decide (m4 0 ≥ 0), false)] := ⟨by kernel_rfl, by kernel_rfl, by kernel_rfl⟩
theorem m4_zero : decide (m4 0 ≥ 0) = false := by decide
/-- a number's row, or nothing -/
def rowS (h : Hp) (p : Option Addr) (n c : Nat) : Bool := rowP h p n c && dgB (rowOf h p n) && Nat.blt n 1073741824
def gUlow : AnsH := fun vals h s =>
  match vals with
  | [.slice p n c] => some (.int .u64 ((vO h p n % 18446744073709551616 : Nat) : Int), h, s, [(rowS h p n c, true)])
  | _ => none
theorem gUlow_ok : AnsHOk 49 gUlow := by
  intro vals h s v h' s' lg hg hl m B w E hv
  unfold gUlow at hg
  split at hg
  · rename_i p n c
    cases hg
    have q := hl _ (List.mem_singleton.2 rfl)
    simp only [rowS, Bool.and_eq_true] at q
    obtain ⟨⟨q1, q2⟩, q3⟩ := q
    have q2 := dgB_of q2
    have q3 := blt_iff.1 q3
    have hlen := rowOf_len q1
    by_cases hn : n = 0
    · subst hn
      have e0 : rowOf h p 0 = [] := List.length_eq_zero_iff.1 hlen
      have ev : vO h p 0 = 0 := by unfold vO; rw [e0]; rfl
      obtain ⟨x, p', a, NA, eA, fA⟩ := nu_of 0 q1
      have hr : Runs (tabH Try.prog extY conN hcV) (cBody Try.f49) ([.slice p' 0 c] ++ List.replicate 21 undef, ⟨1, [x]⟩, []) fun e z => (e = none ∨ e = some none) ∧ resS Try.prog Try.f49 z.1 z.2.1 = some (.int .u64 ((vO h p 0 % 18446744073709551616 : Nat) : Int)) := by
        refine (goesT_runs (tabH_ok conN_ok hcV_ok) (ulow_zero p' c _) (okOne m4_zero)).mono fun e z he => ?_
        obtain ⟨rfl, ⟨g, e2⟩, e3⟩ := he
        refine ⟨.inr rfl, ?_⟩
        rw [e2, e3, ev]
        rfl
      have b1 : ∀ {i : Nat} {z : List Value × TypeId}, (⟨1, [x]⟩ : Hp).blk? i = some z → i = 0 ∧ z = x := fun {i z} hz => by
        have : i < 1 := Hp.blk_lt hz
        have hi : i = 0 := by omega
        subst hi
        exact ⟨rfl, (Option.some.inj hz).symm⟩
      have := row_calls0 (T := tabH Try.prog extY conN hcV) Try.func49 ulow_body1 (h0 := ⟨1, [x]⟩) ⟨rfl, fun b z hz => by obtain ⟨_, rfl⟩ := b1 hz; exact ⟨NA.ros.1, NA.lt0, NA.ros.2⟩⟩ (vals := [.slice p' 0 c]) (fun v hv => by rw [List.mem_singleton.1 hv]; exact NA.lt (by show 0 < 1; omega)) (by rfl) hr.w E (s := fun _ => a) (fun i z hz ht => by obtain ⟨_, rfl⟩ := b1 hz; exact fA ht)
      simp only [List.map_cons, List.map_nil] at this
      rw [eA _ rfl] at this
      exact this
    rcases rowP_cases q1 with ⟨rfl, rfl, rfl, e0⟩ | ⟨b, o, x, rfl, hx, r1, _, e0⟩
    · exact absurd rfl hn
    · rw [e0] at q2 hlen
      obtain ⟨h1, h2, h3, h4, h5, h6, h7⟩ := rowC_of r1
      have r := ulow_runs (c := c) h1 q2 (by rw [h2]; exact q3)
      rw [h2] at r
      have ev : vO h (some ⟨b, o, none⟩) n = vb 65536 (cutI x.1 o n) := by unfold vO; rw [e0]
      rw [ev]
      exact row_calls0 (T := tabH Try.prog extY conN hcV) Try.func49 ulow_body (rows1 h7) (vals := [sl 0 o n c]) (fun v hv => by rw [List.mem_singleton.1 hv]; rfl) (by rfl) r.w E (s := fun _ => b) (fitsR1 hx h5 h6 rfl)
  · cases hg
end Go.Proofs.Ytbcpnpchioncbaa

/-
  PLAIN ARITHMETIC: digits to the base 65536, moved down; a bit.
-/
namespace Go.Nt

def dgS (L : List Int) (i : Nat) : Nat := (L.getD i 0).toNat
theorem pow_split16 (k : Nat) : 2 ^ k = 65536 ^ (k / 16) * 2 ^ (k % 16) := by
  rw [pow16, ← Nat.pow_add]
  congr 1
  omega
theorem dg_lt {L : List Int} (h : ∀ x ∈ L, Dg 65536 x) (i : Nat) : dgS L i < 65536 := by
  unfold dgS
  by_cases hi : i < L.length
  · have := h (L.getD i 0) (by simp [List.getD, List.getElem?_eq_getElem hi])
    omega
  · simp [List.getD, List.getElem?_eq_none (show L.length ≤ i by omega)]
theorem vb_cut {L : List Int} (h : ∀ x ∈ L, Dg 65536 x) (z : Nat) : vb 65536 L / 65536 ^ z = vb 65536 (L.drop z) ∧ vb 65536 L % 65536 ^ z = vb 65536 (L.take z) := by
  have hp : 0 < 65536 ^ z := Nat.pow_pos (by omega)
  by_cases hz : z ≤ L.length
  · have e : vb 65536 L = vb 65536 (L.take z) + 65536 ^ z * vb 65536 (L.drop z) := by
      conv => lhs; rw [← List.take_append_drop z L]
      rw [vb_append, List.length_take, show min z L.length = z by omega]
    have hl : vb 65536 (L.take z) < 65536 ^ z := by
      have := vb_lt (b := 65536) (by omega) (L.take z) (fun x hx => h x (List.mem_of_mem_take hx))
      rw [List.length_take, show min z L.length = z by omega] at this
      exact this
    rw [e]
    exact ⟨by rw [Nat.add_mul_div_left _ _ hp, Nat.div_eq_of_lt hl, Nat.zero_add], by rw [Nat.add_mul_mod_self_left, Nat.mod_eq_of_lt hl]⟩
  · have hl : vb 65536 L < 65536 ^ z := by
      have h1 := vb_lt (b := 65536) (by omega) L h
      have h2 := Nat.pow_le_pow_right (show 0 < 65536 by omega) (show L.length ≤ z by omega)
      omega
    rw [List.drop_of_length_le (by omega), List.take_of_length_le (by omega)]
    exact ⟨Nat.div_eq_of_lt hl, Nat.mod_eq_of_lt hl⟩
theorem vb_drop {L : List Int} {z : Nat} : vb 65536 (L.drop z) = dgS L z + 65536 * vb 65536 (L.drop (z + 1)) := by
  by_cases hz : z < L.length
  · rw [List.drop_eq_getElem_cons hz]
    simp only [vb, dgS]
    simp [List.getD, List.getElem?_eq_getElem hz]
  · rw [List.drop_of_length_le (by omega), List.drop_of_length_le (by omega)]
    simp [vb, dgS, List.getD, List.getElem?_eq_none (show L.length ≤ z by omega)]
theorem dvd_pow {s : Nat} (h : s ≤ 16) : 2 ^ s * 2 ^ (16 - s) = 65536 := by rw [← Nat.pow_add, show s + (16 - s) = 16 by omega]
/-- a bit by its digit -/
theorem bit_dg {L : List Int} (h : ∀ x ∈ L, Dg 65536 x) (k : Nat) : vb 65536 L / 2 ^ k % 2 = dgS L (k / 16) / 2 ^ (k % 16) % 2 := by
  obtain ⟨e, _⟩ := vb_cut h (k / 16)
  rw [pow_split16, ← Nat.div_div_eq_div_mul, e, vb_drop]
  have hd := dvd_pow (s := k % 16 + 1) (by omega)
  have e2 : 65536 * vb 65536 (L.drop (k / 16 + 1)) = 2 ^ (k % 16) * (2 * (2 ^ (16 - (k % 16 + 1)) * vb 65536 (L.drop (k / 16 + 1)))) := by
    rw [← hd, Nat.pow_succ]
    simp only [Nat.mul_assoc]
  have hp : 0 < 2 ^ (k % 16) := Nat.pow_pos (by omega)
  rw [e2, Nat.add_mul_div_left _ _ hp]
  omega
/-- what is cut off -/
theorem lost_iff {L : List Int} (h : ∀ x ∈ L, Dg 65536 x) (k : Nat) : (vb 65536 L % 2 ^ k ≠ 0) ↔ (vb 65536 (L.take (k / 16)) ≠ 0 ∨ dgS L (k / 16) % 2 ^ (k % 16) ≠ 0) := by
  obtain ⟨e1, e2⟩ := vb_cut h (k / 16)
  have hp : 0 < 65536 ^ (k / 16) := Nat.pow_pos (by omega)
  rw [pow_split16, Nat.mod_mul, e1, e2, vb_drop]
  have hd := dvd_pow (s := k % 16) (by omega)
  have e3 : (dgS L (k / 16) + 65536 * vb 65536 (L.drop (k / 16 + 1))) % 2 ^ (k % 16) = dgS L (k / 16) % 2 ^ (k % 16) := by
    rw [← hd, Nat.mul_assoc, Nat.add_mul_mod_self_left]
  rw [e3]
  generalize dgS L (k / 16) % 2 ^ (k % 16) = r
  generalize vb 65536 (L.take (k / 16)) = u
  constructor
  · intro h0
    by_cases hu : u = 0
    · right
      intro hr
      apply h0
      rw [hu, hr, Nat.mul_zero]
    · exact .inl hu
  · rintro (h0 | h0) hh
    · omega
    · have : 0 < 65536 ^ (k / 16) * r := Nat.mul_pos hp (by omega)
      omega
/-- the digits of a number moved down: one more -/
theorem down_step {O : List Int} {P R y x0 x1 j W : Nat} (hPR : P * R = 65536) (hO : O.length = j) (h : vb 65536 O * P + y = W + 65536 ^ j * (x0 % P)) :
    vb 65536 (O ++ [((x0 / P + x1 % P * R : Nat) : Int)]) * P + y = (W + 65536 ^ j * x0) + 65536 ^ (j + 1) * (x1 % P) := by
  have e : vb 65536 (O ++ [((x0 / P + x1 % P * R : Nat) : Int)]) = vb 65536 O + 65536 ^ j * (x0 / P + x1 % P * R) := by
    rw [vb_snoc, hO, Int.toNat_natCast]
  have e2 := Nat.div_add_mod x0 P
  have e3 : 65536 ^ j * (x0 / P + x1 % P * R) * P = 65536 ^ j * (P * (x0 / P)) + 65536 ^ (j + 1) * (x1 % P) := by
    rw [Nat.mul_assoc, Nat.add_mul, Nat.mul_add, Nat.mul_comm (x0 / P) P, Nat.mul_assoc (x1 % P), Nat.mul_comm R P, hPR, Nat.pow_succ, Nat.mul_comm (x1 % P), Nat.mul_assoc]
  have e4 : 65536 ^ j * x0 = 65536 ^ j * (P * (x0 / P)) + 65536 ^ j * (x0 % P) := by rw [← Nat.mul_add, e2]
  rw [e, Nat.add_mul, e3]
  omega
theorem down_lt {P R x0 x1 : Nat} (hP : 0 < P) (hPR : P * R = 65536) (h0 : x0 < 65536) : x0 / P + x1 % P * R < 65536 := by
  have h1 : x0 / P < R := Nat.div_lt_of_lt_mul (by omega)
  have h2 : x1 % P + 1 ≤ P := Nat.mod_lt _ hP
  have h3 := Nat.mul_le_mul_right R h2
  rw [Nat.add_mul, Nat.one_mul, hPR] at h3
  omega
theorem down_end {L : List Int} (h : ∀ x ∈ L, Dg 65536 x) {k V' : Nat} (e : V' * 2 ^ (k % 16) + dgS L (k / 16) % 2 ^ (k % 16) = vb 65536 (L.drop (k / 16))) : V' = vb 65536 L / 2 ^ k := by
  have hp : 0 < 2 ^ (k % 16) := Nat.pow_pos (by omega)
  obtain ⟨e1, _⟩ := vb_cut h (k / 16)
  rw [pow_split16, ← Nat.div_div_eq_div_mul, e1, ← e, Nat.add_comm, Nat.mul_comm, Nat.add_mul_div_left _ _ hp, Nat.div_eq_of_lt (Nat.mod_lt _ hp), Nat.zero_add]
end Go.Nt

/-
  The document's rows of parts of 16 bits (tillerref02): Bit, as a call; the pieces of Shr.
-/
namespace Go.Proofs.Ytbcpnpchioncbaa
open Go.KRun Go.Nt
set_option maxRecDepth 100000

/-! ### Bit -/
theorem ubit_body : Try.f56.body = some (seqs (wPre Try.f56) (.seq (.seq (wR2 Try.f56) (.block 0 (.loop (wLp Try.f56)))) (wEn Try.f56))) := by kernel_rfl
theorem ubit_pre (p : Option Addr) (n c : Nat) (k : Int) (h : Hp) : GoesT (evL (tabH Try.prog extY conN hcV) 100 (wPre Try.f56) ([.slice p n c, .int .i64 k] ++ List.replicate 20 undef, h, []) ⟨[], [], []⟩) 6 16 none [.slice p n c, .int .i64 k, undef, undef, .int .i64 0, .int .u32 (atN (rowOf h p n) (k16 k))] h [(rowP h p n c, true)] := ⟨by kernel_rfl, by kernel_rfl, by kernel_rfl⟩
theorem ubit_r2 (a : Value) (k x : Int) (h : Hp) (g : Nat → Value) : GoesT (evC (tabH Try.prog extY conN hcV) 100 false (wR2 Try.f56) ([a, .int .i64 k, undef, undef, .int .i64 0, .int .u32 x] ++ tl 16 g, h, []) ⟨[], [], []⟩) 7 15 none [a, .int .i64 k, undef, undef, .int .i64 0, .int .u32 x, .int .i64 0] h [] := ⟨by kernel_rfl, by kernel_rfl, by kernel_rfl⟩
theorem ubit_go (a : Value) (k x i : Int) (h : Hp) (g : Nat → Value) : GoesT (evC (tabH Try.prog extY conN hcV) 100 false (wLp Try.f56) ([a, .int .i64 k, undef, undef, .int .i64 0, .int .u32 x, .int .i64 i] ++ tl 15 g, h, [cmp true, cmp true]) ⟨[], [], []⟩) 7 15 none [a, .int .i64 k, undef, undef, .int .i64 0, .int .u32 (IntKind.u32.wrap (x.tdiv 2)), .int .i64 (IntKind.i64.wrap (i + 1))] h [(decide (i < k.tmod 16), true), (decide ((16 : Int) = 0), false)] := ⟨by kernel_rfl, by kernel_rfl, by kernel_rfl⟩
theorem ubit_out (a : Value) (k x i : Int) (h : Hp) (g : Nat → Value) : GoesT (evC (tabH Try.prog extY conN hcV) 100 false (wLp Try.f56) ([a, .int .i64 k, undef, undef, .int .i64 0, .int .u32 x, .int .i64 i] ++ tl 15 g, h, [cmp true, cmp false]) ⟨[], [], []⟩) 7 15 (some (some 0)) [a, .int .i64 k, undef, undef, .int .i64 0, .int .u32 x, .int .i64 i] h [(decide (i < k.tmod 16), false), (decide ((16 : Int) = 0), false)] := ⟨by kernel_rfl, by kernel_rfl, by kernel_rfl⟩
theorem ubit_end (a : Value) (k x i : Int) (h : Hp) (g : Nat → Value) : GoesT (evC (tabH Try.prog extY conN hcV) 100 false (wEn Try.f56) ([a, .int .i64 k, undef, undef, .int .i64 0, .int .u32 x, .int .i64 i] ++ tl 15 g, h, [cmp true]) ⟨[], [], []⟩) 5 17 (some none) [a, .int .i64 k, undef, undef, .int .i64 (IntKind.i64.wrap (x.tmod 2))] h [(decide ((2 : Int) = 0), false)] := ⟨by kernel_rfl, by kernel_rfl, by kernel_rfl⟩
theorem ubit_loop (a : Value) (k x : Nat) (hx : x < 65536) (h : Hp) (g : Nat → Value) :
    Runs (tabH Try.prog extY conN hcV) (.block 0 (.loop (wLp Try.f56))) ([a, .int .i64 (k : Nat), undef, undef, .int .i64 0, .int .u32 (x : Nat), .int .i64 0] ++ tl 15 g, h, []) fun e Y => match e with | none => (∃ g i, Y.1 = [a, .int .i64 (k : Nat), undef, undef, .int .i64 0, .int .u32 ((x / 2 ^ (k % 16) : Nat) : Int), .int .i64 i] ++ tl 15 g) ∧ Y.2.1 = h | some none => False | some (some _) => False := by
  have em : (k : Int).tmod 16 = ((k % 16 : Nat) : Int) := by rw [Int.tmod_eq_emod_of_nonneg (by omega)]; omega
  refine Runs.forLoop (P := fun Y => (∃ g i, Y.1 = [a, .int .i64 (k : Nat), undef, undef, .int .i64 0, .int .u32 ((x / 2 ^ (k % 16) : Nat) : Int), .int .i64 i] ++ tl 15 g) ∧ Y.2.1 = h) (R := fun _ => False)
    (fun m Y => ∃ j : Nat, j ≤ k % 16 ∧ m = k % 16 - j ∧ (∃ g, Y.1 = [a, .int .i64 (k : Nat), undef, undef, .int .i64 0, .int .u32 ((x / 2 ^ j : Nat) : Int), .int .i64 (j : Nat)] ++ tl 15 g) ∧ Y.2.1 = h) ?_ (n := k % 16) ⟨0, by omega, by omega, ⟨g, by simp⟩, rfl⟩
  rintro m ⟨t, h', s⟩ ⟨j, hj, hm, ⟨g, ht⟩, hh⟩
  simp only at ht hh
  subst ht hh
  have hle : x / 2 ^ j ≤ x := Nat.div_le_self _ _
  by_cases hlt : j < k % 16
  · refine (goesT_runs (tabH_ok conN_ok hcV_ok) (ubit_go a k _ j h' g) (okTwo (by rw [em]; exact decide_eq_true (by omega)) (okOne rfl))).mono fun e z hz => ?_
    obtain ⟨rfl, ⟨g', z1⟩, z2⟩ := hz
    have e1 : IntKind.u32.wrap (((x / 2 ^ j : Nat) : Int).tdiv 2) = ((x / 2 ^ (j + 1) : Nat) : Int) := by
      rw [Nat.pow_succ, ← Nat.div_div_eq_div_mul]
      generalize x / 2 ^ j = y at hle ⊢
      rw [Int.tdiv_eq_ediv_of_nonneg (by omega), wrap32 (by omega) (by omega)]
      rfl
    have e2 : IntKind.i64.wrap ((j : Int) + 1) = ((j + 1 : Nat) : Int) := by rw [wrapI (by omega) (by omega)]; omega
    exact ⟨k % 16 - (j + 1), by omega, j + 1, by omega, rfl, ⟨g', by rw [z1, e1, e2]⟩, z2⟩
  · have hj' : j = k % 16 := by omega
    subst hj'
    refine (goesT_runs (tabH_ok conN_ok hcV_ok) (ubit_out a k _ _ h' g) (okTwo (by rw [em]; exact decide_eq_false (by omega)) (okOne rfl))).mono fun e z hz => ?_
    obtain ⟨rfl, ⟨g', z1⟩, z2⟩ := hz
    exact ⟨rfl, ⟨g', _, z1⟩, z2⟩
/-- a row or nothing: its digits -/
def rowD (h : Hp) (p : Option Addr) (n c : Nat) : Bool := rowP h p n c && dgB (rowOf h p n) && Nat.blt n 1073741824
def gUbit : AnsH := fun vals h s =>
  match vals with
  | [.slice p n c, .int .i64 k] => some (.int .i64 ((vO h p n / 2 ^ k.toNat % 2 : Nat) : Int), h, s, [(rowD h p n c, true), (decide (0 ≤ k ∧ k < 4611686018427387904), true)])
  | _ => none
theorem dg_dgN (L : List Int) (i : Nat) : dgS L i = dgN L i := rfl
theorem blkOne {x : List Value × TypeId} {i : Nat} {z : List Value × TypeId} (hz : (⟨1, [x]⟩ : Hp).blk? i = some z) : i = 0 ∧ z = x := by
  have : i < 1 := Hp.blk_lt hz
  have hi : i = 0 := by omega
  subst hi
  exact ⟨rfl, (Option.some.inj hz).symm⟩
theorem gUbit_ok : AnsHOk 56 gUbit := by
  intro vals h s v h' s' lg hg hl m B w E hv
  unfold gUbit at hg
  split at hg
  · rename_i p n c k
    cases hg
    have q := hl _ (List.mem_cons_self)
    have qk := of_decide_eq_true (hl _ (List.mem_cons_of_mem _ (List.mem_singleton.2 rfl)))
    simp only [rowD, Bool.and_eq_true] at q
    obtain ⟨⟨q1, q2⟩, q3⟩ := q
    have q2 := dgB_of q2
    obtain ⟨K, rfl⟩ := Int.eq_ofNat_of_zero_le qk.1
    obtain ⟨x, p', a, NA, eA, fA⟩ := nu_of 0 q1
    obtain ⟨rp, ro'⟩ := NA.row ⟨1, [x]⟩ rfl
    have ek : k16 (K : Int) = ((K / 16 : Nat) : Int) := by unfold k16; rw [Int.tdiv_eq_ediv_of_nonneg (by omega), wrapI (by omega) (by omega)]; omega
    have hd := dgN_lt q2 (K / 16)
    have hr : Runs (tabH Try.prog extY conN hcV) (seqs (wPre Try.f56) (.seq (.seq (wR2 Try.f56) (.block 0 (.loop (wLp Try.f56)))) (wEn Try.f56))) ([.slice p' n c, .int .i64 (K : Nat)] ++ List.replicate 20 undef, ⟨1, [x]⟩, []) fun e z => (e = none ∨ e = some none) ∧ resS Try.prog Try.f56 z.1 z.2.1 = some (.int .i64 ((vO h p n / 2 ^ K % 2 : Nat) : Int)) := by
      refine goesT_list (tabH_ok conN_ok hcV_ok) (ubit_pre p' n c K _) (okOne rp) fun g => ?_
      rw [ro', ek, atN_nat, ← hd.2]
      refine Runs.seq (P1 := fun e Y => match e with | none => (∃ g i, Y.1 = [.slice p' n c, .int .i64 (K : Nat), undef, undef, .int .i64 0, .int .u32 ((dgN (rowOf h p n) (K / 16) / 2 ^ (K % 16) : Nat) : Int), .int .i64 i] ++ tl 15 g) ∧ Y.2.1 = ⟨1, [x]⟩ | some none => False | some (some _) => False) (Runs.seq (P1 := fun e Y => e = none ∧ (∃ g, Y.1 = [.slice p' n c, .int .i64 (K : Nat), undef, undef, .int .i64 0, .int .u32 ((dgN (rowOf h p n) (K / 16) : Nat) : Int), .int .i64 0] ++ tl 15 g) ∧ Y.2.1 = ⟨1, [x]⟩) (goesT_runs (tabH_ok conN_ok hcV_ok) (ubit_r2 _ K _ _ g) (fun x hx => by cases hx)) ?_ (fun e y he => by cases he.1)) ?_ (fun e Y he => by match e, he with | none, he => exact he.elim | some id, he => exact he.elim)
      · rintro ⟨t, h', s⟩ ⟨_, ⟨g', ht⟩, hh⟩
        simp only at ht hh
        subst ht hh
        exact Runs.script (ubit_loop _ K _ hd.1 _ g')
      · rintro ⟨t, h', s⟩ ⟨⟨g', i, ht⟩, hh⟩
        simp only at ht hh
        subst ht hh
        refine (goesT_runs (tabH_ok conN_ok hcV_ok) (ubit_end _ _ _ _ _ g') (okOne rfl)).mono fun e z hz => ?_
        obtain ⟨rfl, ⟨g2, z1⟩, z2⟩ := hz
        refine ⟨.inr rfl, ?_⟩
        have e1 : IntKind.i64.wrap ((((dgN (rowOf h p n) (K / 16) / 2 ^ (K % 16) : Nat) : Int)).tmod 2) = ((vO h p n / 2 ^ K % 2 : Nat) : Int) := by
          unfold vO
          rw [bit_dg q2 K, dg_dgN]
          generalize dgN (rowOf h p n) (K / 16) / 2 ^ (K % 16) = y
          rw [Int.tmod_eq_emod_of_nonneg (by omega), wrapI (by omega) (by omega)]
          rfl
        rw [z1, z2, e1]
        rfl
    have := row_calls0 (T := tabH Try.prog extY conN hcV) Try.func56 ubit_body (h0 := ⟨1, [x]⟩) ⟨rfl, fun b z hz => by obtain ⟨_, rfl⟩ := blkOne hz; exact ⟨NA.ros.1, NA.lt0, NA.ros.2⟩⟩ (vals := [.slice p' n c, .int .i64 (K : Nat)]) (fun v hv => by
      simp only [List.mem_cons, List.not_mem_nil, or_false] at hv
      rcases hv with rfl | rfl
      · exact NA.lt (by show 0 < 1; omega)
      · rfl) (by rfl) hr.w E (s := fun _ => a) (fun i z hz ht => by obtain ⟨_, rfl⟩ := blkOne hz; exact fA ht)
    simp only [List.map_cons, List.map_nil] at this
    rw [eA _ rfl] at this
    exact this
  · cases hg
end Go.Proofs.Ytbcpnpchioncbaa
