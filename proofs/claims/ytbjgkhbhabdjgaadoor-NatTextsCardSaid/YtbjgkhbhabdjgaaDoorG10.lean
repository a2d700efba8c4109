/-
  nat.Check, nat.checkBoth, as calls with rows; bits.Add32, bits.Sub32.
-/
import Derived.Test.YtbjgkhbhabdjgaaDoorG09
import Derived.Test.YtbjgkhbhabdjgaaDoorG08
import Derived.Test.YtbjgkhbhabdjgaaDoorG06
namespace Go.Proofs.YtbjgkhbhabdjgaaDoor
open Go.KRun Go.Nt
set_option maxRecDepth 100000

def errV (k : Int) : Value := .iface 64 (.int .i64 k)
def errD (d : Bool) : Value := match d with | true => errV 1 | false => .nilIface
def badL (L : List Int) : Bool := decide (8192 < L.length) || (decide (0 < L.length) && (L.getD (L.length - 1) 0 == 0))
theorem chk_long (p : Option Addr) (n c : Nat) (h : Hp) : GoesT (evC (tabOf Tryd.prog extY conN true) 100 false (cBody Tryd.f13) ([.slice p n c] ++ List.replicate 20 undef, h, [cmp true]) ⟨[], [], []⟩) 3 18 (some none) [.slice p n c, undef, errV 1] h [(decide ((n : Int) > 8192), true)] := ⟨by kernel_rfl, by kernel_rfl, by kernel_rfl⟩
theorem chk_none (p : Option Addr) (n c : Nat) (h : Hp) : GoesT (evC (tabOf Tryd.prog extY conN true) 100 false (cBody Tryd.f13) ([.slice p n c] ++ List.replicate 20 undef, h, [cmp false, cmp false]) ⟨[], [], []⟩) 3 18 (some none) [.slice p n c, undef, .nilIface] h [(decide ((n : Int) > 0), false), (decide ((n : Int) > 8192), false)] := ⟨by kernel_rfl, by kernel_rfl, by kernel_rfl⟩
theorem chk_last (d : Bool) (o n c : Nat) (x : Int) (l : List Value) : GoesT (evC (tabOf Tryd.prog extY conN true) 100 false (cBody Tryd.f13) ([sl 0 o n c] ++ List.replicate 20 undef, ⟨1, [(l, tR)]⟩, [cmp false, cmp true, at_, val (.int .u32 x), cmp d]) ⟨[], [], []⟩) 3 18 (some none) [sl 0 o n c, undef, errD d] ⟨1, [(l, tR)]⟩ [(x == 0, d), (cellIs (l[o + (n1 n).toNat * 1]?) (.int .u32 x), true), (decide (0 ≤ n1 n ∧ n1 n < n), true), (decide ((n : Int) > 0), true), (decide ((n : Int) > 8192), false)] := by
  cases d <;> exact ⟨by kernel_rfl, by kernel_rfl, by kernel_rfl⟩
theorem chk_body : Tryd.f13.body = some (cBody Tryd.f13) := by kernel_rfl
theorem chk_runs {l : List Value} {o c : Nat} {L : List Int} (hR : Row l o L) :
    Runs (tabOf Tryd.prog extY conN true) (cBody Tryd.f13) ([sl 0 o L.length c] ++ List.replicate 20 undef, ⟨1, [(l, tR)]⟩, []) fun e y => (e = none ∨ e = some none) ∧ resS Tryd.prog Tryd.f13 y.1 y.2.1 = some (errD (badL L)) := by
  unfold badL
  by_cases h1 : 8192 < L.length
  · rw [decide_eq_true h1, Bool.true_or]
    refine (goesT_runs (tabY_ok conN_ok) (chk_long _ _ _ _) (okOne (decide_eq_true (by omega)))).mono fun e y he => ?_
    obtain ⟨rfl, ⟨g, e2⟩, e3⟩ := he
    refine ⟨.inr rfl, ?_⟩
    rw [e2, e3]
    rfl
  · rw [decide_eq_false h1, Bool.false_or]
    by_cases h2 : 0 < L.length
    · rw [decide_eq_true h2, Bool.true_and]
      have ek : n1 L.length = ((L.length - 1 : Nat) : Int) := by
        unfold n1
        rw [wrapI (by omega) (by omega)]
        omega
      refine (goesT_runs (tabY_ok conN_ok) (chk_last (L.getD (L.length - 1) 0 == 0) o L.length c (L.getD (L.length - 1) 0) l) (okTwo rfl (okTwo (by
        rw [ek, Int.toNat_natCast, Nat.mul_one, hR.cell (by omega)]; simp [cellIs]) (okTwo (by rw [ek]; exact decide_eq_true (by omega)) (okTwo (decide_eq_true (by omega)) (okOne (decide_eq_false (by omega)))))))).mono fun e y he => ?_
      obtain ⟨rfl, ⟨g, e2⟩, e3⟩ := he
      refine ⟨.inr rfl, ?_⟩
      rw [e2, e3]
      generalize (L.getD (L.length - 1) 0 == 0) = d
      cases d <;> rfl
    · rw [decide_eq_false h2, Bool.false_and]
      refine (goesT_runs (tabY_ok conN_ok) (chk_none _ _ _ _) (okTwo (decide_eq_false (by omega)) (okOne (decide_eq_false (by omega))))).mono fun e y he => ?_
      obtain ⟨rfl, ⟨g, e2⟩, e3⟩ := he
      refine ⟨.inr rfl, ?_⟩
      rw [e2, e3]
      rfl
theorem chk_nil : Fits (reckon (tabOf Tryd.prog extY conN true) 100 13 [nilS] []) .nilIface [] := ⟨by kernel_rfl, by kernel_rfl, by kernel_rfl, by kernel_rfl⟩
def gChk : AnsH := fun vals h s =>
  match vals with
  | [.slice none 0 0] => some (.nilIface, h, s, [])
  | [.slice (some ⟨b, o, none⟩) n c] =>
    match h.blk? b, s with
    | some x, .inr (.inr (.inr (.inl d))) :: s' => some (errD d, h, s', [(rowOk x.2 x.1 o n c, true), (badL (cutI x.1 o n), d)])
    | _, _ => none
  | _ => none
theorem gChk_ok : AnsHOk 13 gChk := by
  intro vals h s v h' s' lg hg hl m B w E hv
  unfold gChk at hg
  split at hg
  · cases hg
    refine (fits_calls (tabY_ok conN_ok) chk_nil (fun x hx => by cases hx) (by rfl) (by rfl) w).mono fun e w' he => ?_
    obtain ⟨E', hb⟩ := clean_emb E he.2
    exact ⟨m, he.1, ⟨Agree.refl _ _, E', hb, Nat.le_refl _, rfl⟩⟩
  · rename_i b o n c
    split at hg
    · rename_i x d s2 hx
      cases hg
      obtain ⟨h1, h2, h3, h4, h5, h6, h7⟩ := row_of (hl _ (List.mem_cons_self))
      have hd := hl _ (List.mem_cons_of_mem _ (List.mem_singleton.2 rfl))
      simp only at hd
      have hlt := Hp.blk_lt hx
      have r := chk_runs (c := c) h1
      rw [h2, hd] at r
      have e0 : rn (fun _ => b) (errD d) = errD d := by cases d <;> rfl
      have := row_calls (T := tabOf Tryd.prog extY conN true) Tryd.func13 chk_body (rows1 h7) (vals := [sl 0 o n c]) (fun v hv => by rw [List.mem_singleton.1 hv]; rfl) (by cases d <;> rfl) r E (s := fun _ => b) (fun i _ => hlt) (fitsR1 hx h5 h6 rfl)
      rw [e0] at this
      exact this.mono fun e w' he => ⟨m, he.1, he.2⟩
    · cases hg
  · cases hg
def hcK : Hc := altH 13 gChk hcN
theorem hcK_ok : HcOk hcK := altH_ok Tryd.func13 rfl gChk_ok hcN_ok
/-! ### checkBoth -/
def chkL (l : List Value) (o n c : Nat) : Bool × Bool := (rowOk tR l o n c, true)
theorem both_bad (o n c o' n' c' : Nat) (la lb : List Value) : GoesT (evC (tabH Tryd.prog extY conN hcK) 100 false (cBody Tryd.f36) ([sl 0 o n c, sl 1 o' n' c'] ++ List.replicate 11 undef, h2 la lb, [cmp true]) ⟨[], [], []⟩) 5 8 (some none) [sl 0 o n c, sl 1 o' n' c', undef, undef, errV 1] (h2 la lb) [chkL la o n c, (badL (cutI la o n), true)] := ⟨by kernel_rfl, by kernel_rfl, by kernel_rfl⟩
theorem both_d (d : Bool) (o n c o' n' c' : Nat) (la lb : List Value) : GoesT (evC (tabH Tryd.prog extY conN hcK) 100 false (cBody Tryd.f36) ([sl 0 o n c, sl 1 o' n' c'] ++ List.replicate 11 undef, h2 la lb, [cmp false, cmp d]) ⟨[], [], []⟩) 5 8 (some none) [sl 0 o n c, sl 1 o' n' c', undef, undef, errD d] (h2 la lb) [chkL lb o' n' c', (badL (cutI lb o' n'), d), chkL la o n c, (badL (cutI la o n), false)] := by
  cases d <;> exact ⟨by kernel_rfl, by kernel_rfl, by kernel_rfl⟩
theorem rowOk_R {ty : TypeId} {l : List Value} {o n c : Nat} (h : rowOk ty l o n c = true) : rowOk tR l o n c = true := by
  unfold rowOk at *
  simp only [Bool.and_eq_true, Bool.not_eq_true'] at *
  obtain ⟨⟨⟨⟨⟨⟨h1, h2⟩, h3⟩, h4⟩, h5⟩, h6⟩, h7⟩ := h
  exact ⟨⟨⟨⟨⟨⟨tR_tomb, by kernel_rfl⟩, h3⟩, h4⟩, h5⟩, h6⟩, h7⟩
theorem both_body : Tryd.f36.body = some (cBody Tryd.f36) := by kernel_rfl
theorem both_runs {la lb : List Value} {o n c o' n' c' : Nat} (ha : rowOk tR la o n c = true) (hb : rowOk tR lb o' n' c' = true) :
    Runs (tabH Tryd.prog extY conN hcK) (cBody Tryd.f36) ([sl 0 o n c, sl 1 o' n' c'] ++ List.replicate 11 undef, h2 la lb, []) fun e y => (e = none ∨ e = some none) ∧ resS Tryd.prog Tryd.f36 y.1 y.2.1 = some (errD (badL (cutI la o n) || badL (cutI lb o' n'))) := by
  cases h : badL (cutI la o n) with
  | true =>
    refine (goesT_runs (tabH_ok conN_ok hcK_ok) (both_bad o n c o' n' c' la lb) (okTwo ha (okOne h))).mono fun e y he => ?_
    obtain ⟨rfl, ⟨g, e2⟩, e3⟩ := he
    refine ⟨.inr rfl, ?_⟩
    rw [e2, e3]
    rfl
  | false =>
    refine (goesT_runs (tabH_ok conN_ok hcK_ok) (both_d (badL (cutI lb o' n')) o n c o' n' c' la lb) (okTwo hb (okTwo rfl (okTwo ha (okOne h))))).mono fun e y he => ?_
    obtain ⟨rfl, ⟨g, e2⟩, e3⟩ := he
    refine ⟨.inr rfl, ?_⟩
    rw [e2, e3, Bool.false_or]
    generalize badL (cutI lb o' n') = d
    cases d <;> rfl
theorem both_n1 (d : Bool) (o n c : Nat) (l : List Value) : GoesT (evC (tabH Tryd.prog extY conN hcK) 100 false (cBody Tryd.f36) ([nilS, sl 0 o n c] ++ List.replicate 11 undef, ⟨1, [(l, tR)]⟩, [cmp d]) ⟨[], [], []⟩) 5 8 (some none) [nilS, sl 0 o n c, undef, undef, errD d] ⟨1, [(l, tR)]⟩ [chkL l o n c, (badL (cutI l o n), d)] := by
  cases d <;> exact ⟨by kernel_rfl, by kernel_rfl, by kernel_rfl⟩
theorem both_1n (d : Bool) (o n c : Nat) (l : List Value) : GoesT (evC (tabH Tryd.prog extY conN hcK) 100 false (cBody Tryd.f36) ([sl 0 o n c, nilS] ++ List.replicate 11 undef, ⟨1, [(l, tR)]⟩, [cmp d]) ⟨[], [], []⟩) 5 8 (some none) [sl 0 o n c, nilS, undef, undef, errD d] ⟨1, [(l, tR)]⟩ [chkL l o n c, (badL (cutI l o n), d)] := by
  cases d <;> exact ⟨by kernel_rfl, by kernel_rfl, by kernel_rfl⟩
theorem both_nil : Fits (reckon (tabOf Tryd.prog extY conN true) 100 36 [nilS, nilS] []) .nilIface [] := ⟨by kernel_rfl, by kernel_rfl, by kernel_rfl, by kernel_rfl⟩
/-- a row beside nothing -/
theorem both_one {vals : List Value} {l : List Value} {o n c : Nat} {d : Bool} (hf : GoesT (evC (tabH Tryd.prog extY conN hcK) 100 false (cBody Tryd.f36) (vals ++ List.replicate 11 undef, ⟨1, [(l, tR)]⟩, [cmp d]) ⟨[], [], []⟩) 5 8 (some none) (vals ++ [undef, undef, errD d]) ⟨1, [(l, tR)]⟩ [chkL l o n c, (badL (cutI l o n), d)]) (ha : rowOk tR l o n c = true) (hd : badL (cutI l o n) = d) (hr : ∀ g, resS Tryd.prog Tryd.f36 ((vals ++ [undef, undef, errD d]) ++ tl 8 g) ⟨1, [(l, tR)]⟩ = some (errD d)) :
    Runs (tabH Tryd.prog extY conN hcK) (cBody Tryd.f36) (vals ++ List.replicate 11 undef, ⟨1, [(l, tR)]⟩, []) fun e y => (e = none ∨ e = some none) ∧ resS Tryd.prog Tryd.f36 y.1 y.2.1 = some (errD d) := by
  refine (goesT_runs (tabH_ok conN_ok hcK_ok) hf (okTwo ha (okOne hd))).mono fun e y he => ?_
  obtain ⟨rfl, ⟨g, e2⟩, e3⟩ := he
  refine ⟨.inr rfl, ?_⟩
  rw [e2, e3]
  exact hr g
def gBoth : AnsH := fun vals h s =>
  match vals with
  | [.slice (some ⟨b, o, none⟩) n c, .slice (some ⟨b', o', none⟩) n' c'] =>
    match h.blk? b, h.blk? b', s with
    | some x, some y, .inr (.inr (.inr (.inl d))) :: s' => some (errD d, h, s', [(rowOk x.2 x.1 o n c, true), (rowOk y.2 y.1 o' n' c', true), (badL (cutI x.1 o n) || badL (cutI y.1 o' n'), d)])
    | _, _, _ => none
  | [.slice none 0 0, .slice (some ⟨b, o, none⟩) n c] =>
    match h.blk? b, s with
    | some x, .inr (.inr (.inr (.inl d))) :: s' => some (errD d, h, s', [(rowOk x.2 x.1 o n c, true), (badL (cutI x.1 o n), d)])
    | _, _ => none
  | [.slice (some ⟨b, o, none⟩) n c, .slice none 0 0] =>
    match h.blk? b, s with
    | some x, .inr (.inr (.inr (.inl d))) :: s' => some (errD d, h, s', [(rowOk x.2 x.1 o n c, true), (badL (cutI x.1 o n), d)])
    | _, _ => none
  | [.slice none 0 0, .slice none 0 0] => some (.nilIface, h, s, [])
  | _ => none
theorem gBoth_ok : AnsHOk 36 gBoth := by
  intro vals h s v h' s' lg hg hl m B w E hv
  unfold gBoth at hg
  split at hg
  · rename_i b o n c b' o' n' c'
    split at hg
    · rename_i x y d s2 hx hy
      cases hg
      have ra := hl _ (List.mem_cons_self)
      have rb := hl _ (List.mem_cons_of_mem _ List.mem_cons_self)
      obtain ⟨a1, a2, a3, a4, a5, a6, a7⟩ := row_of ra
      obtain ⟨b1, b2, b3, b4, b5, b6, b7⟩ := row_of rb
      have hd := hl _ (List.mem_cons_of_mem _ (List.mem_cons_of_mem _ (List.mem_singleton.2 rfl)))
      simp only at hd
      have r := both_runs (rowOk_R ra) (rowOk_R rb)
      rw [hd] at r
      have lx := Hp.blk_lt hx
      have ly := Hp.blk_lt hy
      have e0 : rn (pair b b') (errD d) = errD d := by cases d <;> rfl
      have := row_calls (T := tabH Tryd.prog extY conN hcK) Tryd.func36 both_body (rows2 a7 b7) (vals := [sl 0 o n c, sl 1 o' n' c']) (fun v hv => by
        simp only [List.mem_cons, List.not_mem_nil, or_false] at hv
        rcases hv with rfl | rfl <;> rfl) (by cases d <;> rfl) r E (s := pair b b') (fun i _ => by unfold pair; split <;> assumption) (fitsR2 hx a5 a6 hy b5 b6)
      rw [e0] at this
      exact this.mono fun e w' he => ⟨m, he.1, he.2⟩
    · cases hg
  · rename_i b o n c
    split at hg
    · rename_i x d s2 hx
      cases hg
      have ra := hl _ (List.mem_cons_self)
      have hd := hl _ (List.mem_cons_of_mem _ (List.mem_singleton.2 rfl))
      simp only at hd
      obtain ⟨a1, a2, a3, a4, a5, a6, a7⟩ := row_of ra
      have hlt := Hp.blk_lt hx
      have e0 : rn (fun _ => b) (errD d) = errD d := by cases d <;> rfl
      have r := both_one (both_n1 d o n c x.1) (rowOk_R ra) hd (fun _ => by cases d <;> rfl)
      have := row_calls (T := tabH Tryd.prog extY conN hcK) Tryd.func36 both_body (rows1 a7) (vals := [nilS, sl 0 o n c]) (fun v hv => by
        simp only [List.mem_cons, List.not_mem_nil, or_false] at hv
        rcases hv with rfl | rfl <;> rfl) (by cases d <;> rfl) r E (s := fun _ => b) (fun i _ => hlt) (fitsR1 hx a5 a6 rfl)
      rw [e0] at this
      exact this.mono fun e w' he => ⟨m, he.1, he.2⟩
    · cases hg
  · rename_i b o n c
    split at hg
    · rename_i x d s2 hx
      cases hg
      have ra := hl _ (List.mem_cons_self)
      have hd := hl _ (List.mem_cons_of_mem _ (List.mem_singleton.2 rfl))
      simp only at hd
      obtain ⟨a1, a2, a3, a4, a5, a6, a7⟩ := row_of ra
      have hlt := Hp.blk_lt hx
      have e0 : rn (fun _ => b) (errD d) = errD d := by cases d <;> rfl
      have r := both_one (both_1n d o n c x.1) (rowOk_R ra) hd (fun _ => by cases d <;> rfl)
      have := row_calls (T := tabH Tryd.prog extY conN hcK) Tryd.func36 both_body (rows1 a7) (vals := [sl 0 o n c, nilS]) (fun v hv => by
        simp only [List.mem_cons, List.not_mem_nil, or_false] at hv
        rcases hv with rfl | rfl <;> rfl) (by cases d <;> rfl) r E (s := fun _ => b) (fun i _ => hlt) (fitsR1 hx a5 a6 rfl)
      rw [e0] at this
      exact this.mono fun e w' he => ⟨m, he.1, he.2⟩
    · cases hg
  · cases hg
    refine (fits_calls (tabY_ok conN_ok) both_nil (fun x hx => by cases hx) (by rfl) (by rfl) w).mono fun e w' he => ?_
    obtain ⟨E', hb⟩ := clean_emb E he.2
    exact ⟨m, he.1, ⟨Agree.refl _ _, E', hb, Nat.le_refl _, rfl⟩⟩
  · cases hg
/-! ### sums and differences of words -/
def uu (n : Int) : Value := .int .u32 n
def wd4 (x y c : Int) : Bool := decide ((0 ≤ x ∧ x < 4294967296) ∧ (0 ≤ y ∧ y < 4294967296) ∧ 0 ≤ c ∧ c ≤ 1)
def add32V (x y c : Int) : Value := .tuple #[uu ((x + y + c) % 4294967296), uu ((x + y + c) / 4294967296)]
def raw32 (x y c : Int) : Int := IntKind.u64.wrap (IntKind.u64.wrap (IntKind.u64.wrap x + IntKind.u64.wrap y) + IntKind.u64.wrap c)
theorem add32_fits (x y c : Int) : Fits (reckon (tabOf Tryd.prog extY conN true) 100 37 [uu x, uu y, uu c] []) (.tuple #[uu (IntKind.u32.wrap (raw32 x y c)), uu (IntKind.u32.wrap ((raw32 x y c).fdiv (2 ^ min ((32 : Int).toNat) 64)))]) [(decide ((32 : Int) < 0), false)] := ⟨by kernel_rfl, by kernel_rfl, by kernel_rfl, by kernel_rfl⟩
theorem u64w (n : Int) : IntKind.u64.wrap n = n % 18446744073709551616 := by simp [IntKind.wrap, IntKind.bits, IntKind.signed]
theorem u32w (n : Int) : IntKind.u32.wrap n = n % 4294967296 := by simp [IntKind.wrap, IntKind.bits, IntKind.signed]
def gAdd32 : Ans := fun vals s =>
  match vals with
  | [.int .u32 x, .int .u32 y, .int .u32 c] => some (add32V x y c, s, [(wd4 x y c, true)])
  | _ => none
theorem gAdd32_ok : AnsOk 37 gAdd32 := by
  intro vals s v s' lg h hl w
  unfold gAdd32 at h
  split at h
  · rename_i x y c
    cases h
    have hr := hl _ (List.mem_singleton.2 rfl)
    simp only [wd4, decide_eq_true_eq] at hr
    have e : raw32 x y c = x + y + c := by
      unfold raw32
      rw [u64w, u64w, u64w, u64w, u64w]
      omega
    have e2 : (2 : Int) ^ min ((32 : Int).toNat) 64 = 4294967296 := rfl
    have := fits_calls (tabY_ok conN_ok) (add32_fits x y c) (okOne (by rfl)) (by rfl) (by rfl) w
    rw [e, e2, u32w, u32w, Int.fdiv_eq_ediv_of_nonneg _ (by omega), Int.emod_eq_of_lt (a := (x + y + c) / 4294967296) (by omega) (by omega)] at this
    exact this
  · cases h
end Go.Proofs.YtbjgkhbhabdjgaaDoor

/-
  PLAIN ARITHMETIC: numbers of words of 32 bits, the lowest first.
-/
namespace Go.Nt

def vN : List Int → Int
  | [] => 0
  | x :: r => x + 4294967296 * vN r
/-- the lowest m words of a number -/
def dg : Nat → Int → List Int
  | 0, _ => []
  | m + 1, V => V % 4294967296 :: dg m (V / 4294967296)
def wds (L : List Int) : Prop := ∀ x ∈ L, 0 ≤ x ∧ x < 4294967296
theorem dg_len : ∀ (m : Nat) (V : Int), (dg m V).length = m
  | 0, _ => rfl
  | m + 1, V => by simp [dg, dg_len m]
theorem dg_wds : ∀ (m : Nat) (V : Int), wds (dg m V)
  | 0, _ => fun x hx => by cases hx
  | m + 1, V => fun x hx => by
    simp only [dg, List.mem_cons] at hx
    rcases hx with rfl | hx
    · omega
    · exact dg_wds m _ x hx
theorem wds_tail {x : Int} {L : List Int} (h : wds (x :: L)) : (0 ≤ x ∧ x < 4294967296) ∧ wds L := ⟨h x List.mem_cons_self, fun y hy => h y (List.mem_cons_of_mem _ hy)⟩
theorem dg_vN : ∀ L : List Int, wds L → dg L.length (vN L) = L
  | [], _ => rfl
  | x :: r, h => by
    obtain ⟨h1, h2⟩ := wds_tail h
    have ih := dg_vN r h2
    simp only [List.length_cons, dg, vN]
    have e1 : (x + 4294967296 * vN r) % 4294967296 = x := by omega
    have e2 : (x + 4294967296 * vN r) / 4294967296 = vN r := by omega
    rw [e1, e2, ih]
theorem pw (k : Nat) : (4294967296 : Int) ^ (k + 1) = 4294967296 * 4294967296 ^ k := by rw [Int.pow_succ, Int.mul_comm]
theorem pw_pos (k : Nat) : (0 : Int) < 4294967296 ^ k := Int.pow_pos (by omega)
theorem pw_le {i j : Nat} (h : i ≤ j) : (4294967296 : Int) ^ i ≤ 4294967296 ^ j := by
  have h1 : ∀ k : Nat, ((4294967296 ^ k : Nat) : Int) = 4294967296 ^ k := fun k => by simp
  rw [← h1, ← h1]
  have := Nat.pow_le_pow_right (n := 4294967296) (by omega) h
  omega
theorem vN_bd : ∀ L : List Int, wds L → 0 ≤ vN L ∧ vN L < 4294967296 ^ L.length
  | [], _ => by simp [vN]
  | x :: r, h => by
    obtain ⟨h1, h2⟩ := wds_tail h
    have ih := vN_bd r h2
    simp only [List.length_cons, vN]
    rw [pw]
    omega
theorem vN_snoc : ∀ (L : List Int) (d : Int), vN (L ++ [d]) = vN L + 4294967296 ^ L.length * d
  | [], d => by simp [vN]
  | x :: r, d => by
    have ih := vN_snoc r d
    simp only [List.cons_append, vN, List.length_cons]
    rw [ih, pw, Int.mul_assoc, Int.mul_add]
    omega
theorem vN_app : ∀ (L M : List Int), vN (L ++ M) = vN L + 4294967296 ^ L.length * vN M
  | [], M => by simp [vN]
  | x :: r, M => by
    have ih := vN_app r M
    simp only [List.cons_append, vN, List.length_cons]
    rw [ih, pw, Int.mul_assoc, Int.mul_add]
    omega
theorem wds_app {L M : List Int} (h1 : wds L) (h2 : wds M) : wds (L ++ M) := fun x hx => by
  rcases List.mem_append.1 hx with hx | hx
  · exact h1 x hx
  · exact h2 x hx
/-- one word more of a sum -/
theorem sum_step {P a b c x y d e A B : Int} (he : x + y + c = d + 4294967296 * e) (h : a + P * (x + 4294967296 * A + (y + 4294967296 * B) + c) = b) : a + P * d + 4294967296 * P * (A + B + e) = b := by
  rw [← h]
  have e1 : x + 4294967296 * A + (y + 4294967296 * B) + c = d + 4294967296 * (A + B + e) := by omega
  rw [e1]
  generalize A + B + e = Z
  rw [Int.mul_add P d, ← Int.mul_assoc P 4294967296 Z, Int.mul_comm P 4294967296]
  omega
end Go.Nt

/-
  nat.Add, as a call with two rows: its pieces.
-/
namespace Go.Proofs.YtbjgkhbhabdjgaaDoor
open Go.KRun Go.Nt
set_option maxRecDepth 100000

def conA : Con := alt 37 gAdd32 conN
theorem conA_ok : ConOk conA := alt_ok Tryd.func37 rfl gAdd32_ok conN_ok
def hcA : Hc := altH 36 gBoth (altH 41 gTrim hcN)
theorem hcA_ok : HcOk hcA := altH_ok Tryd.func36 rfl gBoth_ok (altH_ok Tryd.func41 rfl gTrim_ok hcN_ok)
def sn (k : Nat) (F : Func) : Code := match k with | 0 => cBody F | k + 1 => cSnd (sn k F)
def aPre (F : Func) : List Code := [cFst (sn 0 F), cFst (sn 1 F), cFst (sn 2 F), cFst (sn 3 F), cFst (sn 4 F), cFst (sn 5 F)]
def aR9 (F : Func) : Code := cFst (cFst (sn 6 F))
def aL0 (F : Func) : Code := cIn (cIn (cSnd (cFst (sn 6 F))))
def aR14 (F : Func) : Code := cFst (cFst (sn 7 F))
def aL2 (F : Func) : Code := cIn (cIn (cSnd (cFst (sn 7 F))))
def aFin (F : Func) : Code := sn 8 F
theorem add_body : Tryd.f10.body = some (seqs (aPre Tryd.f10) (.seq (.seq (aR9 Tryd.f10) (.block 0 (.loop (aL0 Tryd.f10)))) (.seq (.seq (aR14 Tryd.f10) (.block 2 (.loop (aL2 Tryd.f10)))) (aFin Tryd.f10)))) := by kernel_rfl
/-- the new row's length; the row behind the copy -/
def nP (n : Nat) : Int := IntKind.i64.wrap ((n : Int) + 1)
def cpy (la : List Value) (o n : Nat) : List Value := (List.replicate (nP n).toNat (uu 0)).take 0 ++ (la.drop o).take (Nat.min n (nP n).toNat) ++ (List.replicate (nP n).toNat (uu 0)).drop (0 + Nat.min n (nP n).toNat)
def h3 (la lb S : List Value) : Hp := ⟨3, [(S, tU), (lb, tR), (la, tR)]⟩
def cpOk (la : List Value) (o n : Nat) : Bool := !(tomb tR) && !(ro tU) && Nat.ble (o + Nat.min n (nP n).toNat) la.length && Nat.ble (0 + Nat.min n (nP n).toNat) (List.replicate (nP n).toNat (uu 0)).length && ((la.drop o).take (Nat.min n (nP n).toNat)).all one
def aF (a b s c i x k : Value) : List Value := [a, b, undef, undef, nilS, .nilIface, .nilIface, s, c, i, x, k]
theorem add_pre (o n c o' n' c' : Nat) (la lb : List Value) : GoesT (evL (tabH Tryd.prog extY conA hcA) 200 (aPre Tryd.f10) ([sl 0 o n c, sl 1 o' n' c'] ++ List.replicate 73 undef, h2 la lb, [cmp false, cmp false, at_, at_]) ⟨[], [], []⟩) 12 63 none
    (aF (sl 0 o n c) (sl 1 o' n' c') (sl 2 0 (nP n).toNat (nP n).toNat) (uu 0) undef undef undef) (h3 la lb (cpy la o n)) [(cpOk la o n, true), (okMakeB 4 (nP n) (nP n), true), (decide ((n : Int) < n'), false), chkL la o n c, chkL lb o' n' c', (badL (cutI la o n) || badL (cutI lb o' n'), false)] := ⟨by kernel_rfl, by kernel_rfl, by kernel_rfl⟩
theorem add_swap (o n c o' n' c' : Nat) (la lb : List Value) : GoesT (evL (tabH Tryd.prog extY conA hcA) 200 (aPre Tryd.f10) ([sl 0 o n c, sl 1 o' n' c'] ++ List.replicate 73 undef, h2 la lb, [cmp false, cmp true, at_, at_]) ⟨[], [], []⟩) 12 63 none
    (aF (sl 1 o' n' c') (sl 0 o n c) (sl 2 0 (nP n').toNat (nP n').toNat) (uu 0) undef undef undef) (h3 la lb (cpy lb o' n')) [(cpOk lb o' n', true), (okMakeB 4 (nP n') (nP n'), true), (decide ((n : Int) < n'), true), chkL la o n c, chkL lb o' n' c', (badL (cutI la o n) || badL (cutI lb o' n'), false)] := ⟨by kernel_rfl, by kernel_rfl, by kernel_rfl⟩
def inR (i : Int) (n : Nat) : Bool × Bool := (decide (0 ≤ i ∧ i < n), true)
def celR (l : List Value) (o : Nat) (i x : Int) : Bool × Bool := (cellIs (l[o + i.toNat * 1]?) (uu x), true)
def stoR (l : List Value) (i : Int) : Bool × Bool := (decide (0 + i.toNat * 1 < l.length), true)
def sD (x y c : Int) : Int := (x + y + c) % 4294967296
def sC (x y c : Int) : Int := (x + y + c) / 4294967296
theorem add_r9 (a s c i x k : Value) (q o n e : Nat) (h : Hp) (g : Nat → Value) : GoesM (evC (tabH Tryd.prog extY conA hcA) 200 false (aR9 Tryd.f10) (aF a (sl q o n e) s c i x k ++ tl 63 g, h, []) ⟨[], [], []⟩) 12 20 3 40 none
    (aF a (sl q o n e) s c i x k) [sl q o n e, i6' n, i6' 0] h [] := ⟨by kernel_rfl, by kernel_rfl, by kernel_rfl⟩
theorem add_out0 (a b s c i x k : Value) (t : Value) (n : Nat) (j : Int) (h : Hp) (g g' : Nat → Value) : GoesM (evC (tabH Tryd.prog extY conA hcA) 200 false (aL0 Tryd.f10) (ml (aF a b s c i x k) 20 g [t, i6' n, i6' j] 40 g', h, [cmp false]) ⟨[], [], []⟩) 12 20 3 40 (some (some 0))
    (aF a b s c i x k) [t, i6' n, i6' j] h [(decide (j < n), false)] := ⟨by kernel_rfl, by kernel_rfl, by kernel_rfl⟩
/-- a round of the first loop, the shorter row being block 1 -/
theorem add_go1 (a b i0 x0 k0 : Value) (o n e N M : Nat) (c j x y : Int) (la lb S : List Value) (g g' : Nat → Value) : GoesM (evC (tabH Tryd.prog extY conA hcA) 200 false (aL0 Tryd.f10) (ml (aF a b (sl 2 0 N M) (uu c) i0 x0 k0) 20 g [sl 1 o n e, i6' n, i6' j] 40 g', h3 la lb S, [cmp true, at_, val (uu y), at_, val (uu x), at_, at_]) ⟨[], [], []⟩) 12 20 3 40 none
    (aF a b (sl 2 0 N M) (uu (sC x y c)) (i6' j) (uu y) k0) [sl 1 o n e, i6' n, i6' (IntKind.i64.wrap (j + 1))] (h3 la lb (S.set (0 + j.toNat * 1) (uu (sD x y c)))) [stoR S j, inR j N, (wd4 x y c, true), celR S 0 j x, inR j N, celR lb o j y, inR j n, (decide (j < n), true)] := ⟨by kernel_rfl, by kernel_rfl, by kernel_rfl⟩
theorem add_go0 (a b i0 x0 k0 : Value) (o n e N M : Nat) (c j x y : Int) (la lb S : List Value) (g g' : Nat → Value) : GoesM (evC (tabH Tryd.prog extY conA hcA) 200 false (aL0 Tryd.f10) (ml (aF a b (sl 2 0 N M) (uu c) i0 x0 k0) 20 g [sl 0 o n e, i6' n, i6' j] 40 g', h3 la lb S, [cmp true, at_, val (uu y), at_, val (uu x), at_, at_]) ⟨[], [], []⟩) 12 20 3 40 none
    (aF a b (sl 2 0 N M) (uu (sC x y c)) (i6' j) (uu y) k0) [sl 0 o n e, i6' n, i6' (IntKind.i64.wrap (j + 1))] (h3 la lb (S.set (0 + j.toNat * 1) (uu (sD x y c)))) [stoR S j, inR j N, (wd4 x y c, true), celR S 0 j x, inR j N, celR la o j y, inR j n, (decide (j < n), true)] := ⟨by kernel_rfl, by kernel_rfl, by kernel_rfl⟩
theorem add_r14 (a s c i x k : Value) (q o n e : Nat) (t u v : Value) (h : Hp) (g g' : Nat → Value) : GoesT (evC (tabH Tryd.prog extY conA hcA) 200 false (aR14 Tryd.f10) (ml (aF a (sl q o n e) s c i x k) 20 g [t, u, v] 40 g', h, []) ⟨[], [], []⟩) 12 63 none
    (aF a (sl q o n e) s c i x (i6' n)) h [] := ⟨by kernel_rfl, by kernel_rfl, by kernel_rfl⟩
theorem add_out2 (a b s i x k : Value) (c : Int) (h : Hp) (g : Nat → Value) : GoesT (evC (tabH Tryd.prog extY conA hcA) 200 false (aL2 Tryd.f10) (aF a b s (uu c) i x k ++ tl 63 g, h, [cmp false]) ⟨[], [], []⟩) 12 63 (some (some 2))
    (aF a b s (uu c) i x k) h [(c != 0, false)] := ⟨by kernel_rfl, by kernel_rfl, by kernel_rfl⟩
theorem add_go2 (a b i0 x0 : Value) (N M : Nat) (c j x : Int) (la lb S : List Value) (g : Nat → Value) : GoesT (evC (tabH Tryd.prog extY conA hcA) 200 false (aL2 Tryd.f10) (aF a b (sl 2 0 N M) (uu c) i0 x0 (i6' j) ++ tl 63 g, h3 la lb S, [cmp true, at_, val (uu x), at_, at_]) ⟨[], [], []⟩) 12 63 none
    (aF a b (sl 2 0 N M) (uu (sC x 0 c)) i0 x0 (i6' (IntKind.i64.wrap (j + 1)))) (h3 la lb (S.set (0 + j.toNat * 1) (uu (sD x 0 c)))) [stoR S j, inR j N, (wd4 x 0 c, true), celR S 0 j x, inR j N, (c != 0, true)] := ⟨by kernel_rfl, by kernel_rfl, by kernel_rfl⟩
theorem add_fin (a b c i x k : Value) (N M : Nat) (la lb S : List Value) (g : Nat → Value) : GoesT (evC (tabH Tryd.prog extY conA hcA) 200 false (aFin Tryd.f10) (aF a b (sl 2 0 N M) c i x k ++ tl 63 g, h3 la lb S, [cmp false]) ⟨[], [], []⟩) 6 69 (some none)
    [a, b, undef, undef, sl 2 0 (trimN (cutI S 0 N)) M, .nilIface] (h3 la lb S) [(decide ((trimN (cutI S 0 N) : Int) > 8192), false), (rowOk tU S 0 N M, true)] := ⟨by kernel_rfl, by kernel_rfl, by kernel_rfl⟩
theorem add_long (a b c i x k : Value) (N M : Nat) (la lb S : List Value) (g : Nat → Value) : GoesT (evC (tabH Tryd.prog extY conA hcA) 200 false (aFin Tryd.f10) (aF a b (sl 2 0 N M) c i x k ++ tl 63 g, h3 la lb S, [cmp true]) ⟨[], [], []⟩) 6 69 (some none)
    [a, b, undef, undef, nilS, errV 2] (h3 la lb S) [(decide ((trimN (cutI S 0 N) : Int) > 8192), true), (rowOk tU S 0 N M, true)] := ⟨by kernel_rfl, by kernel_rfl, by kernel_rfl⟩
end Go.Proofs.YtbjgkhbhabdjgaaDoor
