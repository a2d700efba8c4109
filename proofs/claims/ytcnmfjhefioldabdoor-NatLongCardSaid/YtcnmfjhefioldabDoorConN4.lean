/-
  nat.Check, nat.checkBoth, as calls with rows; bits.Add32, bits.Sub32.
-/
import Derived.Test.YtcnmfjhefioldabDoorConN3
namespace Go.Proofs.YtcnmfjhefioldabDoor
open Go.KRun Go.Nt
set_option maxRecDepth 100000

def errV (k : Int) : Value := .iface 41 (.int .i64 k)
def errD (d : Bool) : Value := match d with | true => errV 1 | false => .nilIface
def badL (L : List Int) : Bool := decide (8192 < L.length) || (decide (0 < L.length) && (L.getD (L.length - 1) 0 == 0))
theorem chk_long (p : Option Addr) (n c : Nat) (h : Hp) : GoesT (evC (tabOf Tryd.prog extY conN true) 100 false (cBody Tryd.f15) ([.slice p n c] ++ List.replicate 20 undef, h, [cmp true]) ⟨[], [], []⟩) 3 18 (some none) [.slice p n c, undef, errV 1] h [(decide ((n : Int) > 8192), true)] := ⟨by kernel_rfl, by kernel_rfl, by kernel_rfl⟩
theorem chk_none (p : Option Addr) (n c : Nat) (h : Hp) : GoesT (evC (tabOf Tryd.prog extY conN true) 100 false (cBody Tryd.f15) ([.slice p n c] ++ List.replicate 20 undef, h, [cmp false, cmp false]) ⟨[], [], []⟩) 3 18 (some none) [.slice p n c, undef, .nilIface] h [(decide ((n : Int) > 0), false), (decide ((n : Int) > 8192), false)] := ⟨by kernel_rfl, by kernel_rfl, by kernel_rfl⟩
theorem chk_last (d : Bool) (o n c : Nat) (x : Int) (l : List Value) : GoesT (evC (tabOf Tryd.prog extY conN true) 100 false (cBody Tryd.f15) ([sl 0 o n c] ++ List.replicate 20 undef, ⟨1, [(l, tR)]⟩, [cmp false, cmp true, at_, val (.int .u32 x), cmp d]) ⟨[], [], []⟩) 3 18 (some none) [sl 0 o n c, undef, errD d] ⟨1, [(l, tR)]⟩ [(x == 0, d), (cellIs (l[o + (n1 n).toNat * 1]?) (.int .u32 x), true), (decide (0 ≤ n1 n ∧ n1 n < n), true), (decide ((n : Int) > 0), true), (decide ((n : Int) > 8192), false)] := by
  cases d <;> exact ⟨by kernel_rfl, by kernel_rfl, by kernel_rfl⟩
theorem chk_body : Tryd.f15.body = some (cBody Tryd.f15) := by kernel_rfl
theorem chk_runs {l : List Value} {o c : Nat} {L : List Int} (hR : Row l o L) :
    Runs (tabOf Tryd.prog extY conN true) (cBody Tryd.f15) ([sl 0 o L.length c] ++ List.replicate 20 undef, ⟨1, [(l, tR)]⟩, []) fun e y => (e = none ∨ e = some none) ∧ resS Tryd.prog Tryd.f15 y.1 y.2.1 = some (errD (badL L)) := by
  unfold badL
  by_cases h1 : 8192 < L.length
  · rw [decide_eq_true h1, Bool.true_or]
    refine (goesT_runs (tabY_ok conN_ok) (chk_long _ _ _ _) (okOne (decide_eq_true (by omega)))).mono fun e y he => ?_
    obtain ⟨rfl, ⟨g, e2⟩, e3⟩ := he
    refine ⟨.inr rfl, ?_⟩
    rw [e2, e3]
    rfl
  · rw [decide_eq_false h1, Bool.false_or]
    by_cases h2 : 0 < L.length
    · rw [decide_eq_true h2, Bool.true_and]
      have ek : n1 L.length = ((L.length - 1 : Nat) : Int) := by
        unfold n1
        rw [wrapI (by omega) (by omega)]
        omega
      refine (goesT_runs (tabY_ok conN_ok) (chk_last (L.getD (L.length - 1) 0 == 0) o L.length c (L.getD (L.length - 1) 0) l) (okTwo rfl (okTwo (by
        rw [ek, Int.toNat_natCast, Nat.mul_one, hR.cell (by omega)]; simp [cellIs]) (okTwo (by rw [ek]; exact decide_eq_true (by omega)) (okTwo (decide_eq_true (by omega)) (okOne (decide_eq_false (by omega)))))))).mono fun e y he => ?_
      obtain ⟨rfl, ⟨g, e2⟩, e3⟩ := he
      refine ⟨.inr rfl, ?_⟩
      rw [e2, e3]
      generalize (L.getD (L.length - 1) 0 == 0) = d
      cases d <;> rfl
    · rw [decide_eq_false h2, Bool.false_and]
      refine (goesT_runs (tabY_ok conN_ok) (chk_none _ _ _ _) (okTwo (decide_eq_false (by omega)) (okOne (decide_eq_false (by omega))))).mono fun e y he => ?_
      obtain ⟨rfl, ⟨g, e2⟩, e3⟩ := he
      refine ⟨.inr rfl, ?_⟩
      rw [e2, e3]
      rfl
theorem chk_nil : Fits (reckon (tabOf Tryd.prog extY conN true) 100 15 [nilS] []) .nilIface [] := ⟨by kernel_rfl, by kernel_rfl, by kernel_rfl, by kernel_rfl⟩
def gChk : AnsH := fun vals h s =>
  match vals with
  | [.slice none 0 0] => some (.nilIface, h, s, [])
  | [.slice (some ⟨b, o, none⟩) n c] =>
    match h.blk? b, s with
    | some x, .inr (.inr (.inr (.inl d))) :: s' => some (errD d, h, s', [(rowOk x.2 x.1 o n c, true), (badL (cutI x.1 o n), d)])
    | _, _ => none
  | _ => none
theorem gChk_ok : AnsHOk 15 gChk := by
  intro vals h s v h' s' lg hg hl m B w E hv
  unfold gChk at hg
  split at hg
  · cases hg
    refine (fits_calls (tabY_ok conN_ok) chk_nil (fun x hx => by cases hx) (by rfl) (by rfl) w).mono fun e w' he => ?_
    obtain ⟨E', hb⟩ := clean_emb E he.2
    exact ⟨m, he.1, ⟨Agree.refl _ _, E', hb, Nat.le_refl _, rfl⟩⟩
  · rename_i b o n c
    split at hg
    · rename_i x d s2 hx
      cases hg
      obtain ⟨h1, h2, h3, h4, h5, h6, h7⟩ := row_of (hl _ (List.mem_cons_self))
      have hd := hl _ (List.mem_cons_of_mem _ (List.mem_singleton.2 rfl))
      simp only at hd
      have hlt := Hp.blk_lt hx
      have r := chk_runs (c := c) h1
      rw [h2, hd] at r
      have e0 : rn (fun _ => b) (errD d) = errD d := by cases d <;> rfl
      have := row_calls (T := tabOf Tryd.prog extY conN true) Tryd.func15 chk_body (rows1 h7) (vals := [sl 0 o n c]) (fun v hv => by rw [List.mem_singleton.1 hv]; rfl) (by cases d <;> rfl) r E (s := fun _ => b) (fun i _ => hlt) (fitsR1 hx h5 h6 rfl)
      rw [e0] at this
      exact this.mono fun e w' he => ⟨m, he.1, he.2⟩
    · cases hg
  · cases hg
def hcK : Hc := altH 15 gChk hcN
theorem hcK_ok : HcOk hcK := altH_ok Tryd.func15 rfl gChk_ok hcN_ok
/-! ### checkBoth -/
def chkL (l : List Value) (o n c : Nat) : Bool × Bool := (rowOk tR l o n c, true)
theorem both_bad (o n c o' n' c' : Nat) (la lb : List Value) : GoesT (evC (tabH Tryd.prog extY conN hcK) 100 false (cBody Tryd.f18) ([sl 0 o n c, sl 1 o' n' c'] ++ List.replicate 11 undef, h2 la lb, [cmp true]) ⟨[], [], []⟩) 5 8 (some none) [sl 0 o n c, sl 1 o' n' c', undef, undef, errV 1] (h2 la lb) [chkL la o n c, (badL (cutI la o n), true)] := ⟨by kernel_rfl, by kernel_rfl, by kernel_rfl⟩
theorem both_d (d : Bool) (o n c o' n' c' : Nat) (la lb : List Value) : GoesT (evC (tabH Tryd.prog extY conN hcK) 100 false (cBody Tryd.f18) ([sl 0 o n c, sl 1 o' n' c'] ++ List.replicate 11 undef, h2 la lb, [cmp false, cmp d]) ⟨[], [], []⟩) 5 8 (some none) [sl 0 o n c, sl 1 o' n' c', undef, undef, errD d] (h2 la lb) [chkL lb o' n' c', (badL (cutI lb o' n'), d), chkL la o n c, (badL (cutI la o n), false)] := by
  cases d <;> exact ⟨by kernel_rfl, by kernel_rfl, by kernel_rfl⟩
theorem rowOk_R {ty : TypeId} {l : List Value} {o n c : Nat} (h : rowOk ty l o n c = true) : rowOk tR l o n c = true := by
  unfold rowOk at *
  simp only [Bool.and_eq_true, Bool.not_eq_true'] at *
  obtain ⟨⟨⟨⟨⟨⟨h1, h2⟩, h3⟩, h4⟩, h5⟩, h6⟩, h7⟩ := h
  exact ⟨⟨⟨⟨⟨⟨tR_tomb, by kernel_rfl⟩, h3⟩, h4⟩, h5⟩, h6⟩, h7⟩
theorem both_body : Tryd.f18.body = some (cBody Tryd.f18) := by kernel_rfl
theorem both_runs {la lb : List Value} {o n c o' n' c' : Nat} (ha : rowOk tR la o n c = true) (hb : rowOk tR lb o' n' c' = true) :
    Runs (tabH Tryd.prog extY conN hcK) (cBody Tryd.f18) ([sl 0 o n c, sl 1 o' n' c'] ++ List.replicate 11 undef, h2 la lb, []) fun e y => (e = none ∨ e = some none) ∧ resS Tryd.prog Tryd.f18 y.1 y.2.1 = some (errD (badL (cutI la o n) || badL (cutI lb o' n'))) := by
  cases h : badL (cutI la o n) with
  | true =>
    refine (goesT_runs (tabH_ok conN_ok hcK_ok) (both_bad o n c o' n' c' la lb) (okTwo ha (okOne h))).mono fun e y he => ?_
    obtain ⟨rfl, ⟨g, e2⟩, e3⟩ := he
    refine ⟨.inr rfl, ?_⟩
    rw [e2, e3]
    rfl
  | false =>
    refine (goesT_runs (tabH_ok conN_ok hcK_ok) (both_d (badL (cutI lb o' n')) o n c o' n' c' la lb) (okTwo hb (okTwo rfl (okTwo ha (okOne h))))).mono fun e y he => ?_
    obtain ⟨rfl, ⟨g, e2⟩, e3⟩ := he
    refine ⟨.inr rfl, ?_⟩
    rw [e2, e3, Bool.false_or]
    generalize badL (cutI lb o' n') = d
    cases d <;> rfl
def gBoth : AnsH := fun vals h s =>
  match vals with
  | [.slice (some ⟨b, o, none⟩) n c, .slice (some ⟨b', o', none⟩) n' c'] =>
    match h.blk? b, h.blk? b', s with
    | some x, some y, .inr (.inr (.inr (.inl d))) :: s' => some (errD d, h, s', [(rowOk x.2 x.1 o n c, true), (rowOk y.2 y.1 o' n' c', true), (badL (cutI x.1 o n) || badL (cutI y.1 o' n'), d)])
    | _, _, _ => none
  | _ => none
theorem gBoth_ok : AnsHOk 18 gBoth := by
  intro vals h s v h' s' lg hg hl m B w E hv
  unfold gBoth at hg
  split at hg
  · rename_i b o n c b' o' n' c'
    split at hg
    · rename_i x y d s2 hx hy
      cases hg
      have ra := hl _ (List.mem_cons_self)
      have rb := hl _ (List.mem_cons_of_mem _ List.mem_cons_self)
      obtain ⟨a1, a2, a3, a4, a5, a6, a7⟩ := row_of ra
      obtain ⟨b1, b2, b3, b4, b5, b6, b7⟩ := row_of rb
      have hd := hl _ (List.mem_cons_of_mem _ (List.mem_cons_of_mem _ (List.mem_singleton.2 rfl)))
      simp only at hd
      have r := both_runs (rowOk_R ra) (rowOk_R rb)
      rw [hd] at r
      have lx := Hp.blk_lt hx
      have ly := Hp.blk_lt hy
      have e0 : rn (pair b b') (errD d) = errD d := by cases d <;> rfl
      have := row_calls (T := tabH Tryd.prog extY conN hcK) Tryd.func18 both_body (rows2 a7 b7) (vals := [sl 0 o n c, sl 1 o' n' c']) (fun v hv => by
        simp only [List.mem_cons, List.not_mem_nil, or_false] at hv
        rcases hv with rfl | rfl <;> rfl) (by cases d <;> rfl) r E (s := pair b b') (fun i _ => by unfold pair; split <;> assumption) (fitsR2 hx a5 a6 hy b5 b6)
      rw [e0] at this
      exact this.mono fun e w' he => ⟨m, he.1, he.2⟩
    · cases hg
  · cases hg
/-! ### sums and differences of words -/
def uu (n : Int) : Value := .int .u32 n
def wd4 (x y c : Int) : Bool := decide ((0 ≤ x ∧ x < 4294967296) ∧ (0 ≤ y ∧ y < 4294967296) ∧ 0 ≤ c ∧ c ≤ 1)
def add32V (x y c : Int) : Value := .tuple #[uu ((x + y + c) % 4294967296), uu ((x + y + c) / 4294967296)]
def raw32 (x y c : Int) : Int := IntKind.u64.wrap (IntKind.u64.wrap (IntKind.u64.wrap x + IntKind.u64.wrap y) + IntKind.u64.wrap c)
theorem add32_fits (x y c : Int) : Fits (reckon (tabOf Tryd.prog extY conN true) 100 23 [uu x, uu y, uu c] []) (.tuple #[uu (IntKind.u32.wrap (raw32 x y c)), uu (IntKind.u32.wrap ((raw32 x y c).fdiv (2 ^ min ((32 : Int).toNat) 64)))]) [(decide ((32 : Int) < 0), false)] := ⟨by kernel_rfl, by kernel_rfl, by kernel_rfl, by kernel_rfl⟩
theorem u64w (n : Int) : IntKind.u64.wrap n = n % 18446744073709551616 := by simp [IntKind.wrap, IntKind.bits, IntKind.signed]
theorem u32w (n : Int) : IntKind.u32.wrap n = n % 4294967296 := by simp [IntKind.wrap, IntKind.bits, IntKind.signed]
def gAdd32 : Ans := fun vals s =>
  match vals with
  | [.int .u32 x, .int .u32 y, .int .u32 c] => some (add32V x y c, s, [(wd4 x y c, true)])
  | _ => none
theorem gAdd32_ok : AnsOk 23 gAdd32 := by
  intro vals s v s' lg h hl w
  unfold gAdd32 at h
  split at h
  · rename_i x y c
    cases h
    have hr := hl _ (List.mem_singleton.2 rfl)
    simp only [wd4, decide_eq_true_eq] at hr
    have e : raw32 x y c = x + y + c := by
      unfold raw32
      rw [u64w, u64w, u64w, u64w, u64w]
      omega
    have e2 : (2 : Int) ^ min ((32 : Int).toNat) 64 = 4294967296 := rfl
    have := fits_calls (tabY_ok conN_ok) (add32_fits x y c) (okOne (by rfl)) (by rfl) (by rfl) w
    rw [e, e2, u32w, u32w, Int.fdiv_eq_ediv_of_nonneg _ (by omega), Int.emod_eq_of_lt (a := (x + y + c) / 4294967296) (by omega) (by omega)] at this
    exact this
  · cases h
end Go.Proofs.YtcnmfjhefioldabDoor
