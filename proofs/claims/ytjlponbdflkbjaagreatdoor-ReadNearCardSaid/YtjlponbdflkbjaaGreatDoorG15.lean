/-
  ConOB, SlK, PwE, PwA, R16, PwC, PwF, ConNK, PwB
-/
import Derived.Test.YtjlponbdflkbjaaGreatDoorG14
import Derived.Test.YtjlponbdflkbjaaGreatDoorG07
import Derived.Test.YtjlponbdflkbjaaGreatDoorG13
import Derived.Test.YtjlponbdflkbjaaGreatDoorG11
import Derived.Test.YtjlponbdflkbjaaGreatDoorG05
import Derived.Test.YtjlponbdflkbjaaGreatDoorG08
import Derived.Test.YtjlponbdflkbjaaGreatDoorG09
import Derived.Test.YtjlponbdflkbjaaGreatDoorG10
namespace Go.Proofs.YtjlponbdflkbjaaGreatDoor.Na
open Go.Proofs.Tryz
open Go.KRun Go.Nt
set_option maxRecDepth 100000
set_option linter.unusedVariables false
theorem Zq9 (o n c:Nat) (lb:List Value):Zg (evC (Zr prog Zf Zn hcE) 300 false (Zs f81) ([Zp,sl 0 o n c]++List.replicate 87 uZ,⟨1,[(lb,tR)]⟩,[cmp false,cmp false,cmp true]) ⟨[],[],[]⟩) 7 82 (some none) [Zp,sl 0 o n c,uZ,uZ,Zp,sl 1 0 0 1,.nilIface] ⟨2,[(wU [0],tU),(lb,tR)]⟩
  [(Z6 tU (wU [0]) 0 1 1,true),(decide (Zci [] (Zx lb o n)<0),true),(true,true),(Z6 tR lb o n c,true),((n:Int)==0,false),(true,true),(Z6 tR lb o n c,true),(ZU (Zx lb o n),false)]:=by and_intros<;>kernel_rfl
def gDm:Zad:=fun vals h s=>
 match vals,s with
 | [.slice p n c,.slice q n' c'],.inr (.inr (.inr (.inl true)))::s'=>some (.tuple #[Zp,Zp,Zcu 1],h,s',[(Zai h p n c,true),(Zai h q n' c',true),(ZU (Zq h p n) || ZU (Zq h q n'),true)])
 | [.slice p n c,.slice q n' c'],.inr (.inr (.inr (.inl false))):: .inr (.inr (.inr (.inl true)))::s'=>some (.tuple #[Zp,Zp,Zcu 5],h,s',[(Zai h p n c,true),(Zai h q n' c',true),(!(ZU (Zq h p n) || ZU (Zq h q n')) && decide (n'=0),true)])
 | [.slice p n c,.slice q n' c'],.inr (.inr (.inr (.inl false))):: .inr (.inr (.inr (.inl false))):: .inr (.inr (.inr (.inl true)))::s'=>some (.tuple #[Zp,sl h.n 0 (Zl (Zq h p n++[0])) (n+1),.nilIface],h.push (wU (Zq h p n++[0])) tU,s',[(Zai h p n c,true),(Zai h q n' c',true),(!(ZU (Zq h p n) || ZU (Zq h q n')) && decide (0<n'∧Zci (Zq h p n) (Zq h q n')<0),true)])
 | [.slice p n c,.slice q n' c'],.inr (.inr (.inr (.inl false))):: .inr (.inr (.inr (.inl false))):: .inr (.inr (.inr (.inl false))):: .inr (.inl V):: .inr (.inl U)::s'=>some (.tuple #[sl h.n 0 (Zl (dg (n-n'+1) V)) (n-n'+1),sl (h.n+1) 0 (Zl (dg (n+1) U)) (n+1),.nilIface],(h.push (wU (dg (n-n'+1) V)) tU).push (wU (dg (n+1) U)) tU,s',[(decide (vN (Zq h p n)/vN (Zq h q n')=V∧vN (Zq h p n) % vN (Zq h q n')=U),true),(Zai h p n c,true),(Zai h q n' c',true),(!(ZU (Zq h p n) || ZU (Zq h q n')) && decide (0<n'∧¬ Zci (Zq h p n) (Zq h q n')<0),true)])
 | _,_=>none
theorem Z9p {a b c d:Bool×Bool}(h:Z3 [a,b,c,d]):a.1=a.2∧b.1=b.2∧c.1=c.2∧d.1=d.2:=⟨h _ (by simp),h _ (by simp),h _ (by simp),h _ (by simp)⟩
theorem ZiA:Z8 81 gDm:=by
 intro vals h s v h' s' lg hg hl m B w E hv;unfold gDm at hg;split at hg
 ·rename_i p n c q n' c' s2;cases hg;have r:=Zb (s0:=[]) (Zh Zd Zi9) (Z1j p q n c n' c' h) hl;exact Zbn (T:=Zr prog Zf Zn hcE) func81 ZdA (vals:=[.slice p n c,.slice q n' c']) (v:= .tuple #[Zp,Zp,Zcu 1]) (h:=h) (by rfl) (r.mono fun e y he=>by
   obtain⟨rfl,⟨g,e1⟩,e2⟩:=he;exact⟨.inr rfl,by rw[e1,e2];rfl,e2⟩) m B w E hv
 ·rename_i p n c q n' c' s2;cases hg;obtain⟨l1,l2,l3⟩:=Z4n hl;simp only[Bool.and_eq_true,Bool.not_eq_true',decide_eq_true_eq] at l1 l2 l3;have r:=Zb (s0:=[]) (Zh Zd Zi9) (ZvG p q n c n' c' h) (Zi (by simp [l3.2]) (Zi l1 (Zi l2 (Zt l3.1))));exact Zbn (T:=Zr prog Zf Zn hcE) func81 ZdA (vals:=[.slice p n c,.slice q n' c']) (v:= .tuple #[Zp,Zp,Zcu 5]) (h:=h) (by rfl) (r.mono fun e y he=>by
   obtain⟨rfl,⟨g,e1⟩,e2⟩:=he;exact⟨.inr rfl,by rw[e1,e2];rfl,e2⟩) m B w E hv
 ·rename_i p n c q n' c' s2;cases hg;obtain⟨l1,l2,l3⟩:=Z4n hl;simp only[Bool.and_eq_true,Bool.not_eq_true',Bool.or_eq_false_iff,decide_eq_true_eq] at l1 l2 l3;obtain⟨⟨l3,l4⟩,l5,l6⟩:=l3;rcases ZM l2 with ⟨_,h0,_⟩ | ⟨b',o',y,rfl,hy,t1,f0⟩
  ·omega
  rw[f0] at l4 l6;have tR1:=zE t1;obtain⟨b1,b2,b3,b4,b5,b6,b7⟩:=ZH t1;rcases ZM l1 with ⟨rfl,rfl,rfl,e0⟩ | ⟨b,o,x,rfl,hx,r1,e0⟩
  ·rw[e0] at l6 ⊢;have r:Runs (Zr prog Zf Zn hcE) (Zs f81) ([Zp,sl 0 o' n' c']++List.replicate 87 uZ,⟨1,[(y.1,tR)]⟩,[]) fun e z=>(e=none∨e=some none)∧ZV prog f81 z.1 z.2.1=some (.tuple #[Zp,sl 1 0 0 1,.nilIface])∧∃ r,z.2.1.blk? 1=some (wU [0]++r,tU):=by
    refine (Zb (Zh Zd Zi9) (Zq9 o' n' c' y.1) (Zi (by kernel_rfl) (Zi (dT l6) (Zi rfl (Zi tR1 (Zi (by simpa using (show n'≠0 by omega)) (Zi rfl (Zi tR1 (Zt l4))))))))).mono fun e z he=> ?_;obtain⟨rfl,⟨g,e1⟩,e2⟩:=he;exact⟨.inr rfl,by rw[e1,e2];rfl,[],by rw[e2];rfl⟩
   have evals:List.map (rn fun _=>b') [Zp,sl 0 o' n' c']=[.slice none 0 0,.slice (some ⟨b',o',none⟩) n' c']:=by simp [rn,rn2,rn1,sl,Zp]
   have e1:∀ k M:Nat,rn (fun _=>h.n) (.tuple #[Zp,sl 1 0 k M,.nilIface])= .tuple #[Zp,sl h.n 0 k M,.nilIface]:=fun k M=>by simp [rn,rn2,rn1,sl,Zp]
   have:=ZE (T:=Zr prog Zf Zn hcE) func81 ZdA (ZaK b7) (vals:=[Zp,sl 0 o' n' c']) (fun v hv=>by
    simp only[List.mem_cons,List.not_mem_nil,or_false] at hv;rcases hv with rfl | rfl<;>rfl) (k:=1) (ZcY _) ZdX r.w (by rfl) E (s:=fun _=>b') (zH hy b5 b6 rfl)
   rw[evals,e1] at this;exact this
  ·rw[e0] at l3 l6 ⊢;have tR0:=zE r1;obtain⟨a1,a2,a3,a4,a5,a6,a7⟩:=ZH r1;have n8:=Zcw l3;have g0:=ZvH o n c o' n' c' x.1 y.1;have eP:=Zln a1 n8;have eO:=Zlo a1 n8;rw[a2] at eP eO;rw[a2] at n8;rw[Zih n8,eP] at g0;have hw:=Zf7 a1.rng;have hl1:(Zx x.1 o n++[0]).length=n+1:=by simp [a2]
   rw[Zdi _ hl1] at g0;have r:Runs (Zr prog Zf Zn hcE) (Zs f81) ([sl 0 o n c,sl 1 o' n' c']++List.replicate 87 uZ,h2 x.1 y.1,[]) fun e z=>(e=none∨e=some none)∧ZV prog f81 z.1 z.2.1=some (.tuple #[Zp,sl 2 0 (Zl (Zx x.1 o n++[0])) (n+1),.nilIface])∧∃ r,z.2.1.blk? 2=some (wU (Zx x.1 o n++[0])++r,tU):=by
    refine (Zb (Zh Zd Zi9) g0 (Zi (z3 hw (by rw[hl1];omega) (Nat.le_refl _) (zu (by omega))) (Zi (dT l6) (Zi tR0 (Zi tR1 (Zi eO (Zi (ZzF n8) (Zi (by simpa using (show n'≠0 by omega)) (Zi tR0 (Zi tR1 (Zt (by rw[l3,l4];rfl)))))))))))).mono fun e z he=> ?_;obtain⟨rfl,⟨g,e1⟩,e2⟩:=he;exact⟨.inr rfl,by rw[e1,e2];rfl,[],by rw[e2,List.append_nil];rfl⟩
   have e1:∀ k M:Nat,rn (fun _=>h.n) (.tuple #[Zp,sl 2 0 k M,.nilIface])= .tuple #[Zp,sl h.n 0 k M,.nilIface]:=fun k M=>by simp [rn,rn2,rn1,sl,Zp]
   have:=ZE (T:=Zr prog Zf Zn hcE) func81 ZdA (Zhe a7 b7) (vals:=[sl 0 o n c,sl 1 o' n' c']) (fun v hv=>by
    simp only[List.mem_cons,List.not_mem_nil,or_false] at hv;rcases hv with rfl | rfl<;>rfl) (k:=2) (ZcY _) ZdX r.w (by rfl) E (s:=ZeQ b b') (ZdT hx a5 a6 hy b5 b6)
   rw[e1] at this;exact this
 ·rename_i p n c q n' c' V U s2;cases hg;obtain⟨l0,l1,l2,l3⟩:=Z9p hl;simp only[Bool.and_eq_true,Bool.not_eq_true',Bool.or_eq_false_iff,decide_eq_true_eq] at l0 l1 l2 l3;obtain⟨⟨l3,l4⟩,l5,l6⟩:=l3;obtain⟨rfl,rfl⟩:=l0;rcases ZM l2 with ⟨_,h0,_⟩ | ⟨b',o',y,rfl,hy,t1,f0⟩
  ·omega
  rw[f0] at l4 l6 ⊢;have tR1:=zE t1;obtain⟨b1,b2,b3,b4,b5,b6,b7⟩:=ZH t1;rcases ZM l1 with ⟨rfl,rfl,rfl,e0⟩ | ⟨b,o,x,rfl,hx,r1,e0⟩
  ·rw[e0] at l6;exact absurd ((ZzL b2).2 l5) l6
  ·rw[e0] at l3 l6 ⊢;have tR0:=zE r1;obtain⟨a1,a2,a3,a4,a5,a6,a7⟩:=ZH r1;have r:=ZvF (c:=c) (c':=c') a1 b1 (by rw[a2];exact tR0) (by rw[b2];exact tR1) l3 l4 (by omega) l6;rw[a2,b2] at r;have fin:=ZeU (T:=Zr prog Zf ZeV hcD) func81 ZvA (Zhe a7 b7) (vals:=[sl 0 o n c,sl 1 o' n' c']) (fun v hv=>by
    simp only[List.mem_cons,List.not_mem_nil,or_false] at hv;rcases hv with h1 | h1<;>rw[h1]<;>rfl) (v:=fun k j=> .tuple #[sl k 0 (Zl (dg (n-n'+1) (vN (Zx x.1 o n)/vN (Zx y.1 o' n')))) (n-n'+1),sl j 0 (Zl (dg (n+1) (vN (Zx x.1 o n) % vN (Zx y.1 o' n')))) (n+1),.nilIface]) (ZcY _) (ZcY _) ZdX (r.w.mono fun e z hz=>⟨hz.1,4,2,by omega,hz.2.1,⟨[],by rw[List.append_nil];exact hz.2.2.1⟩,[],by rw[List.append_nil];exact hz.2.2.2⟩) (fun k j=>by simp [oc,oc2,oc1,sl]) E (s:=ZeQ b b') (ZdT hx a5 a6 hy b5 b6) (fun k j g=>by simp [rn,rn2,rn1,sl])
   exact fin
 ·cases hg
end Go.Proofs.YtjlponbdflkbjaaGreatDoor.Na
namespace Go.Proofs.YtjlponbdflkbjaaGreatDoor.Na
open Go.KRun Go.Nt
set_option maxRecDepth 100000
set_option linter.unusedVariables false
def Z6k:Zad:=fun vals h s=>
 match vals,s with
 | [.slice p n c,.slice q n' c'],.inr (.inr (.inr (.inl true)))::s'=>some (.tuple #[Zp,Zp,Zcu 1],h,s',[(Zai h p n c,true),(Zai h q n' c',true),(ZU (Zq h p n) || ZU (Zq h q n'),true)])
 | [.slice p n c,.slice q n' c'],.inr (.inr (.inr (.inl false))):: .inr (.inr (.inr (.inl true)))::s'=>some (.tuple #[Zp,Zp,Zcu 5],h,s',[(Zai h p n c,true),(Zai h q n' c',true),(!(ZU (Zq h p n) || ZU (Zq h q n')) && decide (n'=0),true)])
 | [.slice p n c,.slice q n' c'],.inr (.inr (.inr (.inl false))):: .inr (.inr (.inr (.inl false))):: .inr (.inr (.inr (.inl true))):: .inr (.inl U)::s'=>some (.tuple #[Zp,sl h.n 0 (Zl (dg (n+1) U)) (n+1),.nilIface],h.push (wU (dg (n+1) U)) tU,s',[(decide (Zq h p n++[0]=dg (n+1) U),true),(Zai h p n c,true),(Zai h q n' c',true),(!(ZU (Zq h p n) || ZU (Zq h q n')) && decide (0<n'∧Zci (Zq h p n) (Zq h q n')<0),true)])
 | [.slice p n c,.slice q n' c'],.inr (.inr (.inr (.inl false))):: .inr (.inr (.inr (.inl false))):: .inr (.inr (.inr (.inl false))):: .inr (.inl V):: .inr (.inl U)::s'=>some (.tuple #[sl h.n 0 (Zl (dg (n-n'+1) V)) (n-n'+1),sl (h.n+1) 0 (Zl (dg (n+1) U)) (n+1),.nilIface],(h.push (wU (dg (n-n'+1) V)) tU).push (wU (dg (n+1) U)) tU,s',[(decide (vN (Zq h p n)/vN (Zq h q n')=V∧vN (Zq h p n) % vN (Zq h q n')=U),true),(Zai h p n c,true),(Zai h q n' c',true),(!(ZU (Zq h p n) || ZU (Zq h q n')) && decide (0<n'∧¬ Zci (Zq h p n) (Zq h q n')<0),true)])
 | _,_=>none
theorem ZvI:Z8 81 Z6k:=by
 intro vals h s v h' s' lg hg hl;unfold Z6k at hg;split at hg
 ·cases hg;exact ZiA _ h [cmp true] _ _ [] _ rfl hl
 ·cases hg;exact ZiA _ h [cmp false,cmp true] _ _ [] _ rfl hl
 ·rename_i p n c q n' c' U s3;cases hg;obtain⟨l1,l2⟩:=ZsS hl;have l1:=oT l1;refine ZiA _ h [cmp false,cmp false,cmp true] _ _ [] _ ?_ l2;simp only[gDm,l1]
 ·cases hg;exact ZiA _ h [cmp false,cmp false,cmp false,num _,num _] _ _ [] _ rfl hl
 ·cases hg
def IsR (H:Hp) (p:Option Addr) (n c V:Nat):Prop:=Zai H p n c=true∧zJ H p n c=true∧Zq H p n=d32 V∧n=(d32 V).length∧n≤1000
theorem Zkt {H:Hp}{b V m:Nat}(hb:H.blk? b=some (wU (dg m (V:Int)),tU)) (hV:V<4294967296^m) (hm:m≤1000):IsR H (some ⟨b,0,none⟩) (Zl (dg m (V:Int))) m V:=by
 have h32:=Z5K hb hV hm;have ht:=Za4 (dg m (V:Int));have hl:=ZS m (V:Int);refine⟨?_,h32.1,h32.2,?_,by omega⟩
 ·unfold Zai;simp only[hb];exact z3 (Za2 _ _) (by omega) (by omega) (zu (by omega))
 ·rw[← h32.2];have:=zK h32.1;omega
section
variable {H : Hp} {p q : Option Addr} {n c n' c' V W : Nat}
theorem Zg2 (V:Nat):vN (d32 V)=(V:Int):=by
 rw[Zhm (ZfB V)];exact congrArg _ (ZbC (by omega) V)
theorem Zc8 (V:Nat):Zbi (d32 V):=by
 have h:=ZdY (b:=4294967296) (by omega) V;refine⟨ZfB V,?_⟩;have ht:=Zct (d32 V);rw[show Zl (d32 V)=(d32 V).length from h.2] at ht;exact ht
theorem IsR.good (h:IsR H p n c V):ZU (Zq H p n)=false:=by
 have hl:(Zq H p n).length=n:=by rw[h.2.2.1];exact h.2.2.2.1.symm
 have h8:=h.2.2.2.2;have hc:=Zc8 V;rw[← h.2.2.1] at hc;unfold ZU;rw[dF (by omega),Bool.false_or];rcases hc.2 with h0 | h0
 ·rw[dF (by omega)];rfl
 ·rw[beq_eq_false_iff_ne.2 h0,Bool.and_false]
theorem rX (h:IsR H p n c V):Zai H p n c=true:=h.1
theorem rOr (h:IsR H p n c V) (g:IsR H q n' c' W):(ZU (Zq H p n) || ZU (Zq H q n'))=false:=by rw[h.good,g.good];rfl
theorem ZvJ (h:IsR H p n c V) (g:IsR H q n' c' W):decide (Zhp (Zq H p n) (Zq H q n')=dg (n+n') ((V*W:Nat):Int))=true:=by
 refine dT ?_;unfold Zhp;rw[h.2.2.1,g.2.2.1,Zg2,Zg2,← h.2.2.2.1,← g.2.2.2.1,Int.natCast_mul]
theorem Z6l (h:IsR H p n c V) (g:IsR H q n' c' W):Zci (Zq H p n) (Zq H q n')=ZcR V W:=by
 rw[h.2.2.1,g.2.2.1,ZuA (Zc8 V) (Zc8 W),show vb 4294967296 (d32 V)=V from ZbC (by omega) V,show vb 4294967296 (d32 W)=W from ZbC (by omega) W];rfl
theorem rG (h:IsR H p n c V) (g:IsR H q n' c' W) (hp:0<n') (hle:W≤V):(!(ZU (Zq H p n) || ZU (Zq H q n')) && decide (0<n'∧¬ Zci (Zq H p n) (Zq H q n')<0))=true:=by
 rw[rOr h g,Z6l h g,dT ⟨hp,by unfold ZcR;rw[if_neg (by omega)];split<;>omega⟩];rfl
theorem Z9q (h:IsR H p n c V) (g:IsR H q n' c' W):decide (vN (Zq H p n)/vN (Zq H q n')=((V/W:Nat):Int)∧vN (Zq H p n) % vN (Zq H q n')=((V % W:Nat):Int))=true:=by
 rw[h.2.2.1,g.2.2.1,Zg2,Zg2];exact dT ⟨(Int.natCast_ediv V W).symm,(Int.natCast_emod V W).symm⟩
theorem rLt (h:IsR H p n c V):V<4294967296^n:=by
 have:=Zbl (b:=4294967296) (by omega) (d32 V) (ZfB V);rw[show vb 4294967296 (d32 V)=V from ZbC (by omega) V,← h.2.2.2.1] at this;exact this
end
end Go.Proofs.YtjlponbdflkbjaaGreatDoor.Na
namespace Go.Proofs.YtjlponbdflkbjaaGreatDoor.Na
open Go.Proofs.Tryz
open Go.IntKind
open Go.KRun Go.Nt
set_option maxRecDepth 100000
set_option linter.unusedVariables false
def o2 (x:Int):List Int:=[u32.wrap x,u32.wrap (x.fdiv (2^min (32:Int).toNat 64))]
theorem Z6m (x:Int):Zg (evC (Zr prog Zf Zn Z4p) 100 false (Zs f113) ([.int .u64 x]++List.replicate 9 uZ,⟨0,[]⟩,[]) ⟨[],[],[]⟩) 3 7 (some none) [.int .u64 x,.tuple #[],sl 0 0 (Zl (Zx (wU (o2 x)) 0 2)) 2] ⟨1,[(wU (o2 x),tU)]⟩ [(Z6 tU (wU (o2 x)) 0 2 2,true),(decide ((32:Int)<0),false)]:=by and_intros<;>kernel_rfl
theorem Z6n {x:Int}(h0:0≤x) (h1:x<18446744073709551616):o2 x=dg 2 x:=by
 have e:(2:Int)^min (32:Int).toNat 64=4294967296:=rfl;unfold o2;rw[e,Int.fdiv_eq_ediv_of_nonneg _ (by omega)];simp only[dg];have w:∀ z:Int,u32.wrap z=z % 4294967296:=fun z=>by simp [IntKind.wrap,IntKind.bits,IntKind.signed]
 rw[w,w]
def Z6o:Zad:=fun vals h s=>
 match vals with
 | [.int .u64 x]=>some (sl h.n 0 (Zl (dg 2 x)) 2,h.push (wU (dg 2 x)) tU,s,[(decide (0≤x∧x<18446744073709551616),true)])
 | _=>none
theorem ZvK:Z8 113 Z6o:=by
 intro vals h s v h' s' lg hg hl m B w E hv;have hr0:(⟨0,[]⟩:Hp).rows:=⟨rfl,fun b x hx=>by have:b<0:=Hp.blk_lt hx;omega⟩;unfold Z6o at hg;split at hg
 ·rename_i x;cases hg;have q:=oT (hl _ mS);have hg:=Z6m x;have hl2:=ZS 2 x;have ec:Zx (wU (dg 2 x)) 0 2=dg 2 x:=by
   have:=ZaO (dg 2 x);rw[hl2] at this;exact this
  rw[Z6n q.1 q.2,ec] at hg;have hok:Z6 tU (wU (dg 2 x)) 0 2 2=true:=z3 (Za2 _ _) (by omega) (by omega) (zu (by omega));have r:RunsW (Zr prog Zf Zn Z4p) (Zs f113) ([.int .u64 x]++List.replicate 9 uZ,⟨0,[]⟩,[]) fun e z=>(e=none∨e=some none)∧ZV prog f113 z.1 z.2.1=some (sl 0 0 (Zl (dg 2 x)) 2)∧∃ r,z.2.1.blk? 0=some (wU (dg 2 x)++r,tU):=by
   refine (Ze (Zh Zd ZuY) hg (Za hok (Z4 (by decide)))).mono fun e z he=> ?_;obtain⟨rfl,⟨g,e1⟩,e2⟩:=he;exact⟨.inr rfl,by rw[e1,e2];rfl,[],by rw[e2,List.append_nil];rfl⟩
  exact ZE (T:=Zr prog Zf Zn Z4p) func113 ZuZ hr0 (vals:=[.int .u64 x]) (fun v hv=>by rw[List.mem_singleton.1 hv];rfl) (k:=0) (cs:=wU (dg 2 x)) (ty:=tU) (Zbb _) (by kernel_rfl) r (by simp [oc,oc2,oc1,sl]) E (s:=fun i=>i) (fun i x hx _=>by have:i<0:=Hp.blk_lt hx;omega)
 ·cases hg
def hcQ:Hc:=zS 113 Z6o (zS 115 Z4t hcN)
theorem ZaE:HcOk hcQ:=Z1 func113 rfl ZvK (Z1 func115 rfl ZmD Zam)
end Go.Proofs.YtjlponbdflkbjaaGreatDoor.Na
namespace Go.Proofs.YtjlponbdflkbjaaGreatDoor
open Go.Proofs.Tryz
open Go.KRun Go.Nt
set_option maxRecDepth 100000
set_option linter.unusedVariables false
theorem ZvL {x:Bool×Bool}{l:Log}(h:Z3 (x::l)):x.1=x.2∧Z3 l:=⟨h _ mH,fun y hy=>h y (mN _ hy)⟩
def ZvM:Zad:=fun vals h s=>
 match vals,s with
 | [.slice p n c,.int .u32 b,.int .u32 e],.inr (.inr (.inr (.inl d)))::s'=>
  match d,s' with
  | true,.inr (.inl V)::s2=>Zde V.toNat h s2 [(decide (vO h p n*b.toNat+e.toNat=V.toNat),true),(ZaV h p n c b e,true),(decide (0<n∨0<e),true)]
  | false,_=>some (Zp,h,s',[(ZaV h p n c b e,true),(decide (0<n∨0<e),false)])
  | _,_=>none
 | _,_=>none
theorem ZqA:Z8 93 ZvM:=by
 intro vals h s v h' s' lg hg hl;unfold ZvM at hg;split at hg
 ·rename_i p n c b e d s2;split at hg
  ·rename_i V s3;unfold Zde at hg;cases hg;obtain⟨l1,l2⟩:=ZvL hl;have l1:=oT l1;refine Zhu _ h [cmp true] _ _ [] _ ?_ l2;simp only[Z4r,Zde,l1]
  ·cases hg;exact Zhu _ h [cmp false] _ _ [] _ rfl hl
  ·cases hg
 ·cases hg
def Zd0:Hc:=zS 93 ZvM hcN
theorem ZmN:HcOk Zd0:=Z1 func93 rfl ZqA Zam
end Go.Proofs.YtjlponbdflkbjaaGreatDoor
namespace Go.Proofs.YtjlponbdflkbjaaGreatDoor
open Go.KRun Go.Nt
set_option maxRecDepth 100000
theorem Zem {A k:Nat}(h:A<2^(16*k)):(d16 A).length≤k:=ZaZ (by omega) k A (by rw[Zf4];exact h)
theorem ZaF {h:Hp}{b A:Nat}{ty:TypeId}(hb:h.blk? b=some (wU (d16 A),ty)):Zq h (some ⟨b,0,none⟩) (d16 A).length=d16 A:=by
 simp only[Zq,hb];exact ZaO _
theorem z4 {h:Hp}{b A:Nat}{ty:TypeId}(hb:h.blk? b=some (wU (d16 A),ty)):vO h (some ⟨b,0,none⟩) (d16 A).length=A:=by
 unfold vO;rw[ZaF hb];exact ZbC (by omega) A
theorem Zg3 (h:Hp):vO h none 0=0:=rfl
theorem ZN {h:Hp}{b A:Nat}(hb:h.blk? b=some (wU (d16 A),tU)) (hl:(d16 A).length<1073741824):zJ h (some ⟨b,0,none⟩) (d16 A).length (d16 A).length=true:=by
 simp only[zJ,hb,Bool.and_eq_true];refine⟨Zap (fun x hx=>⟨(Zbd A x hx).1,by have:=(Zbd A x hx).2;omega⟩) (by omega) ?_,List.all_eq_true.2 (ZD _)⟩;unfold ZcZ;simp only[Bool.or_eq_true,Bool.and_eq_true];exact .inl ⟨Zo.2 (by unfold za;omega),Nat.ble_eq_true_of_le (Nat.le_refl _)⟩
theorem zW {h:Hp}{b A:Nat}{ty:TypeId}(hb:h.blk? b=some (wU (d16 A),ty)):dgB (Zq h (some ⟨b,0,none⟩) (d16 A).length)=true:=by
 rw[ZaF hb];exact ZbG (Zbd A)
theorem ZfD {h:Hp}{b b' A A':Nat}(hb:h.blk? b=some (wU (d16 A),tU)) (hb':h.blk? b'=some (wU (d16 A'),tU)) (hl:(d16 A).length<1073741800) (hl':(d16 A').length<1073741800):ZT h (some ⟨b,0,none⟩) (some ⟨b',0,none⟩) (d16 A).length (d16 A).length (d16 A').length (d16 A').length=true:=by
 unfold ZT;rw[ZN hb (by omega),ZN hb' (by omega),zW hb,zW hb'];simp only[Bool.true_and];exact Zo.2 (by omega)
theorem ZvN {h:Hp}{b A:Nat}(hb:h.blk? b=some (wU (d16 A),tU)) (hl:(d16 A).length<1073741800):ZT h none (some ⟨b,0,none⟩) 0 0 (d16 A).length (d16 A).length=true:=by
 unfold ZT;rw[ZN hb (by omega),zW hb];simp only[Bool.and_true];exact Bool.and_eq_true_iff.2 ⟨rfl,Zo.2 (by omega)⟩
theorem ZmO {A:Nat}(h:0<(d16 A).length):A≠0:=by
 rintro rfl;unfold d16 at h;rw[zp] at h;simp at h
end Go.Proofs.YtjlponbdflkbjaaGreatDoor
namespace Go.Proofs.YtjlponbdflkbjaaGreatDoor
open Go.Proofs.Tryz
open Go.IntKind
open Go.KRun Go.Nt
set_option maxRecDepth 100000
set_option linter.unusedVariables false
def pwP (F:Func):List Code:=[Z2 (Zs F),Z2 (Zz (Zs F))]
def pwI (F:Func):Code:=Z2 (Z2 (Zz (Zz (Zs F))))
def pwL (F:Func):Code:=cIn (cIn (Zz (Z2 (Zz (Zz (Zs F))))))
def pwE (F:Func):Code:=Zz (Zz (Zz (Zs F)))
theorem ZmP:f53.body=some (ZW (pwP f53) (.seq (.seq (pwI f53) (.block 0 (.loop (pwL f53)))) (pwE f53))):=by kernel_rfl
def wq (V:Nat):List Value×TypeId:=(wU (d16 V),tU)
def sq0 (V:Nat):Value:=sl 0 0 (d16 V).length (d16 V).length
def pwF (b n:Int) (out:Value) (i:Int):List Value:=[.int .u32 b,.int .i64 n,.tuple #[],.tuple #[],Zp,out,.int .i64 i]
theorem Z1k (b n:Int):Zg (evL (Zr prog Zf Zn Zd0) 100 (pwP f53) ([.int .u32 b,.int .i64 n]++List.replicate 15 uZ,⟨0,[]⟩,[]) ⟨[],[],[]⟩) 6 11 none [.int .u32 b,.int .i64 n,.tuple #[],.tuple #[],Zp,sq0 1] ⟨1,[wq 1]⟩ []:=by and_intros<;>kernel_rfl
theorem Z9r (v0 v1 v2 v3 v4 v5:Value) (g:Nat→Value) (h:Hp):Zg (evC (Zr prog Zf Zn Zd0) 100 false (pwI f53) ([v0,v1,v2,v3,v4,v5]++tl 11 g,h,[]) ⟨[],[],[]⟩) 7 10 none [v0,v1,v2,v3,v4,v5,.int .i64 0] h []:=by and_intros<;>kernel_rfl
def pA (V:Nat):Hp:=⟨1,[wq V]⟩
theorem Z6p (b n i:Int) (V W:Nat) (g:Nat→Value):Zg (evC (Zr prog Zf Zn Zd0) 100 false (pwL f53) (pwF b n (sq0 V) i++tl 10 g,pA V,[cmp true,cmp true,num W]) ⟨[],[],[]⟩) 7 10 none (pwF b n (sl 1 0 (d16 W).length (d16 W).length) (i64.wrap (i+1))) ⟨2,[wq W,wq V]⟩ [(decide (vO (pA V) (some ⟨0,0,none⟩) (d16 V).length*b.toNat+(0:Int).toNat=W),true),(ZaV (pA V) (some ⟨0,0,none⟩) (d16 V).length (d16 V).length b 0,true),(decide (0<(d16 V).length∨0<(0:Int)),true),(decide (i<n),true)]:=by and_intros<;>kernel_rfl
theorem Z6q (b n i:Int) (V:Nat) (g:Nat→Value):Zg (evC (Zr prog Zf Zn Zd0) 100 false (pwL f53) (pwF b n (sq0 V) i++tl 10 g,pA V,[cmp true,cmp false]) ⟨[],[],[]⟩) 7 10 none (pwF b n Zp (i64.wrap (i+1))) (pA V) [(ZaV (pA V) (some ⟨0,0,none⟩) (d16 V).length (d16 V).length b 0,true),(decide (0<(d16 V).length∨0<(0:Int)),false),(decide (i<n),true)]:=by and_intros<;>kernel_rfl
theorem Z6r (b n i:Int) (V:Nat) (g:Nat→Value):Zg (evC (Zr prog Zf Zn Zd0) 100 false (pwL f53) (pwF b n Zp i++tl 10 g,pA V,[cmp true,cmp false]) ⟨[],[],[]⟩) 7 10 none (pwF b n Zp (i64.wrap (i+1))) (pA V) [(ZaV (pA V) none 0 0 b 0,true),(decide (0<0∨0<(0:Int)),false),(decide (i<n),true)]:=by and_intros<;>kernel_rfl
theorem Z8A (b n i:Int) (v:Value) (h:Hp) (g:Nat→Value):Zg (evC (Zr prog Zf Zn Zd0) 100 false (pwL f53) (pwF b n v i++tl 10 g,h,[cmp false]) ⟨[],[],[]⟩) 7 10 (some (some 0)) (pwF b n v i) h [(decide (i<n),false)]:=by and_intros<;>kernel_rfl
theorem Z8B (b n i:Int) (v:Value) (h:Hp) (g:Nat→Value):Zg (evC (Zr prog Zf Zn Zd0) 100 false (pwE f53) (pwF b n v i++tl 10 g,h,[]) ⟨[],[],[]⟩) 5 12 (some none) [.int .u32 b,.int .i64 n,.tuple #[],.tuple #[],v] h []:=by and_intros<;>kernel_rfl
def pwS (b n i:Nat) (y:Lf):Prop:=(¬ (b=0∧2≤i)∧∃ g,y.1=pwF b n (sq0 (b^i)) i++tl 10 g∧y.2.1=pA (b^i))∨((b=0∧2≤i)∧∃ g V,y.1=pwF b n Zp i++tl 10 g∧y.2.1=pA V)
theorem ZfE:TabOk (Zr prog Zf Zn Zd0):=Zh Zd ZmN
theorem Z1l {b i k:Nat}(hb:b<4294967296) (hi:2*i<k):b^i<2^(16*k):=by
 have h1:b^i≤(2^32)^i:=Nat.pow_le_pow_left (by have:(2:Nat)^32=4294967296:=rfl;omega) i;rw[← Nat.pow_mul] at h1;exact Nat.lt_of_le_of_lt h1 (Nat.pow_lt_pow_right (by omega) (by omega))
theorem Z1m (b n:Int) {s:Value}(i:Int) (hs:lt 1 s=true):∀ v∈pwF b n s i,lt 1 v=true:=by
 intro v hv;unfold pwF at hv;simp only[List.mem_cons,List.not_mem_nil,or_false] at hv;rcases hv with rfl | rfl | rfl | rfl | rfl | rfl | rfl<;>first | rfl | exact hs
theorem ZqB {b n i:Nat}(hb:b<4294967296) (hn:n≤20000) (hi:i<n) {y:Lf}(h:pwS b n i y):RunsW (Zr prog Zf Zn Zd0) (pwL f53) y fun e z=>e=none∧pwS b n (i+1) z:=by
 obtain⟨t,h',s⟩:=y;have ei:i64.wrap ((i:Int)+1)=((i+1:Nat):Int):=by rw[Zw (by omega) (by omega)];omega
 have hlt:decide ((i:Int)<(n:Int))=true:=dT (by omega);rcases h with ⟨hA,g,ht,hh⟩ | ⟨hB,g,V,ht,hh⟩
 ·simp only at ht hh;subst ht hh;have lV:=Zem (Z1l (b:=b) (i:=i) (k:=2*i+1) hb (by omega));have hk:ZaV (pA (b^i)) (some ⟨0,0,none⟩) (d16 (b^i)).length (d16 (b^i)).length (b:Int) 0=true:=by
   unfold ZaV;rw[ZN (h:=pA (b^i)) (b:=0) (A:=b^i) rfl (by omega),zW (h:=pA (b^i)) (b:=0) (A:=b^i) (ty:=tU) rfl,Zo.2 (by omega),dT ⟨⟨by omega,by omega⟩,by omega,by omega⟩];rfl
  by_cases hz:b^i=0
  ·have h1:¬ 0<(d16 (b^i)).length:=by rw[hz,show d16 0=[] from zp 65536];decide
   have hg:=Z6q b n i (b^i) g;rw[ei] at hg;refine (Ze (s0:=s) ZfE hg (Za hk (Za (dF (by omega)) (Z4 hlt)))).mono fun e z hz'=> ?_;obtain⟨rfl,⟨g',e1⟩,e2⟩:=hz';have b0:b=0:=by
    rcases Nat.eq_zero_or_pos b with h0 | h0
    ·exact h0
    ·have:=Nat.pow_pos (n:=i) h0;omega
   have i1:1≤i:=by
    rcases Nat.eq_zero_or_pos i with h0 | h0
    ·subst h0;rw[Nat.pow_zero] at hz;omega
    ·exact h0
   exact⟨rfl,.inr ⟨⟨b0,by omega⟩,g',_,e1,e2⟩⟩
  ·have h1:0<(d16 (b^i)).length:=by
    unfold d16;rw[List.length_pos_iff,ne_eq,Zcz (by omega)];exact hz
   have hg:=Z6p b n i (b^i) (b^(i+1)) g;rw[ei] at hg;have:=(Ze (s0:=s) ZfE hg (Za (dT (by rw[z4 (h:=pA (b^i)) (b:=0) (A:=b^i) (ty:=tU) rfl,Nat.pow_succ];rfl)) (Za hk (Za (dT (.inl h1)) (Z4 hlt))))).kept (k:=0) (b:=1) (base:=[]) (y:=wq (b^(i+1))) (front':=pwF b n (sq0 (b^(i+1))) ((i+1:Nat):Int)) rfl (by kernel_rfl) (fun j x hx=>by have:j<0:=Hp.blk_lt hx;omega) rfl (by omega) (ZD _) (Z1m _ _ _ rfl);refine this.mono fun e z hz'=> ?_;obtain⟨rfl,⟨g',e1⟩,e2⟩:=hz';refine⟨rfl,.inl ⟨fun hc=> ?_,g',e1,e2⟩⟩;obtain⟨b0,i2⟩:=hc;apply hz;rw[b0,Nat.zero_pow (by omega)]
 ·simp only at ht hh;subst ht hh;have hk:ZaV (pA V) none 0 0 (b:Int) 0=true:=by
   unfold ZaV;rw[show zJ (pA V) none 0 0=true from rfl,show dgB (Zq (pA V) none 0)=true from rfl,Zo.2 (by omega),dT ⟨⟨by omega,by omega⟩,by omega,by omega⟩];rfl
  have hg:=Z6r b n i V g;rw[ei] at hg;refine (Ze (s0:=s) ZfE hg (Za hk (Za (by decide) (Z4 hlt)))).mono fun e z hz'=> ?_;obtain⟨rfl,⟨g',e1⟩,e2⟩:=hz';exact⟨rfl,.inr ⟨⟨hB.1,by omega⟩,g',V,e1,e2⟩⟩
theorem ZmQ {b n:Nat}(hb:b<4294967296) (hn:n≤20000):RunsW (Zr prog Zf Zn Zd0) (ZW (pwP f53) (.seq (.seq (pwI f53) (.block 0 (.loop (pwL f53)))) (pwE f53))) ([.int .u32 (b:Int),.int .i64 (n:Int)]++List.replicate 15 uZ,⟨0,[]⟩,[]) fun e z=>(e=none∨e=some none)∧((¬ (b=0∧2≤n)∧ZV prog f53 z.1 z.2.1=some (sq0 (b^n))∧∃ r,z.2.1.blk? 0=some (wU (d16 (b^n))++r,tU))∨((b=0∧2≤n)∧ZV prog f53 z.1 z.2.1=some Zp)):=by
 refine Z0 ZfE (Z1k b n) (fun x hx=>by cases hx) fun g=> ?_;refine RunsW.seq (P1:=fun e y=>e=none∧pwS b n n y) ?_ ?_ (fun e y hy=>by cases hy.1)
 ·refine RunsW.seq (Ze ZfE (Z9r _ _ _ _ _ _ g _) (fun x hx=>by cases hx)) ?_ (fun e y hy=>by cases hy.1);rintro⟨t,h',s⟩ ⟨_,⟨g',ht⟩,hh⟩;simp only at ht hh;subst ht hh;have lp:=RunsW.forLoop (T:=Zr prog Zf Zn Zd0) (c:=pwL f53) (id:=0) (P:=pwS b n n) (R:=fun _=>False) (fun k y=>∃ i,k=n-i∧i≤n∧pwS b n i y) (x:=(pwF b n (sq0 1) 0++tl 10 g',pA 1,s)) ?_ (n:=n) ⟨0,by omega,by omega,.inl ⟨by omega,g',by rw[Nat.pow_zero];rfl,by rw[Nat.pow_zero]⟩⟩
  ·refine lp.mono fun e z hz=> ?_
   match e,hz with
   | none,hz=>exact⟨rfl,hz⟩
   | some none,hz=>exact hz.elim
   | some (some _),hz=>exact hz.elim
  ·rintro k y ⟨i,hk,hi,hy⟩;by_cases hlt:i<n
   ·refine (ZqB hb hn hlt hy).mono fun e z hz=> ?_;obtain⟨rfl,hz⟩:=hz;exact⟨n-(i+1),by omega,i+1,rfl,by omega,hz⟩
   ·have e:i=n:=by omega
    subst e;obtain⟨t,h',s⟩:=y;rcases hy with ⟨hA,g,ht,hh⟩ | ⟨hB,g,V,ht,hh⟩
    ·simp only at ht hh;subst ht hh;refine (Ze ZfE (Z8A b i i _ _ g) (Z4 (dF (by omega)))).mono fun e z hz=> ?_;obtain⟨rfl,⟨g',e1⟩,e2⟩:=hz;exact⟨rfl,.inl ⟨hA,g',e1,e2⟩⟩
    ·simp only at ht hh;subst ht hh;refine (Ze ZfE (Z8A b i i _ _ g) (Z4 (dF (by omega)))).mono fun e z hz=> ?_;obtain⟨rfl,⟨g',e1⟩,e2⟩:=hz;exact⟨rfl,.inr ⟨hB,g',V,e1,e2⟩⟩
 ·rintro⟨t,h',s⟩ ⟨_,hy⟩;rcases hy with ⟨hA,g,ht,hh⟩ | ⟨hB,g,V,ht,hh⟩
  ·simp only at ht hh;subst ht hh;refine (Ze ZfE (Z8B b n n _ _ g) (fun x hx=>by cases hx)).mono fun e z hz=> ?_;obtain⟨rfl,⟨g',e1⟩,e2⟩:=hz;exact⟨.inr rfl,.inl ⟨hA,by rw[e1,e2];rfl,[],by rw[e2,List.append_nil];rfl⟩⟩
  ·simp only at ht hh;subst ht hh;refine (Ze ZfE (Z8B b n n _ _ g) (fun x hx=>by cases hx)).mono fun e z hz=> ?_;obtain⟨rfl,⟨g',e1⟩,e2⟩:=hz;exact⟨.inr rfl,.inr ⟨hB,by rw[e1,e2];rfl⟩⟩
def ZyV (b n:Int):Bool:=decide (0≤b∧b<4294967296∧0≤n∧n≤20000)
def ZvO:Zad:=fun vals h s=>
 match vals,s with
 | [.int .u32 b,.int .i64 n],.inr (.inr (.inr (.inl d)))::s'=>
  match d,s' with
  | true,.inr (.inl V)::s2=>Zde V.toNat h s2 [(decide (b.toNat^n.toNat=V.toNat),true),(ZyV b n,true),(decide (b=0∧2≤n),false)]
  | false,_=>some (Zp,h,s',[(ZyV b n,true),(decide (b=0∧2≤n),true)])
  | _,_=>none
 | _,_=>none
theorem ZqC:Z8 53 ZvO:=by
 intro vals h s v h' s' lg hg hl m B w E hv;have hr0:(⟨0,[]⟩:Hp).rows:=⟨rfl,fun b x hx=>by have:b<0:=Hp.blk_lt hx;omega⟩;unfold ZvO at hg;split at hg
 ·rename_i b n d s2;split at hg
  ·rename_i V s3;unfold Zde at hg;cases hg;have l1:=oT (hl _ mH);have l2:=oT (hl _ (mN _ mH));have l3:=hl _ (mN _ (mN _ mS));have l3:=of_decide_eq_false l3;obtain⟨b',rfl⟩:=Int.eq_ofNat_of_zero_le l2.1;obtain⟨n',rfl⟩:=Int.eq_ofNat_of_zero_le l2.2.2.1;rw[tN,tN] at l1;rw[← l1];have r:=(ZmQ (b:=b') (n:=n') (by omega) (by omega)).mono (P':=fun e z=>(e=none∨e=some none)∧ZV prog f53 z.1 z.2.1=some (sq0 (b'^n'))∧∃ r,z.2.1.blk? 0=some (wU (d16 (b'^n'))++r,tU)) fun e z hz=>⟨hz.1,by
    rcases hz.2 with ⟨_,q⟩ | ⟨q,_⟩
    ·exact q
    ·exact absurd q (by omega)⟩
   have:=ZE (T:=Zr prog Zf Zn Zd0) func53 ZmP hr0 (vals:=[.int .u32 (b':Int),.int .i64 (n':Int)]) (fun v hv=>by
    simp only[List.mem_cons,List.not_mem_nil,or_false] at hv;rcases hv with rfl | rfl<;>rfl) (k:=0) (cs:=wU (d16 (b'^n'))) (ty:=tU) (Zbb _) (by kernel_rfl) r (by simp [oc,oc2,oc1,sq0,sl]) E (s:=fun i=>i) (fun i x hx _=>by have:i<0:=Hp.blk_lt hx;omega)
   exact this
  ·cases hg;have l2:=oT (hl _ mH);have l3:=oT (hl _ (mN _ mS));obtain⟨b',rfl⟩:=Int.eq_ofNat_of_zero_le l2.1;obtain⟨n',rfl⟩:=Int.eq_ofNat_of_zero_le l2.2.2.1;have r:=(ZmQ (b:=b') (n:=n') (by omega) (by omega)).mono (P':=fun e z=>(e=none∨e=some none)∧ZV prog f53 z.1 z.2.1=some Zp) fun e z hz=>⟨hz.1,by
    rcases hz.2 with ⟨q,_⟩ | ⟨_,q⟩
    ·exact absurd (show b'=0∧2≤n' by omega) q
    ·exact q⟩
   have:=ZB (T:=Zr prog Zf Zn Zd0) func53 ZmP hr0 (vals:=[.int .u32 (b':Int),.int .i64 (n':Int)]) (fun v hv=>by
    simp only[List.mem_cons,List.not_mem_nil,or_false] at hv;rcases hv with rfl | rfl<;>rfl) (v:=Zp) (by rfl) r E (s:=fun i=>i) (fun i x hx _=>by have:i<0:=Hp.blk_lt hx;omega)
   exact this
  ·cases hg
 ·cases hg
end Go.Proofs.YtjlponbdflkbjaaGreatDoor
namespace Go.Proofs.YtjlponbdflkbjaaGreatDoor.Na
open Go.Proofs.Tryz
open Go.IntKind
open Go.KRun Go.Nt
set_option maxRecDepth 100000
set_option linter.unusedVariables false
def qsn (k:Nat) (F:Func):Code:=match k with | 0=>Zs F | k+1=>Zz (qsn k F)
def qP (F:Func):List Code:=[Z2 (qsn 0 F),Z2 (qsn 1 F),Z2 (qsn 2 F),Z2 (qsn 3 F)]
def qI (F:Func):Code:=Z2 (Z2 (qsn 4 F))
def qL (F:Func):Code:=cIn (cIn (Zz (Z2 (qsn 4 F))))
def qE (F:Func):Code:=qsn 5 F
theorem ZmR:f76.body=some (ZW (qP f76) (.seq (.seq (qI f76) (.block 0 (.loop (qL f76)))) (qE f76))):=by kernel_rfl
theorem ZqD:f76.body=some (Zs f76):=by kernel_rfl
def w32 (m:Nat) (V:Nat):List Value×TypeId:=(wU (dg m (V:Int)),tU)
def s32 (k m V:Nat):Value:=sl k 0 (Zl (dg m (V:Int))) m
def qF (b n:Int) (P O:Value) (i:Int):List Value:=[.int .u32 b,.int .i64 n,.tuple #[],.tuple #[],Zp,.nilIface,P,O,.nilIface,.int .i64 i]
def Q2 (b:Nat):Hp:=⟨2,[w32 2 b,w32 2 1]⟩
def Q3 (b m V:Nat):Hp:=⟨3,[w32 m V,w32 2 b,w32 2 1]⟩
def Q4 (b m V M S:Nat):Hp:=⟨4,[w32 M S,w32 m V,w32 2 b,w32 2 1]⟩
def ZiB (n i:Int):Int:=i64.wrap ((BitVec.ofInt 64 (n.fdiv (2^min i.toNat 64)) &&& BitVec.ofInt 64 1).toNat:Nat)
def q0F (b n:Int) (O:Value):List Value:=[.int .u32 b,.int .i64 n,.tuple #[],.tuple #[],Zp,.nilIface,s32 0 2 1,O,.nilIface]
theorem Z1n (b:Nat) (n:Int):Zg (evL (Zr prog Zf ZaM hcQ) 100 (qP f76) ([.int .u32 (b:Int),.int .i64 n]++List.replicate 54 uZ,⟨0,[]⟩,[cmp false,cmp false]) ⟨[],[],[]⟩) 9 47 none (q0F b n (sl 1 0 (Zl (dg 2 (u64.wrap (b:Int)))) 2)) ⟨2,[(wU (dg 2 (u64.wrap (b:Int))),tU),w32 2 1]⟩ [(decide (0≤u64.wrap (b:Int)∧u64.wrap (b:Int)<18446744073709551616),true),(decide (0≤(1:Int)∧(1:Int)<18446744073709551616),true),(decide (n>1000000),false),(decide (n<0),false)]:=by and_intros<;>kernel_rfl
theorem Z9s (b:Nat) (n:Int) (O:Value) (g:Nat→Value) (h:Hp):Zg (evC (Zr prog Zf ZaM hcQ) 100 false (qI f76) (q0F b n O++tl 47 g,h,[]) ⟨[],[],[]⟩) 10 46 none (qF b n (s32 0 2 1) O (i64.wrap (((bitLen (u64.wrap n).toNat:Nat):Int)-1))) h [(decide (0≤u64.wrap n∧u64.wrap n<65536),true)]:=by and_intros<;>kernel_rfl
theorem ZvP (b n:Int):Zg (evC (Zr prog Zf ZaM hcQ) 100 false (Zs f76) ([.int .u32 b,.int .i64 n]++List.replicate 54 uZ,⟨0,[]⟩,[cmp true]) ⟨[],[],[]⟩) 6 50 (some none) [.int .u32 b,.int .i64 n,.tuple #[],uZ,Zp,Zcu 1] ⟨0,[]⟩ [(decide (n<0),true)]:=by and_intros<;>kernel_rfl
theorem ZvQ (b n:Int):Zg (evC (Zr prog Zf ZaM hcQ) 100 false (Zs f76) ([.int .u32 b,.int .i64 n]++List.replicate 54 uZ,⟨0,[]⟩,[cmp false,cmp true]) ⟨[],[],[]⟩) 6 50 (some none) [.int .u32 b,.int .i64 n,.tuple #[],uZ,Zp,Zcu 1] ⟨0,[]⟩ [(decide (n>1000000),true),(decide (n<0),false)]:=by and_intros<;>kernel_rfl
theorem Z6s (n i:Int) (b m V S:Nat) (g:Nat→Value):Zg (evC (Zr prog Zf ZaM hcQ) 100 false (qL f76) (qF b n (s32 2 m V) (s32 1 2 b) i++tl 46 g,Q3 b m V,[cmp true,cmp false,num S,cmp false]) ⟨[],[],[]⟩) 10 46 none (qF b n (s32 3 (Zl (dg m (V:Int))+Zl (dg m (V:Int))) S) (s32 1 2 b) (i64.wrap (i-1))) (Q4 b m V (Zl (dg m (V:Int))+Zl (dg m (V:Int))) S) [(ZiB n i==1,false),(decide (i<0),false),(decide (Zhp (Zq (Q3 b m V) (some ⟨2,0,none⟩) (Zl (dg m (V:Int)))) (Zq (Q3 b m V) (some ⟨2,0,none⟩) (Zl (dg m (V:Int))))=dg (Zl (dg m (V:Int))+Zl (dg m (V:Int))) (S:Int)),true),(Zai (Q3 b m V) (some ⟨2,0,none⟩) (Zl (dg m (V:Int))) (m),true),(Zai (Q3 b m V) (some ⟨2,0,none⟩) (Zl (dg m (V:Int))) (m),true),(!decide (Zl (dg m (V:Int))=0∨Zl (dg m (V:Int))=0) && Nat.ble (Zl (dg m (V:Int))+Zl (dg m (V:Int))) 8192,true),(decide (i≥0),true)]:=by and_intros<;>kernel_rfl
theorem Z6t (n i:Int) (b m V S W:Nat) (g:Nat→Value):Zg (evC (Zr prog Zf ZaM hcQ) 100 false (qL f76) (qF b n (s32 2 m V) (s32 1 2 b) i++tl 46 g,Q3 b m V,[cmp true,cmp false,num S,cmp true,cmp false,num W]) ⟨[],[],[]⟩) 10 46 none (qF b n (s32 4 (Zl (dg (Zl (dg m (V:Int))+Zl (dg m (V:Int))) (S:Int))+Zl (dg 2 (b:Int))) W) (s32 1 2 b) (i64.wrap (i-1))) ⟨5,[w32 (Zl (dg (Zl (dg m (V:Int))+Zl (dg m (V:Int))) (S:Int))+Zl (dg 2 (b:Int))) W,w32 (Zl (dg m (V:Int))+Zl (dg m (V:Int))) S,w32 m V,w32 2 b,w32 2 1]⟩ [(decide (Zhp (Zq (Q4 b m V (Zl (dg m (V:Int))+Zl (dg m (V:Int))) S) (some ⟨3,0,none⟩) (Zl (dg (Zl (dg m (V:Int))+Zl (dg m (V:Int))) (S:Int)))) (Zq (Q4 b m V (Zl (dg m (V:Int))+Zl (dg m (V:Int))) S) (some ⟨1,0,none⟩) (Zl (dg 2 (b:Int))))=dg (Zl (dg (Zl (dg m (V:Int))+Zl (dg m (V:Int))) (S:Int))+Zl (dg 2 (b:Int))) (W:Int)),true),(Zai (Q4 b m V (Zl (dg m (V:Int))+Zl (dg m (V:Int))) S) (some ⟨3,0,none⟩) (Zl (dg (Zl (dg m (V:Int))+Zl (dg m (V:Int))) (S:Int))) (Zl (dg m (V:Int))+Zl (dg m (V:Int))),true),(Zai (Q4 b m V (Zl (dg m (V:Int))+Zl (dg m (V:Int))) S) (some ⟨1,0,none⟩) (Zl (dg 2 (b:Int))) (2),true),(!decide (Zl (dg (Zl (dg m (V:Int))+Zl (dg m (V:Int))) (S:Int))=0∨Zl (dg 2 (b:Int))=0) && Nat.ble (Zl (dg (Zl (dg m (V:Int))+Zl (dg m (V:Int))) (S:Int))+Zl (dg 2 (b:Int))) 8192,true),(ZiB n i==1,true),(decide (i<0),false),(decide (Zhp (Zq (Q3 b m V) (some ⟨2,0,none⟩) (Zl (dg m (V:Int)))) (Zq (Q3 b m V) (some ⟨2,0,none⟩) (Zl (dg m (V:Int))))=dg (Zl (dg m (V:Int))+Zl (dg m (V:Int))) (S:Int)),true),(Zai (Q3 b m V) (some ⟨2,0,none⟩) (Zl (dg m (V:Int))) (m),true),(Zai (Q3 b m V) (some ⟨2,0,none⟩) (Zl (dg m (V:Int))) (m),true),(!decide (Zl (dg m (V:Int))=0∨Zl (dg m (V:Int))=0) && Nat.ble (Zl (dg m (V:Int))+Zl (dg m (V:Int))) 8192,true),(decide (i≥0),true)]:=by and_intros<;>kernel_rfl
theorem Z6u (n i:Int) (b S W:Nat) (g:Nat→Value):Zg (evC (Zr prog Zf ZaM hcQ) 100 false (qL f76) (qF b n (s32 0 2 1) (s32 1 2 b) i++tl 46 g,Q2 b,[cmp true,cmp false,num S,cmp true,cmp false,num W]) ⟨[],[],[]⟩) 10 46 none (qF b n (s32 3 (Zl (dg (Zl (dg 2 ((1:Nat):Int))+Zl (dg 2 ((1:Nat):Int))) (S:Int))+Zl (dg 2 (b:Int))) W) (s32 1 2 b) (i64.wrap (i-1))) ⟨4,[w32 (Zl (dg (Zl (dg 2 ((1:Nat):Int))+Zl (dg 2 ((1:Nat):Int))) (S:Int))+Zl (dg 2 (b:Int))) W,w32 (Zl (dg 2 ((1:Nat):Int))+Zl (dg 2 ((1:Nat):Int))) S,w32 2 b,w32 2 1]⟩ [(decide (Zhp (Zq (Q3 b (Zl (dg 2 ((1:Nat):Int))+Zl (dg 2 ((1:Nat):Int))) S) (some ⟨2,0,none⟩) (Zl (dg (Zl (dg 2 ((1:Nat):Int))+Zl (dg 2 ((1:Nat):Int))) (S:Int)))) (Zq (Q3 b (Zl (dg 2 ((1:Nat):Int))+Zl (dg 2 ((1:Nat):Int))) S) (some ⟨1,0,none⟩) (Zl (dg 2 (b:Int))))=dg (Zl (dg (Zl (dg 2 ((1:Nat):Int))+Zl (dg 2 ((1:Nat):Int))) (S:Int))+Zl (dg 2 (b:Int))) (W:Int)),true),(Zai (Q3 b (Zl (dg 2 ((1:Nat):Int))+Zl (dg 2 ((1:Nat):Int))) S) (some ⟨2,0,none⟩) (Zl (dg (Zl (dg 2 ((1:Nat):Int))+Zl (dg 2 ((1:Nat):Int))) (S:Int))) (Zl (dg 2 ((1:Nat):Int))+Zl (dg 2 ((1:Nat):Int))),true),(Zai (Q3 b (Zl (dg 2 ((1:Nat):Int))+Zl (dg 2 ((1:Nat):Int))) S) (some ⟨1,0,none⟩) (Zl (dg 2 (b:Int))) (2),true),(!decide (Zl (dg (Zl (dg 2 ((1:Nat):Int))+Zl (dg 2 ((1:Nat):Int))) (S:Int))=0∨Zl (dg 2 (b:Int))=0) && Nat.ble (Zl (dg (Zl (dg 2 ((1:Nat):Int))+Zl (dg 2 ((1:Nat):Int))) (S:Int))+Zl (dg 2 (b:Int))) 8192,true),(ZiB n i==1,true),(decide (i<0),false),(decide (Zhp (Zq (Q2 b) (some ⟨0,0,none⟩) (Zl (dg 2 ((1:Nat):Int)))) (Zq (Q2 b) (some ⟨0,0,none⟩) (Zl (dg 2 ((1:Nat):Int))))=dg (Zl (dg 2 ((1:Nat):Int))+Zl (dg 2 ((1:Nat):Int))) (S:Int)),true),(Zai (Q2 b) (some ⟨0,0,none⟩) (Zl (dg 2 ((1:Nat):Int))) (2),true),(Zai (Q2 b) (some ⟨0,0,none⟩) (Zl (dg 2 ((1:Nat):Int))) (2),true),(!decide (Zl (dg 2 ((1:Nat):Int))=0∨Zl (dg 2 ((1:Nat):Int))=0) && Nat.ble (Zl (dg 2 ((1:Nat):Int))+Zl (dg 2 ((1:Nat):Int))) 8192,true),(decide (i≥0),true)]:=by and_intros<;>kernel_rfl
theorem Z6v (n i:Int) (b S:Nat) (g:Nat→Value):Zg (evC (Zr prog Zf ZaM hcQ) 100 false (qL f76) (qF b n (s32 0 2 1) (s32 1 2 b) i++tl 46 g,Q2 b,[cmp true,cmp false,num S,cmp true,cmp true]) ⟨[],[],[]⟩) 10 46 none (qF b n Zp (s32 1 2 b) (i64.wrap (i-1))) (Q3 b (Zl (dg 2 ((1:Nat):Int))+Zl (dg 2 ((1:Nat):Int))) S) [(decide (Zl (dg (Zl (dg 2 ((1:Nat):Int))+Zl (dg 2 ((1:Nat):Int))) (S:Int))=0∨Zl (dg 2 (b:Int))=0),true),(ZiB n i==1,true),(decide (i<0),false),(decide (Zhp (Zq (Q2 b) (some ⟨0,0,none⟩) (Zl (dg 2 ((1:Nat):Int)))) (Zq (Q2 b) (some ⟨0,0,none⟩) (Zl (dg 2 ((1:Nat):Int))))=dg (Zl (dg 2 ((1:Nat):Int))+Zl (dg 2 ((1:Nat):Int))) (S:Int)),true),(Zai (Q2 b) (some ⟨0,0,none⟩) (Zl (dg 2 ((1:Nat):Int))) (2),true),(Zai (Q2 b) (some ⟨0,0,none⟩) (Zl (dg 2 ((1:Nat):Int))) (2),true),(!decide (Zl (dg 2 ((1:Nat):Int))=0∨Zl (dg 2 ((1:Nat):Int))=0) && Nat.ble (Zl (dg 2 ((1:Nat):Int))+Zl (dg 2 ((1:Nat):Int))) 8192,true),(decide (i≥0),true)]:=by and_intros<;>kernel_rfl
theorem Z6w (n i:Int) (b m V:Nat) (g:Nat→Value):Zg (evC (Zr prog Zf ZaM hcQ) 100 false (qL f76) (qF b n Zp (s32 1 2 b) i++tl 46 g,Q3 b m V,[cmp true,cmp true,cmp false]) ⟨[],[],[]⟩) 10 46 none (qF b n Zp (s32 1 2 b) (i64.wrap (i-1))) (Q3 b m V) [(ZiB n i==1,false),(decide (i<0),false),(decide (0=0∨0=0),true),(decide (i≥0),true)]:=by and_intros<;>kernel_rfl
theorem Z6x (n i:Int) (b m V:Nat) (g:Nat→Value):Zg (evC (Zr prog Zf ZaM hcQ) 100 false (qL f76) (qF b n Zp (s32 1 2 b) i++tl 46 g,Q3 b m V,[cmp true,cmp true,cmp true,cmp true]) ⟨[],[],[]⟩) 10 46 none (qF b n Zp (s32 1 2 b) (i64.wrap (i-1))) (Q3 b m V) [(decide (0=0∨Zl (dg 2 (b:Int))=0),true),(ZiB n i==1,true),(decide (i<0),false),(decide (0=0∨0=0),true),(decide (i≥0),true)]:=by and_intros<;>kernel_rfl
theorem Z9t (n i:Int) (b:Nat) (P O:Value) (h:Hp) (g:Nat→Value):Zg (evC (Zr prog Zf ZaM hcQ) 100 false (qL f76) (qF b n P O i++tl 46 g,h,[cmp false]) ⟨[],[],[]⟩) 10 46 (some (some 0)) (qF b n P O i) h [(decide (i≥0),false)]:=by and_intros<;>kernel_rfl
theorem Z6y (n i:Int) (b:Nat) (P O:Value) (h:Hp) (g:Nat→Value):Zg (evC (Zr prog Zf ZaM hcQ) 100 false (qE f76) (qF b n P O i++tl 46 g,h,[]) ⟨[],[],[]⟩) 6 50 (some none) [.int .u32 (b:Int),.int .i64 n,.tuple #[],.tuple #[],P,.nilIface] h []:=by and_intros<;>kernel_rfl
def nw (V:Nat):Nat:=(d32 V).length
def pM (b j:Nat):Nat:=if j=0 then 2 else if j % 2=1 then nw (b^(j-1))+nw b else nw (b^(j/2))+nw (b^(j/2))
theorem ZiC:TabOk (Zr prog Zf ZaM hcQ):=Zh Zqh ZaE
theorem ZjV {V k:Nat}(h:V<4294967296^k):nw V≤k:=ZaZ (by omega) k V h
theorem ZmS (V:Nat):V<4294967296^nw V:=by
 have:=Zbl (b:=4294967296) (by omega) (d32 V) (Zfx (by omega) V);rw[show vb 4294967296 (d32 V)=V from ZbC (by omega) V] at this;exact this
theorem ZiD {V:Nat}(h:0<V):0<nw V:=(ZeX (by omega)).2 h
theorem ZvR:nw 0=0:=by unfold nw d32;rw[zp];rfl
theorem ZqE {m V:Nat}(h:V<4294967296^m) (hm:m≤1000):Zl (dg m (V:Int))=nw V:=
 (Zkt (H:=⟨1,[w32 m V]⟩) (b:=0) rfl h hm).2.2.2.1
theorem Z6z {b j:Nat}(hb:b<4294967296) (hj:1≤j):b^j<4294967296^j:=Nat.pow_lt_pow_left hb (by omega)
theorem Z1o {b j:Nat}(hb:b<4294967296):nw (b^j)≤j+1:=by
 by_cases h:1≤j
 ·have:=ZjV (Z6z hb h);omega
 ·have:j=0:=by omega
  subst this;rw[Nat.pow_zero];exact ZjV (by decide)
theorem ZvS {n i:Nat}(hn:n<65536) (hi:i<64):ZiB (n:Int) (i:Int)=((n/2^i % 2:Nat):Int):=by
 have e:(n:Int).fdiv (2^min (i:Int).toNat 64)=((n/2^i:Nat):Int):=by
  rw[tN,show min i 64=i by omega,Int.fdiv_eq_ediv_of_nonneg _ (Int.le_of_lt (Int.pow_pos (by omega)))];simp
 have hl:n/2^i≤n:=Nat.div_le_self _ _;unfold ZiB;rw[e,BitVec.toNat_and,show (BitVec.ofInt 64 1).toNat=1 from rfl,Nat.and_one_is_mod,BitVec.toNat_ofInt];have h2:((2^64:Nat):Int)=18446744073709551616:=rfl;rw[Zw (by omega) (by omega)];omega
theorem ZvT (b:Nat) {h:Hp}(h0:h.blk? 0=some (w32 2 1)) (h1:h.blk? 1=some (w32 2 b)):∀ i x,(⟨2,[w32 2 b,w32 2 1]⟩:Hp).blk? i=some x→h.blk? i=some x∧∀ v∈x.1,still v=true:=by
 intro i x hx;have hi:i<2:=Hp.blk_lt hx
 match i,hi,hx with
 | 0,_,hx=>
  have e:x=w32 2 1:=(Option.some.inj hx).symm;subst e;exact⟨h0,ZD _⟩
 | 1,_,hx=>
  have e:x=w32 2 b:=(Option.some.inj hx).symm;subst e;exact⟨h1,ZD _⟩
theorem ZvU (b n:Int) {P O:Value}(i:Int) (hP:lt 3 P=true) (hO:lt 3 O=true):∀ v∈qF b n P O i,lt 3 v=true:=by
 intro v hv;unfold qF at hv;simp only[List.mem_cons,List.not_mem_nil,or_false] at hv;rcases hv with rfl | rfl | rfl | rfl | rfl | rfl | rfl | rfl | rfl | rfl<;>first | rfl | exact hP | exact hO
def nS (b n k:Nat) (y:Lf):Prop:=∃ g,(n/2^k=0∧y.1=qF b n (s32 0 2 1) (s32 1 2 b) ((k:Int)-1)++tl 46 g∧y.2.1=Q2 b)∨
 (1≤n/2^k∧0<b∧y.1=qF b n (s32 2 (pM b (n/2^k)) (b^(n/2^k))) (s32 1 2 b) ((k:Int)-1)++tl 46 g∧y.2.1=Q3 b (pM b (n/2^k)) (b^(n/2^k)))∨
 (1≤n/2^k∧b=0∧∃ m V,y.1=qF b n Zp (s32 1 2 b) ((k:Int)-1)++tl 46 g∧y.2.1=Q3 b m V)
theorem ZqF {b n:Nat}(hb:b<4294967296) (hn:n≤300):∀ j,j≤n→nw (b^j)≤400:=fun j hj=>by
 have:=Z1o (b:=b) (j:=j) hb;omega
theorem Ztb {n:Nat}(hn:n≤2000):∀ j,j≤n→nw (10^j)≤400:=fun j hj=>by
 have h:(10:Nat)^j<4294967296^(j/9+1):=by
  refine Nat.lt_of_le_of_lt (Nat.pow_le_pow_right (by omega) (show j≤9*(j/9+1) by omega)) ?_;rw[Nat.pow_mul];exact Nat.pow_lt_pow_left (by decide) (by omega)
 have:=ZjV h;omega
theorem Z1p {b j n:Nat}(hw:∀ j,j≤n→nw (b^j)≤400) (hb:b<4294967296) (hj:j≤n) (hj0:1≤j):b^j<4294967296^pM b j∧pM b j≤1000:=by
 unfold pM;rw[if_neg (by omega)];by_cases h:j % 2=1
 ·rw[if_pos h];have e:b^j=b^(j-1)*b:=by rw[← Nat.pow_succ];congr 1;omega
  have l1:=ZmS (b^(j-1));have l2:=ZmS b;have k1:=hw (j-1) (by omega);have k2:nw b≤1:=ZjV (by omega);refine⟨?_,by omega⟩;rw[e,Nat.pow_add];exact Nat.mul_lt_mul'' l1 l2
 ·rw[if_neg h];have e:b^j=b^(j/2)*b^(j/2):=by rw[← Nat.pow_add];congr 1;omega
  have l1:=ZmS (b^(j/2));have k1:=hw (j/2) (by omega);refine⟨?_,by omega⟩;rw[e,Nat.pow_add];exact Nat.mul_lt_mul'' l1 l1
theorem Zg4 {x y:Nat}(hx:0<x) (hy:0<y) (h:x+y≤8192):(!decide (x=0∨y=0) && Nat.ble (x+y) 8192)=true:=by
 rw[dF (by omega),Nat.ble_eq_true_of_le h];rfl
theorem ZqG {b n k:Nat}(hb:b<4294967296) (hn:n≤2000) (hw:∀ j,j≤n→nw (b^j)≤400) (hk:k≤20) {y:Lf}(h:nS b n (k+1) y) (ht:n/2^(k+1)=0→n/2^k % 2=1):RunsW (Zr prog Zf ZaM hcQ) (qL f76) y fun e z=>e=none∧nS b n k z:=by
 obtain⟨t,h',s⟩:=y;obtain⟨i,hi⟩:∃ i:Int,i=((k+1:Nat):Int)-1:=⟨_,rfl⟩;have hik:i=(k:Int):=by omega
 have hi0:i≥0:=by omega
 have hiF:decide (i<0)=false:=dF (by omega);have ei:i64.wrap (i-1)=(k:Int)-1:=by rw[Zw (by omega) (by omega)];omega
 have eb:ZiB (n:Int) i=((n/2^k % 2:Nat):Int):=by rw[hik];exact ZvS (by omega) (by omega)
 have dd:n/2^k=2*(n/2^(k+1))+n/2^k % 2:=by
  rw[Nat.pow_succ,← Nat.div_div_eq_div_mul];omega
 have jn:n/2^k≤n:=Nat.div_le_self _ _;have kb:nw b≤1:=ZjV (by omega);have tb:=ZqE (m:=2) (V:=b) (by have:(4294967296:Nat)^2=18446744073709551616:=rfl;omega) (by omega);have lt1:KRun.lt 3 (s32 1 2 b)=true:=rfl;have bN:b<4294967296^2:=by have:(4294967296:Nat)^2=18446744073709551616:=rfl;omega
 generalize hj:n/2^(k+1)=j at*;generalize hj':n/2^k=j' at*;obtain⟨g,hy⟩:=h;rw[hj] at hy;rcases hy with ⟨j0,ht',hh⟩ | ⟨j1,b0,ht',hh⟩ | ⟨j1,b0,m,V,ht',hh⟩
 ·have hbit:=ht j0;have j'1:j'=1:=by omega
  simp only at ht' hh;rw[← hi] at ht';subst ht' hh;have hbt:(ZiB (n:Int) i==1)=true:=by rw[eb,hbit];rfl
  have n1:Zl (dg 2 ((1:Nat):Int))=1:=by decide
  have r1:=Zkt (H:=Q2 b) (b:=0) (V:=1) (m:=2) rfl (by decide) (by omega);have z1:(!decide (Zl (dg 2 ((1:Nat):Int))=0∨Zl (dg 2 ((1:Nat):Int))=0) && Nat.ble (Zl (dg 2 ((1:Nat):Int))+Zl (dg 2 ((1:Nat):Int))) 8192)=true:=Zg4 (by omega) (by omega) (by omega);by_cases b0:0<b
  ·have e2:Zl (dg (Zl (dg 2 ((1:Nat):Int))+Zl (dg 2 ((1:Nat):Int))) ((1:Nat):Int))=1:=by decide
   have r2:=Zkt (H:=Q3 b (Zl (dg 2 ((1:Nat):Int))+Zl (dg 2 ((1:Nat):Int))) 1) (b:=2) (V:=1) (m:=Zl (dg 2 ((1:Nat):Int))+Zl (dg 2 ((1:Nat):Int))) rfl (by decide) (by omega);have r3:=Zkt (H:=Q3 b (Zl (dg 2 ((1:Nat):Int))+Zl (dg 2 ((1:Nat):Int))) 1) (b:=1) (V:=b) (m:=2) rfl bN (by omega);have pb:=ZiD b0;have hg:=Z6u n i b 1 (1*b) g;rw[ei] at hg;have z2:=Zg4 (x:=Zl (dg (Zl (dg 2 ((1:Nat):Int))+Zl (dg 2 ((1:Nat):Int))) ((1:Nat):Int))) (y:=Zl (dg 2 (b:Int))) (by omega) (by omega) (by omega);have hp:pM b 1=Zl (dg (Zl (dg 2 ((1:Nat):Int))+Zl (dg 2 ((1:Nat):Int))) ((1:Nat):Int))+Zl (dg 2 (b:Int)):=by
    rw[e2,tb];unfold pM;rw[if_neg (by omega),if_pos (by omega),Nat.sub_self,Nat.pow_zero];rw[show nw 1=1 from by
     have:=ZqE (m:=2) (V:=1) (by decide) (by omega);rw[← this];exact n1]
   have run:=Ze (s0:=s) ZiC hg (Za (ZvJ r2 r3) (Za (rX r2) (Za (rX r3) (Za z2 (Za hbt (Za hiF (Za (ZvJ r1 r1) (Za (rX r1) (Za (rX r1) (Za z1 (Z4 (dT hi0))))))))))));rw[← hp,Nat.one_mul] at run;have:=run.kept (k:=2) (b:=3) (base:=[w32 2 b,w32 2 1]) (y:=w32 (pM b 1) b) (front':=qF b n (s32 2 (pM b 1) b) (s32 1 2 b) ((k:Int)-1)) rfl (by kernel_rfl) (ZvT b rfl rfl) rfl (by omega) (ZD _) (ZvU _ _ _ rfl rfl);refine this.mono fun e z hz=> ?_;obtain⟨rfl,⟨g',e1⟩,e2'⟩:=hz;refine⟨rfl,g',.inr (.inl ⟨by omega,b0,?_,?_⟩)⟩
   ·rw[hj',j'1,Nat.pow_one];exact e1
   ·rw[hj',j'1,Nat.pow_one];exact e2'
  ·have bz:b=0:=by omega
   have hg:=Z6v n i b 1 g;rw[ei] at hg;have run:=Ze (s0:=s) ZiC hg (Za (dT (.inr (by rw[tb,bz,ZvR]))) (Za hbt (Za hiF (Za (ZvJ r1 r1) (Za (rX r1) (Za (rX r1) (Za z1 (Z4 (dT hi0)))))))));refine run.mono fun e z hz=> ?_;obtain⟨rfl,⟨g',e1⟩,e2'⟩:=hz;exact⟨rfl,g',.inr (.inr ⟨by rw[hj'];omega,bz,_,_,e1,e2'⟩)⟩
 ·simp only at ht' hh;rw[← hi] at ht';have hm:pM b j=pM b j:=rfl;obtain⟨m,em⟩:∃ m,m=pM b j:=⟨_,rfl⟩;obtain⟨V,eV⟩:∃ V,V=b^j:=⟨_,rfl⟩;rw[← em,← eV] at ht' hh;obtain⟨p1,p2⟩:=Z1p hw hb (show j≤n by omega) j1;rw[← em,← eV] at p1;rw[← em] at p2;subst ht' hh;have V0:0<V:=by rw[eV];exact Nat.pow_pos b0
  have tV:=ZqE p1 p2;have pV:=ZiD V0;have lV:nw V≤400:=by rw[eV];exact hw j (by omega)
  have r1:=Zkt (H:=Q3 b m V) (b:=2) (V:=V) (m:=m) rfl p1 p2;have z1:=Zg4 (x:=Zl (dg m (V:Int))) (y:=Zl (dg m (V:Int))) (by omega) (by omega) (by omega);have eS:V*V=b^(2*j):=by rw[eV,← Nat.pow_add];congr 1;omega
  by_cases hbit:j' % 2=1
  ·have hbt:(ZiB (n:Int) i==1)=true:=by rw[eb,hbit];rfl
   have j'e:j'=2*j+1:=by omega
   have pb:=ZiD b0;obtain⟨S,hS⟩:∃ S,S=V*V:=⟨_,rfl⟩;have sB:S<4294967296^(Zl (dg m (V:Int))+Zl (dg m (V:Int))):=by
    rw[hS,Nat.pow_add,tV];exact Nat.mul_lt_mul'' (ZmS V) (ZmS V)
   have sm:Zl (dg m (V:Int))+Zl (dg m (V:Int))≤1000:=by omega
   have tS:=ZqE sB sm;have S0:0<S:=by rw[hS];exact Nat.mul_pos V0 V0
   have pS:=ZiD S0;have lS:nw S≤400:=by rw[hS,eS];exact hw (2*j) (by omega)
   have r2:=Zkt (H:=Q4 b m V (Zl (dg m (V:Int))+Zl (dg m (V:Int))) S) (b:=3) (V:=S) (m:=Zl (dg m (V:Int))+Zl (dg m (V:Int))) rfl sB sm;have r3:=Zkt (H:=Q4 b m V (Zl (dg m (V:Int))+Zl (dg m (V:Int))) S) (b:=1) (V:=b) (m:=2) rfl bN (by omega);have z2:=Zg4 (x:=Zl (dg (Zl (dg m (V:Int))+Zl (dg m (V:Int))) (S:Int))) (y:=Zl (dg 2 (b:Int))) (by omega) (by omega) (by omega);have rm:=ZvJ r1 r1;rw[← hS] at rm;have hg:=Z6t n i b m V S (S*b) g;rw[ei] at hg;have hp:pM b j'=Zl (dg (Zl (dg m (V:Int))+Zl (dg m (V:Int))) (S:Int))+Zl (dg 2 (b:Int)):=by
    rw[tS,tb];unfold pM;rw[if_neg (by omega),if_pos hbit,hS,eS,j'e,Nat.add_sub_cancel]
   have run:=Ze (s0:=s) ZiC hg (Za (ZvJ r2 r3) (Za (rX r2) (Za (rX r3) (Za z2 (Za hbt (Za hiF (Za rm (Za (rX r1) (Za (rX r1) (Za z1 (Z4 (dT hi0))))))))))));have hW:S*b=b^j':=by rw[hS,eS,j'e,Nat.pow_succ]
   rw[← hp,hW] at run;have:=run.kept (k:=2) (b:=4) (base:=[w32 2 b,w32 2 1]) (y:=w32 (pM b j') (b^j')) (front':=qF b n (s32 2 (pM b j') (b^j')) (s32 1 2 b) ((k:Int)-1)) rfl (by kernel_rfl) (ZvT b rfl rfl) rfl (by omega) (ZD _) (ZvU _ _ _ rfl rfl);refine this.mono fun e z hz=> ?_;obtain⟨rfl,⟨g',e1⟩,e2'⟩:=hz;refine⟨rfl,g',.inr (.inl ⟨by omega,b0,?_,?_⟩)⟩
   ·rw[hj'];exact e1
   ·rw[hj'];exact e2'
  ·have hbt:(ZiB (n:Int) i==1)=false:=by rw[eb,show j' % 2=0 by omega];rfl
   have j'e:j'=2*j:=by omega
   have hg:=Z6s n i b m V (V*V) g;rw[ei] at hg;have hp:pM b j'=Zl (dg m (V:Int))+Zl (dg m (V:Int)):=by
    rw[tV,eV];unfold pM;rw[if_neg (by omega),if_neg hbit,j'e,Nat.mul_div_cancel_left _ (by omega)]
   have run:=Ze (s0:=s) ZiC hg (Za hbt (Za hiF (Za (ZvJ r1 r1) (Za (rX r1) (Za (rX r1) (Za z1 (Z4 (dT hi0))))))));have hW:V*V=b^j':=by rw[eS,j'e]
   rw[← hp,hW] at run;have:=run.kept (k:=2) (b:=3) (base:=[w32 2 b,w32 2 1]) (y:=w32 (pM b j') (b^j')) (front':=qF b n (s32 2 (pM b j') (b^j')) (s32 1 2 b) ((k:Int)-1)) rfl (by kernel_rfl) (ZvT b rfl rfl) rfl (by omega) (ZD _) (ZvU _ _ _ rfl rfl);refine this.mono fun e z hz=> ?_;obtain⟨rfl,⟨g',e1⟩,e2'⟩:=hz;refine⟨rfl,g',.inr (.inl ⟨by omega,b0,?_,?_⟩)⟩
   ·rw[hj'];exact e1
   ·rw[hj'];exact e2'
 ·simp only at ht' hh;rw[← hi] at ht';subst ht' hh;by_cases hbit:j' % 2=1
  ·have hbt:(ZiB (n:Int) i==1)=true:=by rw[eb,hbit];rfl
   have hg:=Z6x n i b m V g;rw[ei] at hg;refine (Ze (s0:=s) ZiC hg (Za (dT (.inl rfl)) (Za hbt (Za hiF (Za (by decide) (Z4 (dT hi0))))))).mono fun e z hz=> ?_;obtain⟨rfl,⟨g',e1⟩,e2'⟩:=hz;exact⟨rfl,g',.inr (.inr ⟨by rw[hj'];omega,b0,m,V,e1,e2'⟩)⟩
  ·have hbt:(ZiB (n:Int) i==1)=false:=by rw[eb,show j' % 2=0 by omega];rfl
   have hg:=Z6w n i b m V g;rw[ei] at hg;refine (Ze (s0:=s) ZiC hg (Za hbt (Za hiF (Za (by decide) (Z4 (dT hi0)))))).mono fun e z hz=> ?_;obtain⟨rfl,⟨g',e1⟩,e2'⟩:=hz;exact⟨rfl,g',.inr (.inr ⟨by rw[hj'];omega,b0,m,V,e1,e2'⟩)⟩
end Go.Proofs.YtjlponbdflkbjaaGreatDoor.Na
namespace Go.Proofs.YtjlponbdflkbjaaGreatDoor.Na
open Go.Proofs.Tryz
open Go.KRun Go.Nt
set_option maxRecDepth 100000
def fN (k:Int) (e:Value):List Value:=[Zp,i6' k,uZ,uZ,Zp,e]
theorem ZqH (k:Int):Zg (evC (Zr prog Zf Zn hcS) 200 false (Zs f80) ([Zp,i6' k]++List.replicate 45 uZ,⟨0,[]⟩,[cmp true]) ⟨[],[],[]⟩) 6 41 (some none) (fN k (Zcu 1)) ⟨0,[]⟩ [(decide (k<0),true)]:=by and_intros<;>kernel_rfl
theorem ZqI (k:Int):Zg (evC (Zr prog Zf Zn hcS) 200 false (Zs f80) ([Zp,i6' k]++List.replicate 45 uZ,⟨0,[]⟩,[cmp false]) ⟨[],[],[]⟩) 6 41 (some none) (fN k .nilIface) ⟨0,[]⟩ [(decide (k<0),false)]:=by and_intros<;>kernel_rfl
def Z4v (d:Bool):Value:=match d with | true=>Zcu 1 | false=> .nilIface
theorem ZmT (k:Int) (d:Bool) (hd:decide (k<0)=d):Runs (Zr prog Zf Zn hcS) (Zs f80) ([Zp,i6' k]++List.replicate 45 uZ,⟨0,[]⟩,[]) fun e' y=>(e'=none∨e'=some none)∧ZV prog f80 y.1 y.2.1=some (.tuple #[Zp,Z4v d]):=by
 cases d with
 | true=>
  refine (Zb (Zh Zd Zis) (ZqH k) (Zt hd)).mono fun e' y he=> ?_;obtain⟨rfl,⟨g,e2⟩,e3⟩:=he;refine⟨.inr rfl,?_⟩;rw[e2,e3];rfl
 | false=>
  refine (Zb (Zh Zd Zis) (ZqI k) (Zt hd)).mono fun e' y he=> ?_;obtain⟨rfl,⟨g,e2⟩,e3⟩:=he;refine⟨.inr rfl,?_⟩;rw[e2,e3];rfl
def ZjW:Zad:=fun vals h s=>
 match vals with
 | [.slice none 0 0,.int .i64 k]=>
  match s with
  | .inr (.inr (.inr (.inl d)))::s'=>some (.tuple #[Zp,Z4v d],h,s',[(decide (k<0),d)])
  | _=>none
 | _=>ZuO vals h s
theorem ZbW:Z8 80 ZjW:=by
 intro vals h s v h' s' lg hg hl m B w E hv;unfold ZjW at hg;split at hg
 ·rename_i k;split at hg
  ·rename_i d s2;cases hg;have hd:=hl _ mS;have e0:rn (fun b=>b) (.tuple #[Zp,Z4v d])= .tuple #[Zp,Z4v d]:=by cases d<;>exact Zd5 (by rfl)
   have:=zi (T:=Zr prog Zf Zn hcS) func80 Zf6 (h0:=⟨0,[]⟩) ⟨rfl,fun b x hb=>absurd (Hp.blk_lt hb) (Nat.not_lt_zero _)⟩ (vals:=[Zp,i6' k]) (fun v hv=>by
    simp only[List.mem_cons,List.not_mem_nil,or_false] at hv;rcases hv with rfl | rfl<;>rfl) (by cases d<;>rfl) (ZmT k d hd) E (s:=fun b=>b) (fun i hi=>absurd hi (Nat.not_lt_zero _)) (fun i x hi=>absurd (Hp.blk_lt hi) (Nat.not_lt_zero _))
   rw[e0] at this;exact this.mono fun e w' he=>⟨m,he.1,he.2⟩
  ·cases hg
 ·exact ZuP _ _ _ _ _ _ _ hg hl m B w E hv
end Go.Proofs.YtjlponbdflkbjaaGreatDoor.Na
namespace Go.Proofs.YtjlponbdflkbjaaGreatDoor.Na
open Go.KRun Go.Nt
set_option maxRecDepth 100000
set_option linter.unusedVariables false
def sM (n:Nat) (k:Int):Nat:=k.toNat/32+(n+1)
def ZvV:Zad:=fun vals h s=>
 match vals,s with
 | [.slice p n c,.int .i64 k],.inr (.inr (.inr (.inl true)))::s'=>some (.tuple #[Zp,Zcu 1],h,s',[(Zai h p n c,true),(ZU (Zq h p n) || decide (k<0),true)])
 | [.slice p n c,.int .i64 k],.inr (.inr (.inr (.inl false))):: .inr (.inr (.inr (.inl true)))::s'=>some (.tuple #[Zp,.nilIface],h,s',[(Zai h p n c,true),(ZU (Zq h p n) || decide (k<0),false),(decide (n=0),true)])
 | [.slice p n c,.int .i64 k],.inr (.inr (.inr (.inl false))):: .inr (.inr (.inr (.inl false))):: .inr (.inr (.inr (.inl true)))::s'=>some (.tuple #[Zp,Zcu 2],h,s',[(Zai h p n c,true),(ZU (Zq h p n) || decide (k<0),false),(decide (n=0),false),(decide (k>262144-Zdy (Zq h p n)),true)])
 | [.slice p n c,.int .i64 k],.inr (.inr (.inr (.inl false))):: .inr (.inr (.inr (.inl false))):: .inr (.inr (.inr (.inl false))):: .inr (.inl V)::s'=>some (.tuple #[sl h.n 0 (Zl (dg (sM n k) V)) (sM n k),.nilIface],h.push (wU (dg (sM n k) V)) tU,s',[(decide (ZgT (Zq h p n) k.toNat=dg (sM n k) V),true),(Zai h p n c,true),(ZU (Zq h p n) || decide (k<0),false),(decide (n=0),false),(decide (k>262144-Zdy (Zq h p n)),false)])
 | _,_=>none
theorem ZqJ:Z8 80 ZvV:=by
 intro vals h s v h' s' lg hg hl m B w E hv;unfold ZvV at hg;split at hg
 ·rename_i p n c k s2;cases hg;have l1:=hl _ (mH);have l2:=hl _ (mN _ mS);simp only at l1 l2;rcases ZM l1 with ⟨rfl,rfl,rfl,e0⟩ | ⟨b,o,x,rfl,hx,r1,e0⟩<;>rw[e0] at l2
  ·rw[Zc0,Bool.false_or] at l2;exact ZbW _ h [cmp true] _ _ [] [(decide (k<0),true)] rfl (Z4 l2) m B w E hv
  ·exact ZbW _ h [cmp true] _ _ [] [(Z6 x.2 x.1 o n c,true),(ZU (Zx x.1 o n) || decide (k<0),true)] (by simp only[ZjW,ZuO,hx]) (Za r1 (Z4 l2)) m B w E hv
 ·rename_i p n c k s2;cases hg;have l1:=hl _ (mH);have l2:=hl _ (mN _ mH);have l3:=hl _ (mN _ (mN _ mS));simp only at l1 l2 l3;rcases ZM l1 with ⟨rfl,rfl,rfl,e0⟩ | ⟨b,o,x,rfl,hx,r1,e0⟩<;>rw[e0] at l2
  ·rw[Zc0,Bool.false_or] at l2;exact ZbW _ h [cmp false] _ _ [] [(decide (k<0),false)] rfl (Z4 l2) m B w E hv
  ·exact ZbW _ h [cmp false,cmp true] _ _ [] [(Z6 x.2 x.1 o n c,true),(ZU (Zx x.1 o n) || decide (k<0),false),(decide (n=0),true)] (by simp only[ZjW,ZuO,hx]) (Za r1 (Za l2 (Z4 l3))) m B w E hv
 ·rename_i p n c k s2;cases hg;have l1:=hl _ (mH);have l2:=hl _ (mN _ mH);have l3:=hl _ (mN _ (mN _ mH));have l4:=hl _ (mN _ (mN _ (mN _ mS)));simp only at l1 l2 l3 l4;rcases ZM l1 with ⟨rfl,rfl,rfl,e0⟩ | ⟨b,o,x,rfl,hx,r1,e0⟩
  ·exact absurd rfl (of_decide_eq_false l3)
  ·rw[e0] at l2 l4;exact ZbW _ h [cmp false,cmp false,cmp true] _ _ [] [(Z6 x.2 x.1 o n c,true),(ZU (Zx x.1 o n) || decide (k<0),false),(decide (n=0),false),(decide (k>262144-Zdy (Zx x.1 o n)),true)] (by simp only[ZjW,ZuO,hx]) (Za r1 (Za l2 (Za l3 (Z4 l4)))) m B w E hv
 ·rename_i p n c k V s2;cases hg;have l0:=oT (hl _ (mH));have l1:=hl _ (mN _ mH);have l2:=hl _ (mN _ (mN _ mH));have l3:=hl _ (mN _ (mN _ (mN _ mH)));have l4:=hl _ (mN _ (mN _ (mN _ (mN _ mS))));simp only at l1 l2 l3 l4;rcases ZM l1 with ⟨rfl,rfl,rfl,e0⟩ | ⟨b,o,x,rfl,hx,r1,e0⟩
  ·exact absurd rfl (of_decide_eq_false l3)
  ·rw[e0] at l0 l2 l4;rw[← l0];exact ZbW _ h [cmp false,cmp false,cmp false] _ _ [] [(Z6 x.2 x.1 o n c,true),(ZU (Zx x.1 o n) || decide (k<0),false),(decide (n=0),false),(decide (k>262144-Zdy (Zx x.1 o n)),false)] (by simp only[ZjW,ZuO,hx];rfl) (Za r1 (Za l2 (Za l3 (Z4 l4)))) m B w E hv
 ·cases hg
def ZvW:Zad:=fun vals h s=>
 match vals,s with
 | [.slice p n c],.inr (.inl l)::s'=>some (i6' l,h,s',[(decide (Zdy (Zq h p n)=l),true),(Zai h p n c,true)])
 | _,_=>none
theorem ZqK:Z8 79 ZvW:=by
 intro vals h s v h' s' lg hg hl m B w E hv;unfold ZvW at hg;split at hg
 ·rename_i p n c l s2;cases hg;have l0:=oT (hl _ (mH));have l1:=hl _ (mN _ mS);simp only at l1;rcases ZM l1 with ⟨rfl,rfl,rfl,e0⟩ | ⟨b,o,x,rfl,hx,r1,e0⟩<;>rw[e0] at l0<;>rw[← l0]
  ·exact Zhj _ h [] _ _ [] [] rfl (fun x hx=>by cases hx) m B w E hv
  ·exact Zhj _ h [] _ _ [] [(Z6 x.2 x.1 o n c,true)] (by simp only[Z4o,hx]) (Z4 r1) m B w E hv
 ·cases hg
end Go.Proofs.YtjlponbdflkbjaaGreatDoor.Na
