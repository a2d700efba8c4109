/-
  ConVO, ConVQ, ToP, RfL, RdF, RdG, RdH, SuN, RdI
-/
import Derived.Test.YtjlponbdflkbjaaGreatDoorG20
namespace Go.Proofs.YtjlponbdflkbjaaGreatDoor
open Go.Proofs.Tryz
open Go.IntKind
open Go.KRun Go.Nt
set_option maxRecDepth 100000
set_option linter.unusedVariables false
section
variable {la lb : List Value} {o c o' c' : Nat} {A L : List Int}
theorem Zo0 (a b:Nat):(ZcR a b<0↔a<b)∧(ZcR a b>0↔b<a):=by
 unfold ZcR;constructor<;>split<;>(try split)<;>omega
def iV (e:Int):Value:= .int .u64 e
theorem Zsq (H:Two la lb o o' c' A L) {V:Nat}(hV:V<65536*vb 65536 L) {Q:List Int}{k:Nat}{v10:Value}(k1:KRun.lt 5 v10=true) (s1:∀ b:Nat,rn (zA 4 b) v10=v10) {e0:Nat}(he0:e0<65536) (hge:V/vb 65536 L≤e0) (g:Nat→Value) (s:List Dec):
  RunsW (Zr prog Zf Zn hcP) (.block 2 (.loop (yL f54))) (pFr o A.length c o' L.length c' A.length (sl 3 0 (d16 V).length (d16 V).length) ((k:Nat):Int) v10 (iV (e0:Nat))++[sl 4 0 (d16 (vb 65536 L*e0)).length (d16 (vb 65536 L*e0)).length]++tl 82 g,hB5 (wU (d16 (vb 65536 L*e0))) (wU (d16 V)) (wU Q) lb la,s) fun e z=>match e with
   | none=>(∃ g,z.1=pFr o A.length c o' L.length c' A.length (sl 3 0 (d16 V).length (d16 V).length) ((k:Nat):Int) v10 (iV (V/vb 65536 L:Nat))++[sl 4 0 (d16 (vb 65536 L*(V/vb 65536 L))).length (d16 (vb 65536 L*(V/vb 65536 L))).length]++tl 82 g)∧z.2.1=hB5 (wU (d16 (vb 65536 L*(V/vb 65536 L)))) (wU (d16 V)) (wU Q) lb la
   | some none=>False
   | some (some _)=>False:=by
 obtain⟨b0,b1,b2⟩:=H.bnd;have n2:=H.n2;generalize hB:vb 65536 L=B at*;have hP:∀ e:Nat,e<65536→(d16 (B*e)).length≤L.length+1:=fun e he=>Zc7 (by
  rw[Nat.pow_succ];exact Nat.mul_lt_mul_of_lt_of_le b1 (by omega) (by omega))
 have hlV:(d16 V).length≤L.length+1:=Zc7 (by
  rw[Nat.pow_succ,Nat.mul_comm];exact Nat.lt_trans hV (Nat.mul_lt_mul_of_pos_left b1 (by omega)))
 refine RunsW.forLoop (P:=fun z=>(∃ g,z.1=pFr o A.length c o' L.length c' A.length (sl 3 0 (d16 V).length (d16 V).length) ((k:Nat):Int) v10 (iV (V/B:Nat))++[sl 4 0 (d16 (B*(V/B))).length (d16 (B*(V/B))).length]++tl 82 g)∧z.2.1=hB5 (wU (d16 (B*(V/B)))) (wU (d16 V)) (wU Q) lb la) (R:=fun _=>False)
  (fun m z=>m<65536∧V/B≤m∧(∃ g,z.1=pFr o A.length c o' L.length c' A.length (sl 3 0 (d16 V).length (d16 V).length) ((k:Nat):Int) v10 (iV (m:Nat))++[sl 4 0 (d16 (B*m)).length (d16 (B*m)).length]++tl 82 g)∧z.2.1=hB5 (wU (d16 (B*m))) (wU (d16 V)) (wU Q) lb la) ?_ (n:=e0) ⟨he0,hge,⟨g,rfl⟩,rfl⟩
 rintro m ⟨t,h',s⟩ ⟨hm,hle,⟨g,ht⟩,hh⟩;simp only at ht hh;subst ht hh;have p4:(hB5 (wU (d16 (B*m))) (wU (d16 V)) (wU Q) lb la).blk? 4=some (wU (d16 (B*m)),tU):=rfl;have p3:(hB5 (wU (d16 (B*m))) (wU (d16 V)) (wU Q) lb la).blk? 3=some (wU (d16 V),tU):=rfl;have p1:(hB5 (wU (d16 (B*m))) (wU (d16 V)) (wU Q) lb la).blk? 1=some (lb,tR):=rfl;have hPm:=hP m hm;have q4:=Zgx p4 (by omega);have q3:=Zgx p3 (by omega);obtain⟨q1,w1,u1⟩:=H.row p1;rw[hB] at u1;have hy:∀ d:Bool,decide (V<B*m)=d→Z3 [(decide (ZcR (vO (hB5 (wU (d16 (B*m))) (wU (d16 V)) (wU Q) lb la) (aP 4 0) (d16 (B*m)).length) (vO (hB5 (wU (d16 (B*m))) (wU (d16 V)) (wU Q) lb la) (aP 3 0) (d16 V).length)>0),d),(ZT (hB5 (wU (d16 (B*m))) (wU (d16 V)) (wU Q) lb la) (aP 4 0) (aP 3 0) (d16 (B*m)).length (d16 (B*m)).length (d16 V).length (d16 V).length,true)]:=fun d hd=>by
  refine Za ?_ (Z4 (Zd9 q4 q3 (by rw[ZbJ p4];exact Zbd _) (by rw[ZbJ p3];exact Zbd _) (by omega)));rw[Zqv p4,Zqv p3,← hd];exact decide_eq_decide.2 (Zo0 (B*m) V).2
 rw[Z9e];by_cases hlt:V<B*m
 ·have hmd:V/B<m:=by
   rw[Nat.div_lt_iff_lt_mul b2,Nat.mul_comm];exact hlt
  have hm1:1≤m:=Nat.lt_of_le_of_lt (Nat.zero_le _) hmd;have hpos:0<(d16 (B*m)).length:=by
   rcases Nat.eq_zero_or_pos (d16 (B*m)).length with h1 | h1
   ·have:=(Zcz (b:=65536) (by omega)).1 (List.eq_nil_of_length_eq_zero h1);omega
   ·exact h1
  have eB:B*m-B=B*(m-1):=by rw[Nat.mul_sub,Nat.mul_one]
  have hBm:B≤B*m:=Nat.le_mul_of_pos_right B (by omega);refine RunsW.next (front:=pFr o A.length c o' L.length c' A.length (sl 3 0 (d16 V).length (d16 V).length) ((k:Nat):Int) v10 (iV (m:Nat))++[sl 4 0 (d16 (B*m)).length (d16 (B*m)).length]) (Ze Zb0 (Z5H o A.length c o' L.length c' A.length (d16 V).length (d16 (B*m)).length v10 ((k:Nat):Int) ((m:Nat):Int) (wU (d16 (B*m))) (wU (d16 V)) (wU Q) lb la g) (hy true (Xa hlt))) fun g s=> ?_;have rb:=Ze (s0:=s) Zb0 (Z5J o A.length c o' L.length c' A.length (d16 V).length (d16 (B*m)).length v10 ((k:Nat):Int) ((m:Nat):Int) (wU (d16 (B*m))) (wU (d16 V)) (wU Q) lb la g) (Za (by
   rw[Zd9 q4 q1 (by rw[ZbJ p4];exact Zbd _) (by rw[w1];exact H.cL.1) (by omega),Zqv p4,u1,Nat.ble_eq_true_of_le hBm];rfl) (Z4 (Xa hpos)))
  have e64:u64.wrap (((m:Nat):Int)-1)=((m-1:Nat):Int):=by rw[w64 (by omega) (by omega)];omega
  rw[Zqv p4,u1,eB,e64] at rb;have rk:=rb.kept (k:=4) (b:=5) (base:=[(wU (d16 V),tU),(wU Q,tU),(lb,tR),(la,tR)]) (y:=(wU (d16 (B*(m-1))),tU)) (front':=pFr o A.length c o' L.length c' A.length (sl 3 0 (d16 V).length (d16 V).length) ((k:Nat):Int) v10 (iV ((m-1:Nat):Int))++[sl 4 0 (d16 (B*(m-1))).length (d16 (B*(m-1))).length]) rfl (by
    simp only[pFr,List.map_append,List.map_cons,List.map_nil,s1]
    kernel_rfl) (by
    intro i x hx;have hi:i<4:=Hp.blk_lt hx;have h3:i=0∨i=1∨i=2∨i=3:=by omega
    rcases h3 with rfl | rfl | rfl | rfl
    ·have:(la,tR)=x:=Option.some.inj hx;subst this;exact⟨rfl,H.sa⟩
    ·have:(lb,tR)=x:=Option.some.inj hx;subst this;exact⟨rfl,H.sb⟩
    ·have:(wU Q,tU)=x:=Option.some.inj hx;subst this;exact⟨rfl,ZD _⟩
    ·have:(wU (d16 V),tU)=x:=Option.some.inj hx;subst this;exact⟨rfl,ZD _⟩) rfl (by omega) (ZD _) (by
    intro v hv;simp only[pFr,List.mem_append,List.mem_cons,List.not_mem_nil,or_false] at hv;rcases hv with (rfl | rfl | rfl | rfl | rfl | rfl | rfl | rfl | rfl | rfl | rfl | rfl) | rfl
    ·rfl
    ·rfl
    ·rfl
    ·rfl
    ·rfl
    ·rfl
    ·rfl
    ·rfl
    ·rfl
    ·rfl
    ·exact k1
    ·rfl
    ·rfl)
  refine RunsW.block (P1:=fun e z=>e=none∧(∃ g,z.1=pFr o A.length c o' L.length c' A.length (sl 3 0 (d16 V).length (d16 V).length) ((k:Nat):Int) v10 (iV ((m-1:Nat):Int))++[sl 4 0 (d16 (B*(m-1))).length (d16 (B*(m-1))).length]++tl 82 g)∧z.2.1=hB5 (wU (d16 (B*(m-1)))) (wU (d16 V)) (wU Q) lb la) rk (fun y hy=> ?_) (fun y hy=>by cases hy.1) (fun y hy=>by cases hy.1) (fun id y _ hy=>by cases hy.1);exact⟨m-1,by omega,by omega,Nat.le_sub_one_of_lt hmd,hy.2.1,hy.2.2⟩
 ·have hmd:m=V/B:=by
   have h1:m≤V/B:=by rw[Nat.le_div_iff_mul_le b2,Nat.mul_comm];omega
   omega
  subst hmd;refine RunsW.seq (Ze Zb0 (Z5I o A.length c o' L.length c' A.length (d16 V).length (d16 (B*(V/B))).length v10 ((k:Nat):Int) ((V/B:Nat):Int) (wU (d16 (B*(V/B)))) (wU (d16 V)) (wU Q) lb la g) (hy false (Xb hlt))) (fun y hy=>by cases hy.1) (fun e y hy=> ?_);obtain⟨e1,z1,z2⟩:=hy;cases e1;exact⟨rfl,z1,z2⟩
def Z8q (o c o' c':Nat) (la lb:List Value) (A L:List Int) (V:Nat) (Q:List Int) (i:Int) (z:Lf):Prop:=
 ∃ v10 v11:Value,(KRun.lt 4 v10=true∧KRun.lt 4 v11=true∧(∀ k b:Nat,rn (zA k b) v10=v10)∧(∀ k b:Nat,rn (zA k b) v11=v11))∧(∃ g,z.1=pFr o A.length c o' L.length c' A.length (sl 3 0 (d16 V).length (d16 V).length) i v10 v11++tl 83 g)∧z.2.1=hB4 (wU (d16 V)) (wU Q) lb la
theorem Zsr (H:Two la lb o o' c' A L) {V:Nat}(hV:V<vb 65536 L) {Q:List Int}(hQ:Q.length=A.length) {k:Nat}(hk:k<A.length) {v10 v11:Value}(hv:KRun.lt 4 v10=true∧KRun.lt 4 v11=true∧(∀ k b:Nat,rn (zA k b) v10=v10)∧(∀ k b:Nat,rn (zA k b) v11=v11)) {r:Value}{h:Hp}(hr:rIn V Q la lb r h) (g:Nat→Value) (s:List Dec):
  RunsW (Zr prog Zf Zn hcP) (paL f54) (pFr o A.length c o' L.length c' A.length r ((k:Nat):Int) v10 v11++tl 83 g,h,s) fun e z=>e=none∧∃ V' Q',V'=(A.getD k 0).toNat+65536*V∧Q'=(if V'<vb 65536 L then Q else Q.set k ((V'/vb 65536 L:Nat):Int))∧Z8q o c o' c' la lb A L (V' % vb 65536 L) Q' (((k:Nat):Int)-1) z:=by
 obtain⟨b0,b1,b2⟩:=H.bnd;have n1:=H.n1;have n2:=H.n2;have a2:=H.a2;obtain⟨l1,l2,s1,s2⟩:=hv;rw[Zmz];refine RunsW.next (Ze Zb0 (Z58 o A.length c o' L.length c' A.length r v10 v11 ((k:Nat):Int) h g) (Z4 (Xa (Int.natCast_nonneg k)))) fun g s=> ?_;have hd:=Zed H.dA k;obtain⟨W,hW⟩:∃ W,W=(A.getD k 0).toNat+65536*V:=⟨_,rfl⟩;have hWB:W<65536*vb 65536 L:=by
  have:=hd.2;have:=hd.1;have h3:65536*V+65536≤65536*vb 65536 L:=by
   have:=Nat.mul_le_mul_left 65536 (Nat.succ_le_of_lt hV);rw[Nat.mul_succ] at this;exact this
  omega
 obtain⟨B,hB⟩:∃ B,B=vb 65536 L:=⟨_,rfl⟩;have hlW:(d16 W).length≤L.length+1:=Zc7 (by
  rw[Nat.pow_succ,Nat.mul_comm];exact Nat.lt_trans hWB (Nat.mul_lt_mul_of_pos_left b1 (by omega)))
 have e1:i64.wrap (((k:Nat):Int)-1)=((k:Nat):Int)-1:=Zw (by omega) (by omega);refine RunsW.seq (P1:=fun e z=>e=none∧Z8q o c o' c' la lb A L (W % vb 65536 L) (if W<vb 65536 L then Q else Q.set k ((W/vb 65536 L:Nat):Int)) ((k:Nat):Int) z) ?_ ?_ (fun e y hy=>by cases hy.1)
 ·refine RunsW.block (P1:=fun e z=>(e=none∨e=some (some 1))∧Z8q o c o' c' la lb A L (W % vb 65536 L) (if W<vb 65536 L then Q else Q.set k ((W/vb 65536 L:Nat):Int)) ((k:Nat):Int) z) ?_ (fun y hy=>⟨rfl,hy.2⟩) (fun y hy=>by rcases hy.1 with h | h<;>cases h) (fun y hy=>⟨rfl,hy.2⟩) (fun id y hid hy=>by
   rcases hy.1 with h | h
   ·cases h
   ·cases h;exact absurd rfl hid)
  rw[Z9d];have h7:=Zsp (c:=c) H hV (Q:=Q) hk l1 l2 (s1 3) (s2 3) hr g s;rw[← hW] at h7;refine RunsW.next h7 fun g s=> ?_;have p3:(hB4 (wU (d16 W)) (wU Q) lb la).blk? 3=some (wU (d16 W),tU):=rfl;have p1:(hB4 (wU (d16 W)) (wU Q) lb la).blk? 1=some (lb,tR):=rfl;have q3:=Zgx p3 (by omega);obtain⟨q1,w1,u1⟩:=H.row p1;have h8:∀ d:Bool,decide (W<vb 65536 L)=d→Z3 [(decide (ZcR (vO (hB4 (wU (d16 W)) (wU Q) lb la) (aP 3 0) (d16 W).length) (vO (hB4 (wU (d16 W)) (wU Q) lb la) (aP 1 o') L.length)<0),d),(ZT (hB4 (wU (d16 W)) (wU Q) lb la) (aP 3 0) (aP 1 o') (d16 W).length (d16 W).length L.length c',true)]:=fun d hd=>by
   refine Za ?_ (Z4 (Zd9 q3 q1 (by rw[ZbJ p3];exact Zbd _) (by rw[w1];exact H.cL.1) (by omega)));rw[Zqv p3,u1,← hd];exact decide_eq_decide.2 (Zo0 W (vb 65536 L)).1
  by_cases hlt:W<vb 65536 L
  ·refine RunsW.seq (Ze Zb0 (Z5D o A.length c o' L.length c' A.length (d16 W).length v10 v11 ((k:Nat):Int) (wU (d16 W)) (wU Q) lb la g) (h8 true (Xa hlt))) (fun y hy=>by cases hy.1) (fun e y hy=> ?_);obtain⟨e2,z1,z2⟩:=hy;cases e2;rw[if_pos hlt,Nat.mod_eq_of_lt hlt];exact⟨.inr rfl,v10,v11,⟨l1,l2,s1,s2⟩,z1,z2⟩
  ·rw[if_neg hlt];refine RunsW.next (Ze Zb0 (Z5E o A.length c o' L.length c' A.length (d16 W).length v10 v11 ((k:Nat):Int) (wU (d16 W)) (wU Q) lb la g) (h8 false (Xb hlt))) fun g s=> ?_;have g9:=Z9g o A.length c o' L.length c' A.length (d16 W).length v10 v11 ((k:Nat):Int) (wU (d16 W)) (wU Q) lb la g;rw[ZbJ p3,Z07 W L.length n1 n2] at g9;refine RunsW.next (Ze Zb0 g9 (Za q3 (Za rfl (Za q3 (Za rfl (Z4 q3)))))) fun g s=> ?_;obtain⟨t1,t2,t3,t4,t5⟩:=Z02 n1 b0 b1 hWB;have etb:=Z08 H.cL n1 n2;generalize Zqu W L.length=tp at*;generalize ZoE (vb 65536 L) L.length=tb at*;obtain⟨tq,htq⟩:∃ tq,tq=tp/tb:=⟨_,rfl⟩;have htq':tq≤tp:=by rw[htq];exact Nat.div_le_self _ _
   rw[← htq] at t4;have eix:i64.wrap ((L.length:Int)-1)=((L.length-1:Nat):Int):=by rw[Zw (by omega) (by omega)];omega
   have g10:=Z5F o A.length c o' L.length c' A.length (d16 W).length v11 ((k:Nat):Int) ((tp:Nat):Int) (L.getD (L.length-1) 0) ((tq:Nat):Int) (wU (d16 W)) (wU Q) lb la g;have eq:u64.wrap (((tp:Nat):Int).tdiv ((tb:Nat):Int))=((tq:Nat):Int):=by
    rw[← Int.ofNat_tdiv,← htq,w64 (by omega) (by omega)]
   refine RunsW.next (Ze Zb0 g10 (by
    rw[w1,etb];refine Za (Xb (by omega)) (Za (Xa eq) (Za q1 (Za rfl (Za ?_ (Z4 ?_)))))
    ·rw[eix,Xg,Nat.mul_one,H.rb.cell (by omega)];simp [Z5]
    ·rw[eix];exact Xa (by omega))) fun g s=> ?_
   obtain⟨e,he⟩:∃ e:Nat,e=min tq 65535:=⟨_,rfl⟩;have em:Z56 ((tq:Nat):Int)=((e:Nat):Int):=by unfold Z56;rw[he];split<;>omega
   rw[em];have e16:e<65536:=by omega
   have hde:W/vb 65536 L≤e:=by omega
   have w32:u32.wrap ((e:Nat):Int)=((e:Nat):Int):=zk (by omega) (by omega);have ep:pV (hB4 (wU (d16 W)) (wU Q) lb la) o' L.length ((e:Nat):Int)=vb 65536 L*e:=by
    unfold pV;rw[u1,w32,Xg];rfl
   have g11:=Z5G o A.length c o' L.length c' A.length (d16 W).length (iV ((tp:Nat):Int)) ((k:Nat):Int) ((e:Nat):Int) (wU (d16 W)) (wU Q) lb la g;rw[ep] at g11;refine RunsW.next (front:=pFr o A.length c o' L.length c' A.length (sl 3 0 (d16 W).length (d16 W).length) ((k:Nat):Int) (iV ((tp:Nat):Int)) (iV ((e:Nat):Int))++[sl 4 0 (d16 (vb 65536 L*e)).length (d16 (vb 65536 L*e)).length]) (Ze Zb0 g11 (Za (by
    unfold ZaV;rw[q1,w1,ZbG H.cL.1,Zo.2 (by omega),w32,Xa ⟨⟨by omega,by omega⟩,by omega,by omega⟩];rfl) (Z4 (Xa (.inl (by omega)))))) fun g s=> ?_
   refine RunsW.seq (P1:=fun e z=>e=none∧(∃ g,z.1=pFr o A.length c o' L.length c' A.length (sl 3 0 (d16 W).length (d16 W).length) ((k:Nat):Int) (iV ((tp:Nat):Int)) (iV (W/vb 65536 L:Nat))++[sl 4 0 (d16 (vb 65536 L*(W/vb 65536 L))).length (d16 (vb 65536 L*(W/vb 65536 L))).length]++tl 82 g)∧z.2.1=hB5 (wU (d16 (vb 65536 L*(W/vb 65536 L)))) (wU (d16 W)) (wU Q) lb la) ((Zsq (c:=c) H hWB rfl (fun b=>rfl) e16 hde g s).mono fun e z hz=> ?_) ?_ (fun e y hy=>by cases hy.1)
   ·match e,hz with
    | none,hz=>exact⟨rfl,hz⟩
    | some none,hz=>exact hz.elim
    | some (some _),hz=>exact hz.elim
   ·rintro⟨t,h',s⟩ ⟨_,⟨g,ht⟩,hh⟩;simp only at ht hh;subst ht hh;have p4:(hB5 (wU (d16 (vb 65536 L*(W/vb 65536 L)))) (wU (d16 W)) (wU Q) lb la).blk? 4=some (wU (d16 (vb 65536 L*(W/vb 65536 L))),tU):=rfl;have p3':(hB5 (wU (d16 (vb 65536 L*(W/vb 65536 L)))) (wU (d16 W)) (wU Q) lb la).blk? 3=some (wU (d16 W),tU):=rfl;have hle:vb 65536 L*(W/vb 65536 L)≤W:=Nat.mul_div_le W (vb 65536 L);have hl4:(d16 (vb 65536 L*(W/vb 65536 L))).length≤L.length+1:=Zc7 (by
     rw[Nat.pow_succ];exact Nat.mul_lt_mul_of_lt_of_le b1 (by omega) (by omega))
    have q4:=Zgx p4 (by omega);have q3':=Zgx p3' (by omega);have hpos:0<(d16 W).length:=by
     rcases Nat.eq_zero_or_pos (d16 W).length with h1 | h1
     ·have:=(Zcz (b:=65536) (by omega)).1 (List.eq_nil_of_length_eq_zero h1);omega
     ·exact h1
    have ge:=Z9h o A.length c o' L.length c' A.length (d16 W).length (d16 (vb 65536 L*(W/vb 65536 L))).length (iV ((tp:Nat):Int)) ((k:Nat):Int) ((W/vb 65536 L:Nat):Int) (wU (d16 (vb 65536 L*(W/vb 65536 L)))) (wU (d16 W)) (wU Q) lb la g;have wd:u32.wrap ((W/vb 65536 L:Nat):Int)=((W/vb 65536 L:Nat):Int):=zk (Int.natCast_nonneg _) (by omega);have em2:W-vb 65536 L*(W/vb 65536 L)=W % vb 65536 L:=by have:=Nat.div_add_mod W (vb 65536 L);omega
    have eset:(wU Q).set (0+((k:Nat):Int).toNat*1) (.int .u32 ((W/vb 65536 L:Nat):Int))=wU (Q.set k ((W/vb 65536 L:Nat):Int)):=by
     rw[Xg,Nat.zero_add,Nat.mul_one];unfold wU;rw[List.map_set]
    have re:=Ze (s0:=s) Zb0 ge (Za (Xa (by rw[Xg,Zah];omega)) (Za (Xa (by omega)) (Za (by
     rw[Zd9 q3' q4 (by rw[ZbJ p3'];exact Zbd _) (by rw[ZbJ p4];exact Zbd _) (by omega),Zqv p4,Zqv p3',Nat.ble_eq_true_of_le hle];rfl) (Z4 (Xa hpos)))))
    rw[Zqv p4,Zqv p3',em2,wd,eset] at re;have rk:=re.kept (k:=3) (b:=5) (base:=[(wU (Q.set k ((W/vb 65536 L:Nat):Int)),tU),(lb,tR),(la,tR)]) (y:=(wU (d16 (W % vb 65536 L)),tU)) (front':=pFr o A.length c o' L.length c' A.length (sl 3 0 (d16 (W % vb 65536 L)).length (d16 (W % vb 65536 L)).length) ((k:Nat):Int) (iV ((tp:Nat):Int)) (iV (W/vb 65536 L:Nat))) rfl (by
     simp only[pFr,List.map_cons,List.map_nil]
     kernel_rfl) (Zqx (ZD _) H.sb H.sa rfl rfl rfl) rfl (by omega) (ZD _) (ZsW rfl rfl)
    refine rk.mono fun e z hz=> ?_;obtain⟨e3,z1,z2⟩:=hz;exact⟨.inl e3,_,_,⟨rfl,rfl,fun k b=>rfl,fun k b=>rfl⟩,z1,z2⟩
 ·rintro⟨t,h',s⟩ ⟨_,u10,u11,hu,⟨g,ht⟩,hh⟩;simp only at ht hh;subst ht hh;have gi:=Z9f o A.length c o' L.length c' A.length (sl 3 0 (d16 (W % vb 65536 L)).length (d16 (W % vb 65536 L)).length) u10 u11 ((k:Nat):Int) (hB4 (wU (d16 (W % vb 65536 L))) (wU (if W<vb 65536 L then Q else Q.set k ((W/vb 65536 L:Nat):Int))) lb la) g;rw[e1] at gi;refine (Ze Zb0 gi (fun x hx=>by cases hx)).mono fun e z hz=> ?_;obtain⟨e2,z1,z2⟩:=hz;exact⟨e2,W,_,hW,rfl,u10,u11,hu,z1,z2⟩
end
section
variable {la lb : List Value} {o c o' c' : Nat} {A L : List Int}
def okV (v10 v11:Value):Prop:=KRun.lt 4 v10=true∧KRun.lt 4 v11=true∧(∀ k b:Nat,rn (zA k b) v10=v10)∧(∀ k b:Nat,rn (zA k b) v11=v11)
def Z8r (A L:List Int) (i V:Nat) (Q:List Int):Prop:=i≤A.length∧Q.length=A.length∧(∀ x∈Q,Dg 65536 x)∧(∀ j,j<i→Q.getD j 0=0)∧vb 65536 (A.drop i)=vb 65536 (Q.drop i)*vb 65536 L+V∧V<vb 65536 L
def Z33 (o c o' c':Nat) (la lb:List Value) (A L:List Int) (i:Nat) (z:Lf):Prop:=
 ∃ V Q,Z8r A L i V Q∧∃ v10 v11 r,okV v10 v11∧(∃ g,z.1=pFr o A.length c o' L.length c' A.length r (((i:Nat):Int)-1) v10 v11++tl 83 g)∧rIn V Q la lb r z.2.1∧(i<A.length→r=sl 3 0 (d16 V).length (d16 V).length∧z.2.1=hB4 (wU (d16 V)) (wU Q) lb la)
theorem Zo1 (H:Two la lb o o' c' A L) {k V:Nat}{Q:List Int}(h:Z8r A L (k+1) V Q):Z8r A L k (((A.getD k 0).toNat+65536*V) % vb 65536 L) (if (A.getD k 0).toNat+65536*V<vb 65536 L then Q else Q.set k ((((A.getD k 0).toNat+65536*V)/vb 65536 L:Nat):Int)):=by
 obtain⟨h1,h2,h3,h4,h5,h6⟩:=h;have hB:=H.bnd.2.2;have hd:=Zed H.dA k;have hA:vb 65536 (A.drop k)=(A.getD k 0).toNat+65536*vb 65536 (A.drop (k+1)):=ZfA (by omega);obtain⟨W,hW⟩:∃ W,W=(A.getD k 0).toNat+65536*V:=⟨_,rfl⟩;have hWB:W<65536*vb 65536 L:=by
  have:=hd.2;have:=hd.1;have h3:65536*V+65536≤65536*vb 65536 L:=by
   have:=Nat.mul_le_mul_left 65536 (Nat.succ_le_of_lt h6);rw[Nat.mul_succ] at this;exact this
  omega
 have hq:W/vb 65536 L<65536:=by rw[Nat.div_lt_iff_lt_mul hB];exact hWB
 have hdm:=Nat.div_add_mod W (vb 65536 L);have hml:=Nat.mod_lt W hB;rw[← hW];have hk:k<Q.length:=by omega
 have hQ:vb 65536 (Q.drop k)=(Q.getD k 0).toNat+65536*vb 65536 (Q.drop (k+1)):=ZfA hk;have key:∀ q:Nat,vb 65536 (A.drop k)=(q+65536*vb 65536 (Q.drop (k+1)))*vb 65536 L+(W-q*vb 65536 L)↔q*vb 65536 L≤W∨vb 65536 (A.drop k)=(q+65536*vb 65536 (Q.drop (k+1)))*vb 65536 L+(W-q*vb 65536 L):=fun q=>by
  refine⟨.inr,fun h=>h.elim (fun h=> ?_) id⟩;rw[hA,h5,Nat.add_mul,Nat.mul_add,Nat.mul_assoc];omega
 by_cases hlt:W<vb 65536 L
 ·rw[if_pos hlt,Nat.mod_eq_of_lt hlt];refine⟨by omega,h2,h3,fun j hj=>h4 j (by omega),?_,hlt⟩;have h0:(Q.getD k 0).toNat=0:=by rw[h4 k (by omega)];rfl
  rw[hQ,h0];have:=(key 0).2 (.inl (by omega));rw[Nat.zero_mul,Nat.sub_zero] at this;exact this
 ·rw[if_neg hlt];refine⟨by omega,by rw[List.length_set];exact h2,Zm5 h3 ⟨Int.natCast_nonneg _,by omega⟩ k,fun j hj=> ?_,?_,hml⟩
  ·have:=h4 j (by omega);simp only[List.getD] at*;rw[List.getElem?_set_ne (by omega)];exact this
  ·have hk':k<(Q.set k ((W/vb 65536 L:Nat):Int)).length:=by rw[List.length_set];exact hk
   have e1:((Q.set k ((W/vb 65536 L:Nat):Int)).getD k 0).toNat=W/vb 65536 L:=by
    simp only[List.getD,List.getElem?_set_self hk,Option.getD_some,Xg]
   have e2:(Q.set k ((W/vb 65536 L:Nat):Int)).drop (k+1)=Q.drop (k+1):=by rw[List.drop_set_of_lt (by omega)]
   rw[ZfA hk',e1,e2];have e3:W % vb 65536 L=W-W/vb 65536 L*vb 65536 L:=by rw[Nat.mul_comm] at hdm;omega
   rw[e3];exact (key _).2 (.inl (by rw[Nat.mul_comm] at hdm;omega))
theorem Zss (H:Two la lb o o' c' A L) {z0:Lf}(h0:Z33 o c o' c' la lb A L A.length z0):
  RunsW (Zr prog Zf Zn hcP) (.block 0 (.loop (paL f54))) z0 fun e z=>match e with | none=>Z33 o c o' c' la lb A L 0 z | some none=>False | some (some _)=>False:=by
 refine RunsW.forLoop (P:=Z33 o c o' c' la lb A L 0) (R:=fun _=>False) (Z33 o c o' c' la lb A L) ?_ h0;rintro m ⟨t,h',s⟩ hI;obtain⟨V,Q,hn,v10,v11,r,hv,⟨g,ht⟩,hr,hrow⟩:=hI;simp only at ht hr hrow;subst ht;cases m with
 | zero=>
  have e0:(((0:Nat):Int)-1)= -1:=rfl;rw[Zmz];refine RunsW.seq (Ze Zb0 (Z59 o A.length c o' L.length c' A.length r v10 v11 (((0:Nat):Int)-1) h' g) (Z4 (Xb (by omega)))) (fun y hy=>by cases hy.1) (fun e y hy=> ?_);obtain⟨e1,z1,z2⟩:=hy;cases e1;exact⟨rfl,V,Q,hn,v10,v11,r,hv,z1,by rw[z2];exact hr,fun hl=>by rw[z2];exact hrow hl⟩
 | succ k=>
  have hk:k<A.length:=by have:=hn.1;omega
  have ek:(((k+1:Nat):Int)-1)=((k:Nat):Int):=by omega
  rw[ek];have hn':=Zo1 H hn;refine (Zsr (c:=c) H hn.2.2.2.2.2 (Q:=Q) hn.2.1 hk hv hr g s).mono fun e z hz=> ?_;obtain⟨rfl,V',Q',hV',hQ',u10,u11,hu,z1,z2⟩:=hz;rw[hV'] at hQ' z1 z2;rw[← hQ'] at hn';exact⟨k,by omega,_,Q',hn',u10,u11,_,hu,z1,.inr ⟨rfl,z2⟩,fun _=>⟨rfl,z2⟩⟩
theorem ZyE (H:Two la lb o o' c' A L):
  RunsW (Zr prog Zf Zn hcP) (ZW (paP f54) (.seq (.seq (Z2 (paB f54)) (.block 0 (.loop (paL f54)))) (paE f54))) ([sl 0 o A.length c,sl 1 o' L.length c']++List.replicate 93 undef,h2 la lb,[]) fun e z=>(e=none∨e=some none)∧∃ k j,k≠j∧ZV prog f54 z.1 z.2.1=some (.tuple #[sl k 0 (d16 (vb 65536 A/vb 65536 L)).length (d16 (vb 65536 A/vb 65536 L)).length,sl j 0 (d16 (vb 65536 A % vb 65536 L)).length (d16 (vb 65536 A % vb 65536 L)).length])∧(∃ r,z.2.1.blk? k=some (wU (d16 (vb 65536 A/vb 65536 L))++r,tU))∧∃ r,z.2.1.blk? j=some (wU (d16 (vb 65536 A % vb 65536 L))++r,tU):=by
 have a2:=H.a2;have a1:=H.a1;have hB:=H.bnd.2.2;have mk:ZI 4 ((A.length:Nat):Int) ((A.length:Nat):Int)=true:=by unfold ZI;exact Xa (by omega)
 refine Z0 Zb0 (Z05 o A.length c o' L.length c' la lb) (Zt mk) fun g=> ?_;rw[Xg];have ew:List.replicate A.length (Value.int .u32 0)=wU (List.replicate A.length 0):=by unfold wU;rw[List.map_replicate]
 rw[ew];have e1:i64.wrap ((A.length:Int)-1)=((A.length:Nat):Int)-1:=Zw (by omega) (by omega);refine RunsW.seq (P1:=fun e z=>e=none∧Z33 o c o' c' la lb A L 0 z) ?_ ?_ (fun e y hy=>by cases hy.1)
 ·have g4:=Z57 o A.length c o' L.length c' A.length Zp undef undef undef (hB3 (wU (List.replicate A.length 0)) lb la) g;rw[e1] at g4;refine RunsW.next (Ze Zb0 g4 (fun x hx=>by cases hx)) fun g s=> ?_;refine (Zss H ⟨0,List.replicate A.length 0,⟨Nat.le_refl _,by simp,fun x hx=> ?_,fun j _=> ?_,?_,hB⟩,undef,undef,Zp,⟨rfl,rfl,fun k b=>by kernel_rfl,fun k b=>by kernel_rfl⟩,⟨g,rfl⟩,.inl ⟨rfl,rfl,rfl⟩,fun h=>absurd h (Nat.lt_irrefl _)⟩).mono fun e z hz=> ?_
  ·rw[List.eq_of_mem_replicate hx];exact⟨by omega,by omega⟩
  ·simp only[List.getD,List.getElem?_replicate];split<;>rfl
  ·rw[List.drop_of_length_le (Nat.le_refl _),List.drop_of_length_le (by simp)];simp [vb]
  ·match e,hz with
   | none,hz=>exact⟨rfl,hz⟩
   | some none,hz=>exact hz.elim
   | some (some _),hz=>exact hz.elim
 ·rintro⟨t,h',s⟩ ⟨_,V,Q,hn,v10,v11,r,hv,⟨g,ht⟩,hr,hrow⟩;obtain⟨e2,e3⟩:=hrow (by omega);simp only at ht e3;subst ht e2 e3;obtain⟨_,q1,q2,_,q4,q5⟩:=hn;rw[List.drop_zero,List.drop_zero] at q4;have hdiv:vb 65536 A/vb 65536 L=vb 65536 Q:=by
   rw[q4,Nat.mul_comm,Nat.mul_add_div hB,Nat.div_eq_of_lt q5,Nat.add_zero]
  have hmod:vb 65536 A % vb 65536 L=V:=by
   rw[q4,Nat.mul_comm,Nat.mul_add_mod,Nat.mod_eq_of_lt q5]
  have rngQ:∀ x∈Q,0≤x∧x<4294967296:=fun x hx=>⟨(q2 x hx).1,by have:=(q2 x hx).2;omega⟩;have row:Zbm tU (wU Q) 0 A.length A.length=true:=by
   have:=Zap (L:=Q) rngQ (by omega) (c:=Q.length) (Z4s (by omega));rw[q1] at this;exact this
  have cq:Zx (wU Q) 0 A.length=Q:=by
   have:=ZaO Q;rw[q1] at this;exact this
  have et:Zl Q=(d16 (vb 65536 Q)).length:=Zat (b:=65536) (by omega) q2;have ge:=Z06 o A.length c o' L.length c' A.length (d16 V).length (.int .i64 (((0:Nat):Int)-1)) v10 v11 (wU (d16 V)) (wU Q) lb la g;rw[cq,et] at ge;refine (Ze Zb0 ge (Zt row)).mono fun e z hz=> ?_;obtain⟨rfl,⟨g',z1⟩,z2⟩:=hz;rw[hdiv,hmod];refine⟨.inr rfl,2,3,by omega,by rw[z1,z2];rfl,⟨wU (Q.drop (Zl Q)),?_⟩,⟨[],by rw[z2,List.append_nil];rfl⟩⟩;have e4:wU (d16 (vb 65536 Q))++wU (Q.drop (Zl Q))=wU Q:=by
   unfold d16;rw[← zj (by omega) _ q2,← ZX,List.take_append_drop]
  rw[z2,e4];rfl
end
def ZtF (h:Hp) (p q:Option Addr) (n c n' c':Nat):Bool:=zJ h p n c && dgB (Zq h p n) && (zJ h q n' c' && Zf5 (Zq h q n')) && (Nat.blt n 1000000 && Nat.blt n' 1000000 && Nat.blt 0 n && Nat.blt 0 n')
def gPa:Zad:=fun vals h s=>
 match vals with
 | [.slice (some ⟨b,o,none⟩) n c,.slice (some ⟨b',o',none⟩) n' c']=>
  some (.tuple #[sl h.n 0 (d16 (vO h (aP b o) n/vO h (aP b' o') n')).length (d16 (vO h (aP b o) n/vO h (aP b' o') n')).length,sl (h.n+1) 0 (d16 (vO h (aP b o) n % vO h (aP b' o') n')).length (d16 (vO h (aP b o) n % vO h (aP b' o') n')).length],
   (h.push (wU (d16 (vO h (aP b o) n/vO h (aP b' o') n'))) tU).push (wU (d16 (vO h (aP b o) n % vO h (aP b' o') n'))) tU,s,[(ZtF h (aP b o) (aP b' o') n c n' c',true)])
 | _=>none
theorem Z34:Z8 54 gPa:=by
 intro vals h s v h' s' lg hg hl m B w E0 hv;unfold gPa at hg;split at hg
 ·rename_i b o n c b' o' n' c';cases hg;have l3:=hl _ Xf;simp only[ZtF,Xh] at l3;obtain⟨⟨⟨q1,q2⟩,⟨p1,p2⟩⟩,⟨⟨⟨r1,r2⟩,r3⟩,r4⟩⟩:=l3;have q2:=Zbw q2;have p2:=Zef p2;have r1:=Zo.1 r1;have r2:=Zo.1 r2;have r3:=Zo.1 r3;have r4:=Zo.1 r4;rcases ZF q1 with ⟨h0,_⟩ | ⟨b1,o1,x,hp,hx,k1,ks,e0⟩
  ·cases h0
  ·cases hp;rcases ZF p1 with ⟨h0,_⟩ | ⟨b2,o2,y,hp',hy,t1,ts,f0⟩
   ·cases h0
   ·cases hp';rw[e0] at q2;rw[f0] at p2;obtain⟨h1,h2',h3,h4,h5,h6,h7⟩:=zt k1;obtain⟨g1,g2,g3,g4,g5,g6,g7⟩:=zt t1;have ev:vO h (aP b o) n=vb 65536 (Zx x.1 o n):=by unfold vO;rw[e0]
    have ev':vO h (aP b' o') n'=vb 65536 (Zx y.1 o' n'):=by unfold vO;rw[f0]
    have cb:Zbm tR y.1 o' n' c'=true:=by
     unfold Zbm at t1 ⊢;simp only[Xh,Bool.not_eq_true'] at t1 ⊢;obtain⟨⟨⟨⟨⟨⟨_,_⟩,j3⟩,j4⟩,j5⟩,j6⟩,j7⟩:=t1;exact⟨⟨⟨⟨⟨⟨ZbB,by kernel_rfl⟩,j3⟩,j4⟩,j5⟩,j6⟩,j7⟩
    have H:Two x.1 y.1 o o' c' (Zx x.1 o n) (Zx y.1 o' n'):=⟨h1,g1,q2,p2,by rw[g2];omega,by rw[g2];exact r2,by rw[h2'];omega,by rw[h2'];exact r1,by rw[g2];exact cb,ts,ks,by rw[g2]⟩;have r:=ZyE (c:=c) H;rw[h2',g2,← ev,← ev'] at r;have evals:List.map (rn (ZeQ b b')) [sl 0 o n c,sl 1 o' n' c']=[.slice (some ⟨b,o,none⟩) n c,.slice (some ⟨b',o',none⟩) n' c']:=by
     simp [rn,rn2,rn1,sl,ZeQ]
    have fin:=ZeU (T:=Zr prog Zf Zn hcP) func54 Zvj (Zhe h7 g7) (vals:=[sl 0 o n c,sl 1 o' n' c']) (fun v hv=>by
     simp only[List.mem_cons,List.not_mem_nil,or_false] at hv;rcases hv with h1 | h1<;>rw[h1]<;>rfl) (v:=fun k j=> .tuple #[sl k 0 (d16 (vO h (aP b o) n/vO h (aP b' o') n')).length (d16 (vO h (aP b o) n/vO h (aP b' o') n')).length,sl j 0 (d16 (vO h (aP b o) n % vO h (aP b' o') n')).length (d16 (vO h (aP b o) n % vO h (aP b' o') n')).length]) (Zbb _) (Zbb _) (by kernel_rfl) r (fun k j=>by simp [oc,oc2,oc1,sl]) E0 (ZdT hx h5 h6 hy g5 g6) (fun k j g=>by simp [rn,rn2,rn1,sl])
    rw[evals] at fin;exact fin
 ·cases hg
end Go.Proofs.YtjlponbdflkbjaaGreatDoor
namespace Go.Proofs.YtjlponbdflkbjaaGreatDoor
open Go.Proofs.Tryz
open Go.KRun Go.Nt
set_option maxRecDepth 100000
def Z8s:Zad:=fun vals h s=>
 match vals,s with
 | [.slice (some ⟨b,o,none⟩) n c,.slice (some ⟨b',o',none⟩) n' c'],.inr (.inl V):: .inr (.inl U)::s'=>
  some (.tuple #[sl h.n 0 (d16 V.toNat).length (d16 V.toNat).length,sl (h.n+1) 0 (d16 U.toNat).length (d16 U.toNat).length],(h.push (wU (d16 V.toNat)) tU).push (wU (d16 U.toNat)) tU,s',[(decide (vO h (some ⟨b,o,none⟩) n/vO h (some ⟨b',o',none⟩) n'=V.toNat∧vO h (some ⟨b,o,none⟩) n % vO h (some ⟨b',o',none⟩) n'=U.toNat),true),(ZtF h (some ⟨b,o,none⟩) (some ⟨b',o',none⟩) n c n' c',true)])
 | _,_=>none
theorem ZyF:Z8 54 Z8s:=by
 intro vals h s v h' s' lg hg hl m B w E hv;unfold Z8s at hg;split at hg
 ·rename_i b o n c b' o' n' c' V U s2;cases hg;have l1:=Xc (hl _ Xe);have l2:=hl _ (Xd _ Xf);rw[← l1.1,← l1.2];exact Z34 _ h [] _ _ [] [(ZtF h (some ⟨b,o,none⟩) (some ⟨b',o',none⟩) n c n' c',true)] rfl (Z4 l2) m B w E hv
 ·cases hg
def hcT:Hc:=zS 54 Z8s Z8E
theorem Z35:HcOk hcT:=Z1 func54 rfl ZyF ZyD
section
variable {h : Hp} {b b' V W : Nat}
theorem oPa (hb:h.blk? b=some (wU (d16 V),tU)) (hc:h.blk? b'=some (wU (d16 W),tU)) (hl:(d16 V).length<1000000) (hm:(d16 W).length<1000000) (h0:0<(d16 V).length) (h1:0<(d16 W).length):ZtF h (Zaa b) (Zaa b') (d16 V).length (d16 V).length (d16 W).length (d16 W).length=true:=by
 unfold ZtF Zaa;rw[ZN hb (by omega),zW hb,ZN hc (by omega),ZaF hc,show Zf5 (d16 W)=true from Zdg (ZdY (by omega) W),Zo.2 hl,Zo.2 hm,Zo.2 h0,Zo.2 h1];rfl
end
end Go.Proofs.YtjlponbdflkbjaaGreatDoor
namespace Go.Proofs.YtjlponbdflkbjaaGreatDoor
open Go.Proofs.Tryz
open Go.KRun Go.Nt Go.Wd Go.Rn
set_option maxRecDepth 100000
set_option linter.unusedVariables false
def Zo2 (h:Hp) (p:Option Addr) (n c:Nat) (E:Int):Bool:=zJ h p n c && Zf5 (Zq h p n) && Nat.blt n 20000 && decide (-4000000≤E∧E≤4000000)
def Z8t:Zad:=fun vals h s=>
 match vals with
 | [.agg cs,.int .i64 M]=>
  match cs.toList with
  | [.bool neg,.int .i64 E,.slice (some ⟨b,o,none⟩) n c]=>some (.tuple #[.int .u64 (sS neg (rnP M neg (vO h (some ⟨b,o,none⟩) n) E)),.int .i64 (rnF M neg (vO h (some ⟨b,o,none⟩) n) E)],h,s,[(Zo2 h (some ⟨b,o,none⟩) n c E,true)])
  | _=>none
 | _=>none
theorem ZyG:Z8 21 Z8t:=by
 intro vals h s v h' s' lg hg hl m B w E0 hv;unfold Z8t at hg;split at hg
 ·rename_i cs M;split at hg
  ·rename_i neg E b o n c hcs;have ecs:cs= #[.bool neg,.int .i64 E,sl b o n c]:=by
    have:=congrArg List.toArray hcs;simpa [sl] using this
   cases hg;have l3:=hl _ Xf;simp only[Zo2,Xh,Xi] at l3;obtain⟨⟨⟨q1,q2⟩,q3⟩,q4⟩:=l3;have q2:=Zef q2;have q3:=Zo.1 q3;rcases ZF q1 with ⟨h0,_⟩ | ⟨b',o',x,hp,hx,r1,rs,e0⟩
   ·cases h0
   ·cases hp;rw[e0] at q2;obtain⟨h1,h2,h3,h4,h5,h6,h7⟩:=zt r1;have ev:vO h (some ⟨b,o,none⟩) n=vb 65536 (Zx x.1 o n):=by unfold vO;rw[e0]
    have r:=Zjm (Zji r1 rs) q2 (by rw[h2];exact q3) (neg:=neg) q4 M;rw[h2,← ev] at r;have evals:List.map (rn fun _=>b) [vRN neg E (sl 0 o n c),.int .i64 M]=[.agg cs,.int .i64 M]:=by
     rw[ecs];simp [rn,rn2,rn1,vRN,sl]
    have fin:=ZB (T:=Zr prog Zf Ze2 hcQ) func21 ZhK (ZaK h7) (vals:=[vRN neg E (sl 0 o n c),.int .i64 M]) (fun v hv=>by
     simp only[List.mem_cons,List.not_mem_nil,or_false] at hv;rcases hv with h1 | h1<;>rw[h1]<;>rfl) (v:= .tuple #[.int .u64 (sS neg (rnP M neg (vO h (some ⟨b,o,none⟩) n) E)),.int .i64 (rnF M neg (vO h (some ⟨b,o,none⟩) n) E)]) (by rfl) r E0 (zH hx h5 h6 rfl)
    rw[evals] at fin;exact fin
  ·cases hg
 ·cases hg
def Z8u:Zad:=fun vals h s=>
 match vals,s with
 | [.agg cs,.int .i64 M],.inr (.inl T)::s'=>
  match cs.toList with
  | [.bool neg,.int .i64 E,.slice (some ⟨b,o,none⟩) n c]=>some (.tuple #[.int .u64 (sS neg (Go.Rn.rnP M neg T.toNat E)),.int .i64 (Go.Rn.rnF M neg T.toNat E)],h,s',[(decide (vO h (some ⟨b,o,none⟩) n=T.toNat),true),(Zo2 h (some ⟨b,o,none⟩) n c E,true)])
  | _=>none
 | _,_=>none
theorem ZyH:Z8 21 Z8u:=by
 intro vals h s v h' s' lg hg hl;unfold Z8u at hg;split at hg
 ·rename_i cs M T s2;split at hg
  ·rename_i neg E b o n c hcs;cases hg;obtain⟨l1,l2⟩:=Zey hl;have l1:=Xc l1;refine ZyG _ h [] _ _ [] _ ?_ l2;simp only[Z8t,hcs,l1]
  ·cases hg
 ·cases hg
end Go.Proofs.YtjlponbdflkbjaaGreatDoor
namespace Go.Proofs.YtjlponbdflkbjaaGreatDoor
open Go.Proofs.Tryz
open Go.IntKind
open Go.KRun Go.Nt Go.Rd
set_option maxRecDepth 100000
def ZeA:Hc:=zS 53 ZvO (zS 51 Z7P hcT)
theorem ZyI:HcOk ZeA:=Z1 func53 rfl ZqC (Z1 func51 rfl ZxK Z35)
theorem Zez:TabOk (Zr prog Zf ZG ZeA):=Zh Zcb ZyI
def Z36 (F:Func):List Code:=[sP F 0,sP F 1]
def dnL (F:Func):Code:=cIn (cIn (sP F 2))
theorem Zo3:f22.body=some (ZW (Z36 f22) (.seq (.block 0 (.loop (dnL f22))) (sK f22 3))):=by kernel_rfl
def tX (n:Bool) (b:Int) (D:List UInt8) (k P:Int):Value:= .agg #[.bool n,.int .i64 b,bR D,.int .i64 k,.int .i64 P]
def tC9 (n:Bool) (b:Int) (D:List UInt8) (k P:Int):List Value×TypeId:=([.bool n,.int .i64 b,bR D,.int .i64 k,.int .i64 P],57)
def nZ:List Value×TypeId:=([.bool false,.int .i64 0,Zp],65)
def dnM (n:Bool) (b:Int) (D:List UInt8) (k P:Int):Hp:=⟨2,[nZ,tC9 n b D k P]⟩
def dnF (n:Bool) (b:Int) (D:List UInt8) (k P:Int) (l:List UInt8):List Value:=[tX n b D k P,pO 0,pO 1,bR l]
def dnN (n:Bool) (b:Int) (D:List UInt8) (k P:Int) (Z:List Value×TypeId) (L:List Nat):Hp:=⟨2+L.length,(L.map w16).reverse++[Z,tC9 n b D k P]⟩
theorem Z37 (n:Bool) (b:Int) (D:List UInt8) (k P:Int):Zg (evL (Zr prog Zf ZG ZeA) 100 (Z36 f22) ([tX n b D k P]++List.replicate 107 undef,⟨0,[]⟩,[]) ⟨[],[],[]⟩) 4 104 none (dnF n b D k P D) (dnM n b D k P) []:=by and_intros<;>kernel_rfl
def upD (n:Bool) (b:Int) (D:List UInt8) (k P:Int) (A B:Nat):Int:=(if 0>(i64.wrap (i64.wrap (((bl (vO (dnN n b D k P nZ [A,B]) (Zaa 3) (d16 B).length):Nat):Int)-((bl (vO (dnN n b D k P nZ [A,B]) (Zaa 2) (d16 A).length):Nat):Int))+80)) then 0 else (i64.wrap (i64.wrap (((bl (vO (dnN n b D k P nZ [A,B]) (Zaa 3) (d16 B).length):Nat):Int)-((bl (vO (dnN n b D k P nZ [A,B]) (Zaa 2) (d16 A).length):Nat):Int))+80)))
theorem ZAe (n:Bool) (b:Int) (D:List UInt8) (k P:Int) (g:Nat→Value):Zg (evC (Zr prog Zf ZG ZeA) 100 false (dnL f22) (dnF n b D k P []++tl 104 g,dnM n b D k P,[cmp false]) ⟨[],[],[]⟩) 4 104 (some (some 0)) (dnF n b D k P []) (dnM n b D k P) [(false,false)]:=by and_intros<;>kernel_rfl
theorem ZAf (n:Bool) (b:Int) (D:List UInt8) (k P:Int) (c:UInt8) (l:List UInt8) (g:Nat→Value):Zg (evC (Zr prog Zf ZG ZeA) 100 false (dnL f22) (dnF n b D k P (c::l)++tl 104 g,dnM n b D k P,[cmp true,cmp false]) ⟨[],[],[]⟩) 4 104 (some (some 0)) (dnF n b D k P (c::l)) (dnM n b D k P) [(lq8 c==48,false),(decide ((0:Int)≤0∧0<(c::l).length),true),(decide ((((c::l).length:Nat):Int)>0),true)]:=by and_intros<;>kernel_rfl
theorem ZAg (n:Bool) (b:Int) (D:List UInt8) (k P:Int) (c:UInt8) (l:List UInt8) (g:Nat→Value):Zg (evC (Zr prog Zf ZG ZeA) 100 false (dnL f22) (dnF n b D k P (c::l)++tl 104 g,dnM n b D k P,[cmp true,cmp true,sam true]) ⟨[],[],[]⟩) 4 104 none (dnF n b D k P l) (dnM n b D k P) [(decide ((0:Int)≤1∧(1:Int)≤(((c::l).length:Nat):Int)),true),(lq8 c==48,true),(decide ((0:Int)≤0∧0<(c::l).length),true),(decide ((((c::l).length:Nat):Int)>0),true)]:=by and_intros<;>kernel_rfl
theorem ZAh (n:Bool) (b:Int) (D:List UInt8) (k P:Int) (l:List UInt8) (g:Nat→Value):Zg (evC (Zr prog Zf ZG ZeA) 200 false (sK f22 3) (dnF n b D k P l++tl 104 g,dnM n b D k P,[sam true]) ⟨[],[],[]⟩) 3 105 (some none) [tX n b D k P,pO 0,pO 1] ⟨2,[bOf n 0 Zp,tC9 n b D k P]⟩ [((⟨⟨l⟩⟩:ByteArray)==⟨⟨[]⟩⟩,true)]:=by and_intros<;>kernel_rfl
theorem ZAi (n:Bool) (b:Int) (D:List UInt8) (k P:Int) (l:List UInt8) (V:Nat) (g:Nat→Value):Zg (evC (Zr prog Zf ZG ZeA) 200 false (sK f22 3) (dnF n b D k P l++tl 104 g,dnM n b D k P,[sam false,cmp true,num V]) ⟨[],[],[]⟩) 3 105 (some none) [tX n b D k P,pO 0,pO 1] (dnN n b D k P (bOf n (i64.wrap (P-i64.wrap (4*k))) (sOf 2 V)) [V]) [(decide (nmB 16 l=V),true),(ZrR 16 l,true),(b==16,true),((⟨⟨l⟩⟩:ByteArray)==⟨⟨[]⟩⟩,false)]:=by and_intros<;>kernel_rfl
theorem ZAj (n:Bool) (b:Int) (D:List UInt8) (k P:Int) (l:List UInt8) (g:Nat→Value):Zg (evC (Zr prog Zf ZG ZeA) 200 false (sK f22 3) (dnF n b D k P l++tl 104 g,dnM n b D k P,[sam false,cmp false,cmp true]) ⟨[],[],[]⟩) 3 105 (some none) [tX n b D k P,pO 0,pO 1] (dnN n b D k P (bOf n 3000 (sOf 2 1)) [1]) [(true,true),(decide ((i64.wrap ((i64.wrap (P-k))+((l.length:Nat):Int)))>320),true),(b==16,false),((⟨⟨l⟩⟩:ByteArray)==⟨⟨[]⟩⟩,false)]:=by and_intros<;>kernel_rfl
theorem ZAk (n:Bool) (b:Int) (D:List UInt8) (k P:Int) (l:List UInt8) (g:Nat→Value):Zg (evC (Zr prog Zf ZG ZeA) 200 false (sK f22 3) (dnF n b D k P l++tl 104 g,dnM n b D k P,[sam false,cmp false,cmp false,cmp true]) ⟨[],[],[]⟩) 3 105 (some none) [tX n b D k P,pO 0,pO 1] (dnN n b D k P (bOf n (-3000) (sOf 2 1)) [1]) [(true,true),(decide ((i64.wrap ((i64.wrap (P-k))+((l.length:Nat):Int)))< -340),true),(decide ((i64.wrap ((i64.wrap (P-k))+((l.length:Nat):Int)))>320),false),(b==16,false),((⟨⟨l⟩⟩:ByteArray)==⟨⟨[]⟩⟩,false)]:=by and_intros<;>kernel_rfl
theorem ZAl (n:Bool) (b:Int) (D:List UInt8) (k P:Int) (l:List UInt8) (A B V:Nat) (g:Nat→Value):Zg (evC (Zr prog Zf ZG ZeA) 200 false (sK f22 3) (dnF n b D k P l++tl 104 g,dnM n b D k P,[sam false,cmp false,cmp false,cmp false,num A,cmp true,cmp true,num B,num V]) ⟨[],[],[]⟩) 3 105 (some none) [tX n b D k P,pO 0,pO 1] (dnN n b D k P (bOf n 0 (sOf 4 V)) [A,B,V]) [(decide ((vO (dnN n b D k P nZ [A,B]) (Zaa 2) (d16 A).length)*(vO (dnN n b D k P nZ [A,B]) (Zaa 3) (d16 B).length)=V),true),(ZsX (dnN n b D k P nZ [A,B]) (Zaa 2) (Zaa 3) (d16 A).length (d16 A).length (d16 B).length (d16 B).length,true),(decide ((10:Int).toNat^(i64.wrap (P-k)).toNat=B),true),(ZyV 10 (i64.wrap (P-k)),true),(decide ((10:Int)=0∧2≤(i64.wrap (P-k))),false),(decide ((i64.wrap (P-k))≥0),true),(decide (nmB 10 l=A),true),(ZrR 10 l,true),(decide ((i64.wrap ((i64.wrap (P-k))+((l.length:Nat):Int)))< -340),false),(decide ((i64.wrap ((i64.wrap (P-k))+((l.length:Nat):Int)))>320),false),(b==16,false),((⟨⟨l⟩⟩:ByteArray)==⟨⟨[]⟩⟩,false)]:=by and_intros<;>kernel_rfl
theorem ZAm (n:Bool) (b:Int) (D:List UInt8) (k P:Int) (l:List UInt8) (A B X Q R Y:Nat) (g:Nat→Value):Zg (evC (Zr prog Zf ZG ZeA) 200 false (sK f22 3) (dnF n b D k P l++tl 104 g,dnM n b D k P,[sam false,cmp false,cmp false,cmp false,num A,cmp false,cmp true,num B,cmp true,num X,num Q,num R,cmp true,num Y,cmp false]) ⟨[],[],[]⟩) 3 105 (some none) [tX n b D k P,pO 0,pO 1] (dnN n b D k P (bOf n (i64.wrap (i64.wrap (0-(upD n b D k P A B))-1)) (sOf 7 Y)) [A,B,X,Q,R,Y]) [(decide (((d16 R).length:Int)>0),false),(decide ((vO (dnN n b D k P nZ [A,B,X,Q,R]) (Zaa 5) (d16 Q).length)*2^(1:Int).toNat=Y),true),(Zso (dnN n b D k P nZ [A,B,X,Q,R]) (Zaa 5) (d16 Q).length (d16 Q).length 1,true),(decide (0<(d16 Q).length),true),(decide ((vO (dnN n b D k P nZ [A,B,X]) (Zaa 4) (d16 X).length)/(vO (dnN n b D k P nZ [A,B,X]) (Zaa 3) (d16 B).length)=Q∧(vO (dnN n b D k P nZ [A,B,X]) (Zaa 4) (d16 X).length) % (vO (dnN n b D k P nZ [A,B,X]) (Zaa 3) (d16 B).length)=R),true),(ZtF (dnN n b D k P nZ [A,B,X]) (Zaa 4) (Zaa 3) (d16 X).length (d16 X).length (d16 B).length (d16 B).length,true),(decide ((vO (dnN n b D k P nZ [A,B]) (Zaa 2) (d16 A).length)*2^(upD n b D k P A B).toNat=X),true),(Zso (dnN n b D k P nZ [A,B]) (Zaa 2) (d16 A).length (d16 A).length (upD n b D k P A B),true),(decide (0<(d16 A).length),true),(zJ (dnN n b D k P nZ [A,B]) (Zaa 2) (d16 A).length (d16 A).length && Zf5 (Zq (dnN n b D k P nZ [A,B]) (Zaa 2) (d16 A).length) && Nat.blt (d16 A).length 1073741824,true),(zJ (dnN n b D k P nZ [A,B]) (Zaa 3) (d16 B).length (d16 B).length && Zf5 (Zq (dnN n b D k P nZ [A,B]) (Zaa 3) (d16 B).length) && Nat.blt (d16 B).length 1073741824,true),(decide ((10:Int).toNat^(i64.wrap (0-(i64.wrap (P-k)))).toNat=B),true),(ZyV 10 (i64.wrap (0-(i64.wrap (P-k)))),true),(decide ((10:Int)=0∧2≤(i64.wrap (0-(i64.wrap (P-k))))),false),(decide ((i64.wrap (P-k))≥0),false),(decide (nmB 10 l=A),true),(ZrR 10 l,true),(decide ((i64.wrap ((i64.wrap (P-k))+((l.length:Nat):Int)))< -340),false),(decide ((i64.wrap ((i64.wrap (P-k))+((l.length:Nat):Int)))>320),false),(b==16,false),((⟨⟨l⟩⟩:ByteArray)==⟨⟨[]⟩⟩,false)]:=by and_intros<;>kernel_rfl
theorem ZAn (n:Bool) (b:Int) (D:List UInt8) (k P:Int) (l:List UInt8) (A B X Q R Y V:Nat) (g:Nat→Value):Zg (evC (Zr prog Zf ZG ZeA) 200 false (sK f22 3) (dnF n b D k P l++tl 104 g,dnM n b D k P,[sam false,cmp false,cmp false,cmp false,num A,cmp false,cmp true,num B,cmp true,num X,num Q,num R,cmp true,num Y,cmp true,cmp true,num V]) ⟨[],[],[]⟩) 3 105 (some none) [tX n b D k P,pO 0,pO 1] (dnN n b D k P (bOf n (i64.wrap (i64.wrap (0-(upD n b D k P A B))-1)) (sOf 9 V)) [A,B,X,Q,R,Y,1,V]) [(decide ((vO (dnN n b D k P nZ [A,B,X,Q,R,Y,1]) (Zaa 7) (d16 Y).length)+(vO (dnN n b D k P nZ [A,B,X,Q,R,Y,1]) (Zaa 8) (d16 1).length)=V),true),(ZT (dnN n b D k P nZ [A,B,X,Q,R,Y,1]) (Zaa 7) (Zaa 8) (d16 Y).length (d16 Y).length (d16 1).length (d16 1).length,true),(decide (0<(d16 Y).length∨0<(d16 1).length),true),(true,true),(decide (((d16 R).length:Int)>0),true),(decide ((vO (dnN n b D k P nZ [A,B,X,Q,R]) (Zaa 5) (d16 Q).length)*2^(1:Int).toNat=Y),true),(Zso (dnN n b D k P nZ [A,B,X,Q,R]) (Zaa 5) (d16 Q).length (d16 Q).length 1,true),(decide (0<(d16 Q).length),true),(decide ((vO (dnN n b D k P nZ [A,B,X]) (Zaa 4) (d16 X).length)/(vO (dnN n b D k P nZ [A,B,X]) (Zaa 3) (d16 B).length)=Q∧(vO (dnN n b D k P nZ [A,B,X]) (Zaa 4) (d16 X).length) % (vO (dnN n b D k P nZ [A,B,X]) (Zaa 3) (d16 B).length)=R),true),(ZtF (dnN n b D k P nZ [A,B,X]) (Zaa 4) (Zaa 3) (d16 X).length (d16 X).length (d16 B).length (d16 B).length,true),(decide ((vO (dnN n b D k P nZ [A,B]) (Zaa 2) (d16 A).length)*2^(upD n b D k P A B).toNat=X),true),(Zso (dnN n b D k P nZ [A,B]) (Zaa 2) (d16 A).length (d16 A).length (upD n b D k P A B),true),(decide (0<(d16 A).length),true),(zJ (dnN n b D k P nZ [A,B]) (Zaa 2) (d16 A).length (d16 A).length && Zf5 (Zq (dnN n b D k P nZ [A,B]) (Zaa 2) (d16 A).length) && Nat.blt (d16 A).length 1073741824,true),(zJ (dnN n b D k P nZ [A,B]) (Zaa 3) (d16 B).length (d16 B).length && Zf5 (Zq (dnN n b D k P nZ [A,B]) (Zaa 3) (d16 B).length) && Nat.blt (d16 B).length 1073741824,true),(decide ((10:Int).toNat^(i64.wrap (0-(i64.wrap (P-k)))).toNat=B),true),(ZyV 10 (i64.wrap (0-(i64.wrap (P-k)))),true),(decide ((10:Int)=0∧2≤(i64.wrap (0-(i64.wrap (P-k))))),false),(decide ((i64.wrap (P-k))≥0),false),(decide (nmB 10 l=A),true),(ZrR 10 l,true),(decide ((i64.wrap ((i64.wrap (P-k))+((l.length:Nat):Int)))< -340),false),(decide ((i64.wrap ((i64.wrap (P-k))+((l.length:Nat):Int)))>320),false),(b==16,false),((⟨⟨l⟩⟩:ByteArray)==⟨⟨[]⟩⟩,false)]:=by and_intros<;>kernel_rfl
end Go.Proofs.YtjlponbdflkbjaaGreatDoor
namespace Go.Proofs.YtjlponbdflkbjaaGreatDoor
open Go.Proofs.Tryz
open Go.IntKind
open Go.KRun Go.Nt Go.Rd Go.Rn
set_option maxRecDepth 100000
def dnS (n:Bool) (b:Int) (D:List UInt8) (k P:Int) (l:List UInt8) (y:Lf):Prop:=trZ l=trZ D∧∃ g,y.1=dnF n b D k P l++tl 104 g∧y.2.1=dnM n b D k P
theorem Zst {n:Bool}{b:Int}{D:List UInt8}{k P:Int}(r:Nat) (y:Lf) (h:∃ l,r=l.length∧dnS n b D k P l y):
  RunsW (Zr prog Zf ZG ZeA) (dnL f22) y fun e z=>match e with | none=>∃ r',r'<r∧∃ l,r'=l.length∧dnS n b D k P l z | some none=>False | some (some id')=>id'=0∧dnS n b D k P (trZ D) z:=by
 obtain⟨l,hr,hz,g,ht,hh⟩:=h;obtain⟨t,h',sc⟩:=y;simp only at ht hh;subst ht hh;cases l with
 | nil=>
  refine (Ze (s0:=sc) Zez (ZAe n b D k P g) (Z4 rfl)).mono fun e z he=> ?_;obtain⟨rfl,⟨g',z1⟩,z2⟩:=he;have e0:trZ D=[]:=hz.symm;rw[e0];exact⟨rfl,e0.symm ▸ rfl,g',z1,z2⟩
 | cons c l=>
  have l0:decide ((((c::l).length:Nat):Int)>0)=true:=Xa (by rw[List.length_cons];omega);have l1:decide ((0:Int)≤0∧0<(c::l).length)=true:=Xa ⟨by omega,by rw[List.length_cons];omega⟩;by_cases hc:lq8 c=48
  ·refine (Ze (s0:=sc) Zez (ZAg n b D k P c l g) (Za (Xa ⟨by omega,by rw[List.length_cons];omega⟩) (Za (zv hc) (Za l1 (Z4 l0))))).mono fun e z he=> ?_;obtain⟨rfl,⟨g',z1⟩,z2⟩:=he;rw[ZcE,if_pos hc] at hz;exact⟨l.length,by rw[hr,List.length_cons];omega,l,rfl,hz,g',z1,z2⟩
  ·refine (Ze (s0:=sc) Zez (ZAf n b D k P c l g) (Za (zw hc) (Za l1 (Z4 l0)))).mono fun e z he=> ?_;obtain⟨rfl,⟨g',z1⟩,z2⟩:=he;have e0:trZ D=c::l:=by rw[← hz,ZcE,if_neg hc]
   rw[e0];refine⟨rfl,?_,g',z1,z2⟩;rw[e0,ZcE,if_neg hc]
def ZyJ (b:Int) (D:List UInt8) (k P:Int):Bool:=decide ((b=10∨b=16)∧D.length≤10000∧(0≤k∧k≤10000)∧ -2000000≤P∧P≤2000000) && zf b D
def dnZ (n:Bool) (V:Nat) (E:Int) (e:Ex) (z:Lf):Prop:=(e=none∨e=some none)∧∃ j,ZV prog f22 z.1 z.2.1=some (vRN n E (sOf j V))∧∃ r,z.2.1.blk? j=some (wU (d16 V)++r,tU)
theorem ZcN {A j:Nat}(h:A<2^j):(d16 A).length≤j/16+1:=Zem (Nat.lt_of_lt_of_le h (Nat.pow_le_pow_right (by omega) (by omega)))
theorem Za6 {A:Nat}(h:0<A):0<(d16 A).length:=ZyB.2 h
theorem Z38 {h:Hp}{b V:Nat}(hb:h.blk? b=some (wU (d16 V),tU)) (hl:(d16 V).length<100000):(zJ h (Zaa b) (d16 V).length (d16 V).length && Zf5 (Zq h (Zaa b) (d16 V).length) && Nat.blt (d16 V).length 1073741824)=true:=by
 unfold Zaa;rw[ZN hb (by omega),ZaF hb,show Zf5 (d16 V)=true from Zdg (ZdY (by omega) _),Zo.2 (by omega)];rfl
theorem Z8F {h:Hp}{b V:Nat}{i:Int}(hb:h.blk? b=some (wU (d16 V),tU)) (hl:(d16 V).length<100000) (h0:0≤i) (h1:i<100000):Zso h (Zaa b) (d16 V).length (d16 V).length i=true:=by
 unfold Zso Zaa;rw[ZN hb (by omega),zW hb,Zo.2 (by omega),Xa h0];rfl
theorem ZyK {n:Bool}{b:Int}{D:List UInt8}{k P:Int}{c:UInt8}{l:List UInt8}(hb:b=10∨b=16) (hD:(c::l).length≤10000) (hk:0≤k∧k≤10000) (hP: -2000000≤P∧P≤2000000) (hA:zf b (c::l)=true) (hc:0<ZO (lq8 c) b) (g:Nat→Value) (s:List Dec):
  RunsW (Zr prog Zf ZG ZeA) (sK f22 3) (dnF n b D k P (c::l)++tl 104 g,dnM n b D k P,s) (dnZ n (dnA b (c::l) k P).1 (dnA b (c::l) k P).2):=by
 have hE:((⟨⟨c::l⟩⟩:ByteArray)==⟨⟨[]⟩⟩)=false:=by rw[ZcI];exact Xb (by simp)
 have hby:byR (c::l) 0=lq8 c:=rfl;have hok:ZrR b (c::l)=true:=by
  unfold ZrR;rw[hA,hby,Xa hc,Xa ⟨hb,by omega⟩];rfl
 have hnp:=Zbs hb (r:=l) hc;have hnb:=Zeo hb (c::l);unfold dnA;by_cases h16:b=16
 ·rw[if_pos h16];subst h16;have hg:=ZAi n 16 D k P (c::l) (nmB 16 (c::l)) g;rw[Zw (n:=4*k) (by omega) (by omega),Zw (by omega) (by omega)] at hg;refine (Ze (s0:=s) Zez hg (Za (Xa rfl) (Za hok (Za (by decide) (Z4 hE))))).mono fun e z he=> ?_;obtain⟨rfl,⟨g',z1⟩,z2⟩:=he;exact⟨.inr rfl,2,by rw[z1,z2];rfl,[],by rw[z2,List.append_nil];rfl⟩
 rw[if_neg h16];have h10:b=10:=by omega
 subst h10;have k16:((10:Int)==16)=false:=by decide
 obtain⟨L,hL⟩:∃ L,L=(c::l).length:=⟨_,rfl⟩;have ePl:i64.wrap (P-k)=P-k:=Zw (by omega) (by omega);have eSm:i64.wrap (P-k+((L:Nat):Int))=P-k+((L:Nat):Int):=Zw (by omega) (by omega);by_cases ho:320<P-k+(((c::l).length:Nat):Int)
 ·rw[if_pos ho];have hg:=ZAj n 10 D k P (c::l) g;rw[ePl,← hL,eSm] at hg;rw[← hL] at ho;refine (Ze (s0:=s) Zez hg (Za rfl (Za (Xa (by omega)) (Za k16 (Z4 hE))))).mono fun e z he=> ?_;obtain⟨rfl,⟨g',z1⟩,z2⟩:=he;exact⟨.inr rfl,2,by rw[z1,z2];rfl,[],by rw[z2,List.append_nil];rfl⟩
 rw[if_neg ho];by_cases hu:P-k+(((c::l).length:Nat):Int)< -340
 ·rw[if_pos hu];have hg:=ZAk n 10 D k P (c::l) g;rw[ePl,← hL,eSm] at hg;rw[← hL] at ho hu;refine (Ze (s0:=s) Zez hg (Za rfl (Za (Xa (by omega)) (Za (Xb (by omega)) (Za k16 (Z4 hE)))))).mono fun e z he=> ?_;obtain⟨rfl,⟨g',z1⟩,z2⟩:=he;exact⟨.inr rfl,2,by rw[z1,z2];rfl,[],by rw[z2,List.append_nil];rfl⟩
 rw[if_neg hu];rw[← hL] at ho hu hnb hD;obtain⟨A,hAA⟩:∃ A,A=nmB 10 (c::l):=⟨_,rfl⟩;rw[← hAA] at hnp hnb ⊢;have lA:=ZcN hnb;have b2:Z3 [(decide (nmB 10 (c::l)=A),true),(ZrR 10 (c::l),true),(decide (P-k+((L:Nat):Int)< -340),false),(decide (P-k+((L:Nat):Int)>320),false),((10:Int)==16,false),((⟨⟨c::l⟩⟩:ByteArray)==⟨⟨[]⟩⟩,false)]:=Za (Xa hAA.symm) (Za hok (Za (Xb hu) (Za (Xb (by omega)) (Za k16 (Z4 hE)))));by_cases hp:0≤P-k
 ·rw[if_pos hp];obtain⟨B,hB⟩:∃ B,B=10^(P-k).toNat:=⟨_,rfl⟩;rw[← hB];have tb:=ZdD (P-k).toNat;rw[← hB] at tb;have lB:=ZcN tb;have hg:=ZAl n 10 D k P (c::l) A B (A*B) g;rw[ePl,← hL,eSm] at hg;refine (Ze (s0:=s) Zez hg (Za (Xa (by rw[Ze9 (V:=A) rfl,Ze9 (V:=B) rfl])) (Za (oMu (V:=A) (W:=B) rfl rfl (by omega) (by omega)) (Za (Xa hB.symm) (Za (Xa ⟨by omega,by omega,by omega,by omega⟩) (Za (Xb (by omega)) (Za (Xa hp) b2))))))).mono fun e z he=> ?_;obtain⟨rfl,⟨g',z1⟩,z2⟩:=he;exact⟨.inr rfl,4,by rw[z1,z2];rfl,[],by rw[z2,List.append_nil];rfl⟩
 rw[if_neg hp];obtain⟨B,hB⟩:∃ B,B=10^(k-P).toNat:=⟨_,rfl⟩;rw[← hB];have tb:=ZdD (k-P).toNat;have B0:0<B:=by rw[hB];exact Nat.pow_pos (by omega)
 rw[← hB] at tb;have lB:=ZcN tb;have eNp:i64.wrap (0-(P-k))=k-P:=by rw[Zw (by omega) (by omega)];omega
 have vA:vO (dnN n 10 D k P nZ [A,B]) (Zaa 2) (d16 A).length=A:=Ze9 (V:=A) rfl;have vB:vO (dnN n 10 D k P nZ [A,B]) (Zaa 3) (d16 B).length=B:=Ze9 (V:=B) rfl;have bA:=len_le hnb;have bB:=len_le tb;have eU:upD n 10 D k P A B=((upN A B:Nat):Int):=by
  unfold upD;rw[vA,vB,ZbK,ZbK,Zw (n:=((bitLen B:Nat):Int)-((bitLen A:Nat):Int)) (by omega) (by omega),Zw (by omega) (by omega)];unfold upN;split<;>omega
 have hu1:upN A B≤41600:=by unfold upN;omega
 have hbig:=Ztj (A:=A) (B:=B) (by omega);obtain⟨X,hX⟩:∃ X,X=A*2^upN A B:=⟨_,rfl⟩;have hXb:X<2^(4*L+upN A B):=by rw[hX,Nat.pow_add];exact Nat.mul_lt_mul_of_pos_right hnb (Nat.pow_pos (by omega))
 have lX:=ZcN hXb;have X0:0<X:=by rw[hX];exact Nat.mul_pos hnp (Nat.pow_pos (by omega))
 rw[← hX] at hbig;have hQX:X/B≤X:=Nat.div_le_self _ _;have hQ0:0<X/B:=Nat.div_pos (Nat.le_trans (Nat.le_mul_of_pos_left B (by decide)) hbig) B0;have hRX:X % B≤X:=Nat.mod_le _ _;have lQ:=ZcN (Nat.lt_of_le_of_lt hQX hXb);have lR:=ZcN (Nat.lt_of_le_of_lt hRX hXb);have hYb:X/B*2+1<2^(4*L+upN A B+2):=by rw[Nat.pow_add];omega
 have lY:=ZcN (Nat.lt_of_le_of_lt (show X/B*2≤X/B*2+1 by omega) hYb);have lV:=ZcN hYb;obtain⟨Q,hQ⟩:∃ Q,Q=X/B:=⟨_,rfl⟩;obtain⟨R,hR⟩:∃ R,R=X % B:=⟨_,rfl⟩;rw[← hQ] at hQ0 lQ lY lV;rw[← hR] at lR;have eV:dvK A B (upN A B)=2*Q+(if R=0 then 0 else 1):=by unfold dvK;rw[← hX,← hQ,← hR]
 have eE:i64.wrap (i64.wrap (0-((upN A B:Nat):Int))-1)= -((upN A B:Nat):Int)-1:=by
  rw[Zw (n:=0-((upN A B:Nat):Int)) (by omega) (by omega),Zw (by omega) (by omega)];omega
 have ln2:=Z38 (h:=dnN n 10 D k P nZ [A,B]) (b:=2) (V:=A) rfl (by omega);have ln3:=Z38 (h:=dnN n 10 D k P nZ [A,B]) (b:=3) (V:=B) rfl (by omega);have mid:=Za (Xa (show vO (dnN n 10 D k P nZ [A,B,X,Q,R]) (Zaa 5) (d16 Q).length*2^(1:Int).toNat=Q*2 by rw[Ze9 (V:=Q) rfl];rfl)) (Za (Z8F (h:=dnN n 10 D k P nZ [A,B,X,Q,R]) (b:=5) (V:=Q) (i:=1) rfl (by omega) (by omega) (by omega)) (Za (Xa (Za6 hQ0)) (Za (Xa (show vO (dnN n 10 D k P nZ [A,B,X]) (Zaa 4) (d16 X).length/vO (dnN n 10 D k P nZ [A,B,X]) (Zaa 3) (d16 B).length=Q∧vO (dnN n 10 D k P nZ [A,B,X]) (Zaa 4) (d16 X).length % vO (dnN n 10 D k P nZ [A,B,X]) (Zaa 3) (d16 B).length=R by rw[Ze9 (V:=X) rfl,Ze9 (V:=B) rfl];exact⟨hQ.symm,hR.symm⟩)) (Za (oPa (h:=dnN n 10 D k P nZ [A,B,X]) (b:=4) (b':=3) (V:=X) (W:=B) rfl rfl (by omega) (by omega) (Za6 X0) (Za6 B0)) (Za (Xa (show vO (dnN n 10 D k P nZ [A,B]) (Zaa 2) (d16 A).length*2^(((upN A B:Nat):Int)).toNat=X by rw[vA,Xg,hX])) (Za (Z8F (h:=dnN n 10 D k P nZ [A,B]) (b:=2) (V:=A) (i:=((upN A B:Nat):Int)) rfl (by omega) (by omega) (by omega)) (Za (Xa (Za6 hnp)) (Za ln2 (Za ln3 (Za (Xa (show (10:Int).toNat^(k-P).toNat=B from hB.symm)) (Za (show ZyV 10 (k-P)=true from Xa ⟨by omega,by omega,by omega,by omega⟩) (Za (Xb (show ¬ ((10:Int)=0∧2≤k-P) by omega)) (Za (Xb (show ¬ P-k≥0 by omega)) b2)))))))))))));by_cases hR0:R=0
 ·have hg:=ZAm n 10 D k P (c::l) A B X Q R (Q*2) g;rw[eU,eE,ePl,eNp,← hL,eSm] at hg;rw[eV,if_pos hR0,show 2*Q+0=Q*2 by omega];refine (Ze (s0:=s) Zez hg (Za (Xb (by rw[hR0,Zvn];simp)) mid)).mono fun e z he=> ?_;obtain⟨rfl,⟨g',z1⟩,z2⟩:=he;exact⟨.inr rfl,7,by rw[z1,z2];rfl,[],by rw[z2,List.append_nil];rfl⟩
 ·have hg:=ZAn n 10 D k P (c::l) A B X Q R (Q*2) (Q*2+1) g;rw[eU,eE,ePl,eNp,← hL,eSm] at hg;rw[eV,if_neg hR0,show 2*Q+1=Q*2+1 by omega];have l1:=ZcN (A:=1) (j:=1) (by decide);refine (Ze (s0:=s) Zez hg (Za (Xa (by rw[Ze9 (V:=Q*2) rfl,Ze9 (V:=1) rfl])) (Za (ZAd (V:=Q*2) (W:=1) rfl rfl (by omega) (by omega)) (Za (Xa (.inl (Za6 (by omega)))) (Za rfl (Za (Xa (by have:=Za6 (A:=R) (by omega);omega)) mid)))))).mono fun e z he=> ?_;obtain⟨rfl,⟨g',z1⟩,z2⟩:=he;exact⟨.inr rfl,9,by rw[z1,z2];rfl,[],by rw[z2,List.append_nil];rfl⟩
end Go.Proofs.YtjlponbdflkbjaaGreatDoor
namespace Go.Proofs.YtjlponbdflkbjaaGreatDoor
open Go.Proofs.Tryz
open Go.KRun Go.Nt Go.Rd Go.Rn
set_option maxRecDepth 100000
theorem Zo4 {n:Bool}{b:Int}{D:List UInt8}{k P:Int}{Q:Ex→Lf→Prop}(h:∀ g s,RunsW (Zr prog Zf ZG ZeA) (sK f22 3) (dnF n b D k P (trZ D)++tl 104 g,dnM n b D k P,s) Q):RunsW (Zr prog Zf ZG ZeA) (ZW (Z36 f22) (.seq (.block 0 (.loop (dnL f22))) (sK f22 3))) ([tX n b D k P]++List.replicate 107 undef,⟨0,[]⟩,[]) Q:=by
 refine Z0 Zez (Z37 n b D k P) ZaI fun g=> ?_;refine RunsW.seq (P1:=fun e y=>match e with | none=>dnS n b D k P (trZ D) y | some none=>False | some (some _)=>False) (RunsW.forLoop (R:=fun _=>False) (P:=dnS n b D k P (trZ D)) (fun r y=>∃ l,r=l.length∧dnS n b D k P l y) Zst (n:=D.length) ⟨D,rfl,rfl,g,rfl,rfl⟩) ?_ (fun e y he=>by match e,he with | none,he=>exact he.elim | some _,he=>exact he.elim);rintro⟨t,hh,sc⟩ ⟨_,g',e1,e2⟩;simp only at e1 e2;subst e1 e2;exact h g' sc
def gDn:Zad:=fun vals h s=>
 match vals,s with
 | [.agg cs],.inr (.inr (.inr (.inl true)))::s'=>
  match cs.toList with
  | [.bool n,.int .i64 b,.string ⟨⟨D⟩⟩,.int .i64 k,.int .i64 P]=>some (vRN n 0 Zp,h,s',[(decide (trZ D=[]),true),(ZyJ b D k P,true)])
  | _=>none
 | [.agg cs],.inr (.inr (.inr (.inl false))):: .inr (.inl V):: .inr (.inl E)::s'=>
  match cs.toList with
  | [.bool n,.int .i64 b,.string ⟨⟨D⟩⟩,.int .i64 k,.int .i64 P]=>some (vRN n E (sOf h.n V.toNat),h.push (wU (d16 V.toNat)) tU,s',[(decide (dnA b (trZ D) k P=(V.toNat,E)),true),(decide (trZ D=[]),false),(ZyJ b D k P,true)])
  | _=>none
 | _,_=>none
theorem Z39:Z8 22 gDn:=by
 intro vals h s v h' s' lg hg hl m B w E0 hv;unfold gDn at hg;split at hg
 ·rename_i cs s2;split at hg
  ·rename_i n b D k P hcs;have ecs:cs= #[.bool n,.int .i64 b,bR D,.int .i64 k,.int .i64 P]:=by
    have:=congrArg List.toArray hcs;simpa [bR] using this
   cases hg;rw[ZcQ,ZcQ] at hl;obtain⟨l1,_,_⟩:=hl;have l1:trZ D=[]:=Xc l1;rw[ecs];have r:RunsW (Zr prog Zf ZG ZeA) (ZW (Z36 f22) (.seq (.block 0 (.loop (dnL f22))) (sK f22 3))) ([tX n b D k P]++List.replicate 107 undef,⟨0,[]⟩,[]) fun e z=>(e=none∨e=some none)∧ZV prog f22 z.1 z.2.1=some (vRN n 0 Zp):=Zo4 fun g s=>by
    rw[l1];refine (Ze (s0:=s) Zez (ZAh n b D k P [] g) (Z4 (by rw[ZcI];rfl))).mono fun e z he=> ?_;obtain⟨rfl,⟨g',z1⟩,z2⟩:=he;exact⟨.inr rfl,by rw[z1,z2];rfl⟩
   have evals:List.map (rn fun i=>i) [tX n b D k P]=[.agg #[.bool n,.int .i64 b,bR D,.int .i64 k,.int .i64 P]]:=by simp [rn,rn2,rn1,tX,bR]
   have fin:=ZB (T:=(Zr prog Zf ZG ZeA)) func22 Zo3 (h0:=⟨0,[]⟩) ⟨rfl,fun b x hx=>by have:b<0:=Hp.blk_lt hx;omega⟩ (vals:=[tX n b D k P]) (fun v hv=>by rw[List.mem_singleton.1 hv];rfl) (v:=vRN n 0 Zp) (by rfl) r E0 (s:=fun i=>i) (fun i x hx=>by have:i<0:=Hp.blk_lt hx;omega);rw[evals] at fin;exact fin
  ·cases hg
 ·rename_i cs V E s2;split at hg
  ·rename_i n b D k P hcs;have ecs:cs= #[.bool n,.int .i64 b,bR D,.int .i64 k,.int .i64 P]:=by
    have:=congrArg List.toArray hcs;simpa [bR] using this
   cases hg;rw[ZcQ,ZcQ,ZcQ] at hl;obtain⟨l0,l1,l2,_⟩:=hl;have l0:dnA b (trZ D) k P=(V.toNat,E):=Xc l0;have l1:¬ trZ D=[]:=of_decide_eq_false l1;unfold ZyJ at l2;simp only[Xh,Xi] at l2;obtain⟨⟨q1,q2,q3,q4⟩,q5⟩:=l2;obtain⟨c,l,hcl⟩:∃ c l,trZ D=c::l:=by
    cases h3:trZ D with
    | nil=>exact absurd h3 l1
    | cons c l=>exact⟨c,l,rfl⟩
   have r:RunsW (Zr prog Zf ZG ZeA) (ZW (Z36 f22) (.seq (.block 0 (.loop (dnL f22))) (sK f22 3))) ([tX n b D k P]++List.replicate 107 undef,⟨0,[]⟩,[]) (dnZ n V.toNat E):=Zo4 fun g s=>by
    have ht:=Zdj D;have:=ZyK (n:=n) (b:=b) (D:=D) (k:=k) (P:=P) (c:=c) (l:=l) q1 (by rw[← hcl];omega) q3 q4 (by rw[← hcl];exact ZcD q5) (ZaQ q5 hcl) g s;rw[← hcl,l0] at this;exact this
   rw[ecs];have evals:List.map (rn fun i=>i) [tX n b D k P]=[.agg #[.bool n,.int .i64 b,bR D,.int .i64 k,.int .i64 P]]:=by simp [rn,rn2,rn1,tX,bR]
   have fin:=ZcW (T:=(Zr prog Zf ZG ZeA)) func22 Zo3 (h0:=⟨0,[]⟩) ⟨rfl,fun b x hx=>by have:b<0:=Hp.blk_lt hx;omega⟩ (vals:=[tX n b D k P]) (fun v hv=>by rw[List.mem_singleton.1 hv];rfl) (v:=fun j=>vRN n E (sOf j V.toNat)) (Zbb _) (by kernel_rfl) r (fun k=>by simp [oc,oc2,oc1,sOf,sl,vRN]) E0 (s:=fun i=>i) (fun i x hx=>by have:i<0:=Hp.blk_lt hx;omega) (fun k=>by simp [rn,rn2,rn1,sOf,sl,vRN]);rw[evals] at fin;exact fin
  ·cases hg
 ·cases hg
end Go.Proofs.YtjlponbdflkbjaaGreatDoor
namespace Go.Proofs.YtjlponbdflkbjaaGreatDoor
open Go.Proofs.Tryz
open Go.KRun Go.Nt Go.Wd Go.Rn Go.Pt
set_option maxRecDepth 100000
set_option linter.unusedVariables false
def r0V (neg:Bool):Value:= .tuple #[.int .u64 (sS neg 0),.int .i64 0]
theorem r0a (neg:Bool) (E M:Int):Z7 (Zm (Zk prog Zf Zn true) 200 21 [vRN neg E Zp,.int .i64 M] [cmp true,cmp true]) (r0V neg) [(((0:Nat):Int)==0,true),(decide (M<0),true)]:=by
 cases neg<;>exact by and_intros<;>kernel_rfl
theorem r0b (neg:Bool) (E M:Int):Z7 (Zm (Zk prog Zf Zn true) 200 21 [vRN neg E Zp,.int .i64 M] [cmp false,cmp true,cmp true]) (r0V neg) [(((0:Nat):Int)==0,true),(decide (M>4),true),(decide (M<0),false)]:=by
 cases neg<;>exact by and_intros<;>kernel_rfl
theorem r0c (neg:Bool) (E M:Int):Z7 (Zm (Zk prog Zf Zn true) 200 21 [vRN neg E Zp,.int .i64 M] [cmp false,cmp false,cmp true]) (r0V neg) [(((0:Nat):Int)==0,true),(decide (M>4),false),(decide (M<0),false)]:=by
 cases neg<;>exact by and_intros<;>kernel_rfl
def gR0:Ans:=fun vals s=>
 match vals with
 | [.agg cs,.int .i64 M]=>
  match cs.toList with
  | [.bool neg,.int .i64 E,.slice none 0 0]=>some (r0V neg,s,[])
  | _=>none
 | _=>none
theorem Z3A:ZR 21 gR0:=by
 intro vals s v s' lg h hl w;unfold gR0 at h;split at h
 ·rename_i cs M;split at h
  ·rename_i neg E hcs;have ecs:cs= #[.bool neg,.int .i64 E,Zp]:=by
    have:=congrArg List.toArray hcs;simpa [Zp] using this
   cases h;rw[ecs];by_cases h0:M<0
   ·exact Zc (Zj Zd) (r0a neg E M) (Za rfl (Z4 (Xa h0))) (by rfl) (by rfl) w
   ·by_cases h4:M>4
    ·exact Zc (Zj Zd) (r0b neg E M) (Za rfl (Za (Xa h4) (Z4 (Xb h0)))) (by rfl) (by rfl) w
    ·exact Zc (Zj Zd) (r0c neg E M) (Za rfl (Za (Xb h4) (Z4 (Xb h0)))) (by rfl) (by rfl) w
  ·cases h
 ·cases h
end Go.Proofs.YtjlponbdflkbjaaGreatDoor
namespace Go.Proofs.YtjlponbdflkbjaaGreatDoor
open Go.Proofs.Tryz
open Go.KRun Go.Nt Go.Rd Go.Rn
set_option maxRecDepth 100000
def z6:Con:=alt 20 Z7W (alt 21 gR0 Zn)
theorem ZdG:ConOk z6:=Z9 func20 rfl ZxL (Z9 func21 rfl Z3A Zd)
def Zb3:Hc:=zS 22 gDn (zS 21 Z8u hcN)
theorem ZfX:HcOk Zb3:=Z1 func22 rfl Z39 (Z1 func21 rfl ZyH Zam)
def lN1 (l:List UInt8) (k:Int) (d:Bool):Bool×Bool:=(decide (((l.length:Nat):Int)>k),d)
def lX0 (l:List UInt8):Bool×Bool:=(decide ((0:Int)≤0∧0<l.length),true)
def lCh (c:UInt8) (k:Int) (d:Bool):Bool×Bool:=(lq8 c==k,d)
def lPt (l:List UInt8) (k:Int):Bool×Bool:=(decide ((0:Int)≤k∧k≤((l.length:Nat):Int)),true)
def lIs (u w:List UInt8) (d:Bool):Bool×Bool:=((⟨⟨u⟩⟩:ByteArray)==⟨⟨w⟩⟩,d)
def lSm (c:UInt8) (r:List UInt8):Log:=[lPt (c::r) 1,lCh c 45 true,lX0 (c::r),lN1 (c::r) 0 true,lCh c 45 true,lX0 (c::r),lN1 (c::r) 0 true,lN1 (c::r) 65536 false]
def lSp (c:UInt8) (r:List UInt8):Log:=[lPt (c::r) 1,lCh c 43 true,lX0 (c::r),lCh c 45 false,lX0 (c::r),lN1 (c::r) 0 true,lCh c 45 false,lX0 (c::r),lN1 (c::r) 0 true,lN1 (c::r) 65536 false]
def Zkx (c:UInt8) (r:List UInt8):Log:=[lCh c 43 false,lX0 (c::r),lCh c 45 false,lX0 (c::r),lN1 (c::r) 0 true,lCh c 45 false,lX0 (c::r),lN1 (c::r) 0 true,lN1 (c::r) 65536 false]
def lSe:Log:=[lN1 [] 0 false,lN1 [] 0 false,lN1 [] 65536 false]
def lBn (u:List UInt8) (l:Log):Log:=lIs u [105,110,102] false::lIs u [110,97,110] false::l
def Zsu (u:List UInt8) (l:Log):Log:=lPt u 2::lIs (u.take 2) [48,120] true::lPt u 2::lN1 u 1 true::lBn u l
def lBa (u:List UInt8) (l:Log):Log:=lIs (u.take 2) [48,120] false::lPt u 2::lN1 u 1 true::lBn u l
def lBb (u:List UInt8) (l:Log):Log:=lN1 u 1 false::lBn u l
def lSc (b:Int) (v:List UInt8) (d:Bool) (l:Log):Log:=((scA b v).2,d)::(decide ((b=10∨b=16)∧v.length≤100000),true)::l
def dgs (b:Int) (v:List UInt8):List UInt8:=(sc1 b false v).1
def bhd (b:Int) (v:List UInt8):Int:=(((sc1 b false v).2.1:Nat):Int)
def lDz (b:Int) (v:List UInt8) (l:Log):Log:=(decide (trZ (dgs b v)=[]),true)::(ZyJ b (dgs b v) (bhd b v) (scA b v).1,true)::l
def hPz (n:Bool) (b:Int) (v:List UInt8) (V:Nat):Hp:=⟨2,[w16 V,tC9 n b (dgs b v) (bhd b v) (scA b v).1]⟩
def lDn (n:Bool) (b:Int) (v:List UInt8) (V:Nat) (E:Int) (l:Log):Log:=(decide (vO (hPz n b v V) (Zaa 1) (d16 V).length=V),true)::(Zo2 (hPz n b v V) (Zaa 1) (d16 V).length (d16 V).length E,true)::(decide (dnA b (trZ (dgs b v)) (bhd b v) (scA b v).1=(V,E)),true)::(decide (trZ (dgs b v)=[]),false)::(ZyJ b (dgs b v) (bhd b v) (scA b v).1,true)::l
theorem ZAo (l:List UInt8) (m:Int):Z7 (Zm (Zr prog Zf z6 Zb3) 300 10 [bR l,.int .i64 m] [cmp true]) (.tuple #[.int .u64 0,.int .i64 0,.int .i64 2]) ([(decide (((l.length:Nat):Int)>65536),true)]):=by and_intros<;>kernel_rfl
theorem ZAp (m:Int):Z7 (Zm (Zr prog Zf z6 Zb3) 300 10 [bR [],.int .i64 m] [cmp false,cmp false,cmp false,sam false,sam false,cmp false,cmp false]) (.tuple #[.int .u64 0,.int .i64 0,.int .i64 3]) (lSc 10 [] false (lBb [] lSe)):=by and_intros<;>kernel_rfl
theorem Z8v (c:UInt8) (r:List UInt8) (m:Int):Z7 (Zm (Zr prog Zf z6 Zb3) 300 10 [bR (c::r),.int .i64 m] [cmp false,cmp true,cmp true,cmp true,cmp true,sam true,sam true]) (.tuple #[.int .u64 9221120237041090560,.int .i64 0,.int .i64 0]) (lIs r [110,97,110] true::lSm c r):=by and_intros<;>kernel_rfl
theorem Z8w (c:UInt8) (r:List UInt8) (m:Int):Z7 (Zm (Zr prog Zf z6 Zb3) 300 10 [bR (c::r),.int .i64 m] [cmp false,cmp true,cmp true,cmp true,cmp true,sam true,sam false,sam true]) (.tuple #[.int .u64 18442240474082181120,.int .i64 0,.int .i64 0]) (lIs r [105,110,102] true::lIs r [110,97,110] false::lSm c r):=by and_intros<;>kernel_rfl
theorem Z3B (c:UInt8) (r:List UInt8) (m:Int):Z7 (Zm (Zr prog Zf z6 Zb3) 300 10 [bR (c::r),.int .i64 m] [cmp false,cmp true,cmp true,cmp true,cmp true,sam true,sam false,sam false,cmp true,sam true,sam true,sam true,cmp false]) (.tuple #[.int .u64 0,.int .i64 0,.int .i64 3]) (lSc 16 (r.drop 2) false (Zsu r (lSm c r))):=by and_intros<;>kernel_rfl
theorem Z3C (c:UInt8) (r:List UInt8) (m:Int):Z7 (Zm (Zr prog Zf z6 Zb3) 300 10 [bR (c::r),.int .i64 m] [cmp false,cmp true,cmp true,cmp true,cmp true,sam true,sam false,sam false,cmp true,sam true,sam true,sam true,cmp true,cmp true]) (.tuple #[.int .u64 9223372036854775808,.int .i64 0,.int .i64 0]) (lDz 16 (r.drop 2) (lSc 16 (r.drop 2) true (Zsu r (lSm c r)))):=by and_intros<;>kernel_rfl
theorem Z3D (c:UInt8) (r:List UInt8) (m:Int) (V:Nat) (E:Int):Z7 (Zm (Zr prog Zf z6 Zb3) 300 10 [bR (c::r),.int .i64 m] [cmp false,cmp true,cmp true,cmp true,cmp true,sam true,sam false,sam false,cmp true,sam true,sam true,sam true,cmp true,cmp false,num V,num E,num V]) (.tuple #[.int .u64 (sS true (rnP m true V E)),.int .i64 (rnF m true V E),.int .i64 0]) (lDn true 16 (r.drop 2) V E (lSc 16 (r.drop 2) true (Zsu r (lSm c r)))):=by and_intros<;>kernel_rfl
theorem Z3E (c:UInt8) (r:List UInt8) (m:Int):Z7 (Zm (Zr prog Zf z6 Zb3) 300 10 [bR (c::r),.int .i64 m] [cmp false,cmp true,cmp true,cmp true,cmp true,sam true,sam false,sam false,cmp true,sam true,sam false,cmp false]) (.tuple #[.int .u64 0,.int .i64 0,.int .i64 3]) (lSc 10 r false (lBa r (lSm c r))):=by and_intros<;>kernel_rfl
theorem Z3F (c:UInt8) (r:List UInt8) (m:Int):Z7 (Zm (Zr prog Zf z6 Zb3) 300 10 [bR (c::r),.int .i64 m] [cmp false,cmp true,cmp true,cmp true,cmp true,sam true,sam false,sam false,cmp true,sam true,sam false,cmp true,cmp true]) (.tuple #[.int .u64 9223372036854775808,.int .i64 0,.int .i64 0]) (lDz 10 r (lSc 10 r true (lBa r (lSm c r)))):=by and_intros<;>kernel_rfl
theorem Z3G (c:UInt8) (r:List UInt8) (m:Int) (V:Nat) (E:Int):Z7 (Zm (Zr prog Zf z6 Zb3) 300 10 [bR (c::r),.int .i64 m] [cmp false,cmp true,cmp true,cmp true,cmp true,sam true,sam false,sam false,cmp true,sam true,sam false,cmp true,cmp false,num V,num E,num V]) (.tuple #[.int .u64 (sS true (rnP m true V E)),.int .i64 (rnF m true V E),.int .i64 0]) (lDn true 10 r V E (lSc 10 r true (lBa r (lSm c r)))):=by and_intros<;>kernel_rfl
theorem Z3H (c:UInt8) (r:List UInt8) (m:Int):Z7 (Zm (Zr prog Zf z6 Zb3) 300 10 [bR (c::r),.int .i64 m] [cmp false,cmp true,cmp true,cmp true,cmp true,sam true,sam false,sam false,cmp false,cmp false]) (.tuple #[.int .u64 0,.int .i64 0,.int .i64 3]) (lSc 10 r false (lBb r (lSm c r))):=by and_intros<;>kernel_rfl
theorem Z3I (c:UInt8) (r:List UInt8) (m:Int):Z7 (Zm (Zr prog Zf z6 Zb3) 300 10 [bR (c::r),.int .i64 m] [cmp false,cmp true,cmp true,cmp true,cmp true,sam true,sam false,sam false,cmp false,cmp true,cmp true]) (.tuple #[.int .u64 9223372036854775808,.int .i64 0,.int .i64 0]) (lDz 10 r (lSc 10 r true (lBb r (lSm c r)))):=by and_intros<;>kernel_rfl
theorem Z3J (c:UInt8) (r:List UInt8) (m:Int) (V:Nat) (E:Int):Z7 (Zm (Zr prog Zf z6 Zb3) 300 10 [bR (c::r),.int .i64 m] [cmp false,cmp true,cmp true,cmp true,cmp true,sam true,sam false,sam false,cmp false,cmp true,cmp false,num V,num E,num V]) (.tuple #[.int .u64 (sS true (rnP m true V E)),.int .i64 (rnF m true V E),.int .i64 0]) (lDn true 10 r V E (lSc 10 r true (lBb r (lSm c r)))):=by and_intros<;>kernel_rfl
theorem Z8x (c:UInt8) (r:List UInt8) (m:Int):Z7 (Zm (Zr prog Zf z6 Zb3) 300 10 [bR (c::r),.int .i64 m] [cmp false,cmp true,cmp false,cmp true,cmp false,cmp true,sam true,sam true]) (.tuple #[.int .u64 9221120237041090560,.int .i64 0,.int .i64 0]) (lIs r [110,97,110] true::lSp c r):=by and_intros<;>kernel_rfl
theorem Z8y (c:UInt8) (r:List UInt8) (m:Int):Z7 (Zm (Zr prog Zf z6 Zb3) 300 10 [bR (c::r),.int .i64 m] [cmp false,cmp true,cmp false,cmp true,cmp false,cmp true,sam true,sam false,sam true]) (.tuple #[.int .u64 9218868437227405312,.int .i64 0,.int .i64 0]) (lIs r [105,110,102] true::lIs r [110,97,110] false::lSp c r):=by and_intros<;>kernel_rfl
theorem Z3K (c:UInt8) (r:List UInt8) (m:Int):Z7 (Zm (Zr prog Zf z6 Zb3) 300 10 [bR (c::r),.int .i64 m] [cmp false,cmp true,cmp false,cmp true,cmp false,cmp true,sam true,sam false,sam false,cmp true,sam true,sam true,sam true,cmp false]) (.tuple #[.int .u64 0,.int .i64 0,.int .i64 3]) (lSc 16 (r.drop 2) false (Zsu r (lSp c r))):=by and_intros<;>kernel_rfl
theorem Z3L (c:UInt8) (r:List UInt8) (m:Int):Z7 (Zm (Zr prog Zf z6 Zb3) 300 10 [bR (c::r),.int .i64 m] [cmp false,cmp true,cmp false,cmp true,cmp false,cmp true,sam true,sam false,sam false,cmp true,sam true,sam true,sam true,cmp true,cmp true]) (.tuple #[.int .u64 0,.int .i64 0,.int .i64 0]) (lDz 16 (r.drop 2) (lSc 16 (r.drop 2) true (Zsu r (lSp c r)))):=by and_intros<;>kernel_rfl
theorem Z3M (c:UInt8) (r:List UInt8) (m:Int) (V:Nat) (E:Int):Z7 (Zm (Zr prog Zf z6 Zb3) 300 10 [bR (c::r),.int .i64 m] [cmp false,cmp true,cmp false,cmp true,cmp false,cmp true,sam true,sam false,sam false,cmp true,sam true,sam true,sam true,cmp true,cmp false,num V,num E,num V]) (.tuple #[.int .u64 (sS false (rnP m false V E)),.int .i64 (rnF m false V E),.int .i64 0]) (lDn false 16 (r.drop 2) V E (lSc 16 (r.drop 2) true (Zsu r (lSp c r)))):=by and_intros<;>kernel_rfl
theorem Z3N (c:UInt8) (r:List UInt8) (m:Int):Z7 (Zm (Zr prog Zf z6 Zb3) 300 10 [bR (c::r),.int .i64 m] [cmp false,cmp true,cmp false,cmp true,cmp false,cmp true,sam true,sam false,sam false,cmp true,sam true,sam false,cmp false]) (.tuple #[.int .u64 0,.int .i64 0,.int .i64 3]) (lSc 10 r false (lBa r (lSp c r))):=by and_intros<;>kernel_rfl
theorem Z3O (c:UInt8) (r:List UInt8) (m:Int):Z7 (Zm (Zr prog Zf z6 Zb3) 300 10 [bR (c::r),.int .i64 m] [cmp false,cmp true,cmp false,cmp true,cmp false,cmp true,sam true,sam false,sam false,cmp true,sam true,sam false,cmp true,cmp true]) (.tuple #[.int .u64 0,.int .i64 0,.int .i64 0]) (lDz 10 r (lSc 10 r true (lBa r (lSp c r)))):=by and_intros<;>kernel_rfl
theorem Z3P (c:UInt8) (r:List UInt8) (m:Int) (V:Nat) (E:Int):Z7 (Zm (Zr prog Zf z6 Zb3) 300 10 [bR (c::r),.int .i64 m] [cmp false,cmp true,cmp false,cmp true,cmp false,cmp true,sam true,sam false,sam false,cmp true,sam true,sam false,cmp true,cmp false,num V,num E,num V]) (.tuple #[.int .u64 (sS false (rnP m false V E)),.int .i64 (rnF m false V E),.int .i64 0]) (lDn false 10 r V E (lSc 10 r true (lBa r (lSp c r)))):=by and_intros<;>kernel_rfl
theorem Z3Q (c:UInt8) (r:List UInt8) (m:Int):Z7 (Zm (Zr prog Zf z6 Zb3) 300 10 [bR (c::r),.int .i64 m] [cmp false,cmp true,cmp false,cmp true,cmp false,cmp true,sam true,sam false,sam false,cmp false,cmp false]) (.tuple #[.int .u64 0,.int .i64 0,.int .i64 3]) (lSc 10 r false (lBb r (lSp c r))):=by and_intros<;>kernel_rfl
theorem Z3R (c:UInt8) (r:List UInt8) (m:Int):Z7 (Zm (Zr prog Zf z6 Zb3) 300 10 [bR (c::r),.int .i64 m] [cmp false,cmp true,cmp false,cmp true,cmp false,cmp true,sam true,sam false,sam false,cmp false,cmp true,cmp true]) (.tuple #[.int .u64 0,.int .i64 0,.int .i64 0]) (lDz 10 r (lSc 10 r true (lBb r (lSp c r)))):=by and_intros<;>kernel_rfl
theorem Z3S (c:UInt8) (r:List UInt8) (m:Int) (V:Nat) (E:Int):Z7 (Zm (Zr prog Zf z6 Zb3) 300 10 [bR (c::r),.int .i64 m] [cmp false,cmp true,cmp false,cmp true,cmp false,cmp true,sam true,sam false,sam false,cmp false,cmp true,cmp false,num V,num E,num V]) (.tuple #[.int .u64 (sS false (rnP m false V E)),.int .i64 (rnF m false V E),.int .i64 0]) (lDn false 10 r V E (lSc 10 r true (lBb r (lSp c r)))):=by and_intros<;>kernel_rfl
theorem Z8z (c:UInt8) (r:List UInt8) (m:Int):Z7 (Zm (Zr prog Zf z6 Zb3) 300 10 [bR (c::r),.int .i64 m] [cmp false,cmp true,cmp false,cmp true,cmp false,cmp false,sam true]) (.tuple #[.int .u64 9221120237041090560,.int .i64 0,.int .i64 0]) (lIs (c::r) [110,97,110] true::Zkx c r):=by and_intros<;>kernel_rfl
theorem Z80 (c:UInt8) (r:List UInt8) (m:Int):Z7 (Zm (Zr prog Zf z6 Zb3) 300 10 [bR (c::r),.int .i64 m] [cmp false,cmp true,cmp false,cmp true,cmp false,cmp false,sam false,sam true]) (.tuple #[.int .u64 9218868437227405312,.int .i64 0,.int .i64 0]) (lIs (c::r) [105,110,102] true::lIs (c::r) [110,97,110] false::Zkx c r):=by and_intros<;>kernel_rfl
theorem Z3T (c:UInt8) (r:List UInt8) (m:Int):Z7 (Zm (Zr prog Zf z6 Zb3) 300 10 [bR (c::r),.int .i64 m] [cmp false,cmp true,cmp false,cmp true,cmp false,cmp false,sam false,sam false,cmp true,sam true,sam true,sam true,cmp false]) (.tuple #[.int .u64 0,.int .i64 0,.int .i64 3]) (lSc 16 ((c::r).drop 2) false (Zsu (c::r) (Zkx c r))):=by and_intros<;>kernel_rfl
theorem Z3U (c:UInt8) (r:List UInt8) (m:Int):Z7 (Zm (Zr prog Zf z6 Zb3) 300 10 [bR (c::r),.int .i64 m] [cmp false,cmp true,cmp false,cmp true,cmp false,cmp false,sam false,sam false,cmp true,sam true,sam true,sam true,cmp true,cmp true]) (.tuple #[.int .u64 0,.int .i64 0,.int .i64 0]) (lDz 16 ((c::r).drop 2) (lSc 16 ((c::r).drop 2) true (Zsu (c::r) (Zkx c r)))):=by and_intros<;>kernel_rfl
theorem Z3V (c:UInt8) (r:List UInt8) (m:Int) (V:Nat) (E:Int):Z7 (Zm (Zr prog Zf z6 Zb3) 300 10 [bR (c::r),.int .i64 m] [cmp false,cmp true,cmp false,cmp true,cmp false,cmp false,sam false,sam false,cmp true,sam true,sam true,sam true,cmp true,cmp false,num V,num E,num V]) (.tuple #[.int .u64 (sS false (rnP m false V E)),.int .i64 (rnF m false V E),.int .i64 0]) (lDn false 16 ((c::r).drop 2) V E (lSc 16 ((c::r).drop 2) true (Zsu (c::r) (Zkx c r)))):=by and_intros<;>kernel_rfl
theorem Z3W (c:UInt8) (r:List UInt8) (m:Int):Z7 (Zm (Zr prog Zf z6 Zb3) 300 10 [bR (c::r),.int .i64 m] [cmp false,cmp true,cmp false,cmp true,cmp false,cmp false,sam false,sam false,cmp true,sam true,sam false,cmp false]) (.tuple #[.int .u64 0,.int .i64 0,.int .i64 3]) (lSc 10 (c::r) false (lBa (c::r) (Zkx c r))):=by and_intros<;>kernel_rfl
theorem Z3X (c:UInt8) (r:List UInt8) (m:Int):Z7 (Zm (Zr prog Zf z6 Zb3) 300 10 [bR (c::r),.int .i64 m] [cmp false,cmp true,cmp false,cmp true,cmp false,cmp false,sam false,sam false,cmp true,sam true,sam false,cmp true,cmp true]) (.tuple #[.int .u64 0,.int .i64 0,.int .i64 0]) (lDz 10 (c::r) (lSc 10 (c::r) true (lBa (c::r) (Zkx c r)))):=by and_intros<;>kernel_rfl
theorem Z3Y (c:UInt8) (r:List UInt8) (m:Int) (V:Nat) (E:Int):Z7 (Zm (Zr prog Zf z6 Zb3) 300 10 [bR (c::r),.int .i64 m] [cmp false,cmp true,cmp false,cmp true,cmp false,cmp false,sam false,sam false,cmp true,sam true,sam false,cmp true,cmp false,num V,num E,num V]) (.tuple #[.int .u64 (sS false (rnP m false V E)),.int .i64 (rnF m false V E),.int .i64 0]) (lDn false 10 (c::r) V E (lSc 10 (c::r) true (lBa (c::r) (Zkx c r)))):=by and_intros<;>kernel_rfl
theorem Z3Z (c:UInt8) (r:List UInt8) (m:Int):Z7 (Zm (Zr prog Zf z6 Zb3) 300 10 [bR (c::r),.int .i64 m] [cmp false,cmp true,cmp false,cmp true,cmp false,cmp false,sam false,sam false,cmp false,cmp false]) (.tuple #[.int .u64 0,.int .i64 0,.int .i64 3]) (lSc 10 (c::r) false (lBb (c::r) (Zkx c r))):=by and_intros<;>kernel_rfl
theorem Z4a (c:UInt8) (r:List UInt8) (m:Int):Z7 (Zm (Zr prog Zf z6 Zb3) 300 10 [bR (c::r),.int .i64 m] [cmp false,cmp true,cmp false,cmp true,cmp false,cmp false,sam false,sam false,cmp false,cmp true,cmp true]) (.tuple #[.int .u64 0,.int .i64 0,.int .i64 0]) (lDz 10 (c::r) (lSc 10 (c::r) true (lBb (c::r) (Zkx c r)))):=by and_intros<;>kernel_rfl
theorem Z4b (c:UInt8) (r:List UInt8) (m:Int) (V:Nat) (E:Int):Z7 (Zm (Zr prog Zf z6 Zb3) 300 10 [bR (c::r),.int .i64 m] [cmp false,cmp true,cmp false,cmp true,cmp false,cmp false,sam false,sam false,cmp false,cmp true,cmp false,num V,num E,num V]) (.tuple #[.int .u64 (sS false (rnP m false V E)),.int .i64 (rnF m false V E),.int .i64 0]) (lDn false 10 (c::r) V E (lSc 10 (c::r) true (lBb (c::r) (Zkx c r)))):=by and_intros<;>kernel_rfl
end Go.Proofs.YtjlponbdflkbjaaGreatDoor
