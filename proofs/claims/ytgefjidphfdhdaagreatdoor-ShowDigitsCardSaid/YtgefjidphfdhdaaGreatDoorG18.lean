/-
  ConVO, ConVQ, ToP, RdG, ShB, ShC, ShD, ShE, ShQ
-/
import Derived.Test.YtgefjidphfdhdaaGreatDoorG17
namespace Go.Proofs.YtgefjidphfdhdaaGreatDoor
open Go.Proofs.Tryz
open Go.IntKind
open Go.KRun Go.Nt
set_option maxRecDepth 100000
set_option linter.unusedVariables false
section
variable {la lb : List Value} {o c o' c' : Nat} {A L : List Int}
theorem Zhz (a b:Nat):(Zac a b<0↔a<b)∧(Zac a b>0↔b<a):=by
 unfold Zac;constructor<;>split<;>(try split)<;>omega
def iV (e:Int):Value:= .int .u64 e
theorem Zr2 (H:Two la lb o o' c' A L) {V:Nat}(hV:V<65536*vb 65536 L) {Q:List Int}{k:Nat}{v10:Value}(k1:KRun.lt 5 v10=true) (s1:∀ b:Nat,rn (zA 4 b) v10=v10) {e0:Nat}(he0:e0<65536) (hge:V/vb 65536 L≤e0) (g:Nat→Value) (s:List Dec):
  RunsW (Zm prog Zg Zn hcP) (.block 2 (.loop (yL f31))) (pFr o A.length c o' L.length c' A.length (sl 3 0 (d16 V).length (d16 V).length) ((k:Nat):Int) v10 (iV (e0:Nat))++[sl 4 0 (d16 (vb 65536 L*e0)).length (d16 (vb 65536 L*e0)).length]++tl 82 g,hB5 (wU (d16 (vb 65536 L*e0))) (wU (d16 V)) (wU Q) lb la,s) fun e z=>match e with
   | none=>(∃ g,z.1=pFr o A.length c o' L.length c' A.length (sl 3 0 (d16 V).length (d16 V).length) ((k:Nat):Int) v10 (iV (V/vb 65536 L:Nat))++[sl 4 0 (d16 (vb 65536 L*(V/vb 65536 L))).length (d16 (vb 65536 L*(V/vb 65536 L))).length]++tl 82 g)∧z.2.1=hB5 (wU (d16 (vb 65536 L*(V/vb 65536 L)))) (wU (d16 V)) (wU Q) lb la
   | some none=>False
   | some (some _)=>False:=by
 obtain⟨b0,b1,b2⟩:=H.bnd;have n2:=H.n2;generalize hB:vb 65536 L=B at*;have hP:∀ e:Nat,e<65536→(d16 (B*e)).length≤L.length+1:=fun e he=>Zcn (by
  rw[Nat.pow_succ];exact Nat.mul_lt_mul_of_lt_of_le b1 (by omega) (by omega))
 have hlV:(d16 V).length≤L.length+1:=Zcn (by
  rw[Nat.pow_succ,Nat.mul_comm];exact Nat.lt_trans hV (Nat.mul_lt_mul_of_pos_left b1 (by omega)))
 refine RunsW.forLoop (P:=fun z=>(∃ g,z.1=pFr o A.length c o' L.length c' A.length (sl 3 0 (d16 V).length (d16 V).length) ((k:Nat):Int) v10 (iV (V/B:Nat))++[sl 4 0 (d16 (B*(V/B))).length (d16 (B*(V/B))).length]++tl 82 g)∧z.2.1=hB5 (wU (d16 (B*(V/B)))) (wU (d16 V)) (wU Q) lb la) (R:=fun _=>False)
  (fun m z=>m<65536∧V/B≤m∧(∃ g,z.1=pFr o A.length c o' L.length c' A.length (sl 3 0 (d16 V).length (d16 V).length) ((k:Nat):Int) v10 (iV (m:Nat))++[sl 4 0 (d16 (B*m)).length (d16 (B*m)).length]++tl 82 g)∧z.2.1=hB5 (wU (d16 (B*m))) (wU (d16 V)) (wU Q) lb la) ?_ (n:=e0) ⟨he0,hge,⟨g,rfl⟩,rfl⟩
 rintro m ⟨t,h',s⟩ ⟨hm,hle,⟨g,ht⟩,hh⟩;simp only at ht hh;subst ht hh;have p4:(hB5 (wU (d16 (B*m))) (wU (d16 V)) (wU Q) lb la).blk? 4=some (wU (d16 (B*m)),tU):=rfl;have p3:(hB5 (wU (d16 (B*m))) (wU (d16 V)) (wU Q) lb la).blk? 3=some (wU (d16 V),tU):=rfl;have p1:(hB5 (wU (d16 (B*m))) (wU (d16 V)) (wU Q) lb la).blk? 1=some (lb,tR):=rfl;have hPm:=hP m hm;have q4:=ZfX p4 (by omega);have q3:=ZfX p3 (by omega);obtain⟨q1,w1,u1⟩:=H.row p1;rw[hB] at u1;have hy:∀ d:Bool,decide (V<B*m)=d→Zu [(decide (Zac (vO (hB5 (wU (d16 (B*m))) (wU (d16 V)) (wU Q) lb la) (aP 4 0) (d16 (B*m)).length) (vO (hB5 (wU (d16 (B*m))) (wU (d16 V)) (wU Q) lb la) (aP 3 0) (d16 V).length)>0),d),(zB (hB5 (wU (d16 (B*m))) (wU (d16 V)) (wU Q) lb la) (aP 4 0) (aP 3 0) (d16 (B*m)).length (d16 (B*m)).length (d16 V).length (d16 V).length,true)]:=fun d hd=>by
  refine Za ?_ (ZB (Zdf q4 q3 (by rw[Zb1 p4];exact ZaP _) (by rw[Zb1 p3];exact ZaP _) (by omega)));rw[ZpQ p4,ZpQ p3,← hd];exact decide_eq_decide.2 (Zhz (B*m) V).2
 rw[Z6q];by_cases hlt:V<B*m
 ·have hmd:V/B<m:=by
   rw[Nat.div_lt_iff_lt_mul b2,Nat.mul_comm];exact hlt
  have hm1:1≤m:=Nat.lt_of_le_of_lt (Nat.zero_le _) hmd;have hpos:0<(d16 (B*m)).length:=by
   rcases Nat.eq_zero_or_pos (d16 (B*m)).length with h1 | h1
   ·have:=(ZcM (b:=65536) (by omega)).1 (List.eq_nil_of_length_eq_zero h1);omega
   ·exact h1
  have eB:B*m-B=B*(m-1):=by rw[Nat.mul_sub,Nat.mul_one]
  have hBm:B≤B*m:=Nat.le_mul_of_pos_right B (by omega);refine RunsW.next (front:=pFr o A.length c o' L.length c' A.length (sl 3 0 (d16 V).length (d16 V).length) ((k:Nat):Int) v10 (iV (m:Nat))++[sl 4 0 (d16 (B*m)).length (d16 (B*m)).length]) (Zd Zbi (Z3p o A.length c o' L.length c' A.length (d16 V).length (d16 (B*m)).length v10 ((k:Nat):Int) ((m:Nat):Int) (wU (d16 (B*m))) (wU (d16 V)) (wU Q) lb la g) (hy true (Xa hlt))) fun g s=> ?_;have rb:=Zd (s0:=s) Zbi (Z3r o A.length c o' L.length c' A.length (d16 V).length (d16 (B*m)).length v10 ((k:Nat):Int) ((m:Nat):Int) (wU (d16 (B*m))) (wU (d16 V)) (wU Q) lb la g) (Za (by
   rw[Zdf q4 q1 (by rw[Zb1 p4];exact ZaP _) (by rw[w1];exact H.cL.1) (by omega),ZpQ p4,u1,Nat.ble_eq_true_of_le hBm];rfl) (ZB (Xa hpos)))
  have e64:u64.wrap (((m:Nat):Int)-1)=((m-1:Nat):Int):=by rw[w64 (by omega) (by omega)];omega
  rw[ZpQ p4,u1,eB,e64] at rb;have rk:=rb.kept (k:=4) (b:=5) (base:=[(wU (d16 V),tU),(wU Q,tU),(lb,tR),(la,tR)]) (y:=(wU (d16 (B*(m-1))),tU)) (front':=pFr o A.length c o' L.length c' A.length (sl 3 0 (d16 V).length (d16 V).length) ((k:Nat):Int) v10 (iV ((m-1:Nat):Int))++[sl 4 0 (d16 (B*(m-1))).length (d16 (B*(m-1))).length]) rfl (by
    simp only[pFr,List.map_append,List.map_cons,List.map_nil,s1]
    kernel_rfl) (by
    intro i x hx;have hi:i<4:=Hp.blk_lt hx;have h3:i=0∨i=1∨i=2∨i=3:=by omega
    rcases h3 with rfl | rfl | rfl | rfl
    ·have:(la,tR)=x:=Option.some.inj hx;subst this;exact⟨rfl,H.sa⟩
    ·have:(lb,tR)=x:=Option.some.inj hx;subst this;exact⟨rfl,H.sb⟩
    ·have:(wU Q,tU)=x:=Option.some.inj hx;subst this;exact⟨rfl,ZG _⟩
    ·have:(wU (d16 V),tU)=x:=Option.some.inj hx;subst this;exact⟨rfl,ZG _⟩) rfl (by omega) (ZG _) (by
    intro v hv;simp only[pFr,List.mem_append,List.mem_cons,List.not_mem_nil,or_false] at hv;rcases hv with (rfl | rfl | rfl | rfl | rfl | rfl | rfl | rfl | rfl | rfl | rfl | rfl) | rfl
    ·rfl
    ·rfl
    ·rfl
    ·rfl
    ·rfl
    ·rfl
    ·rfl
    ·rfl
    ·rfl
    ·rfl
    ·exact k1
    ·rfl
    ·rfl)
  refine RunsW.block (P1:=fun e z=>e=none∧(∃ g,z.1=pFr o A.length c o' L.length c' A.length (sl 3 0 (d16 V).length (d16 V).length) ((k:Nat):Int) v10 (iV ((m-1:Nat):Int))++[sl 4 0 (d16 (B*(m-1))).length (d16 (B*(m-1))).length]++tl 82 g)∧z.2.1=hB5 (wU (d16 (B*(m-1)))) (wU (d16 V)) (wU Q) lb la) rk (fun y hy=> ?_) (fun y hy=>by cases hy.1) (fun y hy=>by cases hy.1) (fun id y _ hy=>by cases hy.1);exact⟨m-1,by omega,by omega,Nat.le_sub_one_of_lt hmd,hy.2.1,hy.2.2⟩
 ·have hmd:m=V/B:=by
   have h1:m≤V/B:=by rw[Nat.le_div_iff_mul_le b2,Nat.mul_comm];omega
   omega
  subst hmd;refine RunsW.seq (Zd Zbi (Z3q o A.length c o' L.length c' A.length (d16 V).length (d16 (B*(V/B))).length v10 ((k:Nat):Int) ((V/B:Nat):Int) (wU (d16 (B*(V/B)))) (wU (d16 V)) (wU Q) lb la g) (hy false (Xb hlt))) (fun y hy=>by cases hy.1) (fun e y hy=> ?_);obtain⟨e1,z1,z2⟩:=hy;cases e1;exact⟨rfl,z1,z2⟩
def Z53 (o c o' c':Nat) (la lb:List Value) (A L:List Int) (V:Nat) (Q:List Int) (i:Int) (z:Lf):Prop:=
 ∃ v10 v11:Value,(KRun.lt 4 v10=true∧KRun.lt 4 v11=true∧(∀ k b:Nat,rn (zA k b) v10=v10)∧(∀ k b:Nat,rn (zA k b) v11=v11))∧(∃ g,z.1=pFr o A.length c o' L.length c' A.length (sl 3 0 (d16 V).length (d16 V).length) i v10 v11++tl 83 g)∧z.2.1=hB4 (wU (d16 V)) (wU Q) lb la
theorem Zr3 (H:Two la lb o o' c' A L) {V:Nat}(hV:V<vb 65536 L) {Q:List Int}(hQ:Q.length=A.length) {k:Nat}(hk:k<A.length) {v10 v11:Value}(hv:KRun.lt 4 v10=true∧KRun.lt 4 v11=true∧(∀ k b:Nat,rn (zA k b) v10=v10)∧(∀ k b:Nat,rn (zA k b) v11=v11)) {r:Value}{h:Hp}(hr:rIn V Q la lb r h) (g:Nat→Value) (s:List Dec):
  RunsW (Zm prog Zg Zn hcP) (paL f31) (pFr o A.length c o' L.length c' A.length r ((k:Nat):Int) v10 v11++tl 83 g,h,s) fun e z=>e=none∧∃ V' Q',V'=(A.getD k 0).toNat+65536*V∧Q'=(if V'<vb 65536 L then Q else Q.set k ((V'/vb 65536 L:Nat):Int))∧Z53 o c o' c' la lb A L (V' % vb 65536 L) Q' (((k:Nat):Int)-1) z:=by
 obtain⟨b0,b1,b2⟩:=H.bnd;have n1:=H.n1;have n2:=H.n2;have a2:=H.a2;obtain⟨l1,l2,s1,s2⟩:=hv;rw[Zlz];refine RunsW.next (Zd Zbi (Z3g o A.length c o' L.length c' A.length r v10 v11 ((k:Nat):Int) h g) (ZB (Xa (Int.natCast_nonneg k)))) fun g s=> ?_;have hd:=Zd9 H.dA k;obtain⟨W,hW⟩:∃ W,W=(A.getD k 0).toNat+65536*V:=⟨_,rfl⟩;have hWB:W<65536*vb 65536 L:=by
  have:=hd.2;have:=hd.1;have h3:65536*V+65536≤65536*vb 65536 L:=by
   have:=Nat.mul_le_mul_left 65536 (Nat.succ_le_of_lt hV);rw[Nat.mul_succ] at this;exact this
  omega
 obtain⟨B,hB⟩:∃ B,B=vb 65536 L:=⟨_,rfl⟩;have hlW:(d16 W).length≤L.length+1:=Zcn (by
  rw[Nat.pow_succ,Nat.mul_comm];exact Nat.lt_trans hWB (Nat.mul_lt_mul_of_pos_left b1 (by omega)))
 have e1:i64.wrap (((k:Nat):Int)-1)=((k:Nat):Int)-1:=Zw (by omega) (by omega);refine RunsW.seq (P1:=fun e z=>e=none∧Z53 o c o' c' la lb A L (W % vb 65536 L) (if W<vb 65536 L then Q else Q.set k ((W/vb 65536 L:Nat):Int)) ((k:Nat):Int) z) ?_ ?_ (fun e y hy=>by cases hy.1)
 ·refine RunsW.block (P1:=fun e z=>(e=none∨e=some (some 1))∧Z53 o c o' c' la lb A L (W % vb 65536 L) (if W<vb 65536 L then Q else Q.set k ((W/vb 65536 L:Nat):Int)) ((k:Nat):Int) z) ?_ (fun y hy=>⟨rfl,hy.2⟩) (fun y hy=>by rcases hy.1 with h | h<;>cases h) (fun y hy=>⟨rfl,hy.2⟩) (fun id y hid hy=>by
   rcases hy.1 with h | h
   ·cases h
   ·cases h;exact absurd rfl hid)
  rw[Z6p];have h7:=Zr1 (c:=c) H hV (Q:=Q) hk l1 l2 (s1 3) (s2 3) hr g s;rw[← hW] at h7;refine RunsW.next h7 fun g s=> ?_;have p3:(hB4 (wU (d16 W)) (wU Q) lb la).blk? 3=some (wU (d16 W),tU):=rfl;have p1:(hB4 (wU (d16 W)) (wU Q) lb la).blk? 1=some (lb,tR):=rfl;have q3:=ZfX p3 (by omega);obtain⟨q1,w1,u1⟩:=H.row p1;have h8:∀ d:Bool,decide (W<vb 65536 L)=d→Zu [(decide (Zac (vO (hB4 (wU (d16 W)) (wU Q) lb la) (aP 3 0) (d16 W).length) (vO (hB4 (wU (d16 W)) (wU Q) lb la) (aP 1 o') L.length)<0),d),(zB (hB4 (wU (d16 W)) (wU Q) lb la) (aP 3 0) (aP 1 o') (d16 W).length (d16 W).length L.length c',true)]:=fun d hd=>by
   refine Za ?_ (ZB (Zdf q3 q1 (by rw[Zb1 p3];exact ZaP _) (by rw[w1];exact H.cL.1) (by omega)));rw[ZpQ p3,u1,← hd];exact decide_eq_decide.2 (Zhz W (vb 65536 L)).1
  by_cases hlt:W<vb 65536 L
  ·refine RunsW.seq (Zd Zbi (Z3l o A.length c o' L.length c' A.length (d16 W).length v10 v11 ((k:Nat):Int) (wU (d16 W)) (wU Q) lb la g) (h8 true (Xa hlt))) (fun y hy=>by cases hy.1) (fun e y hy=> ?_);obtain⟨e2,z1,z2⟩:=hy;cases e2;rw[if_pos hlt,Nat.mod_eq_of_lt hlt];exact⟨.inr rfl,v10,v11,⟨l1,l2,s1,s2⟩,z1,z2⟩
  ·rw[if_neg hlt];refine RunsW.next (Zd Zbi (Z3m o A.length c o' L.length c' A.length (d16 W).length v10 v11 ((k:Nat):Int) (wU (d16 W)) (wU Q) lb la g) (h8 false (Xb hlt))) fun g s=> ?_;have g9:=Z6s o A.length c o' L.length c' A.length (d16 W).length v10 v11 ((k:Nat):Int) (wU (d16 W)) (wU Q) lb la g;rw[Zb1 p3,Zy1 W L.length n1 n2] at g9;refine RunsW.next (Zd Zbi g9 (Za q3 (Za rfl (Za q3 (Za rfl (ZB q3)))))) fun g s=> ?_;obtain⟨t1,t2,t3,t4,t5⟩:=Zyw n1 b0 b1 hWB;have etb:=Zy2 H.cL n1 n2;generalize ZpP W L.length=tp at*;generalize Zot (vb 65536 L) L.length=tb at*;obtain⟨tq,htq⟩:∃ tq,tq=tp/tb:=⟨_,rfl⟩;have htq':tq≤tp:=by rw[htq];exact Nat.div_le_self _ _
   rw[← htq] at t4;have eix:i64.wrap ((L.length:Int)-1)=((L.length-1:Nat):Int):=by rw[Zw (by omega) (by omega)];omega
   have g10:=Z3n o A.length c o' L.length c' A.length (d16 W).length v11 ((k:Nat):Int) ((tp:Nat):Int) (L.getD (L.length-1) 0) ((tq:Nat):Int) (wU (d16 W)) (wU Q) lb la g;have eq:u64.wrap (((tp:Nat):Int).tdiv ((tb:Nat):Int))=((tq:Nat):Int):=by
    rw[← Int.ofNat_tdiv,← htq,w64 (by omega) (by omega)]
   refine RunsW.next (Zd Zbi g10 (by
    rw[w1,etb];refine Za (Xb (by omega)) (Za (Xa eq) (Za q1 (Za rfl (Za ?_ (ZB ?_)))))
    ·rw[eix,Xg,Nat.mul_one,H.rb.cell (by omega)];simp [Z3]
    ·rw[eix];exact Xa (by omega))) fun g s=> ?_
   obtain⟨e,he⟩:∃ e:Nat,e=min tq 65535:=⟨_,rfl⟩;have em:Z3e ((tq:Nat):Int)=((e:Nat):Int):=by unfold Z3e;rw[he];split<;>omega
   rw[em];have e16:e<65536:=by omega
   have hde:W/vb 65536 L≤e:=by omega
   have w32:u32.wrap ((e:Nat):Int)=((e:Nat):Int):=zT (by omega) (by omega);have ep:pV (hB4 (wU (d16 W)) (wU Q) lb la) o' L.length ((e:Nat):Int)=vb 65536 L*e:=by
    unfold pV;rw[u1,w32,Xg];rfl
   have g11:=Z3o o A.length c o' L.length c' A.length (d16 W).length (iV ((tp:Nat):Int)) ((k:Nat):Int) ((e:Nat):Int) (wU (d16 W)) (wU Q) lb la g;rw[ep] at g11;refine RunsW.next (front:=pFr o A.length c o' L.length c' A.length (sl 3 0 (d16 W).length (d16 W).length) ((k:Nat):Int) (iV ((tp:Nat):Int)) (iV ((e:Nat):Int))++[sl 4 0 (d16 (vb 65536 L*e)).length (d16 (vb 65536 L*e)).length]) (Zd Zbi g11 (Za (by
    unfold ZbV;rw[q1,w1,Zes H.cL.1,Zk.2 (by omega),w32,Xa ⟨⟨by omega,by omega⟩,by omega,by omega⟩];rfl) (ZB (Xa (.inl (by omega)))))) fun g s=> ?_
   refine RunsW.seq (P1:=fun e z=>e=none∧(∃ g,z.1=pFr o A.length c o' L.length c' A.length (sl 3 0 (d16 W).length (d16 W).length) ((k:Nat):Int) (iV ((tp:Nat):Int)) (iV (W/vb 65536 L:Nat))++[sl 4 0 (d16 (vb 65536 L*(W/vb 65536 L))).length (d16 (vb 65536 L*(W/vb 65536 L))).length]++tl 82 g)∧z.2.1=hB5 (wU (d16 (vb 65536 L*(W/vb 65536 L)))) (wU (d16 W)) (wU Q) lb la) ((Zr2 (c:=c) H hWB rfl (fun b=>rfl) e16 hde g s).mono fun e z hz=> ?_) ?_ (fun e y hy=>by cases hy.1)
   ·match e,hz with
    | none,hz=>exact⟨rfl,hz⟩
    | some none,hz=>exact hz.elim
    | some (some _),hz=>exact hz.elim
   ·rintro⟨t,h',s⟩ ⟨_,⟨g,ht⟩,hh⟩;simp only at ht hh;subst ht hh;have p4:(hB5 (wU (d16 (vb 65536 L*(W/vb 65536 L)))) (wU (d16 W)) (wU Q) lb la).blk? 4=some (wU (d16 (vb 65536 L*(W/vb 65536 L))),tU):=rfl;have p3':(hB5 (wU (d16 (vb 65536 L*(W/vb 65536 L)))) (wU (d16 W)) (wU Q) lb la).blk? 3=some (wU (d16 W),tU):=rfl;have hle:vb 65536 L*(W/vb 65536 L)≤W:=Nat.mul_div_le W (vb 65536 L);have hl4:(d16 (vb 65536 L*(W/vb 65536 L))).length≤L.length+1:=Zcn (by
     rw[Nat.pow_succ];exact Nat.mul_lt_mul_of_lt_of_le b1 (by omega) (by omega))
    have q4:=ZfX p4 (by omega);have q3':=ZfX p3' (by omega);have hpos:0<(d16 W).length:=by
     rcases Nat.eq_zero_or_pos (d16 W).length with h1 | h1
     ·have:=(ZcM (b:=65536) (by omega)).1 (List.eq_nil_of_length_eq_zero h1);omega
     ·exact h1
    have ge:=Z6t o A.length c o' L.length c' A.length (d16 W).length (d16 (vb 65536 L*(W/vb 65536 L))).length (iV ((tp:Nat):Int)) ((k:Nat):Int) ((W/vb 65536 L:Nat):Int) (wU (d16 (vb 65536 L*(W/vb 65536 L)))) (wU (d16 W)) (wU Q) lb la g;have wd:u32.wrap ((W/vb 65536 L:Nat):Int)=((W/vb 65536 L:Nat):Int):=zT (Int.natCast_nonneg _) (by omega);have em2:W-vb 65536 L*(W/vb 65536 L)=W % vb 65536 L:=by have:=Nat.div_add_mod W (vb 65536 L);omega
    have eset:(wU Q).set (0+((k:Nat):Int).toNat*1) (.int .u32 ((W/vb 65536 L:Nat):Int))=wU (Q.set k ((W/vb 65536 L:Nat):Int)):=by
     rw[Xg,Nat.zero_add,Nat.mul_one];unfold wU;rw[List.map_set]
    have re:=Zd (s0:=s) Zbi ge (Za (Xa (by rw[Xg,zZ];omega)) (Za (Xa (by omega)) (Za (by
     rw[Zdf q3' q4 (by rw[Zb1 p3'];exact ZaP _) (by rw[Zb1 p4];exact ZaP _) (by omega),ZpQ p4,ZpQ p3',Nat.ble_eq_true_of_le hle];rfl) (ZB (Xa hpos)))))
    rw[ZpQ p4,ZpQ p3',em2,wd,eset] at re;have rk:=re.kept (k:=3) (b:=5) (base:=[(wU (Q.set k ((W/vb 65536 L:Nat):Int)),tU),(lb,tR),(la,tR)]) (y:=(wU (d16 (W % vb 65536 L)),tU)) (front':=pFr o A.length c o' L.length c' A.length (sl 3 0 (d16 (W % vb 65536 L)).length (d16 (W % vb 65536 L)).length) ((k:Nat):Int) (iV ((tp:Nat):Int)) (iV (W/vb 65536 L:Nat))) rfl (by
     simp only[pFr,List.map_cons,List.map_nil]
     kernel_rfl) (ZpS (ZG _) H.sb H.sa rfl rfl rfl) rfl (by omega) (ZG _) (Zsl rfl rfl)
    refine rk.mono fun e z hz=> ?_;obtain⟨e3,z1,z2⟩:=hz;exact⟨.inl e3,_,_,⟨rfl,rfl,fun k b=>rfl,fun k b=>rfl⟩,z1,z2⟩
 ·rintro⟨t,h',s⟩ ⟨_,u10,u11,hu,⟨g,ht⟩,hh⟩;simp only at ht hh;subst ht hh;have gi:=Z6r o A.length c o' L.length c' A.length (sl 3 0 (d16 (W % vb 65536 L)).length (d16 (W % vb 65536 L)).length) u10 u11 ((k:Nat):Int) (hB4 (wU (d16 (W % vb 65536 L))) (wU (if W<vb 65536 L then Q else Q.set k ((W/vb 65536 L:Nat):Int))) lb la) g;rw[e1] at gi;refine (Zd Zbi gi (fun x hx=>by cases hx)).mono fun e z hz=> ?_;obtain⟨e2,z1,z2⟩:=hz;exact⟨e2,W,_,hW,rfl,u10,u11,hu,z1,z2⟩
end
section
variable {la lb : List Value} {o c o' c' : Nat} {A L : List Int}
def okV (v10 v11:Value):Prop:=KRun.lt 4 v10=true∧KRun.lt 4 v11=true∧(∀ k b:Nat,rn (zA k b) v10=v10)∧(∀ k b:Nat,rn (zA k b) v11=v11)
def Z54 (A L:List Int) (i V:Nat) (Q:List Int):Prop:=i≤A.length∧Q.length=A.length∧(∀ x∈Q,Dg 65536 x)∧(∀ j,j<i→Q.getD j 0=0)∧vb 65536 (A.drop i)=vb 65536 (Q.drop i)*vb 65536 L+V∧V<vb 65536 L
def Z1v (o c o' c':Nat) (la lb:List Value) (A L:List Int) (i:Nat) (z:Lf):Prop:=
 ∃ V Q,Z54 A L i V Q∧∃ v10 v11 r,okV v10 v11∧(∃ g,z.1=pFr o A.length c o' L.length c' A.length r (((i:Nat):Int)-1) v10 v11++tl 83 g)∧rIn V Q la lb r z.2.1∧(i<A.length→r=sl 3 0 (d16 V).length (d16 V).length∧z.2.1=hB4 (wU (d16 V)) (wU Q) lb la)
theorem Zoa (H:Two la lb o o' c' A L) {k V:Nat}{Q:List Int}(h:Z54 A L (k+1) V Q):Z54 A L k (((A.getD k 0).toNat+65536*V) % vb 65536 L) (if (A.getD k 0).toNat+65536*V<vb 65536 L then Q else Q.set k ((((A.getD k 0).toNat+65536*V)/vb 65536 L:Nat):Int)):=by
 obtain⟨h1,h2,h3,h4,h5,h6⟩:=h;have hB:=H.bnd.2.2;have hd:=Zd9 H.dA k;have hA:vb 65536 (A.drop k)=(A.getD k 0).toNat+65536*vb 65536 (A.drop (k+1)):=ZeM (by omega);obtain⟨W,hW⟩:∃ W,W=(A.getD k 0).toNat+65536*V:=⟨_,rfl⟩;have hWB:W<65536*vb 65536 L:=by
  have:=hd.2;have:=hd.1;have h3:65536*V+65536≤65536*vb 65536 L:=by
   have:=Nat.mul_le_mul_left 65536 (Nat.succ_le_of_lt h6);rw[Nat.mul_succ] at this;exact this
  omega
 have hq:W/vb 65536 L<65536:=by rw[Nat.div_lt_iff_lt_mul hB];exact hWB
 have hdm:=Nat.div_add_mod W (vb 65536 L);have hml:=Nat.mod_lt W hB;rw[← hW];have hk:k<Q.length:=by omega
 have hQ:vb 65536 (Q.drop k)=(Q.getD k 0).toNat+65536*vb 65536 (Q.drop (k+1)):=ZeM hk;have key:∀ q:Nat,vb 65536 (A.drop k)=(q+65536*vb 65536 (Q.drop (k+1)))*vb 65536 L+(W-q*vb 65536 L)↔q*vb 65536 L≤W∨vb 65536 (A.drop k)=(q+65536*vb 65536 (Q.drop (k+1)))*vb 65536 L+(W-q*vb 65536 L):=fun q=>by
  refine⟨.inr,fun h=>h.elim (fun h=> ?_) id⟩;rw[hA,h5,Nat.add_mul,Nat.mul_add,Nat.mul_assoc];omega
 by_cases hlt:W<vb 65536 L
 ·rw[if_pos hlt,Nat.mod_eq_of_lt hlt];refine⟨by omega,h2,h3,fun j hj=>h4 j (by omega),?_,hlt⟩;have h0:(Q.getD k 0).toNat=0:=by rw[h4 k (by omega)];rfl
  rw[hQ,h0];have:=(key 0).2 (.inl (by omega));rw[Nat.zero_mul,Nat.sub_zero] at this;exact this
 ·rw[if_neg hlt];refine⟨by omega,by rw[List.length_set];exact h2,ZlM h3 ⟨Int.natCast_nonneg _,by omega⟩ k,fun j hj=> ?_,?_,hml⟩
  ·have:=h4 j (by omega);simp only[List.getD] at*;rw[List.getElem?_set_ne (by omega)];exact this
  ·have hk':k<(Q.set k ((W/vb 65536 L:Nat):Int)).length:=by rw[List.length_set];exact hk
   have e1:((Q.set k ((W/vb 65536 L:Nat):Int)).getD k 0).toNat=W/vb 65536 L:=by
    simp only[List.getD,List.getElem?_set_self hk,Option.getD_some,Xg]
   have e2:(Q.set k ((W/vb 65536 L:Nat):Int)).drop (k+1)=Q.drop (k+1):=by rw[List.drop_set_of_lt (by omega)]
   rw[ZeM hk',e1,e2];have e3:W % vb 65536 L=W-W/vb 65536 L*vb 65536 L:=by rw[Nat.mul_comm] at hdm;omega
   rw[e3];exact (key _).2 (.inl (by rw[Nat.mul_comm] at hdm;omega))
theorem Zr4 (H:Two la lb o o' c' A L) {z0:Lf}(h0:Z1v o c o' c' la lb A L A.length z0):
  RunsW (Zm prog Zg Zn hcP) (.block 0 (.loop (paL f31))) z0 fun e z=>match e with | none=>Z1v o c o' c' la lb A L 0 z | some none=>False | some (some _)=>False:=by
 refine RunsW.forLoop (P:=Z1v o c o' c' la lb A L 0) (R:=fun _=>False) (Z1v o c o' c' la lb A L) ?_ h0;rintro m ⟨t,h',s⟩ hI;obtain⟨V,Q,hn,v10,v11,r,hv,⟨g,ht⟩,hr,hrow⟩:=hI;simp only at ht hr hrow;subst ht;cases m with
 | zero=>
  have e0:(((0:Nat):Int)-1)= -1:=rfl;rw[Zlz];refine RunsW.seq (Zd Zbi (Z3h o A.length c o' L.length c' A.length r v10 v11 (((0:Nat):Int)-1) h' g) (ZB (Xb (by omega)))) (fun y hy=>by cases hy.1) (fun e y hy=> ?_);obtain⟨e1,z1,z2⟩:=hy;cases e1;exact⟨rfl,V,Q,hn,v10,v11,r,hv,z1,by rw[z2];exact hr,fun hl=>by rw[z2];exact hrow hl⟩
 | succ k=>
  have hk:k<A.length:=by have:=hn.1;omega
  have ek:(((k+1:Nat):Int)-1)=((k:Nat):Int):=by omega
  rw[ek];have hn':=Zoa H hn;refine (Zr3 (c:=c) H hn.2.2.2.2.2 (Q:=Q) hn.2.1 hk hv hr g s).mono fun e z hz=> ?_;obtain⟨rfl,V',Q',hV',hQ',u10,u11,hu,z1,z2⟩:=hz;rw[hV'] at hQ' z1 z2;rw[← hQ'] at hn';exact⟨k,by omega,_,Q',hn',u10,u11,_,hu,z1,.inr ⟨rfl,z2⟩,fun _=>⟨rfl,z2⟩⟩
theorem ZwD (H:Two la lb o o' c' A L):
  RunsW (Zm prog Zg Zn hcP) (zo (paP f31) (.seq (.seq (Z1 (paB f31)) (.block 0 (.loop (paL f31)))) (paE f31))) ([sl 0 o A.length c,sl 1 o' L.length c']++List.replicate 93 undef,h2 la lb,[]) fun e z=>(e=none∨e=some none)∧∃ k j,k≠j∧zd prog f31 z.1 z.2.1=some (.tuple #[sl k 0 (d16 (vb 65536 A/vb 65536 L)).length (d16 (vb 65536 A/vb 65536 L)).length,sl j 0 (d16 (vb 65536 A % vb 65536 L)).length (d16 (vb 65536 A % vb 65536 L)).length])∧(∃ r,z.2.1.blk? k=some (wU (d16 (vb 65536 A/vb 65536 L))++r,tU))∧∃ r,z.2.1.blk? j=some (wU (d16 (vb 65536 A % vb 65536 L))++r,tU):=by
 have a2:=H.a2;have a1:=H.a1;have hB:=H.bnd.2.2;have mk:ZJ 4 ((A.length:Nat):Int) ((A.length:Nat):Int)=true:=by unfold ZJ;exact Xa (by omega)
 refine ZA Zbi (Zyz o A.length c o' L.length c' la lb) (Zv mk) fun g=> ?_;rw[Xg];have ew:List.replicate A.length (Value.int .u32 0)=wU (List.replicate A.length 0):=by unfold wU;rw[List.map_replicate]
 rw[ew];have e1:i64.wrap ((A.length:Int)-1)=((A.length:Nat):Int)-1:=Zw (by omega) (by omega);refine RunsW.seq (P1:=fun e z=>e=none∧Z1v o c o' c' la lb A L 0 z) ?_ ?_ (fun e y hy=>by cases hy.1)
 ·have g4:=Z3f o A.length c o' L.length c' A.length Zs undef undef undef (hB3 (wU (List.replicate A.length 0)) lb la) g;rw[e1] at g4;refine RunsW.next (Zd Zbi g4 (fun x hx=>by cases hx)) fun g s=> ?_;refine (Zr4 H ⟨0,List.replicate A.length 0,⟨Nat.le_refl _,by simp,fun x hx=> ?_,fun j _=> ?_,?_,hB⟩,undef,undef,Zs,⟨rfl,rfl,fun k b=>by kernel_rfl,fun k b=>by kernel_rfl⟩,⟨g,rfl⟩,.inl ⟨rfl,rfl,rfl⟩,fun h=>absurd h (Nat.lt_irrefl _)⟩).mono fun e z hz=> ?_
  ·rw[List.eq_of_mem_replicate hx];exact⟨by omega,by omega⟩
  ·simp only[List.getD,List.getElem?_replicate];split<;>rfl
  ·rw[List.drop_of_length_le (Nat.le_refl _),List.drop_of_length_le (by simp)];simp [vb]
  ·match e,hz with
   | none,hz=>exact⟨rfl,hz⟩
   | some none,hz=>exact hz.elim
   | some (some _),hz=>exact hz.elim
 ·rintro⟨t,h',s⟩ ⟨_,V,Q,hn,v10,v11,r,hv,⟨g,ht⟩,hr,hrow⟩;obtain⟨e2,e3⟩:=hrow (by omega);simp only at ht e3;subst ht e2 e3;obtain⟨_,q1,q2,_,q4,q5⟩:=hn;rw[List.drop_zero,List.drop_zero] at q4;have hdiv:vb 65536 A/vb 65536 L=vb 65536 Q:=by
   rw[q4,Nat.mul_comm,Nat.mul_add_div hB,Nat.div_eq_of_lt q5,Nat.add_zero]
  have hmod:vb 65536 A % vb 65536 L=V:=by
   rw[q4,Nat.mul_comm,Nat.mul_add_mod,Nat.mod_eq_of_lt q5]
  have rngQ:∀ x∈Q,0≤x∧x<4294967296:=fun x hx=>⟨(q2 x hx).1,by have:=(q2 x hx).2;omega⟩;have row:ZaB tU (wU Q) 0 A.length A.length=true:=by
   have:=Zah (L:=Q) rngQ (by omega) (c:=Q.length) (Z2o (by omega));rw[q1] at this;exact this
  have cq:Zx (wU Q) 0 A.length=Q:=by
   have:=ZaO Q;rw[q1] at this;exact this
  have et:Zc Q=(d16 (vb 65536 Q)).length:=Zam (b:=65536) (by omega) q2;have ge:=Zy0 o A.length c o' L.length c' A.length (d16 V).length (.int .i64 (((0:Nat):Int)-1)) v10 v11 (wU (d16 V)) (wU Q) lb la g;rw[cq,et] at ge;refine (Zd Zbi ge (Zv row)).mono fun e z hz=> ?_;obtain⟨rfl,⟨g',z1⟩,z2⟩:=hz;rw[hdiv,hmod];refine⟨.inr rfl,2,3,by omega,by rw[z1,z2];rfl,⟨wU (Q.drop (Zc Q)),?_⟩,⟨[],by rw[z2,List.append_nil];rfl⟩⟩;have e4:wU (d16 (vb 65536 Q))++wU (Q.drop (Zc Q))=wU Q:=by
   unfold d16;rw[← za (by omega) _ q2,← zk,List.take_append_drop]
  rw[z2,e4];rfl
end
def Zoz (h:Hp) (p q:Option Addr) (n c n' c':Nat):Bool:=Zaa h p n c && dgB (Zj h p n) && (Zaa h q n' c' && ZeJ (Zj h q n')) && (Nat.blt n 1000000 && Nat.blt n' 1000000 && Nat.blt 0 n && Nat.blt 0 n')
def gPa:Zag:=fun vals h s=>
 match vals with
 | [.slice (some ⟨b,o,none⟩) n c,.slice (some ⟨b',o',none⟩) n' c']=>
  some (.tuple #[sl h.n 0 (d16 (vO h (aP b o) n/vO h (aP b' o') n')).length (d16 (vO h (aP b o) n/vO h (aP b' o') n')).length,sl (h.n+1) 0 (d16 (vO h (aP b o) n % vO h (aP b' o') n')).length (d16 (vO h (aP b o) n % vO h (aP b' o') n')).length],
   (h.push (wU (d16 (vO h (aP b o) n/vO h (aP b' o') n'))) tU).push (wU (d16 (vO h (aP b o) n % vO h (aP b' o') n'))) tU,s,[(Zoz h (aP b o) (aP b' o') n c n' c',true)])
 | _=>none
theorem Z1w:Z8 31 gPa:=by
 intro vals h s v h' s' lg hg hl m B w E0 hv;unfold gPa at hg;split at hg
 ·rename_i b o n c b' o' n' c';cases hg;have l3:=hl _ Xf;simp only[Zoz,Xh] at l3;obtain⟨⟨⟨q1,q2⟩,⟨p1,p2⟩⟩,⟨⟨⟨r1,r2⟩,r3⟩,r4⟩⟩:=l3;have q2:=ZcN q2;have p2:=ZgP p2;have r1:=Zk.1 r1;have r2:=Zk.1 r2;have r3:=Zk.1 r3;have r4:=Zk.1 r4;rcases ZQ q1 with ⟨h0,_⟩ | ⟨b1,o1,x,hp,hx,k1,ks,e0⟩
  ·cases h0
  ·cases hp;rcases ZQ p1 with ⟨h0,_⟩ | ⟨b2,o2,y,hp',hy,t1,ts,f0⟩
   ·cases h0
   ·cases hp';rw[e0] at q2;rw[f0] at p2;obtain⟨h1,h2',h3,h4,h5,h6,h7⟩:=zP k1;obtain⟨g1,g2,g3,g4,g5,g6,g7⟩:=zP t1;have ev:vO h (aP b o) n=vb 65536 (Zx x.1 o n):=by unfold vO;rw[e0]
    have ev':vO h (aP b' o') n'=vb 65536 (Zx y.1 o' n'):=by unfold vO;rw[f0]
    have cb:ZaB tR y.1 o' n' c'=true:=by
     unfold ZaB at t1 ⊢;simp only[Xh,Bool.not_eq_true'] at t1 ⊢;obtain⟨⟨⟨⟨⟨⟨_,_⟩,j3⟩,j4⟩,j5⟩,j6⟩,j7⟩:=t1;exact⟨⟨⟨⟨⟨⟨ZaT,by kernel_rfl⟩,j3⟩,j4⟩,j5⟩,j6⟩,j7⟩
    have H:Two x.1 y.1 o o' c' (Zx x.1 o n) (Zx y.1 o' n'):=⟨h1,g1,q2,p2,by rw[g2];omega,by rw[g2];exact r2,by rw[h2'];omega,by rw[h2'];exact r1,by rw[g2];exact cb,ts,ks,by rw[g2]⟩;have r:=ZwD (c:=c) H;rw[h2',g2,← ev,← ev'] at r;have evals:List.map (rn (Zd1 b b')) [sl 0 o n c,sl 1 o' n' c']=[.slice (some ⟨b,o,none⟩) n c,.slice (some ⟨b',o',none⟩) n' c']:=by
     simp [rn,rn2,rn1,sl,Zd1]
    have fin:=Zer (T:=Zm prog Zg Zn hcP) func31 ZtS (ZfF h7 g7) (vals:=[sl 0 o n c,sl 1 o' n' c']) (fun v hv=>by
     simp only[List.mem_cons,List.not_mem_nil,or_false] at hv;rcases hv with h1 | h1<;>rw[h1]<;>rfl) (v:=fun k j=> .tuple #[sl k 0 (d16 (vO h (aP b o) n/vO h (aP b' o') n')).length (d16 (vO h (aP b o) n/vO h (aP b' o') n')).length,sl j 0 (d16 (vO h (aP b o) n % vO h (aP b' o') n')).length (d16 (vO h (aP b o) n % vO h (aP b' o') n')).length]) (ZbR _) (ZbR _) (by kernel_rfl) r (fun k j=>by simp [oc,oc2,oc1,sl]) E0 (ZcL hx h5 h6 hy g5 g6) (fun k j g=>by simp [rn,rn2,rn1,sl])
    rw[evals] at fin;exact fin
 ·cases hg
end Go.Proofs.YtgefjidphfdhdaaGreatDoor
namespace Go.Proofs.YtgefjidphfdhdaaGreatDoor
open Go.KRun Go.Nt
set_option maxRecDepth 100000
def Z55:Zag:=fun vals h s=>
 match vals,s with
 | [.slice (some ⟨b,o,none⟩) n c,.slice (some ⟨b',o',none⟩) n' c'],.inr (.inl V):: .inr (.inl U)::s'=>
  some (.tuple #[sl h.n 0 (d16 V.toNat).length (d16 V.toNat).length,sl (h.n+1) 0 (d16 U.toNat).length (d16 U.toNat).length],(h.push (wU (d16 V.toNat)) tU).push (wU (d16 U.toNat)) tU,s',[(decide (vO h (some ⟨b,o,none⟩) n/vO h (some ⟨b',o',none⟩) n'=V.toNat∧vO h (some ⟨b,o,none⟩) n % vO h (some ⟨b',o',none⟩) n'=U.toNat),true),(Zoz h (some ⟨b,o,none⟩) (some ⟨b',o',none⟩) n c n' c',true)])
 | _,_=>none
theorem ZwE:Z8 31 Z55:=by
 intro vals h s v h' s' lg hg hl m B w E hv;unfold Z55 at hg;split at hg
 ·rename_i b o n c b' o' n' c' V U s2;cases hg;have l1:=Xc (hl _ Xe);have l2:=hl _ (Xd _ Xf);rw[← l1.1,← l1.2];exact Z1w _ h [] _ _ [] [(Zoz h (some ⟨b,o,none⟩) (some ⟨b',o',none⟩) n c n' c',true)] rfl (ZB l2) m B w E hv
 ·cases hg
end Go.Proofs.YtgefjidphfdhdaaGreatDoor
namespace Go.Proofs.YtgefjidphfdhdaaGreatDoor
open Go.KRun Go.Nt Go.Rd Go.Rn
set_option maxRecDepth 100000
theorem Z1x {A j:Nat}(h:A<2^j):(d16 A).length≤j/16+1:=ZeU (Nat.lt_of_lt_of_le h (Nat.pow_le_pow_right (by omega) (by omega)))
end Go.Proofs.YtgefjidphfdhdaaGreatDoor
namespace Go.Proofs.YtgefjidphfdhdaaGreatDoor
open Go.Proofs.Tryz
open Go.IntKind
open Go.KRun Go.Nt Go.Wd Go.Rn Go.Rd
set_option maxRecDepth 100000
set_option linter.unusedVariables false
def RowV (h:Hp) (p:Option Addr) (n c V:Nat):Prop:=Zaa h p n c=true∧Zj h p n=d16 V∧n<100000
section
variable {h : Hp} {p q : Option Addr} {n c n' c' V W : Nat}
theorem RowV.vo (r:RowV h p n c V):vO h p n=V:=by
 unfold vO;rw[r.2.1];exact ZbH (by omega) V
theorem RowV.dg (r:RowV h p n c V):dgB (Zj h p n)=true:=by
 rw[r.2.1];exact Zes (ZfP (by omega) V).1
theorem RowV.can (r:RowV h p n c V):ZeJ (Zj h p n)=true:=by
 rw[r.2.1];exact Zlj (ZfP (by omega) V)
theorem RowV.pos (r:RowV h p n c V) (hV:0<V):0<n:=by
 have:=zK r.1;rw[r.2.1] at this;have:=ZdP.2 hV;omega
theorem RowV.at {b:Nat}(hb:h.blk? b=some (w16 V)) (hl:(d16 V).length<100000):RowV h (Z6 b) (d16 V).length (d16 V).length V:=⟨ZeV hb (by omega),Zcp hb,hl⟩
theorem RowV.sh (r:RowV h p n c V) {k:Int}(h0:0≤k) (h1:k<100000):ZgB h p n c k=true:=by
 unfold ZgB;have:=r.2.2;rw[r.1,r.dg,Zk.2 (by omega),Xa h0];rfl
theorem RowV.mu (r:RowV h p n c V) (r':RowV h q n' c' W):ZeS h p q n c n' c'=true:=by
 unfold ZeS;have:=r.2.2;have:=r'.2.2;rw[r.1,r.dg,r'.1,r'.dg,Zk.2 (by omega)];rfl
theorem RowV.two (r:RowV h p n c V) (r':RowV h q n' c' W):zB h p q n c n' c'=true:=by
 unfold zB;have:=r.2.2;have:=r'.2.2;rw[r.1,r.dg,r'.1,r'.dg,Zk.2 (by omega)];rfl
end
theorem Zbb {a b:Nat}:decide (Zac a b≥0)=decide (b≤a):=by
 unfold Zac;by_cases h:a<b
 ·rw[if_pos h,Xb (by omega),Xb (by omega)]
 ·rw[if_neg h,Xa (p:=b≤a) (by omega)];split<;>rfl
def Zdq:Hc:=zx 67 ZuW (zx 31 Z55 (zx 33 ZnY (zx 36 ZnR (zx 35 ZnT (zx 66 ZlS (zx 34 Z1o (zx 65 ZtC hcN)))))))
theorem Zob:HcOk Zdq:=Zt func67 rfl Zqx (Zt func31 rfl ZwE (Zt func33 rfl ZnZ (Zt func36 rfl ZnS (Zt func35 rfl ZnU (Zt func66 rfl ZlT (Zt func34 rfl Zhy (Zt func65 rfl Zp7 zw)))))))
theorem Zft:TabOk (Zm prog Zg Zn Zdq):=Zp Ze Zob
def Z1y (F:Func):List Code:=[sP F 0,sP F 1,sP F 2]
def Zh0 (F:Func):Code:=cIn (cIn (sK F 3))
theorem Zr5:f29.body=some (Zq f29):=by kernel_rfl
theorem Zoc:Zq f29=zo (Z1y f29) (.block 0 (.loop (Zh0 f29))):=by kernel_rfl
def ZdQ (neg:Bool) (E top N:Int) (o n c:Nat):List Value:=[vRN neg E (sl 0 o n c),.pointer (some ⟨1,0,none⟩),.int .i64 0,.int .i64 top,.int .i64 N]
def Z9 (neg:Bool) (E:Int) (o n c:Nat) (l:List Value) (L:List Nat):Hp:=⟨3+L.length,(L.map w16).reverse++[bX neg E o n c,bX neg E o n c,(l,tR)]⟩
def ZxA (neg:Bool) (E:Int) (o n c:Nat) (l:List Value):Int:=i64.wrap (E+((bl (vO (hX neg E o n c l) (aX o) n):Nat):Int))
theorem ZwF (neg:Bool) (E:Int) (o n c:Nat) (l:List Value):Zh (evL (Zm prog Zg Zn Zdq) 200 (Z1y f29) ([vRN neg E (sl 0 o n c)]++List.replicate 33 undef,⟨1,[(l,tR)]⟩,[]) ⟨[],[],[]⟩) 5 29 none (ZdQ neg E (ZxA neg E o n c l) (i64.wrap (i64.wrap ((i64.wrap (ZxA neg E o n c l*30103)).tdiv 100000)+2)) o n c) (hX neg E o n c l) [(Zaa (hX neg E o n c l) (aX o) n c && ZeJ (Zj (hX neg E o n c l) (aX o) n) && Nat.blt n 1073741824,true)]:=by and_intros<;>kernel_rfl
theorem ZwG (neg:Bool) (E top N K:Int) (o n c:Nat) (l:List Value) (A B V:Nat) (g:Nat→Value):Zh (evC (Zm prog Zg Zn Zdq) 200 false (Zh0 f29) (ZdQ neg E top N o n c++tl 29 g,hX neg E o n c l,[cmp true,cmp true,num A,cmp true,cmp true,num B,num V,num K,cmp true]) ⟨[],[],[]⟩) 6 28 (some none) ([vRN neg E (sl 0 o n c),.pointer (some ⟨1,0,none⟩),.int .i64 N,.int .i64 top,.int .i64 N]++[.slice (Z6 6) (d16 V).length (d16 V).length]) (Z9 neg E o n c l [1,A,B,V]) [(decide (K≥0),true),(decide (Zac (vO (Z9 neg E o n c l [1,A,B,V]) (Z6 6) (d16 V).length) (vO (Z9 neg E o n c l [1,A,B,V]) (Z6 3) (d16 1).length)=K),true),(zB (Z9 neg E o n c l [1,A,B,V]) (Z6 6) (Z6 3) (d16 V).length (d16 V).length (d16 1).length (d16 1).length,true),(decide (vO (Z9 neg E o n c l [1,A,B]) (Z6 4) (d16 A).length*vO (Z9 neg E o n c l [1,A,B]) (Z6 5) (d16 B).length=V),true),(ZeS (Z9 neg E o n c l [1,A,B]) (Z6 4) (Z6 5) (d16 A).length (d16 A).length (d16 B).length (d16 B).length,true),(decide ((10:Int).toNat^(i64.wrap (0-N)).toNat=B),true),(Zin 10 (i64.wrap (0-N)),true),(decide ((10:Int)=0∧2≤(i64.wrap (0-N))),false),(decide (i64.wrap (0-N)≥0),true),(decide (vO (Z9 neg E o n c l [1]) (aX o) n*2^E.toNat=A),true),(ZgB (Z9 neg E o n c l [1]) (aX o) n c E,true),(decide (0<n),true),(decide (E≥0),true),(true,true)]:=by and_intros<;>kernel_rfl
theorem ZwH (neg:Bool) (E top N K:Int) (o n c:Nat) (l:List Value) (A B V:Nat) (g:Nat→Value):Zh (evC (Zm prog Zg Zn Zdq) 200 false (Zh0 f29) (ZdQ neg E top N o n c++tl 29 g,hX neg E o n c l,[cmp true,cmp true,num A,cmp true,cmp true,num B,num V,num K,cmp false,cmp false]) ⟨[],[],[]⟩) 6 28 none (ZdQ neg E top (i64.wrap (N-1)) o n c++[.slice (Z6 6) (d16 V).length (d16 V).length]) (Z9 neg E o n c l [1,A,B,V]) [(decide (i64.wrap (N-1)< -400),false),(decide (K≥0),false),(decide (Zac (vO (Z9 neg E o n c l [1,A,B,V]) (Z6 6) (d16 V).length) (vO (Z9 neg E o n c l [1,A,B,V]) (Z6 3) (d16 1).length)=K),true),(zB (Z9 neg E o n c l [1,A,B,V]) (Z6 6) (Z6 3) (d16 V).length (d16 V).length (d16 1).length (d16 1).length,true),(decide (vO (Z9 neg E o n c l [1,A,B]) (Z6 4) (d16 A).length*vO (Z9 neg E o n c l [1,A,B]) (Z6 5) (d16 B).length=V),true),(ZeS (Z9 neg E o n c l [1,A,B]) (Z6 4) (Z6 5) (d16 A).length (d16 A).length (d16 B).length (d16 B).length,true),(decide ((10:Int).toNat^(i64.wrap (0-N)).toNat=B),true),(Zin 10 (i64.wrap (0-N)),true),(decide ((10:Int)=0∧2≤(i64.wrap (0-N))),false),(decide (i64.wrap (0-N)≥0),true),(decide (vO (Z9 neg E o n c l [1]) (aX o) n*2^E.toNat=A),true),(ZgB (Z9 neg E o n c l [1]) (aX o) n c E,true),(decide (0<n),true),(decide (E≥0),true),(true,true)]:=by and_intros<;>kernel_rfl
theorem ZwI (neg:Bool) (E top N K:Int) (o n c:Nat) (l:List Value) (A B V:Nat) (g:Nat→Value):Zh (evC (Zm prog Zg Zn Zdq) 200 false (Zh0 f29) (ZdQ neg E top N o n c++tl 29 g,hX neg E o n c l,[cmp true,cmp true,num A,cmp false,cmp true,num B,num V,num K,cmp true]) ⟨[],[],[]⟩) 6 28 (some none) ([vRN neg E (sl 0 o n c),.pointer (some ⟨1,0,none⟩),.int .i64 N,.int .i64 top,.int .i64 N]++[.slice (Z6 4) (d16 A).length (d16 A).length]) (Z9 neg E o n c l [1,A,B,V]) [(decide (K≥0),true),(decide (Zac (vO (Z9 neg E o n c l [1,A,B,V]) (Z6 4) (d16 A).length) (vO (Z9 neg E o n c l [1,A,B,V]) (Z6 6) (d16 V).length)=K),true),(zB (Z9 neg E o n c l [1,A,B,V]) (Z6 4) (Z6 6) (d16 A).length (d16 A).length (d16 V).length (d16 V).length,true),(decide (vO (Z9 neg E o n c l [1,A,B]) (Z6 3) (d16 1).length*vO (Z9 neg E o n c l [1,A,B]) (Z6 5) (d16 B).length=V),true),(ZeS (Z9 neg E o n c l [1,A,B]) (Z6 3) (Z6 5) (d16 1).length (d16 1).length (d16 B).length (d16 B).length,true),(decide ((10:Int).toNat^(i64.wrap (0-i64.wrap (0-N))).toNat=B),true),(Zin 10 (i64.wrap (0-i64.wrap (0-N))),true),(decide ((10:Int)=0∧2≤(i64.wrap (0-i64.wrap (0-N)))),false),(decide (i64.wrap (0-N)≥0),false),(decide (vO (Z9 neg E o n c l [1]) (aX o) n*2^E.toNat=A),true),(ZgB (Z9 neg E o n c l [1]) (aX o) n c E,true),(decide (0<n),true),(decide (E≥0),true),(true,true)]:=by and_intros<;>kernel_rfl
theorem ZwJ (neg:Bool) (E top N K:Int) (o n c:Nat) (l:List Value) (A B V:Nat) (g:Nat→Value):Zh (evC (Zm prog Zg Zn Zdq) 200 false (Zh0 f29) (ZdQ neg E top N o n c++tl 29 g,hX neg E o n c l,[cmp true,cmp true,num A,cmp false,cmp true,num B,num V,num K,cmp false,cmp false]) ⟨[],[],[]⟩) 6 28 none (ZdQ neg E top (i64.wrap (N-1)) o n c++[.slice (Z6 4) (d16 A).length (d16 A).length]) (Z9 neg E o n c l [1,A,B,V]) [(decide (i64.wrap (N-1)< -400),false),(decide (K≥0),false),(decide (Zac (vO (Z9 neg E o n c l [1,A,B,V]) (Z6 4) (d16 A).length) (vO (Z9 neg E o n c l [1,A,B,V]) (Z6 6) (d16 V).length)=K),true),(zB (Z9 neg E o n c l [1,A,B,V]) (Z6 4) (Z6 6) (d16 A).length (d16 A).length (d16 V).length (d16 V).length,true),(decide (vO (Z9 neg E o n c l [1,A,B]) (Z6 3) (d16 1).length*vO (Z9 neg E o n c l [1,A,B]) (Z6 5) (d16 B).length=V),true),(ZeS (Z9 neg E o n c l [1,A,B]) (Z6 3) (Z6 5) (d16 1).length (d16 1).length (d16 B).length (d16 B).length,true),(decide ((10:Int).toNat^(i64.wrap (0-i64.wrap (0-N))).toNat=B),true),(Zin 10 (i64.wrap (0-i64.wrap (0-N))),true),(decide ((10:Int)=0∧2≤(i64.wrap (0-i64.wrap (0-N)))),false),(decide (i64.wrap (0-N)≥0),false),(decide (vO (Z9 neg E o n c l [1]) (aX o) n*2^E.toNat=A),true),(ZgB (Z9 neg E o n c l [1]) (aX o) n c E,true),(decide (0<n),true),(decide (E≥0),true),(true,true)]:=by and_intros<;>kernel_rfl
theorem ZwK (neg:Bool) (E top N K:Int) (o n c:Nat) (l:List Value) (A B V:Nat) (g:Nat→Value):Zh (evC (Zm prog Zg Zn Zdq) 200 false (Zh0 f29) (ZdQ neg E top N o n c++tl 29 g,hX neg E o n c l,[cmp false,cmp true,num A,cmp true,cmp true,num B,num V,num K,cmp true]) ⟨[],[],[]⟩) 6 28 (some none) ([vRN neg E (sl 0 o n c),.pointer (some ⟨1,0,none⟩),.int .i64 N,.int .i64 top,.int .i64 N]++[.slice (Z6 6) (d16 V).length (d16 V).length]) (Z9 neg E o n c l [1,A,B,V]) [(decide (K≥0),true),(decide (Zac (vO (Z9 neg E o n c l [1,A,B,V]) (Z6 6) (d16 V).length) (vO (Z9 neg E o n c l [1,A,B,V]) (Z6 4) (d16 A).length)=K),true),(zB (Z9 neg E o n c l [1,A,B,V]) (Z6 6) (Z6 4) (d16 V).length (d16 V).length (d16 A).length (d16 A).length,true),(decide (vO (Z9 neg E o n c l [1,A,B]) (aX o) n*vO (Z9 neg E o n c l [1,A,B]) (Z6 5) (d16 B).length=V),true),(ZeS (Z9 neg E o n c l [1,A,B]) (aX o) (Z6 5) n c (d16 B).length (d16 B).length,true),(decide ((10:Int).toNat^(i64.wrap (0-N)).toNat=B),true),(Zin 10 (i64.wrap (0-N)),true),(decide ((10:Int)=0∧2≤(i64.wrap (0-N))),false),(decide (i64.wrap (0-N)≥0),true),(decide (vO (Z9 neg E o n c l [1]) (Z6 3) (d16 1).length*2^(i64.wrap (0-E)).toNat=A),true),(ZgB (Z9 neg E o n c l [1]) (Z6 3) (d16 1).length (d16 1).length (i64.wrap (0-E)),true),(decide (0<(d16 1).length),true),(decide (E≥0),false),(true,true)]:=by and_intros<;>kernel_rfl
theorem ZwL (neg:Bool) (E top N K:Int) (o n c:Nat) (l:List Value) (A B V:Nat) (g:Nat→Value):Zh (evC (Zm prog Zg Zn Zdq) 200 false (Zh0 f29) (ZdQ neg E top N o n c++tl 29 g,hX neg E o n c l,[cmp false,cmp true,num A,cmp true,cmp true,num B,num V,num K,cmp false,cmp false]) ⟨[],[],[]⟩) 6 28 none (ZdQ neg E top (i64.wrap (N-1)) o n c++[.slice (Z6 6) (d16 V).length (d16 V).length]) (Z9 neg E o n c l [1,A,B,V]) [(decide (i64.wrap (N-1)< -400),false),(decide (K≥0),false),(decide (Zac (vO (Z9 neg E o n c l [1,A,B,V]) (Z6 6) (d16 V).length) (vO (Z9 neg E o n c l [1,A,B,V]) (Z6 4) (d16 A).length)=K),true),(zB (Z9 neg E o n c l [1,A,B,V]) (Z6 6) (Z6 4) (d16 V).length (d16 V).length (d16 A).length (d16 A).length,true),(decide (vO (Z9 neg E o n c l [1,A,B]) (aX o) n*vO (Z9 neg E o n c l [1,A,B]) (Z6 5) (d16 B).length=V),true),(ZeS (Z9 neg E o n c l [1,A,B]) (aX o) (Z6 5) n c (d16 B).length (d16 B).length,true),(decide ((10:Int).toNat^(i64.wrap (0-N)).toNat=B),true),(Zin 10 (i64.wrap (0-N)),true),(decide ((10:Int)=0∧2≤(i64.wrap (0-N))),false),(decide (i64.wrap (0-N)≥0),true),(decide (vO (Z9 neg E o n c l [1]) (Z6 3) (d16 1).length*2^(i64.wrap (0-E)).toNat=A),true),(ZgB (Z9 neg E o n c l [1]) (Z6 3) (d16 1).length (d16 1).length (i64.wrap (0-E)),true),(decide (0<(d16 1).length),true),(decide (E≥0),false),(true,true)]:=by and_intros<;>kernel_rfl
theorem ZwM (neg:Bool) (E top N K:Int) (o n c:Nat) (l:List Value) (A B V:Nat) (g:Nat→Value):Zh (evC (Zm prog Zg Zn Zdq) 200 false (Zh0 f29) (ZdQ neg E top N o n c++tl 29 g,hX neg E o n c l,[cmp false,cmp true,num A,cmp false,cmp true,num B,num V,num K,cmp true]) ⟨[],[],[]⟩) 6 28 (some none) ([vRN neg E (sl 0 o n c),.pointer (some ⟨1,0,none⟩),.int .i64 N,.int .i64 top,.int .i64 N]++[.slice (aX o) n c]) (Z9 neg E o n c l [1,A,B,V]) [(decide (K≥0),true),(decide (Zac (vO (Z9 neg E o n c l [1,A,B,V]) (aX o) n) (vO (Z9 neg E o n c l [1,A,B,V]) (Z6 6) (d16 V).length)=K),true),(zB (Z9 neg E o n c l [1,A,B,V]) (aX o) (Z6 6) n c (d16 V).length (d16 V).length,true),(decide (vO (Z9 neg E o n c l [1,A,B]) (Z6 4) (d16 A).length*vO (Z9 neg E o n c l [1,A,B]) (Z6 5) (d16 B).length=V),true),(ZeS (Z9 neg E o n c l [1,A,B]) (Z6 4) (Z6 5) (d16 A).length (d16 A).length (d16 B).length (d16 B).length,true),(decide ((10:Int).toNat^(i64.wrap (0-i64.wrap (0-N))).toNat=B),true),(Zin 10 (i64.wrap (0-i64.wrap (0-N))),true),(decide ((10:Int)=0∧2≤(i64.wrap (0-i64.wrap (0-N)))),false),(decide (i64.wrap (0-N)≥0),false),(decide (vO (Z9 neg E o n c l [1]) (Z6 3) (d16 1).length*2^(i64.wrap (0-E)).toNat=A),true),(ZgB (Z9 neg E o n c l [1]) (Z6 3) (d16 1).length (d16 1).length (i64.wrap (0-E)),true),(decide (0<(d16 1).length),true),(decide (E≥0),false),(true,true)]:=by and_intros<;>kernel_rfl
theorem ZwN (neg:Bool) (E top N K:Int) (o n c:Nat) (l:List Value) (A B V:Nat) (g:Nat→Value):Zh (evC (Zm prog Zg Zn Zdq) 200 false (Zh0 f29) (ZdQ neg E top N o n c++tl 29 g,hX neg E o n c l,[cmp false,cmp true,num A,cmp false,cmp true,num B,num V,num K,cmp false,cmp false]) ⟨[],[],[]⟩) 6 28 none (ZdQ neg E top (i64.wrap (N-1)) o n c++[.slice (aX o) n c]) (Z9 neg E o n c l [1,A,B,V]) [(decide (i64.wrap (N-1)< -400),false),(decide (K≥0),false),(decide (Zac (vO (Z9 neg E o n c l [1,A,B,V]) (aX o) n) (vO (Z9 neg E o n c l [1,A,B,V]) (Z6 6) (d16 V).length)=K),true),(zB (Z9 neg E o n c l [1,A,B,V]) (aX o) (Z6 6) n c (d16 V).length (d16 V).length,true),(decide (vO (Z9 neg E o n c l [1,A,B]) (Z6 4) (d16 A).length*vO (Z9 neg E o n c l [1,A,B]) (Z6 5) (d16 B).length=V),true),(ZeS (Z9 neg E o n c l [1,A,B]) (Z6 4) (Z6 5) (d16 A).length (d16 A).length (d16 B).length (d16 B).length,true),(decide ((10:Int).toNat^(i64.wrap (0-i64.wrap (0-N))).toNat=B),true),(Zin 10 (i64.wrap (0-i64.wrap (0-N))),true),(decide ((10:Int)=0∧2≤(i64.wrap (0-i64.wrap (0-N)))),false),(decide (i64.wrap (0-N)≥0),false),(decide (vO (Z9 neg E o n c l [1]) (Z6 3) (d16 1).length*2^(i64.wrap (0-E)).toNat=A),true),(ZgB (Z9 neg E o n c l [1]) (Z6 3) (d16 1).length (d16 1).length (i64.wrap (0-E)),true),(decide (0<(d16 1).length),true),(decide (E≥0),false),(true,true)]:=by and_intros<;>kernel_rfl
theorem ZwO {x:Value}{n:Nat}{g:Nat→Value}:∃ g',[x]++tl n g=tl (n+1) g':=by
 obtain⟨g',hg⟩:=ZgK (J:=[x]++tl n g) (n:=n+1) (by simp [ZfN]);exact⟨g',hg⟩
def Zo0 (S:Nat) (neg:Bool) (E top N:Int) (o n c:Nat) (l:List Value) (e:Ex) (z:Lf):Prop:=
 if pbN E (-N)≤paN S E (-N) then e=some none∧∃ t,z.1=[vRN neg E (sl 0 o n c),.pointer (some ⟨1,0,none⟩),.int .i64 N]++t else e=none∧(∃ g,z.1=ZdQ neg E top (N-1) o n c++tl 29 g)∧z.2.1=hX neg E o n c l
section
variable {l : List Value} {o c : Nat} {A' : List Int}
theorem Zcu {S:Nat}{neg:Bool}{E top N:Int}{n:Nat}{code:Code}{x0:Lf}{u:Value}{h:Hp}(hf:pbN E (-N)≤paN S E (-N)) (hr:RunsW (Zm prog Zg Zn Zdq) code x0 fun e z=>e=some none∧(∃ g,z.1=([vRN neg E (sl 0 o n c),.pointer (some ⟨1,0,none⟩),.int .i64 N,.int .i64 top,.int .i64 N]++[u])++tl 28 g)∧z.2.1=h):RunsW (Zm prog Zg Zn Zdq) code x0 (Zo0 S neg E top N o n c l):=by
 refine hr.mono fun e z he=> ?_;obtain⟨rfl,⟨g,h1⟩,_⟩:=he;unfold Zo0;rw[if_pos hf];exact⟨rfl,_,h1⟩
theorem ZiH {S:Nat}{neg:Bool}{E top N:Int}{n:Nat}{code:Code}{x0:Lf}{u:Value}{L:List Nat}(hf:¬ pbN E (-N)≤paN S E (-N)) (hN: -400≤N∧N≤400) (hl:∀ v∈l,lt1 2 v=true) (hr:RunsW (Zm prog Zg Zn Zdq) code x0 fun e z=>e=none∧(∃ g,z.1=(ZdQ neg E top (i64.wrap (N-1)) o n c++[u])++tl 28 g)∧z.2.1=Z9 neg E o n c l L):RunsW (Zm prog Zg Zn Zdq) code x0 (Zo0 S neg E top N o n c l):=by
 rw[Zw (by omega) (by omega)] at hr;have hc:=RunsW.cut (f1:=ZdQ neg E top (N-1) o n c) (f2:=[]) (k:=2) (N:=3+L.length) (extra:=(L.map w16).reverse++[bX neg E o n c]) (base:=[bX neg E o n c,(l,tR)]) (by
  refine hr.mono fun e z he=> ?_;obtain⟨h1,h2,h3⟩:=he;refine⟨h1,h2,?_⟩;rw[h3];unfold Z9;rw[List.append_assoc];rfl) rfl (by simp;omega) (by omega) (by
  intro x hx;rcases List.mem_cons.1 hx with rfl | hx
  ·intro v hv;simp only[bX,bOf,List.mem_cons,List.not_mem_nil,or_false] at hv;rcases hv with rfl | rfl | rfl<;>rfl
  ·rw[List.mem_singleton.1 hx];exact hl) (by
  intro v hv;simp only[ZdQ,List.mem_cons,List.not_mem_nil,or_false] at hv;rcases hv with rfl | rfl | rfl | rfl | rfl<;>rfl) (fun v hv=>absurd hv (List.not_mem_nil))
 refine hc.mono fun e z he=> ?_;obtain⟨rfl,⟨g,j,h1⟩,h2⟩:=he;unfold Zo0;rw[if_neg hf];obtain⟨g',hg⟩:=ZwO (x:=j) (n:=28) (g:=g);refine⟨rfl,⟨g',?_⟩,h2⟩;rw[h1,List.append_assoc,hg]
end
theorem ZaG (k:Nat):10^k<2^(4*k+1):=by
 have h:10^k≤16^k:=Nat.pow_le_pow_left (by omega) k;have e:(16:Nat)^k=2^(4*k):=by rw[Nat.pow_mul]
 have p:0<2^(4*k):=Nat.pow_pos (by omega);rw[Nat.pow_succ];omega
theorem zc {a b i j:Nat}(ha:a<2^i) (hb:b<2^j):a*b<2^(i+j):=by
 rw[Nat.pow_add];exact Nat.mul_lt_mul'' ha hb
theorem zf {a i:Nat}(h:a<2^i) (hi:i≤10000):(d16 a).length<100000:=by
 have:=Z1x h;omega
section
variable {l : List Value} {o c n S : Nat}
theorem Zgy (hX0:∀ h:Hp,h.blk? 0=some (l,tR)→RowV h (aX o) n c S) (hl:∀ v∈l,lt1 2 v=true) (h0:S≠0) (hS:S<2^53) {neg:Bool}{E top N:Int}(hE1: -1074≤E∧E≤972) (hN1: -324≤N∧N≤400) (hE:0≤E) (hN:N≤0) (g:Nat→Value) (s:List Dec):
  RunsW (Zm prog Zg Zn Zdq) (Zh0 f29) (ZdQ neg E top N o n c++tl 29 g,hX neg E o n c l,s) (Zo0 S neg E top N o n c l):=by
 obtain⟨A,hA⟩:∃ A,A=S*2^E.toNat:=⟨_,rfl⟩;obtain⟨B,hB⟩:∃ B,B=10^((-N).toNat):=⟨_,rfl⟩;obtain⟨V,hV⟩:∃ V,V=(S*2^E.toNat)*10^(-N).toNat:=⟨_,rfl⟩;have tS:S<2^53:=hS;obtain⟨J14,hJ14⟩:∃ J,J=1100:=⟨_,rfl⟩;obtain⟨K14,hK14⟩:∃ K,K=1700:=⟨_,rfl⟩;have tA:A<2^(53+J14):=by
  rw[hA];exact zc tS (Nat.pow_lt_pow_right (by omega) (by omega))
 have tB:B<2^K14:=by
  rw[hB];exact Nat.lt_of_lt_of_le (ZaG _) (Nat.pow_le_pow_right (by omega) (by omega))
 have eV:V=A*B:=by rw[hV,hA,hB]
 have tV:V<2^(53+J14+K14):=by
  rw[eV];exact zc tA tB
 have l1:(d16 1).length<100000:=zf (i:=1) (by decide) (by omega);have lA:=zf tA (by omega);have lB:=zf tB (by omega);have lV:=zf tV (by omega);have ea:V=paN S E (-N):=by
  unfold paN;exact hV
 have eb:1=pbN E (-N):=by
  unfold pbN;rw[show (-E).toNat=0 by omega,show (- -N).toNat=0 by omega]
 have q0:i64.wrap (0-N)= -N:=by rw[Zw (by omega) (by omega)];omega
 have gT:=ZwG neg E top N (Zac V 1) o n c l A B V g;rw[q0] at gT;have gF:=ZwH neg E top N (Zac V 1) o n c l A B V g;rw[q0] at gF;by_cases hf:pbN E (-N)≤paN S E (-N)
 ·exact Zcu hf (Zd (s0:=s) Zft gT (Za (by rw[Zbb,ea,eb];exact Xa hf) (Za (by rw[(RowV.at (h:=(Z9 neg E o n c l [1,A,B,V])) (b:=6) (V:=V) rfl lV).vo,(RowV.at (h:=(Z9 neg E o n c l [1,A,B,V])) (b:=3) (V:=1) rfl l1).vo];exact Xa rfl) (Za (RowV.two (RowV.at (h:=(Z9 neg E o n c l [1,A,B,V])) (b:=6) (V:=V) rfl lV) (RowV.at (h:=(Z9 neg E o n c l [1,A,B,V])) (b:=3) (V:=1) rfl l1)) (Za (by rw[(RowV.at (h:=(Z9 neg E o n c l [1,A,B])) (b:=4) (V:=A) rfl lA).vo,(RowV.at (h:=(Z9 neg E o n c l [1,A,B])) (b:=5) (V:=B) rfl lB).vo];exact Xa eV.symm) (Za (RowV.mu (RowV.at (h:=(Z9 neg E o n c l [1,A,B])) (b:=4) (V:=A) rfl lA) (RowV.at (h:=(Z9 neg E o n c l [1,A,B])) (b:=5) (V:=B) rfl lB)) (Za (Xa hB.symm) (Za (Xa ⟨by omega,by omega,by omega,by omega⟩) (Za (Xb (by omega)) (Za (Xa (by omega)) (Za (by rw[(hX0 (Z9 neg E o n c l [1]) rfl).vo];exact Xa hA.symm) (Za (RowV.sh (hX0 (Z9 neg E o n c l [1]) rfl) (by omega) (by omega)) (Za (Xa (RowV.pos (hX0 (Z9 neg E o n c l [1]) rfl) (by omega))) (Za (Xa (by omega)) (ZB rfl)))))))))))))))
 ·exact ZiH hf ⟨by omega,by omega⟩ hl (Zd (s0:=s) Zft gF (Za (by rw[Zw (by omega) (by omega)];exact Xb (by omega)) (Za (by rw[Zbb,ea,eb];exact Xb hf) (Za (by rw[(RowV.at (h:=(Z9 neg E o n c l [1,A,B,V])) (b:=6) (V:=V) rfl lV).vo,(RowV.at (h:=(Z9 neg E o n c l [1,A,B,V])) (b:=3) (V:=1) rfl l1).vo];exact Xa rfl) (Za (RowV.two (RowV.at (h:=(Z9 neg E o n c l [1,A,B,V])) (b:=6) (V:=V) rfl lV) (RowV.at (h:=(Z9 neg E o n c l [1,A,B,V])) (b:=3) (V:=1) rfl l1)) (Za (by rw[(RowV.at (h:=(Z9 neg E o n c l [1,A,B])) (b:=4) (V:=A) rfl lA).vo,(RowV.at (h:=(Z9 neg E o n c l [1,A,B])) (b:=5) (V:=B) rfl lB).vo];exact Xa eV.symm) (Za (RowV.mu (RowV.at (h:=(Z9 neg E o n c l [1,A,B])) (b:=4) (V:=A) rfl lA) (RowV.at (h:=(Z9 neg E o n c l [1,A,B])) (b:=5) (V:=B) rfl lB)) (Za (Xa hB.symm) (Za (Xa ⟨by omega,by omega,by omega,by omega⟩) (Za (Xb (by omega)) (Za (Xa (by omega)) (Za (by rw[(hX0 (Z9 neg E o n c l [1]) rfl).vo];exact Xa hA.symm) (Za (RowV.sh (hX0 (Z9 neg E o n c l [1]) rfl) (by omega) (by omega)) (Za (Xa (RowV.pos (hX0 (Z9 neg E o n c l [1]) rfl) (by omega))) (Za (Xa (by omega)) (ZB rfl))))))))))))))))
theorem Zgz (hX0:∀ h:Hp,h.blk? 0=some (l,tR)→RowV h (aX o) n c S) (hl:∀ v∈l,lt1 2 v=true) (h0:S≠0) (hS:S<2^53) {neg:Bool}{E top N:Int}(hE1: -1074≤E∧E≤972) (hN1: -324≤N∧N≤400) (hE:0≤E) (hN:0<N) (g:Nat→Value) (s:List Dec):
  RunsW (Zm prog Zg Zn Zdq) (Zh0 f29) (ZdQ neg E top N o n c++tl 29 g,hX neg E o n c l,s) (Zo0 S neg E top N o n c l):=by
 obtain⟨A,hA⟩:∃ A,A=S*2^E.toNat:=⟨_,rfl⟩;obtain⟨B,hB⟩:∃ B,B=10^(N.toNat):=⟨_,rfl⟩;obtain⟨V,hV⟩:∃ V,V=1*10^N.toNat:=⟨_,rfl⟩;have tS:S<2^53:=hS;obtain⟨J14,hJ14⟩:∃ J,J=1100:=⟨_,rfl⟩;obtain⟨K14,hK14⟩:∃ K,K=1700:=⟨_,rfl⟩;have tA:A<2^(53+J14):=by
  rw[hA];exact zc tS (Nat.pow_lt_pow_right (by omega) (by omega))
 have tB:B<2^K14:=by
  rw[hB];exact Nat.lt_of_lt_of_le (ZaG _) (Nat.pow_le_pow_right (by omega) (by omega))
 have eV:V=1*B:=by rw[hV,hB]
 have tV:V<2^(53+J14+K14):=by
  rw[eV];exact zc (Nat.lt_of_lt_of_le (show 1<2^1 by decide) (Nat.pow_le_pow_right (by omega) (by omega))) tB
 have l1:(d16 1).length<100000:=zf (i:=1) (by decide) (by omega);have lA:=zf tA (by omega);have lB:=zf tB (by omega);have lV:=zf tV (by omega);have ea:A=paN S E (-N):=by
  unfold paN;rw[show (-N).toNat=0 by omega,hA,Nat.pow_zero,Nat.mul_one]
 have eb:V=pbN E (-N):=by
  unfold pbN;rw[show (-E).toNat=0 by omega,show (- -N).toNat=N.toNat by omega,hV]
 have q0:i64.wrap (0-N)= -N:=by rw[Zw (by omega) (by omega)];omega
 have q1:i64.wrap (0 - -N)=N:=by rw[Zw (by omega) (by omega)];omega
 have gT:=ZwI neg E top N (Zac A V) o n c l A B V g;rw[q0,q1] at gT;have gF:=ZwJ neg E top N (Zac A V) o n c l A B V g;rw[q0,q1] at gF;by_cases hf:pbN E (-N)≤paN S E (-N)
 ·exact Zcu hf (Zd (s0:=s) Zft gT (Za (by rw[Zbb,ea,eb];exact Xa hf) (Za (by rw[(RowV.at (h:=(Z9 neg E o n c l [1,A,B,V])) (b:=4) (V:=A) rfl lA).vo,(RowV.at (h:=(Z9 neg E o n c l [1,A,B,V])) (b:=6) (V:=V) rfl lV).vo];exact Xa rfl) (Za (RowV.two (RowV.at (h:=(Z9 neg E o n c l [1,A,B,V])) (b:=4) (V:=A) rfl lA) (RowV.at (h:=(Z9 neg E o n c l [1,A,B,V])) (b:=6) (V:=V) rfl lV)) (Za (by rw[(RowV.at (h:=(Z9 neg E o n c l [1,A,B])) (b:=3) (V:=1) rfl l1).vo,(RowV.at (h:=(Z9 neg E o n c l [1,A,B])) (b:=5) (V:=B) rfl lB).vo];exact Xa eV.symm) (Za (RowV.mu (RowV.at (h:=(Z9 neg E o n c l [1,A,B])) (b:=3) (V:=1) rfl l1) (RowV.at (h:=(Z9 neg E o n c l [1,A,B])) (b:=5) (V:=B) rfl lB)) (Za (Xa hB.symm) (Za (Xa ⟨by omega,by omega,by omega,by omega⟩) (Za (Xb (by omega)) (Za (Xb (by omega)) (Za (by rw[(hX0 (Z9 neg E o n c l [1]) rfl).vo];exact Xa hA.symm) (Za (RowV.sh (hX0 (Z9 neg E o n c l [1]) rfl) (by omega) (by omega)) (Za (Xa (RowV.pos (hX0 (Z9 neg E o n c l [1]) rfl) (by omega))) (Za (Xa (by omega)) (ZB rfl)))))))))))))))
 ·exact ZiH hf ⟨by omega,by omega⟩ hl (Zd (s0:=s) Zft gF (Za (by rw[Zw (by omega) (by omega)];exact Xb (by omega)) (Za (by rw[Zbb,ea,eb];exact Xb hf) (Za (by rw[(RowV.at (h:=(Z9 neg E o n c l [1,A,B,V])) (b:=4) (V:=A) rfl lA).vo,(RowV.at (h:=(Z9 neg E o n c l [1,A,B,V])) (b:=6) (V:=V) rfl lV).vo];exact Xa rfl) (Za (RowV.two (RowV.at (h:=(Z9 neg E o n c l [1,A,B,V])) (b:=4) (V:=A) rfl lA) (RowV.at (h:=(Z9 neg E o n c l [1,A,B,V])) (b:=6) (V:=V) rfl lV)) (Za (by rw[(RowV.at (h:=(Z9 neg E o n c l [1,A,B])) (b:=3) (V:=1) rfl l1).vo,(RowV.at (h:=(Z9 neg E o n c l [1,A,B])) (b:=5) (V:=B) rfl lB).vo];exact Xa eV.symm) (Za (RowV.mu (RowV.at (h:=(Z9 neg E o n c l [1,A,B])) (b:=3) (V:=1) rfl l1) (RowV.at (h:=(Z9 neg E o n c l [1,A,B])) (b:=5) (V:=B) rfl lB)) (Za (Xa hB.symm) (Za (Xa ⟨by omega,by omega,by omega,by omega⟩) (Za (Xb (by omega)) (Za (Xb (by omega)) (Za (by rw[(hX0 (Z9 neg E o n c l [1]) rfl).vo];exact Xa hA.symm) (Za (RowV.sh (hX0 (Z9 neg E o n c l [1]) rfl) (by omega) (by omega)) (Za (Xa (RowV.pos (hX0 (Z9 neg E o n c l [1]) rfl) (by omega))) (Za (Xa (by omega)) (ZB rfl))))))))))))))))
theorem Zg0 (hX0:∀ h:Hp,h.blk? 0=some (l,tR)→RowV h (aX o) n c S) (hl:∀ v∈l,lt1 2 v=true) (h0:S≠0) (hS:S<2^53) {neg:Bool}{E top N:Int}(hE1: -1074≤E∧E≤972) (hN1: -324≤N∧N≤400) (hE:E<0) (hN:N≤0) (g:Nat→Value) (s:List Dec):
  RunsW (Zm prog Zg Zn Zdq) (Zh0 f29) (ZdQ neg E top N o n c++tl 29 g,hX neg E o n c l,s) (Zo0 S neg E top N o n c l):=by
 obtain⟨A,hA⟩:∃ A,A=1*2^(-E).toNat:=⟨_,rfl⟩;obtain⟨B,hB⟩:∃ B,B=10^((-N).toNat):=⟨_,rfl⟩;obtain⟨V,hV⟩:∃ V,V=S*10^(-N).toNat:=⟨_,rfl⟩;have tS:S<2^53:=hS;obtain⟨J14,hJ14⟩:∃ J,J=1100:=⟨_,rfl⟩;obtain⟨K14,hK14⟩:∃ K,K=1700:=⟨_,rfl⟩;have tA:A<2^(53+J14):=by
  rw[hA];exact zc (show 1<2^53 by decide) (Nat.pow_lt_pow_right (by omega) (by omega))
 have tB:B<2^K14:=by
  rw[hB];exact Nat.lt_of_lt_of_le (ZaG _) (Nat.pow_le_pow_right (by omega) (by omega))
 have eV:V=S*B:=by rw[hV,hB]
 have tV:V<2^(53+J14+K14):=by
  rw[eV];exact zc (Nat.lt_of_lt_of_le tS (Nat.pow_le_pow_right (by omega) (by omega))) tB
 have l1:(d16 1).length<100000:=zf (i:=1) (by decide) (by omega);have lA:=zf tA (by omega);have lB:=zf tB (by omega);have lV:=zf tV (by omega);have ea:V=paN S E (-N):=by
  unfold paN;rw[show E.toNat=0 by omega,hV,Nat.pow_zero,Nat.mul_one]
 have eb:A=pbN E (-N):=by
  unfold pbN;rw[show (- -N).toNat=0 by omega,hA,Nat.pow_zero,Nat.mul_one,Nat.one_mul]
 have q0:i64.wrap (0-N)= -N:=by rw[Zw (by omega) (by omega)];omega
 have q2:i64.wrap (0-E)= -E:=by rw[Zw (by omega) (by omega)];omega
 have gT:=ZwK neg E top N (Zac V A) o n c l A B V g;rw[q0,q2] at gT;have gF:=ZwL neg E top N (Zac V A) o n c l A B V g;rw[q0,q2] at gF;by_cases hf:pbN E (-N)≤paN S E (-N)
 ·exact Zcu hf (Zd (s0:=s) Zft gT (Za (by rw[Zbb,ea,eb];exact Xa hf) (Za (by rw[(RowV.at (h:=(Z9 neg E o n c l [1,A,B,V])) (b:=6) (V:=V) rfl lV).vo,(RowV.at (h:=(Z9 neg E o n c l [1,A,B,V])) (b:=4) (V:=A) rfl lA).vo];exact Xa rfl) (Za (RowV.two (RowV.at (h:=(Z9 neg E o n c l [1,A,B,V])) (b:=6) (V:=V) rfl lV) (RowV.at (h:=(Z9 neg E o n c l [1,A,B,V])) (b:=4) (V:=A) rfl lA)) (Za (by rw[(hX0 (Z9 neg E o n c l [1,A,B]) rfl).vo,(RowV.at (h:=(Z9 neg E o n c l [1,A,B])) (b:=5) (V:=B) rfl lB).vo];exact Xa eV.symm) (Za (RowV.mu (hX0 (Z9 neg E o n c l [1,A,B]) rfl) (RowV.at (h:=(Z9 neg E o n c l [1,A,B])) (b:=5) (V:=B) rfl lB)) (Za (Xa hB.symm) (Za (Xa ⟨by omega,by omega,by omega,by omega⟩) (Za (Xb (by omega)) (Za (Xa (by omega)) (Za (by rw[(RowV.at (h:=(Z9 neg E o n c l [1])) (b:=3) (V:=1) rfl l1).vo];exact Xa hA.symm) (Za (RowV.sh (RowV.at (h:=(Z9 neg E o n c l [1])) (b:=3) (V:=1) rfl l1) (by omega) (by omega)) (Za (Xa (RowV.pos (RowV.at (h:=(Z9 neg E o n c l [1])) (b:=3) (V:=1) rfl l1) (by omega))) (Za (Xb (by omega)) (ZB rfl)))))))))))))))
 ·exact ZiH hf ⟨by omega,by omega⟩ hl (Zd (s0:=s) Zft gF (Za (by rw[Zw (by omega) (by omega)];exact Xb (by omega)) (Za (by rw[Zbb,ea,eb];exact Xb hf) (Za (by rw[(RowV.at (h:=(Z9 neg E o n c l [1,A,B,V])) (b:=6) (V:=V) rfl lV).vo,(RowV.at (h:=(Z9 neg E o n c l [1,A,B,V])) (b:=4) (V:=A) rfl lA).vo];exact Xa rfl) (Za (RowV.two (RowV.at (h:=(Z9 neg E o n c l [1,A,B,V])) (b:=6) (V:=V) rfl lV) (RowV.at (h:=(Z9 neg E o n c l [1,A,B,V])) (b:=4) (V:=A) rfl lA)) (Za (by rw[(hX0 (Z9 neg E o n c l [1,A,B]) rfl).vo,(RowV.at (h:=(Z9 neg E o n c l [1,A,B])) (b:=5) (V:=B) rfl lB).vo];exact Xa eV.symm) (Za (RowV.mu (hX0 (Z9 neg E o n c l [1,A,B]) rfl) (RowV.at (h:=(Z9 neg E o n c l [1,A,B])) (b:=5) (V:=B) rfl lB)) (Za (Xa hB.symm) (Za (Xa ⟨by omega,by omega,by omega,by omega⟩) (Za (Xb (by omega)) (Za (Xa (by omega)) (Za (by rw[(RowV.at (h:=(Z9 neg E o n c l [1])) (b:=3) (V:=1) rfl l1).vo];exact Xa hA.symm) (Za (RowV.sh (RowV.at (h:=(Z9 neg E o n c l [1])) (b:=3) (V:=1) rfl l1) (by omega) (by omega)) (Za (Xa (RowV.pos (RowV.at (h:=(Z9 neg E o n c l [1])) (b:=3) (V:=1) rfl l1) (by omega))) (Za (Xb (by omega)) (ZB rfl))))))))))))))))
theorem Zg1 (hX0:∀ h:Hp,h.blk? 0=some (l,tR)→RowV h (aX o) n c S) (hl:∀ v∈l,lt1 2 v=true) (h0:S≠0) (hS:S<2^53) {neg:Bool}{E top N:Int}(hE1: -1074≤E∧E≤972) (hN1: -324≤N∧N≤400) (hE:E<0) (hN:0<N) (g:Nat→Value) (s:List Dec):
  RunsW (Zm prog Zg Zn Zdq) (Zh0 f29) (ZdQ neg E top N o n c++tl 29 g,hX neg E o n c l,s) (Zo0 S neg E top N o n c l):=by
 obtain⟨A,hA⟩:∃ A,A=1*2^(-E).toNat:=⟨_,rfl⟩;obtain⟨B,hB⟩:∃ B,B=10^(N.toNat):=⟨_,rfl⟩;obtain⟨V,hV⟩:∃ V,V=(1*2^(-E).toNat)*10^N.toNat:=⟨_,rfl⟩;have tS:S<2^53:=hS;obtain⟨J14,hJ14⟩:∃ J,J=1100:=⟨_,rfl⟩;obtain⟨K14,hK14⟩:∃ K,K=1700:=⟨_,rfl⟩;have tA:A<2^(53+J14):=by
  rw[hA];exact zc (show 1<2^53 by decide) (Nat.pow_lt_pow_right (by omega) (by omega))
 have tB:B<2^K14:=by
  rw[hB];exact Nat.lt_of_lt_of_le (ZaG _) (Nat.pow_le_pow_right (by omega) (by omega))
 have eV:V=A*B:=by rw[hV,hA,hB]
 have tV:V<2^(53+J14+K14):=by
  rw[eV];exact zc tA tB
 have l1:(d16 1).length<100000:=zf (i:=1) (by decide) (by omega);have lA:=zf tA (by omega);have lB:=zf tB (by omega);have lV:=zf tV (by omega);have ea:S=paN S E (-N):=by
  unfold paN;rw[show E.toNat=0 by omega,show (-N).toNat=0 by omega,Nat.mul_one,Nat.mul_one]
 have eb:V=pbN E (-N):=by
  unfold pbN;rw[show (- -N).toNat=N.toNat by omega,hV,Nat.one_mul]
 have q0:i64.wrap (0-N)= -N:=by rw[Zw (by omega) (by omega)];omega
 have q1:i64.wrap (0 - -N)=N:=by rw[Zw (by omega) (by omega)];omega
 have q2:i64.wrap (0-E)= -E:=by rw[Zw (by omega) (by omega)];omega
 have gT:=ZwM neg E top N (Zac S V) o n c l A B V g;rw[q0,q1,q2] at gT;have gF:=ZwN neg E top N (Zac S V) o n c l A B V g;rw[q0,q1,q2] at gF;by_cases hf:pbN E (-N)≤paN S E (-N)
 ·exact Zcu hf (Zd (s0:=s) Zft gT (Za (by rw[Zbb,ea,eb];exact Xa hf) (Za (by rw[(hX0 (Z9 neg E o n c l [1,A,B,V]) rfl).vo,(RowV.at (h:=(Z9 neg E o n c l [1,A,B,V])) (b:=6) (V:=V) rfl lV).vo];exact Xa rfl) (Za (RowV.two (hX0 (Z9 neg E o n c l [1,A,B,V]) rfl) (RowV.at (h:=(Z9 neg E o n c l [1,A,B,V])) (b:=6) (V:=V) rfl lV)) (Za (by rw[(RowV.at (h:=(Z9 neg E o n c l [1,A,B])) (b:=4) (V:=A) rfl lA).vo,(RowV.at (h:=(Z9 neg E o n c l [1,A,B])) (b:=5) (V:=B) rfl lB).vo];exact Xa eV.symm) (Za (RowV.mu (RowV.at (h:=(Z9 neg E o n c l [1,A,B])) (b:=4) (V:=A) rfl lA) (RowV.at (h:=(Z9 neg E o n c l [1,A,B])) (b:=5) (V:=B) rfl lB)) (Za (Xa hB.symm) (Za (Xa ⟨by omega,by omega,by omega,by omega⟩) (Za (Xb (by omega)) (Za (Xb (by omega)) (Za (by rw[(RowV.at (h:=(Z9 neg E o n c l [1])) (b:=3) (V:=1) rfl l1).vo];exact Xa hA.symm) (Za (RowV.sh (RowV.at (h:=(Z9 neg E o n c l [1])) (b:=3) (V:=1) rfl l1) (by omega) (by omega)) (Za (Xa (RowV.pos (RowV.at (h:=(Z9 neg E o n c l [1])) (b:=3) (V:=1) rfl l1) (by omega))) (Za (Xb (by omega)) (ZB rfl)))))))))))))))
 ·exact ZiH hf ⟨by omega,by omega⟩ hl (Zd (s0:=s) Zft gF (Za (by rw[Zw (by omega) (by omega)];exact Xb (by omega)) (Za (by rw[Zbb,ea,eb];exact Xb hf) (Za (by rw[(hX0 (Z9 neg E o n c l [1,A,B,V]) rfl).vo,(RowV.at (h:=(Z9 neg E o n c l [1,A,B,V])) (b:=6) (V:=V) rfl lV).vo];exact Xa rfl) (Za (RowV.two (hX0 (Z9 neg E o n c l [1,A,B,V]) rfl) (RowV.at (h:=(Z9 neg E o n c l [1,A,B,V])) (b:=6) (V:=V) rfl lV)) (Za (by rw[(RowV.at (h:=(Z9 neg E o n c l [1,A,B])) (b:=4) (V:=A) rfl lA).vo,(RowV.at (h:=(Z9 neg E o n c l [1,A,B])) (b:=5) (V:=B) rfl lB).vo];exact Xa eV.symm) (Za (RowV.mu (RowV.at (h:=(Z9 neg E o n c l [1,A,B])) (b:=4) (V:=A) rfl lA) (RowV.at (h:=(Z9 neg E o n c l [1,A,B])) (b:=5) (V:=B) rfl lB)) (Za (Xa hB.symm) (Za (Xa ⟨by omega,by omega,by omega,by omega⟩) (Za (Xb (by omega)) (Za (Xb (by omega)) (Za (by rw[(RowV.at (h:=(Z9 neg E o n c l [1])) (b:=3) (V:=1) rfl l1).vo];exact Xa hA.symm) (Za (RowV.sh (RowV.at (h:=(Z9 neg E o n c l [1])) (b:=3) (V:=1) rfl l1) (by omega) (by omega)) (Za (Xa (RowV.pos (RowV.at (h:=(Z9 neg E o n c l [1])) (b:=3) (V:=1) rfl l1) (by omega))) (Za (Xb (by omega)) (ZB rfl))))))))))))))))
theorem Zod (hX0:∀ h:Hp,h.blk? 0=some (l,tR)→RowV h (aX o) n c S) (hl:∀ v∈l,lt1 2 v=true) (h0:S≠0) (hS:S<2^53) {neg:Bool}{E top N:Int}(hE1: -1074≤E∧E≤972) (hN1: -324≤N∧N≤400) (g:Nat→Value) (s:List Dec):
  RunsW (Zm prog Zg Zn Zdq) (Zh0 f29) (ZdQ neg E top N o n c++tl 29 g,hX neg E o n c l,s) (Zo0 S neg E top N o n c l):=by
 by_cases hE:0≤E
 ·by_cases hN:N≤0
  ·exact Zgy hX0 hl h0 hS hE1 hN1 hE hN g s
  ·exact Zgz hX0 hl h0 hS hE1 hN1 hE (by omega) g s
 ·by_cases hN:N≤0
  ·exact Zg0 hX0 hl h0 hS hE1 hN1 (by omega) hN g s
  ·exact Zg1 hX0 hl h0 hS hE1 hN1 (by omega) (by omega) g s
def Z56 (S:Nat) (neg:Bool) (E top:Int) (o n c:Nat) (l:List Value) (r:Nat) (y:Lf):Prop:=∃ N:Int,N+324=r∧N≤400∧frK S E r N=frS S E∧(∃ g,y.1=ZdQ neg E top N o n c++tl 29 g)∧y.2.1=hX neg E o n c l
theorem Zr6 (hX0:∀ h:Hp,h.blk? 0=some (l,tR)→RowV h (aX o) n c S) (hl:∀ v∈l,lt1 2 v=true) (h0:S≠0) (hS:S<2^53) {neg:Bool}{E top:Int}(hE1: -1074≤E∧E≤972) (r:Nat) (y:Lf) (hy:Z56 S neg E top o n c l r y):
  RunsW (Zm prog Zg Zn Zdq) (Zh0 f29) y fun e z=>match e with | none=>∃ r',r'<r∧Z56 S neg E top o n c l r' z | some none=>∃ t,z.1=[vRN neg E (sl 0 o n c),.pointer (some ⟨1,0,none⟩),.int .i64 (frS S E)]++t | some (some id')=>id'=0∧False:=by
 obtain⟨N,h1,h2,h3,⟨g,h4⟩,h5⟩:=hy;obtain⟨t,h',sc⟩:=y;simp only at h4 h5;subst h4 h5;refine (Zod hX0 hl h0 hS (neg:=neg) (E:=E) (top:=top) (N:=N) hE1 ⟨by omega,h2⟩ g sc).mono fun e z he=> ?_;unfold Zo0 at he;by_cases hf:pbN E (-N)≤paN S E (-N)
 ·rw[if_pos hf] at he;obtain⟨rfl,t,ht⟩:=he;have:N=frS S E:=by
   rw[← h3];cases r with
   | zero=>rfl
   | succ r=>unfold frK;rw[if_pos hf]
  rw[← this];exact⟨t,ht⟩
 ·rw[if_neg hf] at he;obtain⟨rfl,h6,h7⟩:=he;cases r with
  | zero=>exact absurd (Zgo h0 hE1.1 (show N≤ -324 by omega)) hf
  | succ r=>
   unfold frK at h3;rw[if_neg hf] at h3;exact⟨r,by omega,N-1,by omega,by omega,h3,h6,h7⟩
theorem Zr7 (hX0:∀ h:Hp,h.blk? 0=some (l,tR)→RowV h (aX o) n c S) (hl:∀ v∈l,still v=true) (h0:S≠0) (hS:S<2^53) {neg:Bool}{E:Int}(hE1: -1074≤E∧E≤972):
  RunsW (Zm prog Zg Zn Zdq) (Zq f29) ([vRN neg E (sl 0 o n c)]++List.replicate 33 undef,⟨1,[(l,tR)]⟩,[]) fun e y=>(e=none∨e=some none)∧zd prog f29 y.1 y.2.1=some (.int .i64 (frS S E)):=by
 have r:=hX0 (hX neg E o n c l) rfl;have hb:bitLen S≤53:=len_le (k:=53) hS;have hb1:=ZaF h0;have et:ZxA neg E o n c l=E+(bitLen S:Nat):=by
  unfold ZxA;rw[r.vo,Zm1,Zw (by omega) (by omega)]
 obtain⟨t1,t2⟩:=Zs8 (top:=E+(bitLen S:Nat)) (by omega) (by omega);have en:i64.wrap (i64.wrap ((i64.wrap (ZxA neg E o n c l*30103)).tdiv 100000)+2)=n0F (E+(bitLen S:Nat)):=by
  unfold n0F at t1 t2 ⊢;rw[et,Zw (n:=(E+(bitLen S:Nat))*30103) (by omega) (by omega)];rw[Zw (n:=((E+(bitLen S:Nat))*30103).tdiv 100000) (by omega) (by omega),Zw (by omega) (by omega)]
 have hp:=ZwF neg E o n c l;rw[en] at hp;rw[Zoc];refine ZA Zft hp (ZB ?_) fun g=> ?_
 ·rw[r.1,r.can,Zk.2 (by have:=r.2.2;omega)];rfl
 obtain⟨N,hN⟩:∃ N,N=n0F (E+(bitLen S:Nat)):=⟨_,rfl⟩;rw[← hN] at t1 t2 ⊢;refine (RunsW.forLoop (P:=fun _=>False) (R:=fun z=>∃ t,z.1=[vRN neg E (sl 0 o n c),.pointer (some ⟨1,0,none⟩),.int .i64 (frS S E)]++t) (Z56 S neg E (ZxA neg E o n c l) o n c l) (fun r y hy=>Zr6 hX0 (fun v hv=>zv (by omega) (hl v hv)) h0 hS hE1 r y hy) (n:=(N+324).toNat) ⟨N,by omega,t2,by unfold frS;rw[← hN],⟨g,rfl⟩,rfl⟩).mono fun e y he=> ?_
 match e,he with
 | none,he=>exact he.elim
 | some none,⟨t,ht⟩=>
  refine⟨.inr rfl,?_⟩;rw[ht];rfl
 | some (some _),he=>exact he.elim
end
def Z20 (h:Hp) (p:Option Addr) (n c V:Nat) (E:Int):Bool:=Zaa h p n c && decide (Zj h p n=d16 V) && decide (0<V∧V<9007199254740992∧ -1074≤E∧E≤972)
def Z57:Zag:=fun vals h s=>
 match vals,s with
 | [.agg cs],.inr (.inl V)::s'=>
  match cs.toList with
  | [.bool neg,.int .i64 E,.slice (some ⟨b,o,none⟩) n c]=>some (.int .i64 (frS V.toNat E),h,s',[(Z20 h (some ⟨b,o,none⟩) n c V.toNat E,true)])
  | _=>none
 | _,_=>none
theorem ZwP:Z8 29 Z57:=by
 intro vals h s v h' s' lg hg hl m B w E0 hv;unfold Z57 at hg;split at hg
 ·rename_i cs V s2;split at hg
  ·rename_i neg E b o n c hcs;have ecs:cs= #[.bool neg,.int .i64 E,sl b o n c]:=by
    have:=congrArg List.toArray hcs;simpa [sl] using this
   cases hg;have l3:=hl _ Xf;simp only[Z20,Xh,Xi] at l3;obtain⟨⟨q1,q2⟩,q3,q4,q5,q6⟩:=l3;rcases ZQ q1 with ⟨h0,_⟩ | ⟨b',o',x,hp,hx,r1,rs,e0⟩
   ·cases h0
   ·cases hp;obtain⟨h1,h2,h3,h4,h5,h6,h7⟩:=zP r1;rw[e0] at q2;have hn:n≤4:=by
     have:=ZeU (A:=V.toNat) (k:=4) (by omega);rw[← q2,h2] at this;exact this
    have hX0:∀ h:Hp,h.blk? 0=some (x.1,tR)→RowV h (aX o) n c V.toNat:=by
     intro hh hb;obtain⟨a1,a2⟩:=Z1u r1 rs hh hb;rw[h2] at a1 a2;exact⟨a1,by rw[← q2];exact a2,by omega⟩
    have r:=Zr7 hX0 h7 (by omega) (show V.toNat<2^53 by omega) (neg:=neg) ⟨q5,q6⟩;have evals:List.map (rn fun _=>b) [vRN neg E (sl 0 o n c)]=[.agg cs]:=by
     rw[ecs];simp [rn,rn2,rn1,vRN,sl]
    have fin:=ZI (T:=(Zm prog Zg Zn Zdq)) func29 Zr5 (ZaU h7) (vals:=[vRN neg E (sl 0 o n c)]) (fun v hv=>by
     rw[List.mem_singleton.1 hv];rfl) (v:= .int .i64 (frS V.toNat E)) (by rfl) r E0 (zX hx h5 h6 rfl)
    rw[evals] at fin;exact fin
  ·cases hg
 ·cases hg
end Go.Proofs.YtgefjidphfdhdaaGreatDoor
namespace Go.Proofs.YtgefjidphfdhdaaGreatDoor
open Go.KRun Go.Nt Go.Rd Go.Pt
set_option maxRecDepth 100000
def ZdZ (p:Int):Int:=(sg p).tmod 4503599627370496
def ZsU (p:Int):List UInt8:=(hxW (ZdZ p)).data.toList.drop 3
end Go.Proofs.YtgefjidphfdhdaaGreatDoor
namespace Go.Proofs.YtgefjidphfdhdaaGreatDoor
open Go.KRun Go.Nt Go.Rd Go.Pt
set_option maxRecDepth 100000
set_option linter.unusedSimpArgs false
def Z1z (p:Int):List UInt8:=if spK p≠0 then spL (spK p) else if cl p=0 then (if sgn p=true then [45] else [])++[48,120,48,112,48] else if cl p=1 then Zx4 (sgn p) 48 (trR (ZsU p)) (-1022) else Zx4 (sgn p) 49 (trR (ZsU p)) (xp p+52)
end Go.Proofs.YtgefjidphfdhdaaGreatDoor
namespace Go.Proofs.YtgefjidphfdhdaaGreatDoor
open Go.Proofs.Tryz
open Go.KRun Go.Nt Go.Rd Go.Wd Go.Pt
set_option maxRecDepth 100000
def Z10:Con:=alt 44 Z05 (alt 45 Z2u Zn)
theorem Zr8:ConOk Z10:=ZF func44 rfl Zhu (ZF func45 rfl Znk Ze)
def ZwQ:Hc:=zx 46 (gT Z42) hcN
theorem Zoe:HcOk ZwQ:=Zt func46 rfl (Zfm ZvM) zw
theorem Z6K (b:Bool) (D:List UInt8) (e:Int):ZH (ZK (Zm prog Zg Z10 ZwQ) hT0 200 23 [.bool b,vDc D e] [sam true,sam true,sam true]) (bR (((mnL b++ptL D)++[101])++Zca e)) [(decide (((mnL b++ptL D)++[101]).length+(Zca e).length≤9223372036854775807),true),(decide (e.natAbs≤2000000),true),(decide ((mnL b++ptL D).length+1≤9223372036854775807),true),(decide ((mnL b).length+(ptL D).length≤9223372036854775807),true),(decide (1≤D.length∧D.length≤100000),true)]:=by and_intros<;>kernel_rfl
theorem Zof (l:List UInt8):(ptL l).length≤l.length+1:=by
 unfold ptL;split
 ·simp
 ·simp
 ·simp only[List.length_cons];omega
theorem Z58 (b:Bool) (D:List UInt8) (e:Int):((mnL b++ptL D)++[101])++Zca e=txL b D e:=by
 unfold txL mnL ptL;simp only[List.append_assoc,List.singleton_append];rfl
def Z59:Ans:=fun vals s=>
 match vals with
 | [.bool b,v]=>
  match dc2 v with
  | some (D,e)=>some (bR (txL b D.data.toList e),s,[(decide (1≤D.data.toList.length∧D.data.toList.length≤100000∧e.natAbs≤2000000),true)])
  | none=>none
 | _=>none
theorem ZwR:ZbM 23 Z59:=by
 intro vals s v s' lg h hl w hk;unfold Z59 at h;split at h
 ·split at h
  ·rename_i b v0 o D e hv;rw[ZiD hv];cases h;obtain⟨h1,h2,h3⟩:=Xc (hl _ Xf);have f:=Z6K b D.data.toList e;rw[Z58] at f;have l1:=Zhv b;have l2:=Zof D.data.toList;have l3:=Zff e;exact ZbZ (Zp Zr8 Zoe) f (Za (Xa (by rw[List.length_append,List.length_append,List.length_singleton];omega)) (Za (Xa h3) (Za (Xa (by rw[List.length_append];omega)) (Za (Xa (by omega)) (ZB (Xa ⟨h1,h2⟩)))))) (by rfl) (by rfl) hk
  ·cases h
 ·cases h
def Z11 (p:Int):Bool:=decide (ex p≠2047∧(sg p).toNat≠0)
theorem ZdR {p:Int}(h:Z11 p=true):Fin14 p:=by
 obtain⟨h1,h2⟩:=Xc h;have a:=Go.Rn.xp_bd p;have b:=Go.Rn.sg_lt p;exact⟨h1,h2,a.1,a.2,by omega⟩
def Z5A:Ans:=fun vals s=>
 match vals,s with
 | [v],.inr (.inl p)::s'=>
  match vP4 v with
  | some (m,c,e,q)=>some (vDc (sdD p) (sdE p),s',[(m==sgn p,true),(decide (c=cl p∧e=xp p∧q=sg p),true),(Z11 p,true)])
  | none=>none
 | _,_=>none
theorem ZwS:ZbM 24 Z5A:=by
 intro vals s v s' lg h hl w hk;unfold Z5A at h;split at h
 ·split at h
  ·rename_i v0 p s2 o m c e q hv;rw[Zcs hv];cases h;have l1:(m==sgn p)=true:=hl _ Xe;obtain⟨l2,l3,l4⟩:=Xc (hl _ (Xd _ Xe));have l5:Z11 p=true:=hl _ (Xd _ (Xd _ Xf));rw[eq_of_beq l1,l2,l3,l4];exact Zrr (ZdR l5) w hk
  ·cases h
 ·cases h
theorem Zg2:z8 20 (gU vT):=Znb ZjE
def Zea:Con:=alt 20 (gU vT) (alt 58 (gU fun p=> .int .i64 (cl p)) (alt 22 Z2v (alt 40 Zwe (alt 39 Znp (alt 72 Z2t Zn)))))
theorem Zr9:ConOk Zea:=ZF func20 rfl Zg2 (ZF func58 rfl ZsL (ZF func22 rfl Znl (ZF func40 rfl Zrk (ZF func39 rfl Znq (ZF func72 rfl Zna Ze)))))
def Zo1:Hc:=zx 23 (gT Z59) (zx 24 (gT Z5A) hcN)
theorem ZwT:HcOk Zo1:=Zt func23 rfl (Zfm ZwR) (Zt func24 rfl (Zfm ZwS) zw)
theorem Zg3:TabOk (Zm prog Zg Zea Zo1):=Zp Zr9 ZwT
def shT (p:Int):List UInt8:=if spK p≠0 then spL (spK p) else if cl p=0 then txL (sgn p) [48] 0 else shS p
theorem Z12 (p:Int):ZH (ZK (Zm prog Zg Zea Zo1) hT0 200 9 [.int .u64 p] [cmp false]) (bR (nmL (sgn p) (cl p))) [(decide (cl p≤2),false),(decide (U p),true),(decide (U p),true)]:=by and_intros<;>kernel_rfl
theorem Z13 (p:Int):ZH (ZK (Zm prog Zg Zea Zo1) hT0 200 9 [.int .u64 p] [cmp true,cmp true]) (bR (txL (sgn p) [48] 0)) [(true,true),(cl p==0,true),(decide (cl p≤2),true),(decide (U p),true),(decide (U p),true)]:=by and_intros<;>kernel_rfl
theorem Z14 (p:Int):ZH (ZK (Zm prog Zg Zea Zo1) hT0 200 9 [.int .u64 p] [cmp true,cmp false,num p]) (bR (txL (sgn p) (sdD p) (sdE p))) [(decide (1≤(sdD p).length∧(sdD p).length≤100000∧(sdE p).natAbs≤2000000),true),(sgn p==sgn p,true),(decide (cl p=cl p∧xp p=xp p∧sg p=sg p),true),(Z11 p,true),(cl p==0,false),(decide (cl p≤2),true),(decide (U p),true),(decide (U p),true)]:=by and_intros<;>kernel_rfl
theorem ZrA {p:Int}(hp:U p) (h:¬ cl p≤2):spK p≠0∧nmL (sgn p) (cl p)=spL (spK p):=by
 have e:=Zqn hp;have h1:=Zhc p;have h2:=ZdY p;unfold spK nmL;by_cases h3:3<cl p
 ·rw[if_pos h3,if_neg (by omega)];exact⟨by decide,rfl⟩
 ·have hc:cl p=3:=by omega
  have hx:ex p=2047∧fr p=0:=by
   unfold cl at hc;split at hc
   ·split at hc<;>omega
   ·split at hc
    ·split at hc
     ·constructor<;>assumption
     ·split at hc<;>omega
    ·omega
  rw[if_neg h3,if_pos hc];rw[hx.1,hx.2] at e;cases hs:sgn p with
  | true=>
   rw[hs,if_pos rfl] at e;rw[if_neg (by omega),if_pos (by omega)];exact⟨by decide,rfl⟩
  | false=>
   rw[hs,if_neg (by decide)] at e;rw[if_pos (by omega)];exact⟨by decide,rfl⟩
theorem Zg4 {p:Int}(h:cl p≤2):spK p=0:=by
 have:∀ q:Int,(q=9218868437227405312∨q=18442240474082181120)→cl q=3:=by
  rintro q (rfl | rfl)<;>decide
 unfold spK;rw[if_neg (by omega),if_neg (fun c=>by have:=this p (.inl c);omega),if_neg (fun c=>by have:=this p (.inr c);omega)]
theorem Zog {p:Int}(h:cl p≤2) (h0:cl p≠0):Z11 p=true:=by
 have h1:=ZdY p;refine Xa ?_;unfold cl at h h0;unfold sg;by_cases c1:ex p=0
 ·rw[if_pos c1] at h h0 ⊢;by_cases c2:fr p=0
  ·rw[if_pos c2] at h0;exact absurd rfl h0
  ·omega
 ·rw[if_neg c1] at h h0 ⊢;by_cases c2:ex p=2047
  ·rw[if_pos c2] at h;split at h
   ·omega
   ·split at h<;>omega
  ·rw[if_neg c2];omega
theorem Z5B {p:Int}(h:Fin14 p):1≤(sdD p).length∧(sdD p).length≤100000∧(sdE p).natAbs≤2000000:=by
 obtain⟨_,_,j1,j2⟩:=ZvJ h;have l1:=Zgw (shV p);have l2:=ZmG (dcL (shV p));refine⟨?_,by unfold sdD;omega,by unfold sdE;omega⟩;obtain⟨_,b,_⟩:=ZbD h;obtain⟨b1,b2,b3⟩:=ZnJ h b.1 b.2;have t19:=Zct h;have hp:0<10^(atL p-1):=Nat.pow_pos (by omega);have hv:0<shV p∧shV p<18446744073709551616:=by unfold shV;split<;>omega
 rcases Nat.eq_zero_or_pos (sdD p).length with c | c
 ·exfalso
  have c':trR (dcL (shV p))=[]:=List.length_eq_zero_iff.1 c;have e:=Zv1 (b:=10) (dcL (shV p));rw[c'] at e;have e2:nmB 10 (dcL (shV p))=shV p:=ZqP (ZmF hv.2);rw[e2] at e;have e3:nmB 10 []=0:=rfl;rw[e3,Nat.zero_mul] at e;omega
 ·exact c
theorem ZrB (p:Int) (hp:U p) (w:World) (hk:knT w):Calls prog 9 #[.int .u64 p] w fun e w'=>e= .returned (bR (shT p))∧zH w w':=by
 have hu:decide (U p)=true:=Xa hp;unfold shT;by_cases h2:cl p≤2
 ·rw[if_neg (fun c=>c (Zg4 h2))];by_cases h0:cl p=0
  ·rw[if_pos h0];exact ZbZ Zg3 (Z13 p) (Za rfl (Za (zy h0) (Za (Xa h2) (Za hu (ZB hu))))) (by rfl) (by rfl) hk
  ·rw[if_neg h0];have hf:=Zog h2 h0;have ht:=ZqZ (ZdR hf);have f:=Z14 p;have et:txL (sgn p) (sdD p) (sdE p)=shS p:=ht;rw[et] at f;exact ZbZ Zg3 f (Za (Xa (Z5B (ZdR hf))) (Za (by simp) (Za (Xa ⟨rfl,rfl,rfl⟩) (Za hf (Za (ze h0) (Za (Xa h2) (Za hu (ZB hu)))))))) (by rfl) (by rfl) hk
 ·obtain⟨a,b⟩:=ZrA hp h2;rw[if_pos a,← b];exact ZbZ Zg3 (Z12 p) (Za (Xb h2) (Za hu (ZB hu))) (by rfl) (by rfl) hk
end Go.Proofs.YtgefjidphfdhdaaGreatDoor
