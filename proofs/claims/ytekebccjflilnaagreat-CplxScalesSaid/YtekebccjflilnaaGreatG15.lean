/-
  ConVO, ConVQ, ToE, ToP, QuS, QuK, PrB, PrC, GnB, SuM, PrM
-/
import Derived.Test.YtekebccjflilnaaGreatG14
namespace Go.Proofs.YtekebccjflilnaaGreat
open Go.Proofs.Tryz
open Go.IntKind
open Go.KRun Go.Nt
set_option maxRecDepth 100000
set_option linter.unusedVariables false
section
variable {la lb : List Value} {o c o' c' : Nat} {A L : List Int}
theorem Zmq (a b:Nat):(Zax a b<0↔a<b)∧(Zax a b>0↔b<a):=by
 unfold Zax;constructor<;>split<;>(try split)<;>omega
def iV (e:Int):Value:= .int .u64 e
theorem Zpn (H:Two la lb o o' c' A L) {V:Nat}(hV:V<65536*vb 65536 L) {Q:List Int}{k:Nat}{v10:Value}(k1:KRun.lt 5 v10=true) (s1:∀ b:Nat,rn (zv 4 b) v10=v10) {e0:Nat}(he0:e0<65536) (hge:V/vb 65536 L≤e0) (g:Nat→Value) (s:List Dec):
  RunsW (Zp prog Zh Zo hcP) (.block 2 (.loop (yL f43))) (pFr o A.length c o' L.length c' A.length (sl 3 0 (d16 V).length (d16 V).length) ((k:Nat):Int) v10 (iV (e0:Nat))++[sl 4 0 (d16 (vb 65536 L*e0)).length (d16 (vb 65536 L*e0)).length]++tl 82 g,hB5 (wU (d16 (vb 65536 L*e0))) (wU (d16 V)) (wU Q) lb la,s) fun e z=>match e with
   | none=>(∃ g,z.1=pFr o A.length c o' L.length c' A.length (sl 3 0 (d16 V).length (d16 V).length) ((k:Nat):Int) v10 (iV (V/vb 65536 L:Nat))++[sl 4 0 (d16 (vb 65536 L*(V/vb 65536 L))).length (d16 (vb 65536 L*(V/vb 65536 L))).length]++tl 82 g)∧z.2.1=hB5 (wU (d16 (vb 65536 L*(V/vb 65536 L)))) (wU (d16 V)) (wU Q) lb la
   | some none=>False
   | some (some _)=>False:=by
 obtain⟨b0,b1,b2⟩:=H.bnd;have n2:=H.n2;generalize hB:vb 65536 L=B at*;have hP:∀ e:Nat,e<65536→(d16 (B*e)).length≤L.length+1:=fun e he=>Zch (by
  rw[Nat.pow_succ];exact Nat.mul_lt_mul_of_lt_of_le b1 (by omega) (by omega))
 have hlV:(d16 V).length≤L.length+1:=Zch (by
  rw[Nat.pow_succ,Nat.mul_comm];exact Nat.lt_trans hV (Nat.mul_lt_mul_of_pos_left b1 (by omega)))
 refine RunsW.forLoop (P:=fun z=>(∃ g,z.1=pFr o A.length c o' L.length c' A.length (sl 3 0 (d16 V).length (d16 V).length) ((k:Nat):Int) v10 (iV (V/B:Nat))++[sl 4 0 (d16 (B*(V/B))).length (d16 (B*(V/B))).length]++tl 82 g)∧z.2.1=hB5 (wU (d16 (B*(V/B)))) (wU (d16 V)) (wU Q) lb la) (R:=fun _=>False)
  (fun m z=>m<65536∧V/B≤m∧(∃ g,z.1=pFr o A.length c o' L.length c' A.length (sl 3 0 (d16 V).length (d16 V).length) ((k:Nat):Int) v10 (iV (m:Nat))++[sl 4 0 (d16 (B*m)).length (d16 (B*m)).length]++tl 82 g)∧z.2.1=hB5 (wU (d16 (B*m))) (wU (d16 V)) (wU Q) lb la) ?_ (n:=e0) ⟨he0,hge,⟨g,rfl⟩,rfl⟩
 rintro m ⟨t,h',s⟩ ⟨hm,hle,⟨g,ht⟩,hh⟩;simp only at ht hh;subst ht hh;have p4:(hB5 (wU (d16 (B*m))) (wU (d16 V)) (wU Q) lb la).blk? 4=some (wU (d16 (B*m)),tU):=rfl;have p3:(hB5 (wU (d16 (B*m))) (wU (d16 V)) (wU Q) lb la).blk? 3=some (wU (d16 V),tU):=rfl;have p1:(hB5 (wU (d16 (B*m))) (wU (d16 V)) (wU Q) lb la).blk? 1=some (lb,tR):=rfl;have hPm:=hP m hm;have q4:=ZfN p4 (by omega);have q3:=ZfN p3 (by omega);obtain⟨q1,w1,u1⟩:=H.row p1;rw[hB] at u1;have hy:∀ d:Bool,decide (V<B*m)=d→Zx [(decide (Zax (vO (hB5 (wU (d16 (B*m))) (wU (d16 V)) (wU Q) lb la) (aP 4 0) (d16 (B*m)).length) (vO (hB5 (wU (d16 (B*m))) (wU (d16 V)) (wU Q) lb la) (aP 3 0) (d16 V).length)>0),d),(Z6 (hB5 (wU (d16 (B*m))) (wU (d16 V)) (wU Q) lb la) (aP 4 0) (aP 3 0) (d16 (B*m)).length (d16 (B*m)).length (d16 V).length (d16 V).length,true)]:=fun d hd=>by
  refine Za ?_ (Zz (ZcW q4 q3 (by rw[Zbw p4];exact ZaG _) (by rw[Zbw p3];exact ZaG _) (by omega)));rw[ZoN p4,ZoN p3,← hd];exact decide_eq_decide.2 (Zmq (B*m) V).2
 rw[Z2T];by_cases hlt:V<B*m
 ·have hmd:V/B<m:=by
   rw[Nat.div_lt_iff_lt_mul b2,Nat.mul_comm];exact hlt
  have hm1:1≤m:=Nat.lt_of_le_of_lt (Nat.zero_le _) hmd;have hpos:0<(d16 (B*m)).length:=by
   rcases Nat.eq_zero_or_pos (d16 (B*m)).length with h1 | h1
   ·have:=(Zef (b:=65536) (by omega)).1 (List.eq_nil_of_length_eq_zero h1);omega
   ·exact h1
  have eB:B*m-B=B*(m-1):=by rw[Nat.mul_sub,Nat.mul_one]
  have hBm:B≤B*m:=Nat.le_mul_of_pos_right B (by omega);refine RunsW.next (front:=pFr o A.length c o' L.length c' A.length (sl 3 0 (d16 V).length (d16 V).length) ((k:Nat):Int) v10 (iV (m:Nat))++[sl 4 0 (d16 (B*m)).length (d16 (B*m)).length]) (Zc Zbb (Z0V o A.length c o' L.length c' A.length (d16 V).length (d16 (B*m)).length v10 ((k:Nat):Int) ((m:Nat):Int) (wU (d16 (B*m))) (wU (d16 V)) (wU Q) lb la g) (hy true (Xa hlt))) fun g s=> ?_;have rb:=Zc (s0:=s) Zbb (Z0X o A.length c o' L.length c' A.length (d16 V).length (d16 (B*m)).length v10 ((k:Nat):Int) ((m:Nat):Int) (wU (d16 (B*m))) (wU (d16 V)) (wU Q) lb la g) (Za (by
   rw[ZcW q4 q1 (by rw[Zbw p4];exact ZaG _) (by rw[w1];exact H.cL.1) (by omega),ZoN p4,u1,Nat.ble_eq_true_of_le hBm];rfl) (Zz (Xa hpos)))
  have e64:u64.wrap (((m:Nat):Int)-1)=((m-1:Nat):Int):=by rw[w64 (by omega) (by omega)];omega
  rw[ZoN p4,u1,eB,e64] at rb;have rk:=rb.kept (k:=4) (b:=5) (base:=[(wU (d16 V),tU),(wU Q,tU),(lb,tR),(la,tR)]) (y:=(wU (d16 (B*(m-1))),tU)) (front':=pFr o A.length c o' L.length c' A.length (sl 3 0 (d16 V).length (d16 V).length) ((k:Nat):Int) v10 (iV ((m-1:Nat):Int))++[sl 4 0 (d16 (B*(m-1))).length (d16 (B*(m-1))).length]) rfl (by
    simp only[pFr,List.map_append,List.map_cons,List.map_nil,s1]
    kernel_rfl) (by
    intro i x hx;have hi:i<4:=Hp.blk_lt hx;have h3:i=0∨i=1∨i=2∨i=3:=by omega
    rcases h3 with rfl | rfl | rfl | rfl
    ·have:(la,tR)=x:=Option.some.inj hx;subst this;exact⟨rfl,H.sa⟩
    ·have:(lb,tR)=x:=Option.some.inj hx;subst this;exact⟨rfl,H.sb⟩
    ·have:(wU Q,tU)=x:=Option.some.inj hx;subst this;exact⟨rfl,ZP _⟩
    ·have:(wU (d16 V),tU)=x:=Option.some.inj hx;subst this;exact⟨rfl,ZP _⟩) rfl (by omega) (ZP _) (by
    intro v hv;simp only[pFr,List.mem_append,List.mem_cons,List.not_mem_nil,or_false] at hv;rcases hv with (rfl | rfl | rfl | rfl | rfl | rfl | rfl | rfl | rfl | rfl | rfl | rfl) | rfl
    ·rfl
    ·rfl
    ·rfl
    ·rfl
    ·rfl
    ·rfl
    ·rfl
    ·rfl
    ·rfl
    ·rfl
    ·exact k1
    ·rfl
    ·rfl)
  refine RunsW.block (P1:=fun e z=>e=none∧(∃ g,z.1=pFr o A.length c o' L.length c' A.length (sl 3 0 (d16 V).length (d16 V).length) ((k:Nat):Int) v10 (iV ((m-1:Nat):Int))++[sl 4 0 (d16 (B*(m-1))).length (d16 (B*(m-1))).length]++tl 82 g)∧z.2.1=hB5 (wU (d16 (B*(m-1)))) (wU (d16 V)) (wU Q) lb la) rk (fun y hy=> ?_) (fun y hy=>by cases hy.1) (fun y hy=>by cases hy.1) (fun id y _ hy=>by cases hy.1);exact⟨m-1,by omega,by omega,Nat.le_sub_one_of_lt hmd,hy.2.1,hy.2.2⟩
 ·have hmd:m=V/B:=by
   have h1:m≤V/B:=by rw[Nat.le_div_iff_mul_le b2,Nat.mul_comm];omega
   omega
  subst hmd;refine RunsW.seq (Zc Zbb (Z0W o A.length c o' L.length c' A.length (d16 V).length (d16 (B*(V/B))).length v10 ((k:Nat):Int) ((V/B:Nat):Int) (wU (d16 (B*(V/B)))) (wU (d16 V)) (wU Q) lb la g) (hy false (Xb hlt))) (fun y hy=>by cases hy.1) (fun e y hy=> ?_);obtain⟨e1,z1,z2⟩:=hy;cases e1;exact⟨rfl,z1,z2⟩
def Z1y (o c o' c':Nat) (la lb:List Value) (A L:List Int) (V:Nat) (Q:List Int) (i:Int) (z:Lf):Prop:=
 ∃ v10 v11:Value,(KRun.lt 4 v10=true∧KRun.lt 4 v11=true∧(∀ k b:Nat,rn (zv k b) v10=v10)∧(∀ k b:Nat,rn (zv k b) v11=v11))∧(∃ g,z.1=pFr o A.length c o' L.length c' A.length (sl 3 0 (d16 V).length (d16 V).length) i v10 v11++tl 83 g)∧z.2.1=hB4 (wU (d16 V)) (wU Q) lb la
theorem Zpo (H:Two la lb o o' c' A L) {V:Nat}(hV:V<vb 65536 L) {Q:List Int}(hQ:Q.length=A.length) {k:Nat}(hk:k<A.length) {v10 v11:Value}(hv:KRun.lt 4 v10=true∧KRun.lt 4 v11=true∧(∀ k b:Nat,rn (zv k b) v10=v10)∧(∀ k b:Nat,rn (zv k b) v11=v11)) {r:Value}{h:Hp}(hr:rIn V Q la lb r h) (g:Nat→Value) (s:List Dec):
  RunsW (Zp prog Zh Zo hcP) (paL f43) (pFr o A.length c o' L.length c' A.length r ((k:Nat):Int) v10 v11++tl 83 g,h,s) fun e z=>e=none∧∃ V' Q',V'=(A.getD k 0).toNat+65536*V∧Q'=(if V'<vb 65536 L then Q else Q.set k ((V'/vb 65536 L:Nat):Int))∧Z1y o c o' c' la lb A L (V' % vb 65536 L) Q' (((k:Nat):Int)-1) z:=by
 obtain⟨b0,b1,b2⟩:=H.bnd;have n1:=H.n1;have n2:=H.n2;have a2:=H.a2;obtain⟨l1,l2,s1,s2⟩:=hv;rw[ZlM];refine RunsW.next (Zc Zbb (Z0M o A.length c o' L.length c' A.length r v10 v11 ((k:Nat):Int) h g) (Zz (Xa (Int.natCast_nonneg k)))) fun g s=> ?_;have hd:=Zd7 H.dA k;obtain⟨W,hW⟩:∃ W,W=(A.getD k 0).toNat+65536*V:=⟨_,rfl⟩;have hWB:W<65536*vb 65536 L:=by
  have:=hd.2;have:=hd.1;have h3:65536*V+65536≤65536*vb 65536 L:=by
   have:=Nat.mul_le_mul_left 65536 (Nat.succ_le_of_lt hV);rw[Nat.mul_succ] at this;exact this
  omega
 obtain⟨B,hB⟩:∃ B,B=vb 65536 L:=⟨_,rfl⟩;have hlW:(d16 W).length≤L.length+1:=Zch (by
  rw[Nat.pow_succ,Nat.mul_comm];exact Nat.lt_trans hWB (Nat.mul_lt_mul_of_pos_left b1 (by omega)))
 have e1:i64.wrap (((k:Nat):Int)-1)=((k:Nat):Int)-1:=ZL (by omega) (by omega);refine RunsW.seq (P1:=fun e z=>e=none∧Z1y o c o' c' la lb A L (W % vb 65536 L) (if W<vb 65536 L then Q else Q.set k ((W/vb 65536 L:Nat):Int)) ((k:Nat):Int) z) ?_ ?_ (fun e y hy=>by cases hy.1)
 ·refine RunsW.block (P1:=fun e z=>(e=none∨e=some (some 1))∧Z1y o c o' c' la lb A L (W % vb 65536 L) (if W<vb 65536 L then Q else Q.set k ((W/vb 65536 L:Nat):Int)) ((k:Nat):Int) z) ?_ (fun y hy=>⟨rfl,hy.2⟩) (fun y hy=>by rcases hy.1 with h | h<;>cases h) (fun y hy=>⟨rfl,hy.2⟩) (fun id y hid hy=>by
   rcases hy.1 with h | h
   ·cases h
   ·cases h;exact absurd rfl hid)
  rw[Z2S];have h7:=Zpm (c:=c) H hV (Q:=Q) hk l1 l2 (s1 3) (s2 3) hr g s;rw[← hW] at h7;refine RunsW.next h7 fun g s=> ?_;have p3:(hB4 (wU (d16 W)) (wU Q) lb la).blk? 3=some (wU (d16 W),tU):=rfl;have p1:(hB4 (wU (d16 W)) (wU Q) lb la).blk? 1=some (lb,tR):=rfl;have q3:=ZfN p3 (by omega);obtain⟨q1,w1,u1⟩:=H.row p1;have h8:∀ d:Bool,decide (W<vb 65536 L)=d→Zx [(decide (Zax (vO (hB4 (wU (d16 W)) (wU Q) lb la) (aP 3 0) (d16 W).length) (vO (hB4 (wU (d16 W)) (wU Q) lb la) (aP 1 o') L.length)<0),d),(Z6 (hB4 (wU (d16 W)) (wU Q) lb la) (aP 3 0) (aP 1 o') (d16 W).length (d16 W).length L.length c',true)]:=fun d hd=>by
   refine Za ?_ (Zz (ZcW q3 q1 (by rw[Zbw p3];exact ZaG _) (by rw[w1];exact H.cL.1) (by omega)));rw[ZoN p3,u1,← hd];exact decide_eq_decide.2 (Zmq W (vb 65536 L)).1
  by_cases hlt:W<vb 65536 L
  ·refine RunsW.seq (Zc Zbb (Z0R o A.length c o' L.length c' A.length (d16 W).length v10 v11 ((k:Nat):Int) (wU (d16 W)) (wU Q) lb la g) (h8 true (Xa hlt))) (fun y hy=>by cases hy.1) (fun e y hy=> ?_);obtain⟨e2,z1,z2⟩:=hy;cases e2;rw[if_pos hlt,Nat.mod_eq_of_lt hlt];exact⟨.inr rfl,v10,v11,⟨l1,l2,s1,s2⟩,z1,z2⟩
  ·rw[if_neg hlt];refine RunsW.next (Zc Zbb (Z0S o A.length c o' L.length c' A.length (d16 W).length v10 v11 ((k:Nat):Int) (wU (d16 W)) (wU Q) lb la g) (h8 false (Xb hlt))) fun g s=> ?_;have g9:=Z2V o A.length c o' L.length c' A.length (d16 W).length v10 v11 ((k:Nat):Int) (wU (d16 W)) (wU Q) lb la g;rw[Zbw p3,Zxe W L.length n1 n2] at g9;refine RunsW.next (Zc Zbb g9 (Za q3 (Za rfl (Za q3 (Za rfl (Zz q3)))))) fun g s=> ?_;obtain⟨t1,t2,t3,t4,t5⟩:=ZwZ n1 b0 b1 hWB;have etb:=Zxf H.cL n1 n2;generalize ZoM W L.length=tp at*;generalize ZmA (vb 65536 L) L.length=tb at*;obtain⟨tq,htq⟩:∃ tq,tq=tp/tb:=⟨_,rfl⟩;have htq':tq≤tp:=by rw[htq];exact Nat.div_le_self _ _
   rw[← htq] at t4;have eix:i64.wrap ((L.length:Int)-1)=((L.length-1:Nat):Int):=by rw[ZL (by omega) (by omega)];omega
   have g10:=Z0T o A.length c o' L.length c' A.length (d16 W).length v11 ((k:Nat):Int) ((tp:Nat):Int) (L.getD (L.length-1) 0) ((tq:Nat):Int) (wU (d16 W)) (wU Q) lb la g;have eq:u64.wrap (((tp:Nat):Int).tdiv ((tb:Nat):Int))=((tq:Nat):Int):=by
    rw[← Int.ofNat_tdiv,← htq,w64 (by omega) (by omega)]
   refine RunsW.next (Zc Zbb g10 (by
    rw[w1,etb];refine Za (Xb (by omega)) (Za (Xa eq) (Za q1 (Za rfl (Za ?_ (Zz ?_)))))
    ·rw[eix,Xg,Nat.mul_one,H.rb.cell (by omega)];simp [ZC]
    ·rw[eix];exact Xa (by omega))) fun g s=> ?_
   obtain⟨e,he⟩:∃ e:Nat,e=min tq 65535:=⟨_,rfl⟩;have em:Z0K ((tq:Nat):Int)=((e:Nat):Int):=by unfold Z0K;rw[he];split<;>omega
   rw[em];have e16:e<65536:=by omega
   have hde:W/vb 65536 L≤e:=by omega
   have w32:u32.wrap ((e:Nat):Int)=((e:Nat):Int):=ze (by omega) (by omega);have ep:pV (hB4 (wU (d16 W)) (wU Q) lb la) o' L.length ((e:Nat):Int)=vb 65536 L*e:=by
    unfold pV;rw[u1,w32,Xg];rfl
   have g11:=Z0U o A.length c o' L.length c' A.length (d16 W).length (iV ((tp:Nat):Int)) ((k:Nat):Int) ((e:Nat):Int) (wU (d16 W)) (wU Q) lb la g;rw[ep] at g11;refine RunsW.next (front:=pFr o A.length c o' L.length c' A.length (sl 3 0 (d16 W).length (d16 W).length) ((k:Nat):Int) (iV ((tp:Nat):Int)) (iV ((e:Nat):Int))++[sl 4 0 (d16 (vb 65536 L*e)).length (d16 (vb 65536 L*e)).length]) (Zc Zbb g11 (Za (by
    unfold ZiF;rw[q1,w1,ZaZ H.cL.1,Zk.2 (by omega),w32,Xa ⟨⟨by omega,by omega⟩,by omega,by omega⟩];rfl) (Zz (Xa (.inl (by omega)))))) fun g s=> ?_
   refine RunsW.seq (P1:=fun e z=>e=none∧(∃ g,z.1=pFr o A.length c o' L.length c' A.length (sl 3 0 (d16 W).length (d16 W).length) ((k:Nat):Int) (iV ((tp:Nat):Int)) (iV (W/vb 65536 L:Nat))++[sl 4 0 (d16 (vb 65536 L*(W/vb 65536 L))).length (d16 (vb 65536 L*(W/vb 65536 L))).length]++tl 82 g)∧z.2.1=hB5 (wU (d16 (vb 65536 L*(W/vb 65536 L)))) (wU (d16 W)) (wU Q) lb la) ((Zpn (c:=c) H hWB rfl (fun b=>rfl) e16 hde g s).mono fun e z hz=> ?_) ?_ (fun e y hy=>by cases hy.1)
   ·match e,hz with
    | none,hz=>exact⟨rfl,hz⟩
    | some none,hz=>exact hz.elim
    | some (some _),hz=>exact hz.elim
   ·rintro⟨t,h',s⟩ ⟨_,⟨g,ht⟩,hh⟩;simp only at ht hh;subst ht hh;have p4:(hB5 (wU (d16 (vb 65536 L*(W/vb 65536 L)))) (wU (d16 W)) (wU Q) lb la).blk? 4=some (wU (d16 (vb 65536 L*(W/vb 65536 L))),tU):=rfl;have p3':(hB5 (wU (d16 (vb 65536 L*(W/vb 65536 L)))) (wU (d16 W)) (wU Q) lb la).blk? 3=some (wU (d16 W),tU):=rfl;have hle:vb 65536 L*(W/vb 65536 L)≤W:=Nat.mul_div_le W (vb 65536 L);have hl4:(d16 (vb 65536 L*(W/vb 65536 L))).length≤L.length+1:=Zch (by
     rw[Nat.pow_succ];exact Nat.mul_lt_mul_of_lt_of_le b1 (by omega) (by omega))
    have q4:=ZfN p4 (by omega);have q3':=ZfN p3' (by omega);have hpos:0<(d16 W).length:=by
     rcases Nat.eq_zero_or_pos (d16 W).length with h1 | h1
     ·have:=(Zef (b:=65536) (by omega)).1 (List.eq_nil_of_length_eq_zero h1);omega
     ·exact h1
    have ge:=Z2W o A.length c o' L.length c' A.length (d16 W).length (d16 (vb 65536 L*(W/vb 65536 L))).length (iV ((tp:Nat):Int)) ((k:Nat):Int) ((W/vb 65536 L:Nat):Int) (wU (d16 (vb 65536 L*(W/vb 65536 L)))) (wU (d16 W)) (wU Q) lb la g;have wd:u32.wrap ((W/vb 65536 L:Nat):Int)=((W/vb 65536 L:Nat):Int):=ze (Int.natCast_nonneg _) (by omega);have em2:W-vb 65536 L*(W/vb 65536 L)=W % vb 65536 L:=by have:=Nat.div_add_mod W (vb 65536 L);omega
    have eset:(wU Q).set (0+((k:Nat):Int).toNat*1) (.int .u32 ((W/vb 65536 L:Nat):Int))=wU (Q.set k ((W/vb 65536 L:Nat):Int)):=by
     rw[Xg,Nat.zero_add,Nat.mul_one];unfold wU;rw[List.map_set]
    have re:=Zc (s0:=s) Zbb ge (Za (Xa (by rw[Xg,Zbt];omega)) (Za (Xa (by omega)) (Za (by
     rw[ZcW q3' q4 (by rw[Zbw p3'];exact ZaG _) (by rw[Zbw p4];exact ZaG _) (by omega),ZoN p4,ZoN p3',Nat.ble_eq_true_of_le hle];rfl) (Zz (Xa hpos)))))
    rw[ZoN p4,ZoN p3',em2,wd,eset] at re;have rk:=re.kept (k:=3) (b:=5) (base:=[(wU (Q.set k ((W/vb 65536 L:Nat):Int)),tU),(lb,tR),(la,tR)]) (y:=(wU (d16 (W % vb 65536 L)),tU)) (front':=pFr o A.length c o' L.length c' A.length (sl 3 0 (d16 (W % vb 65536 L)).length (d16 (W % vb 65536 L)).length) ((k:Nat):Int) (iV ((tp:Nat):Int)) (iV (W/vb 65536 L:Nat))) rfl (by
     simp only[pFr,List.map_cons,List.map_nil]
     kernel_rfl) (ZoP (ZP _) H.sb H.sa rfl rfl rfl) rfl (by omega) (ZP _) (Zqt rfl rfl)
    refine rk.mono fun e z hz=> ?_;obtain⟨e3,z1,z2⟩:=hz;exact⟨.inl e3,_,_,⟨rfl,rfl,fun k b=>rfl,fun k b=>rfl⟩,z1,z2⟩
 ·rintro⟨t,h',s⟩ ⟨_,u10,u11,hu,⟨g,ht⟩,hh⟩;simp only at ht hh;subst ht hh;have gi:=Z2U o A.length c o' L.length c' A.length (sl 3 0 (d16 (W % vb 65536 L)).length (d16 (W % vb 65536 L)).length) u10 u11 ((k:Nat):Int) (hB4 (wU (d16 (W % vb 65536 L))) (wU (if W<vb 65536 L then Q else Q.set k ((W/vb 65536 L:Nat):Int))) lb la) g;rw[e1] at gi;refine (Zc Zbb gi (fun x hx=>by cases hx)).mono fun e z hz=> ?_;obtain⟨e2,z1,z2⟩:=hz;exact⟨e2,W,_,hW,rfl,u10,u11,hu,z1,z2⟩
end
section
variable {la lb : List Value} {o c o' c' : Nat} {A L : List Int}
def okV (v10 v11:Value):Prop:=KRun.lt 4 v10=true∧KRun.lt 4 v11=true∧(∀ k b:Nat,rn (zv k b) v10=v10)∧(∀ k b:Nat,rn (zv k b) v11=v11)
def Z1z (A L:List Int) (i V:Nat) (Q:List Int):Prop:=i≤A.length∧Q.length=A.length∧(∀ x∈Q,Dg 65536 x)∧(∀ j,j<i→Q.getD j 0=0)∧vb 65536 (A.drop i)=vb 65536 (Q.drop i)*vb 65536 L+V∧V<vb 65536 L
def ZxO (o c o' c':Nat) (la lb:List Value) (A L:List Int) (i:Nat) (z:Lf):Prop:=
 ∃ V Q,Z1z A L i V Q∧∃ v10 v11 r,okV v10 v11∧(∃ g,z.1=pFr o A.length c o' L.length c' A.length r (((i:Nat):Int)-1) v10 v11++tl 83 g)∧rIn V Q la lb r z.2.1∧(i<A.length→r=sl 3 0 (d16 V).length (d16 V).length∧z.2.1=hB4 (wU (d16 V)) (wU Q) lb la)
theorem Zmr (H:Two la lb o o' c' A L) {k V:Nat}{Q:List Int}(h:Z1z A L (k+1) V Q):Z1z A L k (((A.getD k 0).toNat+65536*V) % vb 65536 L) (if (A.getD k 0).toNat+65536*V<vb 65536 L then Q else Q.set k ((((A.getD k 0).toNat+65536*V)/vb 65536 L:Nat):Int)):=by
 obtain⟨h1,h2,h3,h4,h5,h6⟩:=h;have hB:=H.bnd.2.2;have hd:=Zd7 H.dA k;have hA:vb 65536 (A.drop k)=(A.getD k 0).toNat+65536*vb 65536 (A.drop (k+1)):=ZeW (by omega);obtain⟨W,hW⟩:∃ W,W=(A.getD k 0).toNat+65536*V:=⟨_,rfl⟩;have hWB:W<65536*vb 65536 L:=by
  have:=hd.2;have:=hd.1;have h3:65536*V+65536≤65536*vb 65536 L:=by
   have:=Nat.mul_le_mul_left 65536 (Nat.succ_le_of_lt h6);rw[Nat.mul_succ] at this;exact this
  omega
 have hq:W/vb 65536 L<65536:=by rw[Nat.div_lt_iff_lt_mul hB];exact hWB
 have hdm:=Nat.div_add_mod W (vb 65536 L);have hml:=Nat.mod_lt W hB;rw[← hW];have hk:k<Q.length:=by omega
 have hQ:vb 65536 (Q.drop k)=(Q.getD k 0).toNat+65536*vb 65536 (Q.drop (k+1)):=ZeW hk;have key:∀ q:Nat,vb 65536 (A.drop k)=(q+65536*vb 65536 (Q.drop (k+1)))*vb 65536 L+(W-q*vb 65536 L)↔q*vb 65536 L≤W∨vb 65536 (A.drop k)=(q+65536*vb 65536 (Q.drop (k+1)))*vb 65536 L+(W-q*vb 65536 L):=fun q=>by
  refine⟨.inr,fun h=>h.elim (fun h=> ?_) id⟩;rw[hA,h5,Nat.add_mul,Nat.mul_add,Nat.mul_assoc];omega
 by_cases hlt:W<vb 65536 L
 ·rw[if_pos hlt,Nat.mod_eq_of_lt hlt];refine⟨by omega,h2,h3,fun j hj=>h4 j (by omega),?_,hlt⟩;have h0:(Q.getD k 0).toNat=0:=by rw[h4 k (by omega)];rfl
  rw[hQ,h0];have:=(key 0).2 (.inl (by omega));rw[Nat.zero_mul,Nat.sub_zero] at this;exact this
 ·rw[if_neg hlt];refine⟨by omega,by rw[List.length_set];exact h2,Zlt h3 ⟨Int.natCast_nonneg _,by omega⟩ k,fun j hj=> ?_,?_,hml⟩
  ·have:=h4 j (by omega);simp only[List.getD] at*;rw[List.getElem?_set_ne (by omega)];exact this
  ·have hk':k<(Q.set k ((W/vb 65536 L:Nat):Int)).length:=by rw[List.length_set];exact hk
   have e1:((Q.set k ((W/vb 65536 L:Nat):Int)).getD k 0).toNat=W/vb 65536 L:=by
    simp only[List.getD,List.getElem?_set_self hk,Option.getD_some,Xg]
   have e2:(Q.set k ((W/vb 65536 L:Nat):Int)).drop (k+1)=Q.drop (k+1):=by rw[List.drop_set_of_lt (by omega)]
   rw[ZeW hk',e1,e2];have e3:W % vb 65536 L=W-W/vb 65536 L*vb 65536 L:=by rw[Nat.mul_comm] at hdm;omega
   rw[e3];exact (key _).2 (.inl (by rw[Nat.mul_comm] at hdm;omega))
theorem Zpp (H:Two la lb o o' c' A L) {z0:Lf}(h0:ZxO o c o' c' la lb A L A.length z0):
  RunsW (Zp prog Zh Zo hcP) (.block 0 (.loop (paL f43))) z0 fun e z=>match e with | none=>ZxO o c o' c' la lb A L 0 z | some none=>False | some (some _)=>False:=by
 refine RunsW.forLoop (P:=ZxO o c o' c' la lb A L 0) (R:=fun _=>False) (ZxO o c o' c' la lb A L) ?_ h0;rintro m ⟨t,h',s⟩ hI;obtain⟨V,Q,hn,v10,v11,r,hv,⟨g,ht⟩,hr,hrow⟩:=hI;simp only at ht hr hrow;subst ht;cases m with
 | zero=>
  have e0:(((0:Nat):Int)-1)= -1:=rfl;rw[ZlM];refine RunsW.seq (Zc Zbb (Z0N o A.length c o' L.length c' A.length r v10 v11 (((0:Nat):Int)-1) h' g) (Zz (Xb (by omega)))) (fun y hy=>by cases hy.1) (fun e y hy=> ?_);obtain⟨e1,z1,z2⟩:=hy;cases e1;exact⟨rfl,V,Q,hn,v10,v11,r,hv,z1,by rw[z2];exact hr,fun hl=>by rw[z2];exact hrow hl⟩
 | succ k=>
  have hk:k<A.length:=by have:=hn.1;omega
  have ek:(((k+1:Nat):Int)-1)=((k:Nat):Int):=by omega
  rw[ek];have hn':=Zmr H hn;refine (Zpo (c:=c) H hn.2.2.2.2.2 (Q:=Q) hn.2.1 hk hv hr g s).mono fun e z hz=> ?_;obtain⟨rfl,V',Q',hV',hQ',u10,u11,hu,z1,z2⟩:=hz;rw[hV'] at hQ' z1 z2;rw[← hQ'] at hn';exact⟨k,by omega,_,Q',hn',u10,u11,_,hu,z1,.inr ⟨rfl,z2⟩,fun _=>⟨rfl,z2⟩⟩
theorem ZtX (H:Two la lb o o' c' A L):
  RunsW (Zp prog Zh Zo hcP) (Zaz (paP f43) (.seq (.seq (ZB (paB f43)) (.block 0 (.loop (paL f43)))) (paE f43))) ([sl 0 o A.length c,sl 1 o' L.length c']++List.replicate 93 undef,h2 la lb,[]) fun e z=>(e=none∨e=some none)∧∃ k j,k≠j∧Zau prog f43 z.1 z.2.1=some (.tuple #[sl k 0 (d16 (vb 65536 A/vb 65536 L)).length (d16 (vb 65536 A/vb 65536 L)).length,sl j 0 (d16 (vb 65536 A % vb 65536 L)).length (d16 (vb 65536 A % vb 65536 L)).length])∧(∃ r,z.2.1.blk? k=some (wU (d16 (vb 65536 A/vb 65536 L))++r,tU))∧∃ r,z.2.1.blk? j=some (wU (d16 (vb 65536 A % vb 65536 L))++r,tU):=by
 have a2:=H.a2;have a1:=H.a1;have hB:=H.bnd.2.2;have mk:zf 4 ((A.length:Nat):Int) ((A.length:Nat):Int)=true:=by unfold zf;exact Xa (by omega)
 refine Z0 Zbb (Zxc o A.length c o' L.length c' la lb) (Z2 mk) fun g=> ?_;rw[Xg];have ew:List.replicate A.length (Value.int .u32 0)=wU (List.replicate A.length 0):=by unfold wU;rw[List.map_replicate]
 rw[ew];have e1:i64.wrap ((A.length:Int)-1)=((A.length:Nat):Int)-1:=ZL (by omega) (by omega);refine RunsW.seq (P1:=fun e z=>e=none∧ZxO o c o' c' la lb A L 0 z) ?_ ?_ (fun e y hy=>by cases hy.1)
 ·have g4:=Z0L o A.length c o' L.length c' A.length Zn undef undef undef (hB3 (wU (List.replicate A.length 0)) lb la) g;rw[e1] at g4;refine RunsW.next (Zc Zbb g4 (fun x hx=>by cases hx)) fun g s=> ?_;refine (Zpp H ⟨0,List.replicate A.length 0,⟨Nat.le_refl _,by simp,fun x hx=> ?_,fun j _=> ?_,?_,hB⟩,undef,undef,Zn,⟨rfl,rfl,fun k b=>by kernel_rfl,fun k b=>by kernel_rfl⟩,⟨g,rfl⟩,.inl ⟨rfl,rfl,rfl⟩,fun h=>absurd h (Nat.lt_irrefl _)⟩).mono fun e z hz=> ?_
  ·rw[List.eq_of_mem_replicate hx];exact⟨by omega,by omega⟩
  ·simp only[List.getD,List.getElem?_replicate];split<;>rfl
  ·rw[List.drop_of_length_le (Nat.le_refl _),List.drop_of_length_le (by simp)];simp [vb]
  ·match e,hz with
   | none,hz=>exact⟨rfl,hz⟩
   | some none,hz=>exact hz.elim
   | some (some _),hz=>exact hz.elim
 ·rintro⟨t,h',s⟩ ⟨_,V,Q,hn,v10,v11,r,hv,⟨g,ht⟩,hr,hrow⟩;obtain⟨e2,e3⟩:=hrow (by omega);simp only at ht e3;subst ht e2 e3;obtain⟨_,q1,q2,_,q4,q5⟩:=hn;rw[List.drop_zero,List.drop_zero] at q4;have hdiv:vb 65536 A/vb 65536 L=vb 65536 Q:=by
   rw[q4,Nat.mul_comm,Nat.mul_add_div hB,Nat.div_eq_of_lt q5,Nat.add_zero]
  have hmod:vb 65536 A % vb 65536 L=V:=by
   rw[q4,Nat.mul_comm,Nat.mul_add_mod,Nat.mod_eq_of_lt q5]
  have rngQ:∀ x∈Q,0≤x∧x<4294967296:=fun x hx=>⟨(q2 x hx).1,by have:=(q2 x hx).2;omega⟩;have row:ZaK tU (wU Q) 0 A.length A.length=true:=by
   have:=zY (L:=Q) rngQ (by omega) (c:=Q.length) (ZyZ (by omega));rw[q1] at this;exact this
  have cq:zu (wU Q) 0 A.length=Q:=by
   have:=ZaE Q;rw[q1] at this;exact this
  have et:Z3 Q=(d16 (vb 65536 Q)).length:=Zad (b:=65536) (by omega) q2;have ge:=Zxd o A.length c o' L.length c' A.length (d16 V).length (.int .i64 (((0:Nat):Int)-1)) v10 v11 (wU (d16 V)) (wU Q) lb la g;rw[cq,et] at ge;refine (Zc Zbb ge (Z2 row)).mono fun e z hz=> ?_;obtain⟨rfl,⟨g',z1⟩,z2⟩:=hz;rw[hdiv,hmod];refine⟨.inr rfl,2,3,by omega,by rw[z1,z2];rfl,⟨wU (Q.drop (Z3 Q)),?_⟩,⟨[],by rw[z2,List.append_nil];rfl⟩⟩;have e4:wU (d16 (vb 65536 Q))++wU (Q.drop (Z3 Q))=wU Q:=by
   unfold d16;rw[← zj (by omega) _ q2,← ZO,List.take_append_drop]
  rw[z2,e4];rfl
end
def Zq3 (h:Hp) (p q:Option Addr) (n c n' c':Nat):Bool:=zS h p n c && dgB (Zu h p n) && (zS h q n' c' && Zfg (Zu h q n')) && (Nat.blt n 1000000 && Nat.blt n' 1000000 && Nat.blt 0 n && Nat.blt 0 n')
def gPa:Zcl:=fun vals h s=>
 match vals with
 | [.slice (some ⟨b,o,none⟩) n c,.slice (some ⟨b',o',none⟩) n' c']=>
  some (.tuple #[sl h.n 0 (d16 (vO h (aP b o) n/vO h (aP b' o') n')).length (d16 (vO h (aP b o) n/vO h (aP b' o') n')).length,sl (h.n+1) 0 (d16 (vO h (aP b o) n % vO h (aP b' o') n')).length (d16 (vO h (aP b o) n % vO h (aP b' o') n')).length],
   (h.push (wU (d16 (vO h (aP b o) n/vO h (aP b' o') n'))) tU).push (wU (d16 (vO h (aP b o) n % vO h (aP b' o') n'))) tU,s,[(Zq3 h (aP b o) (aP b' o') n c n' c',true)])
 | _=>none
theorem ZxP:za 43 gPa:=by
 intro vals h s v h' s' lg hg hl m B w E0 hv;unfold gPa at hg;split at hg
 ·rename_i b o n c b' o' n' c';cases hg;have l3:=hl _ Xf;simp only[Zq3,Xh] at l3;obtain⟨⟨⟨q1,q2⟩,⟨p1,p2⟩⟩,⟨⟨⟨r1,r2⟩,r3⟩,r4⟩⟩:=l3;have q2:=ZaY q2;have p2:=Zc1 p2;have r1:=Zk.1 r1;have r2:=Zk.1 r2;have r3:=Zk.1 r3;have r4:=Zk.1 r4;rcases Z8 q1 with ⟨h0,_⟩ | ⟨b1,o1,x,hp,hx,k1,ks,e0⟩
  ·cases h0
  ·cases hp;rcases Z8 p1 with ⟨h0,_⟩ | ⟨b2,o2,y,hp',hy,t1,ts,f0⟩
   ·cases h0
   ·cases hp';rw[e0] at q2;rw[f0] at p2;obtain⟨h1,h2',h3,h4,h5,h6,h7⟩:=ZU k1;obtain⟨g1,g2,g3,g4,g5,g6,g7⟩:=ZU t1;have ev:vO h (aP b o) n=vb 65536 (zu x.1 o n):=by unfold vO;rw[e0]
    have ev':vO h (aP b' o') n'=vb 65536 (zu y.1 o' n'):=by unfold vO;rw[f0]
    have cb:ZaK tR y.1 o' n' c'=true:=by
     unfold ZaK at t1 ⊢;simp only[Xh,Bool.not_eq_true'] at t1 ⊢;obtain⟨⟨⟨⟨⟨⟨_,_⟩,j3⟩,j4⟩,j5⟩,j6⟩,j7⟩:=t1;exact⟨⟨⟨⟨⟨⟨ZeQ,by kernel_rfl⟩,j3⟩,j4⟩,j5⟩,j6⟩,j7⟩
    have H:Two x.1 y.1 o o' c' (zu x.1 o n) (zu y.1 o' n'):=⟨h1,g1,q2,p2,by rw[g2];omega,by rw[g2];exact r2,by rw[h2'];omega,by rw[h2'];exact r1,by rw[g2];exact cb,ts,ks,by rw[g2]⟩;have r:=ZtX (c:=c) H;rw[h2',g2,← ev,← ev'] at r;have evals:List.map (rn (pair b b')) [sl 0 o n c,sl 1 o' n' c']=[.slice (some ⟨b,o,none⟩) n c,.slice (some ⟨b',o',none⟩) n' c']:=by
     simp [rn,rn2,rn1,sl,pair]
    have fin:=ZiO (T:=Zp prog Zh Zo hcP) func43 Zta (Zom h7 g7) (vals:=[sl 0 o n c,sl 1 o' n' c']) (fun v hv=>by
     simp only[List.mem_cons,List.not_mem_nil,or_false] at hv;rcases hv with h1 | h1<;>rw[h1]<;>rfl) (v:=fun k j=> .tuple #[sl k 0 (d16 (vO h (aP b o) n/vO h (aP b' o') n')).length (d16 (vO h (aP b o) n/vO h (aP b' o') n')).length,sl j 0 (d16 (vO h (aP b o) n % vO h (aP b' o') n')).length (d16 (vO h (aP b o) n % vO h (aP b' o') n')).length]) (Zbu _) (Zbu _) (by kernel_rfl) r (fun k j=>by simp [oc,oc2,oc1,sl]) E0 (Zlg hx h5 h6 hy g5 g6) (fun k j g=>by simp [rn,rn2,rn1,sl])
    rw[evals] at fin;exact fin
 ·cases hg
end Go.Proofs.YtekebccjflilnaaGreat
namespace Go.Proofs.YtekebccjflilnaaGreat
open Go.KRun Go.Nt
set_option maxRecDepth 100000
def Z10:Zcl:=fun vals h s=>
 match vals,s with
 | [.slice (some ⟨b,o,none⟩) n c,.slice (some ⟨b',o',none⟩) n' c'],.inr (.inl V):: .inr (.inl U)::s'=>
  some (.tuple #[sl h.n 0 (d16 V.toNat).length (d16 V.toNat).length,sl (h.n+1) 0 (d16 U.toNat).length (d16 U.toNat).length],(h.push (wU (d16 V.toNat)) tU).push (wU (d16 U.toNat)) tU,s',[(decide (vO h (some ⟨b,o,none⟩) n/vO h (some ⟨b',o',none⟩) n'=V.toNat∧vO h (some ⟨b,o,none⟩) n % vO h (some ⟨b',o',none⟩) n'=U.toNat),true),(Zq3 h (some ⟨b,o,none⟩) (some ⟨b',o',none⟩) n c n' c',true)])
 | _,_=>none
theorem ZtY:za 43 Z10:=by
 intro vals h s v h' s' lg hg hl m B w E hv;unfold Z10 at hg;split at hg
 ·rename_i b o n c b' o' n' c' V U s2;cases hg;have l1:=Xc (hl _ Xe);have l2:=hl _ (Xd _ Xf);rw[← l1.1,← l1.2];exact ZxP _ h [] _ _ [] [(Zq3 h (some ⟨b,o,none⟩) (some ⟨b',o',none⟩) n c n' c',true)] rfl (Zz l2) m B w E hv
 ·cases hg
section
variable {h : Hp} {b b' V W : Nat}
theorem oPa (hb:h.blk? b=some (wU (d16 V),tU)) (hc:h.blk? b'=some (wU (d16 W),tU)) (hl:(d16 V).length<1000000) (hm:(d16 W).length<1000000) (h0:0<(d16 V).length) (h1:0<(d16 W).length):Zq3 h (Za7 b) (Za7 b') (d16 V).length (d16 V).length (d16 W).length (d16 W).length=true:=by
 unfold Zq3 Za7;rw[ZE hb (by omega),Zaa hb,ZE hc (by omega),z6 hc,show Zfg (d16 W)=true from ZaV (ZcB (by omega) W),Zk.2 hl,Zk.2 hm,Zk.2 h0,Zk.2 h1];rfl
end
end Go.Proofs.YtekebccjflilnaaGreat
namespace Go.Proofs.YtekebccjflilnaaGreat
open Go.Proofs.Tryz
open Go.KRun Go.Nt
set_option maxRecDepth 100000
def hcT:Hc:=Zb5 43 Z10 Z2B
theorem Zq4:HcOk hcT:=ZA func43 rfl ZtY ZtT
end Go.Proofs.YtekebccjflilnaaGreat
namespace Go.Proofs.YtekebccjflilnaaGreat
open Go.Proofs.Tryz
open Go.IntKind
open Go.KRun Go.Nt Go.Wd Go.Pt Go.Rn
set_option maxRecDepth 100000
def M3 (a b:Int):Hp:=⟨3,[w16 (sg a).toNat,bPt b,bPt a]⟩
def M5 (a b:Int) (V:Nat):Hp:=⟨5,[w16 (sg b).toNat,w16 V,w16 (sg a).toNat,bPt b,bPt a]⟩
def L7 (a b:Int) (V Q R:Nat):List (List Value×TypeId):=[w16 R,w16 Q,w16 (sg b).toNat,w16 V,w16 (sg a).toNat,bPt b,bPt a]
def M7 (a b:Int) (V Q R:Nat):Hp:=⟨7,L7 a b V Q R⟩
def M8 (a b:Int) (V Q R:Nat):Hp:=⟨8,bOf false 0 Zn::L7 a b V Q R⟩
def M9 (a b:Int) (V Q R S:Nat):Hp:=⟨9,bOf (prN a b) (i64.wrap (i64.wrap (xp a-xp b)-121)) (sOf 7 S)::w16 S::L7 a b V Q R⟩
def M10 (a b:Int) (V Q R S:Nat):Hp:=⟨10,w16 1::bOf (prN a b) (i64.wrap (i64.wrap (xp a-xp b)-121)) (sOf 7 S)::w16 S::L7 a b V Q R⟩
def M11 (a b:Int) (V Q R S T:Nat):Hp:=⟨11,w16 T::w16 1::bOf (prN a b) (i64.wrap (i64.wrap (xp a-xp b)-121)) (sOf 10 T)::w16 S::L7 a b V Q R⟩
theorem Z3a (a b m:Int) (V Q R S T:Nat):Zw (Ze (Zp prog Zh ZbN hcT) 300 18 [.int .u64 a,.int .u64 b,.int .i64 m] [cmp false,cmp false,cmp false,cmp false,cmp false,cmp false,cmp false,cmp false,cmp true,num V,num Q,num R,at_,num 1,at_,num 2,at_,num 8,num 2,cmp true,num S,num 89,num 13,cmp true,cmp true,num T,num T]) (.tuple #[.int .u64 (sS (prN a b) (rnP m (prN a b) T (i64.wrap (i64.wrap (xp a-xp b)-121)))),.int .i64 (rnF m (prN a b) T (i64.wrap (i64.wrap (xp a-xp b)-121)))]) [(decide (vO (M11 a b V Q R S T) (Za7 10) (d16 T).length=T),true),(ZiX (M11 a b V Q R S T) (Za7 10) (d16 T).length (d16 T).length (i64.wrap (i64.wrap (xp a-xp b)-121)),true),(decide (vO (M10 a b V Q R S) (Za7 7) (d16 S).length+vO (M10 a b V Q R S) (Za7 9) (d16 1).length=T),true),(Z6 (M10 a b V Q R S) (Za7 7) (Za7 9) (d16 S).length (d16 S).length (d16 1).length (d16 1).length,true),(decide (0<(d16 S).length∨0<(d16 1).length),true),(decide (0≤(1:Int)∧(1:Int)<18446744073709551616),true),(decide (vO (M10 a b V Q R S) (Za7 7) (d16 S).length+vO (M10 a b V Q R S) (Za7 9) (d16 1).length=T),true),(Z6 (M10 a b V Q R S) (Za7 7) (Za7 9) (d16 S).length (d16 S).length (d16 1).length (d16 1).length,true),(decide (0<(d16 S).length∨0<(d16 1).length),true),(decide (0≤(1:Int)∧(1:Int)<18446744073709551616),true),(decide ((((d16 R).length:Nat):Int)>0),true),((wU (d16 S)).all Za2,true),((wU (d16 R)).all Za2,true),((wU (d16 Q)).all Za2,true),((wU (d16 (sg b).toNat)).all Za2,true),((wU (d16 V)).all Za2,true),((wU (d16 (sg a).toNat)).all Za2,true),(decide (vO (M8 a b V Q R) (Za7 5) (d16 Q).length*2^(1:Int).toNat=S),true),(Zpl (M8 a b V Q R) (Za7 5) (d16 Q).length (d16 Q).length 1,true),(decide (0<(d16 Q).length),true),(decide (vO (M7 a b V Q R) (Za7 5) (d16 Q).length*2^(1:Int).toNat=S),true),(Zpl (M7 a b V Q R) (Za7 5) (d16 Q).length (d16 Q).length 1,true),(decide (0<(d16 Q).length),true),(decide (vO (M5 a b V) (Za7 3) (d16 V).length/vO (M5 a b V) (Za7 4) (d16 (sg b).toNat).length=Q∧vO (M5 a b V) (Za7 3) (d16 V).length % vO (M5 a b V) (Za7 4) (d16 (sg b).toNat).length=R),true),(Zq3 (M5 a b V) (Za7 3) (Za7 4) (d16 V).length (d16 V).length (d16 (sg b).toNat).length (d16 (sg b).toNat).length,true),(decide (0≤sg b∧sg b<18446744073709551616),true),(decide (vO (M3 a b) (Za7 2) (d16 (sg a).toNat).length*2^(120:Int).toNat=V),true),(Zpl (M3 a b) (Za7 2) (d16 (sg a).toNat).length (d16 (sg a).toNat).length 120,true),(decide (0<(d16 (sg a).toNat).length),true),(decide (0≤sg a∧sg a<18446744073709551616),true),(cl b==0,false),(cl a==0,false),(cl b==3,false),(cl a==3,false),(cl a==0,false),(cl a==3,false),(decide (cl b>3),false),lU b,(decide (cl a>3),false),lU a,lU b,lU a]:=by and_intros<;>kernel_rfl
theorem Z3b (a b m:Int) (V Q R S:Nat):Zw (Ze (Zp prog Zh ZbN hcT) 300 18 [.int .u64 a,.int .u64 b,.int .i64 m] [cmp false,cmp false,cmp false,cmp false,cmp false,cmp false,cmp false,cmp false,cmp true,num V,num Q,num R,at_,num 1,at_,num 2,at_,num 8,num 2,cmp true,num S,num 89,num 13,cmp false,num S]) (.tuple #[.int .u64 (sS (prN a b) (rnP m (prN a b) S (i64.wrap (i64.wrap (xp a-xp b)-121)))),.int .i64 (rnF m (prN a b) S (i64.wrap (i64.wrap (xp a-xp b)-121)))]) [(decide (vO (M9 a b V Q R S) (Za7 7) (d16 S).length=S),true),(ZiX (M9 a b V Q R S) (Za7 7) (d16 S).length (d16 S).length (i64.wrap (i64.wrap (xp a-xp b)-121)),true),(decide ((((d16 R).length:Nat):Int)>0),false),((wU (d16 S)).all Za2,true),((wU (d16 R)).all Za2,true),((wU (d16 Q)).all Za2,true),((wU (d16 (sg b).toNat)).all Za2,true),((wU (d16 V)).all Za2,true),((wU (d16 (sg a).toNat)).all Za2,true),(decide (vO (M8 a b V Q R) (Za7 5) (d16 Q).length*2^(1:Int).toNat=S),true),(Zpl (M8 a b V Q R) (Za7 5) (d16 Q).length (d16 Q).length 1,true),(decide (0<(d16 Q).length),true),(decide (vO (M7 a b V Q R) (Za7 5) (d16 Q).length*2^(1:Int).toNat=S),true),(Zpl (M7 a b V Q R) (Za7 5) (d16 Q).length (d16 Q).length 1,true),(decide (0<(d16 Q).length),true),(decide (vO (M5 a b V) (Za7 3) (d16 V).length/vO (M5 a b V) (Za7 4) (d16 (sg b).toNat).length=Q∧vO (M5 a b V) (Za7 3) (d16 V).length % vO (M5 a b V) (Za7 4) (d16 (sg b).toNat).length=R),true),(Zq3 (M5 a b V) (Za7 3) (Za7 4) (d16 V).length (d16 V).length (d16 (sg b).toNat).length (d16 (sg b).toNat).length,true),(decide (0≤sg b∧sg b<18446744073709551616),true),(decide (vO (M3 a b) (Za7 2) (d16 (sg a).toNat).length*2^(120:Int).toNat=V),true),(Zpl (M3 a b) (Za7 2) (d16 (sg a).toNat).length (d16 (sg a).toNat).length 120,true),(decide (0<(d16 (sg a).toNat).length),true),(decide (0≤sg a∧sg a<18446744073709551616),true),(cl b==0,false),(cl a==0,false),(cl b==3,false),(cl a==3,false),(cl a==0,false),(cl a==3,false),(decide (cl b>3),false),lU b,(decide (cl a>3),false),lU a,lU b,lU a]:=by and_intros<;>kernel_rfl
theorem Z11 (a b m:Int):Zw (Ze (Zp prog Zh ZbN hcT) 300 18 [.int .u64 a,.int .u64 b,.int .i64 m] [cmp true,cmp true]) (.tuple #[.int .u64 9221120237041090560,.int .i64 1]) [(cl a==5,true),lU a,(decide (cl a>3),true),lU a,lU b,lU a]:=by and_intros<;>kernel_rfl
theorem Z12 (a b m:Int):Zw (Ze (Zp prog Zh ZbN hcT) 300 18 [.int .u64 a,.int .u64 b,.int .i64 m] [cmp true,cmp false,cmp true]) (.tuple #[.int .u64 9221120237041090560,.int .i64 1]) [(cl b==5,true),lU b,(cl a==5,false),lU a,(decide (cl a>3),true),lU a,lU b,lU a]:=by and_intros<;>kernel_rfl
theorem Z13 (a b m:Int):Zw (Ze (Zp prog Zh ZbN hcT) 300 18 [.int .u64 a,.int .u64 b,.int .i64 m] [cmp true,cmp false,cmp false]) (.tuple #[.int .u64 9221120237041090560,.int .i64 0]) [(cl b==5,false),lU b,(cl a==5,false),lU a,(decide (cl a>3),true),lU a,lU b,lU a]:=by and_intros<;>kernel_rfl
theorem Z14 (a b m:Int):Zw (Ze (Zp prog Zh ZbN hcT) 300 18 [.int .u64 a,.int .u64 b,.int .i64 m] [cmp false,cmp true,cmp false,cmp true]) (.tuple #[.int .u64 9221120237041090560,.int .i64 1]) [(cl b==5,true),lU b,(cl a==5,false),lU a,(decide (cl b>3),true),lU b,(decide (cl a>3),false),lU a,lU b,lU a]:=by and_intros<;>kernel_rfl
theorem Z15 (a b m:Int):Zw (Ze (Zp prog Zh ZbN hcT) 300 18 [.int .u64 a,.int .u64 b,.int .i64 m] [cmp false,cmp true,cmp false,cmp false]) (.tuple #[.int .u64 9221120237041090560,.int .i64 0]) [(cl b==5,false),lU b,(cl a==5,false),lU a,(decide (cl b>3),true),lU b,(decide (cl a>3),false),lU a,lU b,lU a]:=by and_intros<;>kernel_rfl
theorem Z16 (a b m:Int):Zw (Ze (Zp prog Zh ZbN hcT) 300 18 [.int .u64 a,.int .u64 b,.int .i64 m] [cmp false,cmp false,cmp true,cmp true]) (.tuple #[.int .u64 9221120237041090560,.int .i64 1]) [(cl b==3,true),(cl a==3,true),(decide (cl b>3),false),lU b,(decide (cl a>3),false),lU a,lU b,lU a]:=by and_intros<;>kernel_rfl
theorem Z17 (a b m:Int):Zw (Ze (Zp prog Zh ZbN hcT) 300 18 [.int .u64 a,.int .u64 b,.int .i64 m] [cmp false,cmp false,cmp false,cmp true,cmp true]) (.tuple #[.int .u64 9221120237041090560,.int .i64 1]) [(cl b==0,true),(cl a==0,true),(cl a==3,false),(decide (cl b>3),false),lU b,(decide (cl a>3),false),lU a,lU b,lU a]:=by and_intros<;>kernel_rfl
theorem Z18 (a b m:Int):Zw (Ze (Zp prog Zh ZbN hcT) 300 18 [.int .u64 a,.int .u64 b,.int .i64 m] [cmp false,cmp false,cmp true,cmp false,cmp false,cmp true]) (.tuple #[.int .u64 (sS (prN a b) 9218868437227405312),.int .i64 0]) [(decide ((0:Int)≤9218868437227405312∧9218868437227405312<9223372036854775808),true),(cl a==3,true),(cl a==0,false),(cl b==3,false),(cl a==3,true),(decide (cl b>3),false),lU b,(decide (cl a>3),false),lU a,lU b,lU a]:=by and_intros<;>kernel_rfl
theorem Z19 (a b m:Int):Zw (Ze (Zp prog Zh ZbN hcT) 300 18 [.int .u64 a,.int .u64 b,.int .i64 m] [cmp false,cmp false,cmp false,cmp false,cmp false,cmp true]) (.tuple #[.int .u64 (sS (prN a b) 0),.int .i64 0]) [(decide ((0:Int)≤0∧0<9223372036854775808),true),(cl b==3,true),(cl a==3,false),(cl a==0,false),(cl a==3,false),(decide (cl b>3),false),lU b,(decide (cl a>3),false),lU a,lU b,lU a]:=by and_intros<;>kernel_rfl
theorem Z1A (a b m:Int):Zw (Ze (Zp prog Zh ZbN hcT) 300 18 [.int .u64 a,.int .u64 b,.int .i64 m] [cmp false,cmp false,cmp false,cmp true,cmp false,cmp false,cmp true]) (.tuple #[.int .u64 (sS (prN a b) 0),.int .i64 0]) [(decide ((0:Int)≤0∧0<9223372036854775808),true),(cl b==3,true),(cl a==3,false),(cl b==0,false),(cl a==0,true),(cl a==3,false),(decide (cl b>3),false),lU b,(decide (cl a>3),false),lU a,lU b,lU a]:=by and_intros<;>kernel_rfl
theorem Z1B (a b m:Int):Zw (Ze (Zp prog Zh ZbN hcT) 300 18 [.int .u64 a,.int .u64 b,.int .i64 m] [cmp false,cmp false,cmp false,cmp true,cmp false,cmp false,cmp false,cmp true]) (.tuple #[.int .u64 (sS (prN a b) 0),.int .i64 0]) [(decide ((0:Int)≤0∧0<9223372036854775808),true),(cl a==0,true),(cl b==3,false),(cl a==3,false),(cl b==0,false),(cl a==0,true),(cl a==3,false),(decide (cl b>3),false),lU b,(decide (cl a>3),false),lU a,lU b,lU a]:=by and_intros<;>kernel_rfl
theorem Z1C (a b m:Int):Zw (Ze (Zp prog Zh ZbN hcT) 300 18 [.int .u64 a,.int .u64 b,.int .i64 m] [cmp false,cmp false,cmp false,cmp false,cmp false,cmp false,cmp false,cmp true]) (.tuple #[.int .u64 (sS (prN a b) 9218868437227405312),.int .i64 2]) [(decide ((0:Int)≤9218868437227405312∧9218868437227405312<9223372036854775808),true),(cl b==0,true),(cl a==0,false),(cl b==3,false),(cl a==3,false),(cl a==0,false),(cl a==3,false),(decide (cl b>3),false),lU b,(decide (cl a>3),false),lU a,lU b,lU a]:=by and_intros<;>kernel_rfl
def vRD (m a b:Int):Value:= .tuple #[.int .u64 (quP m a b),.int .i64 (quF m a b)]
theorem ZtZ {m a b:Int}(h:sg a=0):dvP m a b=0∧dvF m a b=0:=by
 have e:dvT a b=0:=by unfold dvT dvK;rw[h];simp
 unfold dvP dvF rnP rnF;rw[e,if_pos rfl,if_pos rfl];exact⟨rfl,rfl⟩
theorem Zpq (a b m:Int) (ha:U a) (hb:U b) (ca:cl a=1∨cl a=2) (cb:cl b=1∨cl b=2) (w:World):Calls prog 18 #[.int .u64 a,.int .u64 b,.int .i64 m] w fun r w'=>r= .returned (vRD m a b)∧zg w w':=by
 have hv:([.int .u64 a,.int .u64 b,.int .i64 m].all (lt 0))=true:=rfl;have T0:=Zg ZhM Zq4;have ka:decide (U a)=true:=Xa ha;have kb:decide (U b)=true:=Xa hb;have sa:=ZbK a;have sb:=ZbK b;have na:sg a≠0:=fun h=>by have:=(ZeO (p:=a) (by omega)).1 h;omega
 have nb:sg b≠0:=fun h=>by have:=(ZeO (p:=b) (by omega)).1 h;omega
 have xa:=ZbJ a;have xb:=ZbJ b;have eX:(i64.wrap (i64.wrap (xp a-xp b)-121))=xp a-xp b-121:=by
  rw[ZY (n:=xp a-xp b) ⟨by omega,by omega⟩,ZY ⟨by omega,by omega⟩]
 have eE: -400000≤(i64.wrap (i64.wrap (xp a-xp b)-121))∧(i64.wrap (i64.wrap (xp a-xp b)-121))≤400000:=by rw[eX];omega
 obtain⟨V,hV⟩:∃ V,V=(sg a).toNat*2^120:=⟨_,rfl⟩;obtain⟨Q,hQ⟩:∃ Q,Q=V/(sg b).toNat:=⟨_,rfl⟩;obtain⟨R,hR⟩:∃ R,R=V % (sg b).toNat:=⟨_,rfl⟩;obtain⟨S,hS⟩:∃ S,S=Q*2^1:=⟨_,rfl⟩;obtain⟨T,hT⟩:∃ T,T=S+1:=⟨_,rfl⟩;have p120:(2:Nat)^120=1329227995784915872903807060280344576:=rfl;have vB:V<2^(16*11):=by
  have:(2:Nat)^(16*11)=95780971304118053647396689196894323976171195136475136:=rfl;rw[hV,p120,this];omega
 have v1:(sg b).toNat≤V:=by rw[hV,p120];omega
 have qB:Q≤V:=by rw[hQ];exact Nat.div_le_self _ _
 have q0:0<Q:=by rw[hQ];exact Nat.div_pos v1 (by omega)
 have rB:R<(sg b).toNat:=by rw[hR];exact Nat.mod_lt _ (by omega)
 have e53:(2:Nat)^(16*4)=18446744073709551616:=rfl;have l1:=zI (A:=(sg a).toNat) (k:=4) (by omega);have l2:=zI (A:=(sg b).toNat) (k:=4) (by omega);have l3:=zI (A:=V) (k:=11) vB;have l4:=zI (A:=Q) (k:=11) (by omega);have l5:=zI (A:=R) (k:=4) (by omega);have e12:(2:Nat)^(16*12)=2^(16*11)*65536:=by rw[← Nat.pow_add 2 (16*11) 16]
 have l6:=zI (A:=S) (k:=12) (by omega);have l7:=zI (A:=T) (k:=12) (by omega);have l8:=zI (A:=1) (k:=1) (by decide);have z1:0<(d16 (sg a).toNat).length:=Zc4.2 (by omega);have z2:0<(d16 (sg b).toNat).length:=Zc4.2 (by omega);have z3:0<(d16 V).length:=Zc4.2 (by omega);have z4:0<(d16 Q).length:=Zc4.2 q0;have z5:0<(d16 R).length↔0<R:=Zc4;have z8:0<(d16 1).length:=Zc4.2 (by omega);obtain⟨e1,e2⟩:quP m a b=sS (prN a b) (dvP m a b)∧quF m a b=dvF m a b:=by
  unfold quP quF;have h0:¬ (3<cl a∨3<cl b):=by omega
  have h1:¬ ((cl a=0∧cl b=0)∨(cl a=3∧cl b=3)):=by omega
  have h2:¬ cl a=3:=by omega
  have h3:¬ cl b=3:=by omega
  have h4:¬ cl b=0:=by omega
  rw[if_neg h0,if_neg h0,if_neg h1,if_neg h1,if_neg h2,if_neg h2,if_neg h3,if_neg h3,if_neg h4,if_neg h4];exact⟨rfl,rfl⟩
 obtain⟨d1,d2⟩:=Zwp (m:=m) (a:=a) (b:=b) nb;have hK:dvK (sg a).toNat (sg b).toNat 120=S+(if R=0 then 0 else 1):=by
  unfold dvK;rw[← hV,← hQ,← hR,hS];omega
 rw[hK] at d1 d2;unfold vRD;rw[e1,e2,← d1,← d2,← eX];by_cases r0:R=0
 ·rw[if_pos r0,Nat.add_zero];have z5:¬ 0<(d16 R).length:=fun h=>by have:=z5.1 h;omega
  exact Zb T0 (Z3b a b m V Q R S) (Za (Xa (ZbA (V:=S) rfl)) (Za (oRo (V:=S) rfl (by omega) eE) (Za (Xb (by omega)) (Za (zF _) (Za (zF _) (Za (zF _) (Za (zF _) (Za (zF _) (Za (zF _) (Za (Xa (by rw[ZbA (V:=Q) rfl];exact hS.symm)) (Za (oSh (k:=1) (V:=Q) rfl (by omega) (by omega)) (Za (Xa (by omega)) (Za (Xa (by rw[ZbA (V:=Q) rfl];exact hS.symm)) (Za (oSh (k:=1) (V:=Q) rfl (by omega) (by omega)) (Za (Xa (by omega)) (Za (Xa (by rw[ZbA (V:=V) rfl,ZbA (V:=(sg b).toNat) rfl];exact⟨hQ.symm,hR.symm⟩)) (Za (oPa (V:=V) (W:=(sg b).toNat) rfl rfl (by omega) (by omega) (by omega) (by omega)) (Za (Xa ⟨by omega,by omega⟩) (Za (Xa (by rw[ZbA (V:=(sg a).toNat) rfl];exact hV.symm)) (Za (oSh (k:=120) (V:=(sg a).toNat) rfl (by omega) (by omega)) (Za (Xa (by omega)) (Za (Xa ⟨by omega,by omega⟩) (Za (Zq (by omega)) (Za (Zq (by omega)) (Za (Zq (by omega)) (Za (Zq (by omega)) (Za (Zq (by omega)) (Za (Zq (by omega)) (Za (Xb (by omega)) (Za kb (Za (Xb (by omega)) (Za ka (Za kb (Zz ka)))))))))))))))))))))))))))))))))) hv (by rfl) w
 ·rw[if_neg r0,← hT];have z5:0<(d16 R).length:=z5.2 (by omega);exact Zb T0 (Z3a a b m V Q R S T) (Za (Xa (ZbA (V:=T) rfl)) (Za (oRo (V:=T) rfl (by omega) eE) (Za (Xa (by rw[ZbA (V:=S) rfl,ZbA (V:=1) rfl];exact hT.symm)) (Za (Z2A (V:=S) (W:=1) rfl rfl (by omega) (by omega)) (Za (Xa (by omega)) (Za (by decide) (Za (Xa (by rw[ZbA (V:=S) rfl,ZbA (V:=1) rfl];exact hT.symm)) (Za (Z2A (V:=S) (W:=1) rfl rfl (by omega) (by omega)) (Za (Xa (by omega)) (Za (by decide) (Za (Xa (by omega)) (Za (zF _) (Za (zF _) (Za (zF _) (Za (zF _) (Za (zF _) (Za (zF _) (Za (Xa (by rw[ZbA (V:=Q) rfl];exact hS.symm)) (Za (oSh (k:=1) (V:=Q) rfl (by omega) (by omega)) (Za (Xa (by omega)) (Za (Xa (by rw[ZbA (V:=Q) rfl];exact hS.symm)) (Za (oSh (k:=1) (V:=Q) rfl (by omega) (by omega)) (Za (Xa (by omega)) (Za (Xa (by rw[ZbA (V:=V) rfl,ZbA (V:=(sg b).toNat) rfl];exact⟨hQ.symm,hR.symm⟩)) (Za (oPa (V:=V) (W:=(sg b).toNat) rfl rfl (by omega) (by omega) (by omega) (by omega)) (Za (Xa ⟨by omega,by omega⟩) (Za (Xa (by rw[ZbA (V:=(sg a).toNat) rfl];exact hV.symm)) (Za (oSh (k:=120) (V:=(sg a).toNat) rfl (by omega) (by omega)) (Za (Xa (by omega)) (Za (Xa ⟨by omega,by omega⟩) (Za (Zq (by omega)) (Za (Zq (by omega)) (Za (Zq (by omega)) (Za (Zq (by omega)) (Za (Zq (by omega)) (Za (Zq (by omega)) (Za (Xb (by omega)) (Za kb (Za (Xb (by omega)) (Za ka (Za kb (Zz ka)))))))))))))))))))))))))))))))))))))))))) hv (by rfl) w
theorem ZiY (a b m:Int) (ha:U a) (hb:U b) (w:World):Calls prog 18 #[.int .u64 a,.int .u64 b,.int .i64 m] w fun r w'=>r= .returned (vRD m a b)∧zg w w':=by
 have hv:([.int .u64 a,.int .u64 b,.int .i64 m].all (lt 0))=true:=rfl;have T:=Zg ZhM Zq4;have ka:decide (U a)=true:=Xa ha;have kb:decide (U b)=true:=Xa hb;have ba:=Zdx a;have bb:=Zdx b;by_cases hf:(cl a=1∨cl a=2)∧(cl b=1∨cl b=2)
 ·exact Zpq a b m ha hb hf.1 hf.2 w
 unfold vRD quP quF;by_cases ha3:3<cl a
 ·rw[if_pos (.inl ha3),if_pos (.inl ha3)];by_cases a5:cl a=5
  ·rw[if_pos (.inl a5)];exact Zb T (Z11 a b m) (Za (Z1 (by omega)) (Za ka (Za (Xa (by omega)) (Za ka (Za kb (Zz ka)))))) hv (by rfl) w
  ·by_cases b5:cl b=5
   ·rw[if_pos (.inr b5)];exact Zb T (Z12 a b m) (Za (Z1 (by omega)) (Za kb (Za (Zq (by omega)) (Za ka (Za (Xa (by omega)) (Za ka (Za kb (Zz ka)))))))) hv (by rfl) w
   ·rw[if_neg (by omega)];exact Zb T (Z13 a b m) (Za (Zq (by omega)) (Za kb (Za (Zq (by omega)) (Za ka (Za (Xa (by omega)) (Za ka (Za kb (Zz ka)))))))) hv (by rfl) w
 ·by_cases hb3:3<cl b
  ·rw[if_pos (.inr hb3),if_pos (.inr hb3)];by_cases b5:cl b=5
   ·rw[if_pos (.inr b5)];exact Zb T (Z14 a b m) (Za (Z1 (by omega)) (Za kb (Za (Zq (by omega)) (Za ka (Za (Xa (by omega)) (Za kb (Za (Xb (by omega)) (Za ka (Za kb (Zz ka)))))))))) hv (by rfl) w
   ·rw[if_neg (by omega)];exact Zb T (Z15 a b m) (Za (Zq (by omega)) (Za kb (Za (Zq (by omega)) (Za ka (Za (Xa (by omega)) (Za kb (Za (Xb (by omega)) (Za ka (Za kb (Zz ka)))))))))) hv (by rfl) w
  ·have hno:¬ (3<cl a∨3<cl b):=by omega
   rw[if_neg hno,if_neg hno];by_cases az:cl a=0
   ·by_cases bz:cl b=0
    ·rw[if_pos (.inl ⟨az,bz⟩),if_pos (.inl ⟨az,bz⟩)];exact Zb T (Z17 a b m) (Za (Z1 (by omega)) (Za (Z1 (by omega)) (Za (Zq (by omega)) (Za (Xb (by omega)) (Za kb (Za (Xb (by omega)) (Za ka (Za kb (Zz ka))))))))) hv (by rfl) w
    ·have hn2:¬ ((cl a=0∧cl b=0)∨(cl a=3∧cl b=3)):=by omega
     have a3:¬ cl a=3:=by omega
     rw[if_neg hn2,if_neg hn2,if_neg a3,if_neg a3];by_cases b3:cl b=3
     ·rw[if_pos b3,if_pos b3];exact Zb T (Z1A a b m) (Za (by decide) (Za (Z1 (by omega)) (Za (Zq (by omega)) (Za (Zq (by omega)) (Za (Z1 (by omega)) (Za (Zq (by omega)) (Za (Xb (by omega)) (Za kb (Za (Xb (by omega)) (Za ka (Za kb (Zz ka)))))))))))) hv (by rfl) w
     ·rw[if_neg b3,if_neg b3,if_neg bz,if_neg bz];obtain⟨d1,d2⟩:=ZtZ (m:=m) (b:=b) ((ZeO (p:=a) (by omega)).2 az);rw[d1,d2];exact Zb T (Z1B a b m) (Za (by decide) (Za (Z1 (by omega)) (Za (Zq (by omega)) (Za (Zq (by omega)) (Za (Zq (by omega)) (Za (Z1 (by omega)) (Za (Zq (by omega)) (Za (Xb (by omega)) (Za kb (Za (Xb (by omega)) (Za ka (Za kb (Zz ka))))))))))))) hv (by rfl) w
   ·by_cases a3:cl a=3
    ·by_cases b3:cl b=3
     ·rw[if_pos (.inr ⟨a3,b3⟩),if_pos (.inr ⟨a3,b3⟩)];exact Zb T (Z16 a b m) (Za (Z1 (by omega)) (Za (Z1 (by omega)) (Za (Xb (by omega)) (Za kb (Za (Xb (by omega)) (Za ka (Za kb (Zz ka)))))))) hv (by rfl) w
     ·have hn2:¬ ((cl a=0∧cl b=0)∨(cl a=3∧cl b=3)):=by omega
      rw[if_neg hn2,if_neg hn2,if_pos a3,if_pos a3];exact Zb T (Z18 a b m) (Za (by decide) (Za (Z1 (by omega)) (Za (Zq (by omega)) (Za (Zq (by omega)) (Za (Z1 (by omega)) (Za (Xb (by omega)) (Za kb (Za (Xb (by omega)) (Za ka (Za kb (Zz ka))))))))))) hv (by rfl) w
    ·have hn2:¬ ((cl a=0∧cl b=0)∨(cl a=3∧cl b=3)):=by omega
     rw[if_neg hn2,if_neg hn2,if_neg a3,if_neg a3];by_cases b3:cl b=3
     ·rw[if_pos b3,if_pos b3];exact Zb T (Z19 a b m) (Za (by decide) (Za (Z1 (by omega)) (Za (Zq (by omega)) (Za (Zq (by omega)) (Za (Zq (by omega)) (Za (Xb (by omega)) (Za kb (Za (Xb (by omega)) (Za ka (Za kb (Zz ka))))))))))) hv (by rfl) w
     ·rw[if_neg b3,if_neg b3];have bz:cl b=0:=by omega
      rw[if_pos bz,if_pos bz];exact Zb T (Z1C a b m) (Za (by decide) (Za (Z1 (by omega)) (Za (Zq (by omega)) (Za (Zq (by omega)) (Za (Zq (by omega)) (Za (Zq (by omega)) (Za (Zq (by omega)) (Za (Xb (by omega)) (Za kb (Za (Xb (by omega)) (Za ka (Za kb (Zz ka))))))))))))) hv (by rfl) w
def gRD:Ans:=fun vals s=>
 match vals with
 | [.int .u64 a,.int .u64 b,.int .i64 m]=>some (vRD m a b,s,[(decide (U a∧U b),true)])
 | _=>none
theorem ZxQ:ZJ 18 gRD:=by
 intro vals s v s' lg h hl w;unfold gRD at h;split at h
 ·cases h;obtain⟨h1,h2⟩:=Xc (hl _ Xf);exact ZiY _ _ _ h1 h2 w
 ·cases h
end Go.Proofs.YtekebccjflilnaaGreat
namespace Go.Proofs.YtekebccjflilnaaGreat
open Go.KRun Go.Wd Go.Pt Go.Rn
set_option maxRecDepth 100000
theorem ZxR (m a b:Int):0≤quF m a b∧quF m a b≤24:=by
 have h':0≤dvF m a b∧dvF m a b≤24:=by
  unfold dvF rnF;split
  ·omega
  ·split
   ·omega
   ·split
    ·split<;>omega
    ·omega
 unfold quF;split
 ·split<;>omega
 split
 ·omega
 split
 ·omega
 split
 ·omega
 split
 ·omega
 ·exact h'
end Go.Proofs.YtekebccjflilnaaGreat
namespace Go.Proofs.YtekebccjflilnaaGreat
open Go.Proofs.Tryz
open Go.IntKind
open Go.KRun Go.Wd Go.Pt Go.Rn
set_option maxRecDepth 100000
theorem ZxS (a b m:Int):Zw (Ze (Zi prog Zh Zaq true) 300 14 [.int .u64 a,.int .u64 b,.int .i64 m] [cmp true]) (rdT 9221120237041090560 1) [(zh a b,true),(decide (U a∧U b),true)]:=by and_intros<;>kernel_rfl
theorem Z1D (a b m:Int):Zw (Ze (Zi prog Zh Zaq true) 300 14 [.int .u64 a,.int .u64 b,.int .i64 m] [cmp false,cmp true,cmp true,cmp true]) (rdT 9221120237041090560 1) [(cl a==5,true),lU a,(decide ((0:Int)<((2:Nat):Int)),true),(decide (cl a>3),true),lU a,(zh a b,false),(decide (U a∧U b),true)]:=by and_intros<;>kernel_rfl
theorem Z1E (a b m:Int):Zw (Ze (Zi prog Zh Zaq true) 300 14 [.int .u64 a,.int .u64 b,.int .i64 m] [cmp false,cmp true,cmp true,cmp false,cmp true,cmp true]) (rdT 9221120237041090560 1) [(cl b==5,true),lU b,(decide (i64.wrap (0+1)<((2:Nat):Int)),true),(cl a==5,false),lU a,(decide ((0:Int)<((2:Nat):Int)),true),(decide (cl a>3),true),lU a,(zh a b,false),(decide (U a∧U b),true)]:=by and_intros<;>kernel_rfl
theorem Z1F (a b m:Int):Zw (Ze (Zi prog Zh Zaq true) 300 14 [.int .u64 a,.int .u64 b,.int .i64 m] [cmp false,cmp true,cmp true,cmp false,cmp true,cmp false,cmp false]) (rdT 9221120237041090560 0) [(decide (i64.wrap (i64.wrap (0+1)+1)<((2:Nat):Int)),false),(cl b==5,false),lU b,(decide (i64.wrap (0+1)<((2:Nat):Int)),true),(cl a==5,false),lU a,(decide ((0:Int)<((2:Nat):Int)),true),(decide (cl a>3),true),lU a,(zh a b,false),(decide (U a∧U b),true)]:=by and_intros<;>kernel_rfl
theorem Z1G (a b m:Int):Zw (Ze (Zi prog Zh Zaq true) 300 14 [.int .u64 a,.int .u64 b,.int .i64 m] [cmp false,cmp false,cmp true,cmp true,cmp false,cmp true,cmp true]) (rdT 9221120237041090560 1) [(cl b==5,true),lU b,(decide (i64.wrap (0+1)<((2:Nat):Int)),true),(cl a==5,false),lU a,(decide ((0:Int)<((2:Nat):Int)),true),(decide (cl b>3),true),lU b,(decide (cl a>3),false),lU a,(zh a b,false),(decide (U a∧U b),true)]:=by and_intros<;>kernel_rfl
theorem Z1H (a b m:Int):Zw (Ze (Zi prog Zh Zaq true) 300 14 [.int .u64 a,.int .u64 b,.int .i64 m] [cmp false,cmp false,cmp true,cmp true,cmp false,cmp true,cmp false,cmp false]) (rdT 9221120237041090560 0) [(decide (i64.wrap (i64.wrap (0+1)+1)<((2:Nat):Int)),false),(cl b==5,false),lU b,(decide (i64.wrap (0+1)<((2:Nat):Int)),true),(cl a==5,false),lU a,(decide ((0:Int)<((2:Nat):Int)),true),(decide (cl b>3),true),lU b,(decide (cl a>3),false),lU a,(zh a b,false),(decide (U a∧U b),true)]:=by and_intros<;>kernel_rfl
theorem Z1I (a b m:Int):Zw (Ze (Zi prog Zh Zaq true) 300 14 [.int .u64 a,.int .u64 b,.int .i64 m] [cmp false,cmp false,cmp false,cmp true]) (rdT (sS (prN a b) inf) 0) [(true,true),(decide (U a∧U b),true),(cl a==3,true),lU a,(decide (cl b>3),false),lU b,(decide (cl a>3),false),lU a,(zh a b,false),(decide (U a∧U b),true)]:=by and_intros<;>kernel_rfl
theorem Z1J (a b m:Int):Zw (Ze (Zi prog Zh Zaq true) 300 14 [.int .u64 a,.int .u64 b,.int .i64 m] [cmp false,cmp false,cmp false,cmp false,cmp true]) (rdT (sS (prN a b) inf) 0) [(true,true),(decide (U a∧U b),true),(cl b==3,true),lU b,(cl a==3,false),lU a,(decide (cl b>3),false),lU b,(decide (cl a>3),false),lU a,(zh a b,false),(decide (U a∧U b),true)]:=by and_intros<;>kernel_rfl
theorem ZxT (a b m:Int):Zw (Ze (Zi prog Zh Zaq true) 300 14 [.int .u64 a,.int .u64 b,.int .i64 m] [cmp false,cmp false,cmp false,cmp false,cmp false]) (rdV m (prN a b) (tw (ofN (prV a b)) false) (clp (prE a b)-1)) [(decide (ofN (prV a b)).ok,true),(ZwJ a b,true),(decide (U a∧U b),true),(cl b==3,false),lU b,(cl a==3,false),lU a,(decide (cl b>3),false),lU b,(decide (cl a>3),false),lU a,(zh a b,false),(decide (U a∧U b),true)]:=by and_intros<;>kernel_rfl
def muP (m a b:Int):Int:=if zh a b=true then 9221120237041090560 else if 3<cl a∨3<cl b then 9221120237041090560 else if cl a=3∨cl b=3 then sS (prN a b) inf else sS (prN a b) (mlP m a b)
def muF (m a b:Int):Int:=if zh a b=true then 1 else if 3<cl a∨3<cl b then (if cl a=5∨cl b=5 then 1 else 0) else if cl a=3∨cl b=3 then 0 else mlF m a b
theorem Zg4 (a b:Int):prV a b<2^256:=by
 have:=Zhz a b;exact Nat.lt_trans this (by decide)
theorem Zpr (m a b:Int):rdV m (prN a b) (tw (ofN (prV a b)) false) (clp (prE a b)-1)=rdT (sS (prN a b) (mlP m a b)) (mlF m a b):=by
 obtain⟨c1,c2⟩:=Zd2 m (prN a b) (ZZ (prV a b)) false (prE a b);have e:=Zsb (Zg4 a b) false;have e2:2*prV a b+bN false=prV a b*2^1:=by show 2*prV a b+0=_;omega
 have p:=ZaA m (prN a b) (prV a b) 1 (prE a b);have q:=ZaB m (prN a b) (prV a b) 1 (prE a b);have e3:prE a b-((1:Nat):Int)=prE a b-1:=rfl;rw[e3] at p q;unfold rdV mlP mlF;rw[c1,c2,e,e2,p,q]
theorem ZiZ (a b m:Int) (ha:U a) (hb:U b) (w:World):Calls prog 14 #[.int .u64 a,.int .u64 b,.int .i64 m] w fun r w'=>r= .returned (rdT (muP m a b) (muF m a b))∧zg w w':=by
 have hv:([.int .u64 a,.int .u64 b,.int .i64 m].all (lt 0))=true:=rfl;have T:=Zf Zh3;have ka:decide (U a)=true:=Xa ha;have kb:decide (U b)=true:=Xa hb;have kab:decide (U a∧U b)=true:=Xa ⟨ha,hb⟩;have ba:=Zdx a;have bb:=Zdx b;unfold muP muF;by_cases hbd:zh a b=true
 ·rw[if_pos hbd,if_pos hbd];exact Zb T (ZxS a b m) (Za hbd (Zz kab)) hv (by rfl) w
 ·have hb0:zh a b=false:=by simpa using hbd
  rw[if_neg hbd,if_neg hbd];by_cases ha3:3<cl a
  ·rw[if_pos (.inl ha3),if_pos (.inl ha3)];by_cases a5:cl a=5
   ·rw[if_pos (.inl a5)];exact Zb T (Z1D a b m) (Za (Z1 a5) (Za ka (Za (by decide) (Za (Xa ha3) (Za ka (Za hb0 (Zz kab))))))) hv (by rfl) w
   ·by_cases b5:cl b=5
    ·rw[if_pos (.inr b5)];exact Zb T (Z1E a b m) (Za (Z1 b5) (Za kb (Za (by decide) (Za (Zq (by omega)) (Za ka (Za (by decide) (Za (Xa ha3) (Za ka (Za hb0 (Zz kab)))))))))) hv (by rfl) w
    ·rw[if_neg (by omega)];exact Zb T (Z1F a b m) (Za (by decide) (Za (Zq (by omega)) (Za kb (Za (by decide) (Za (Zq (by omega)) (Za ka (Za (by decide) (Za (Xa ha3) (Za ka (Za hb0 (Zz kab))))))))))) hv (by rfl) w
  ·by_cases hb3:3<cl b
   ·rw[if_pos (.inr hb3),if_pos (.inr hb3)];by_cases b5:cl b=5
    ·rw[if_pos (.inr b5)];exact Zb T (Z1G a b m) (Za (Z1 b5) (Za kb (Za (by decide) (Za (Zq (by omega)) (Za ka (Za (by decide) (Za (Xa hb3) (Za kb (Za (Xb ha3) (Za ka (Za hb0 (Zz kab)))))))))))) hv (by rfl) w
    ·rw[if_neg (by omega)];exact Zb T (Z1H a b m) (Za (by decide) (Za (Zq (by omega)) (Za kb (Za (by decide) (Za (Zq (by omega)) (Za ka (Za (by decide) (Za (Xa hb3) (Za kb (Za (Xb ha3) (Za ka (Za hb0 (Zz kab))))))))))))) hv (by rfl) w
   ·have hno:¬ (3<cl a∨3<cl b):=by omega
    rw[if_neg hno,if_neg hno];by_cases ae:cl a=3
    ·rw[if_pos (.inl ae),if_pos (.inl ae)];exact Zb T (Z1I a b m) (Za rfl (Za kab (Za (Z1 ae) (Za ka (Za (Xb hb3) (Za kb (Za (Xb ha3) (Za ka (Za hb0 (Zz kab)))))))))) hv (by rfl) w
    ·by_cases be:cl b=3
     ·rw[if_pos (.inr be),if_pos (.inr be)];exact Zb T (Z1J a b m) (Za rfl (Za kab (Za (Z1 be) (Za kb (Za (Zq ae) (Za ka (Za (Xb hb3) (Za kb (Za (Xb ha3) (Za ka (Za hb0 (Zz kab)))))))))))) hv (by rfl) w
     ·have hno2:¬ (cl a=3∨cl b=3):=by omega
      rw[if_neg hno2,if_neg hno2];have hf:=ZxT a b m;rw[Zpr] at hf;exact Zb T hf (Za (Xa (ZZ _)) (Za (Xa ⟨by omega,by omega⟩) (Za kab (Za (Zq be) (Za kb (Za (Zq ae) (Za ka (Za (Xb hb3) (Za kb (Za (Xb ha3) (Za ka (Za hb0 (Zz kab))))))))))))) hv (by rfl) w
def gPM:Ans:=fun vals s=>
 match vals with
 | [.int .u64 a,.int .u64 b,.int .i64 m]=>some (rdT (muP m a b) (muF m a b),s,[(decide (U a∧U b),true)])
 | _=>none
theorem ZxU:ZJ 14 gPM:=by
 intro vals s v s' lg h hl w;unfold gPM at h;split at h
 ·cases h;obtain⟨h1,h2⟩:=Xc (hl _ Xf);exact ZiZ _ _ _ h1 h2 w
 ·cases h
theorem ZxV (a b c m:Int):Zw (Ze (Zi prog Zh Zaq true) 300 19 [.int .u64 a,.int .u64 b,.int .u64 c,.int .i64 m] [cmp true]) (rdT 9221120237041090560 1) [(zh a b,true),(decide (U a∧U b),true)]:=by and_intros<;>kernel_rfl
theorem Z1K (a b c m:Int):Zw (Ze (Zi prog Zh Zaq true) 300 19 [.int .u64 a,.int .u64 b,.int .u64 c,.int .i64 m] [cmp false,cmp true,cmp true,cmp true]) (rdT 9221120237041090560 1) [(cl a==5,true),lU a,(decide ((0:Int)<((3:Nat):Int)),true),(decide (cl a>3),true),lU a,(zh a b,false),(decide (U a∧U b),true)]:=by and_intros<;>kernel_rfl
theorem Z1L (a b c m:Int):Zw (Ze (Zi prog Zh Zaq true) 300 19 [.int .u64 a,.int .u64 b,.int .u64 c,.int .i64 m] [cmp false,cmp true,cmp true,cmp false,cmp true,cmp true]) (rdT 9221120237041090560 1) [(cl b==5,true),lU b,(decide (i64.wrap (0+1)<((3:Nat):Int)),true),(cl a==5,false),lU a,(decide ((0:Int)<((3:Nat):Int)),true),(decide (cl a>3),true),lU a,(zh a b,false),(decide (U a∧U b),true)]:=by and_intros<;>kernel_rfl
theorem Z1M (a b c m:Int):Zw (Ze (Zi prog Zh Zaq true) 300 19 [.int .u64 a,.int .u64 b,.int .u64 c,.int .i64 m] [cmp false,cmp true,cmp true,cmp false,cmp true,cmp false,cmp true,cmp true]) (rdT 9221120237041090560 1) [(cl c==5,true),lU c,(decide (i64.wrap (i64.wrap (0+1)+1)<((3:Nat):Int)),true),(cl b==5,false),lU b,(decide (i64.wrap (0+1)<((3:Nat):Int)),true),(cl a==5,false),lU a,(decide ((0:Int)<((3:Nat):Int)),true),(decide (cl a>3),true),lU a,(zh a b,false),(decide (U a∧U b),true)]:=by and_intros<;>kernel_rfl
theorem Z1N (a b c m:Int):Zw (Ze (Zi prog Zh Zaq true) 300 19 [.int .u64 a,.int .u64 b,.int .u64 c,.int .i64 m] [cmp false,cmp true,cmp true,cmp false,cmp true,cmp false,cmp true,cmp false,cmp false]) (rdT 9221120237041090560 0) [(decide (i64.wrap (i64.wrap (i64.wrap (0+1)+1)+1)<((3:Nat):Int)),false),(cl c==5,false),lU c,(decide (i64.wrap (i64.wrap (0+1)+1)<((3:Nat):Int)),true),(cl b==5,false),lU b,(decide (i64.wrap (0+1)<((3:Nat):Int)),true),(cl a==5,false),lU a,(decide ((0:Int)<((3:Nat):Int)),true),(decide (cl a>3),true),lU a,(zh a b,false),(decide (U a∧U b),true)]:=by and_intros<;>kernel_rfl
theorem Z1O (a b c m:Int):Zw (Ze (Zi prog Zh Zaq true) 300 19 [.int .u64 a,.int .u64 b,.int .u64 c,.int .i64 m] [cmp false,cmp false,cmp true,cmp true,cmp false,cmp true,cmp true]) (rdT 9221120237041090560 1) [(cl b==5,true),lU b,(decide (i64.wrap (0+1)<((3:Nat):Int)),true),(cl a==5,false),lU a,(decide ((0:Int)<((3:Nat):Int)),true),(decide (cl b>3),true),lU b,(decide (cl a>3),false),lU a,(zh a b,false),(decide (U a∧U b),true)]:=by and_intros<;>kernel_rfl
theorem Z1P (a b c m:Int):Zw (Ze (Zi prog Zh Zaq true) 300 19 [.int .u64 a,.int .u64 b,.int .u64 c,.int .i64 m] [cmp false,cmp false,cmp true,cmp true,cmp false,cmp true,cmp false,cmp true,cmp true]) (rdT 9221120237041090560 1) [(cl c==5,true),lU c,(decide (i64.wrap (i64.wrap (0+1)+1)<((3:Nat):Int)),true),(cl b==5,false),lU b,(decide (i64.wrap (0+1)<((3:Nat):Int)),true),(cl a==5,false),lU a,(decide ((0:Int)<((3:Nat):Int)),true),(decide (cl b>3),true),lU b,(decide (cl a>3),false),lU a,(zh a b,false),(decide (U a∧U b),true)]:=by and_intros<;>kernel_rfl
theorem Z1Q (a b c m:Int):Zw (Ze (Zi prog Zh Zaq true) 300 19 [.int .u64 a,.int .u64 b,.int .u64 c,.int .i64 m] [cmp false,cmp false,cmp true,cmp true,cmp false,cmp true,cmp false,cmp true,cmp false,cmp false]) (rdT 9221120237041090560 0) [(decide (i64.wrap (i64.wrap (i64.wrap (0+1)+1)+1)<((3:Nat):Int)),false),(cl c==5,false),lU c,(decide (i64.wrap (i64.wrap (0+1)+1)<((3:Nat):Int)),true),(cl b==5,false),lU b,(decide (i64.wrap (0+1)<((3:Nat):Int)),true),(cl a==5,false),lU a,(decide ((0:Int)<((3:Nat):Int)),true),(decide (cl b>3),true),lU b,(decide (cl a>3),false),lU a,(zh a b,false),(decide (U a∧U b),true)]:=by and_intros<;>kernel_rfl
theorem Z1R (a b c m:Int):Zw (Ze (Zi prog Zh Zaq true) 300 19 [.int .u64 a,.int .u64 b,.int .u64 c,.int .i64 m] [cmp false,cmp false,cmp false,cmp true,cmp true,cmp false,cmp true,cmp false,cmp true,cmp true]) (rdT 9221120237041090560 1) [(cl c==5,true),lU c,(decide (i64.wrap (i64.wrap (0+1)+1)<((3:Nat):Int)),true),(cl b==5,false),lU b,(decide (i64.wrap (0+1)<((3:Nat):Int)),true),(cl a==5,false),lU a,(decide ((0:Int)<((3:Nat):Int)),true),(decide (cl c>3),true),lU c,(decide (cl b>3),false),lU b,(decide (cl a>3),false),lU a,(zh a b,false),(decide (U a∧U b),true)]:=by and_intros<;>kernel_rfl
theorem Z1S (a b c m:Int):Zw (Ze (Zi prog Zh Zaq true) 300 19 [.int .u64 a,.int .u64 b,.int .u64 c,.int .i64 m] [cmp false,cmp false,cmp false,cmp true,cmp true,cmp false,cmp true,cmp false,cmp true,cmp false,cmp false]) (rdT 9221120237041090560 0) [(decide (i64.wrap (i64.wrap (i64.wrap (0+1)+1)+1)<((3:Nat):Int)),false),(cl c==5,false),lU c,(decide (i64.wrap (i64.wrap (0+1)+1)<((3:Nat):Int)),true),(cl b==5,false),lU b,(decide (i64.wrap (0+1)<((3:Nat):Int)),true),(cl a==5,false),lU a,(decide ((0:Int)<((3:Nat):Int)),true),(decide (cl c>3),true),lU c,(decide (cl b>3),false),lU b,(decide (cl a>3),false),lU a,(zh a b,false),(decide (U a∧U b),true)]:=by and_intros<;>kernel_rfl
theorem Z1T (a b c m:Int):Zw (Ze (Zi prog Zh Zaq true) 300 19 [.int .u64 a,.int .u64 b,.int .u64 c,.int .i64 m] [cmp false,cmp false,cmp false,cmp false,cmp true]) (suV m (sS (prN a b) inf) c) [(decide (U (sS (prN a b) inf)∧U c),true),(true,true),(decide (U a∧U b),true),(cl a==3,true),lU a,(decide (cl c>3),false),lU c,(decide (cl b>3),false),lU b,(decide (cl a>3),false),lU a,(zh a b,false),(decide (U a∧U b),true)]:=by and_intros<;>kernel_rfl
theorem Z1U (a b c m:Int):Zw (Ze (Zi prog Zh Zaq true) 300 19 [.int .u64 a,.int .u64 b,.int .u64 c,.int .i64 m] [cmp false,cmp false,cmp false,cmp false,cmp false,cmp true]) (suV m (sS (prN a b) inf) c) [(decide (U (sS (prN a b) inf)∧U c),true),(true,true),(decide (U a∧U b),true),(cl b==3,true),lU b,(cl a==3,false),lU a,(decide (cl c>3),false),lU c,(decide (cl b>3),false),lU b,(decide (cl a>3),false),lU a,(zh a b,false),(decide (U a∧U b),true)]:=by and_intros<;>kernel_rfl
theorem Z1V (a b c m:Int):Zw (Ze (Zi prog Zh Zaq true) 300 19 [.int .u64 a,.int .u64 b,.int .u64 c,.int .i64 m] [cmp false,cmp false,cmp false,cmp false,cmp false,cmp false,cmp true]) (rdT c 0) [(cl c==3,true),lU c,(cl b==3,false),lU b,(cl a==3,false),lU a,(decide (cl c>3),false),lU c,(decide (cl b>3),false),lU b,(decide (cl a>3),false),lU a,(zh a b,false),(decide (U a∧U b),true)]:=by and_intros<;>kernel_rfl
theorem ZxW (a b c m:Int):Zw (Ze (Zi prog Zh Zaq true) 300 19 [.int .u64 a,.int .u64 b,.int .u64 c,.int .i64 m] [cmp false,cmp false,cmp false,cmp false,cmp false,cmp false,cmp false,cmp true]) (rdV m (xuN m (prN a b) (prE a b) (ofN (prV a b)).nat (sgn c) (xp c) (wSg c).nat) (tw (ofN (xuQ (prN a b) (prE a b) (ofN (prV a b)).nat (sgn c) (xp c) (wSg c).nat)) (xuB (prN a b) (prE a b) (ofN (prV a b)).nat (sgn c) (xp c) (wSg c).nat)) (clp (unN (prE a b) (ofN (prV a b)).nat (xp c) (wSg c).nat)-1)) [(decide (ofN (xuQ (prN a b) (prE a b) (ofN (prV a b)).nat (sgn c) (xp c) (wSg c).nat)).ok,true),(Zs4 (prE a b) (ofN (prV a b)) false (xp c) (wSg c) false,true),(ZwJ a b,true),(decide (U a∧U b),true),(Zs4 (prE a b) (ofN (prV a b)) false (xp c) (wSg c) false,true),(Zs4 (prE a b) (ofN (prV a b)) false (xp c) (wSg c) false,true),(ZwJ a b,true),(decide (U a∧U b),true),lU c,(decide (cl c≤2),true),lU c,(cl c==3,false),lU c,(cl b==3,false),lU b,(cl a==3,false),lU a,(decide (cl c>3),false),lU c,(decide (cl b>3),false),lU b,(decide (cl a>3),false),lU a,(zh a b,false),(decide (U a∧U b),true)]:=by and_intros<;>kernel_rfl
def fmP (m a b c:Int):Int:=if zh a b=true then 9221120237041090560 else if 3<cl a∨3<cl b∨3<cl c then 9221120237041090560 else if cl a=3∨cl b=3 then suP m (sS (prN a b) inf) c else if cl c=3 then c else sS (fsN m a b c) (fsP m a b c)
def fmF (m a b c:Int):Int:=if zh a b=true then 1 else if 3<cl a∨3<cl b∨3<cl c then (if cl a=5∨cl b=5∨cl c=5 then 1 else 0) else if cl a=3∨cl b=3 then suF m (sS (prN a b) inf) c else if cl c=3 then 0 else fsF m a b c
theorem ZxX (n:Bool):U (sS n inf):=by cases n<;>decide
theorem Zps (m a b c:Int):rdV m (xuN m (prN a b) (prE a b) (ofN (prV a b)).nat (sgn c) (xp c) (wSg c).nat) (tw (ofN (xuQ (prN a b) (prE a b) (ofN (prV a b)).nat (sgn c) (xp c) (wSg c).nat)) (xuB (prN a b) (prE a b) (ofN (prV a b)).nat (sgn c) (xp c) (wSg c).nat)) (clp (unN (prE a b) (ofN (prV a b)).nat (xp c) (wSg c).nat)-1)=rdT (sS (fsN m a b c) (fsP m a b c)) (fsF m a b c):=by
 have hE:=ZbB a b;have hc:=ZbJ c;rw[zX (Zg4 a b),ZaT];exact ZwB m m (Zh0 a b) (ZeI c) (G:= -2148) (by omega) (by omega) (prN a b) (sgn c)
theorem Z1W (a b c:Int):Zs4 (prE a b) (ofN (prV a b)) false (xp c) (wSg c) false=true:=by
 have h1:=Zh0 a b;have h2:=ZeI c;refine Xa ⟨ZZ _,ZaC c,rfl,rfl,(Zcz (ZZ _)).2 ?_,(Zcz (ZaC c)).2 ?_⟩
 ·rw[zX (Zg4 a b)];exact h1
 ·rw[ZaT];exact h2
theorem Zja (a b c m:Int) (ha:U a) (hb:U b) (hc:U c) (w:World):Calls prog 19 #[.int .u64 a,.int .u64 b,.int .u64 c,.int .i64 m] w fun r w'=>r= .returned (rdT (fmP m a b c) (fmF m a b c))∧zg w w':=by
 have hv:([.int .u64 a,.int .u64 b,.int .u64 c,.int .i64 m].all (lt 0))=true:=rfl;have T:=Zf Zh3;have ka:decide (U a)=true:=Xa ha;have kb:decide (U b)=true:=Xa hb;have kc:decide (U c)=true:=Xa hc;have kab:decide (U a∧U b)=true:=Xa ⟨ha,hb⟩;have kic:decide (U (sS (prN a b) inf)∧U c)=true:=Xa ⟨ZxX _,hc⟩;have kE:=Z1W a b c;have ba:=Zdx a;have bb:=Zdx b;have bc:=Zdx c;unfold fmP fmF;by_cases hbd:zh a b=true
 ·rw[if_pos hbd,if_pos hbd];exact Zb T (ZxV a b c m) (Za hbd (Zz kab)) hv (by rfl) w
 ·have hb0:zh a b=false:=by simpa using hbd
  rw[if_neg hbd,if_neg hbd];by_cases ha3:3<cl a
  ·rw[if_pos (.inl ha3),if_pos (.inl ha3)];by_cases a5:cl a=5
   ·rw[if_pos (.inl a5)];exact Zb T (Z1K a b c m) (Za (Z1 a5) (Za ka (Za (by decide) (Za (Xa ha3) (Za ka (Za hb0 (Zz kab))))))) hv (by rfl) w
   ·by_cases b5:cl b=5
    ·rw[if_pos (.inr (.inl b5))];exact Zb T (Z1L a b c m) (Za (Z1 b5) (Za kb (Za (by decide) (Za (Zq (by omega)) (Za ka (Za (by decide) (Za (Xa ha3) (Za ka (Za hb0 (Zz kab)))))))))) hv (by rfl) w
    ·by_cases c5:cl c=5
     ·rw[if_pos (.inr (.inr c5))];exact Zb T (Z1M a b c m) (Za (Z1 c5) (Za kc (Za (by decide) (Za (Zq (by omega)) (Za kb (Za (by decide) (Za (Zq (by omega)) (Za ka (Za (by decide) (Za (Xa ha3) (Za ka (Za hb0 (Zz kab))))))))))))) hv (by rfl) w
     ·rw[if_neg (by omega)];exact Zb T (Z1N a b c m) (Za (by decide) (Za (Zq (by omega)) (Za kc (Za (by decide) (Za (Zq (by omega)) (Za kb (Za (by decide) (Za (Zq (by omega)) (Za ka (Za (by decide) (Za (Xa ha3) (Za ka (Za hb0 (Zz kab)))))))))))))) hv (by rfl) w
  ·by_cases hb3:3<cl b
   ·rw[if_pos (.inr (.inl hb3)),if_pos (.inr (.inl hb3))];by_cases b5:cl b=5
    ·rw[if_pos (.inr (.inl b5))];exact Zb T (Z1O a b c m) (Za (Z1 b5) (Za kb (Za (by decide) (Za (Zq (by omega)) (Za ka (Za (by decide) (Za (Xa hb3) (Za kb (Za (Xb ha3) (Za ka (Za hb0 (Zz kab)))))))))))) hv (by rfl) w
    ·by_cases c5:cl c=5
     ·rw[if_pos (.inr (.inr c5))];exact Zb T (Z1P a b c m) (Za (Z1 c5) (Za kc (Za (by decide) (Za (Zq (by omega)) (Za kb (Za (by decide) (Za (Zq (by omega)) (Za ka (Za (by decide) (Za (Xa hb3) (Za kb (Za (Xb ha3) (Za ka (Za hb0 (Zz kab))))))))))))))) hv (by rfl) w
     ·rw[if_neg (by omega)];exact Zb T (Z1Q a b c m) (Za (by decide) (Za (Zq (by omega)) (Za kc (Za (by decide) (Za (Zq (by omega)) (Za kb (Za (by decide) (Za (Zq (by omega)) (Za ka (Za (by decide) (Za (Xa hb3) (Za kb (Za (Xb ha3) (Za ka (Za hb0 (Zz kab)))))))))))))))) hv (by rfl) w
   ·by_cases hc3:3<cl c
    ·rw[if_pos (.inr (.inr hc3)),if_pos (.inr (.inr hc3))];by_cases c5:cl c=5
     ·rw[if_pos (.inr (.inr c5))];exact Zb T (Z1R a b c m) (Za (Z1 c5) (Za kc (Za (by decide) (Za (Zq (by omega)) (Za kb (Za (by decide) (Za (Zq (by omega)) (Za ka (Za (by decide) (Za (Xa hc3) (Za kc (Za (Xb hb3) (Za kb (Za (Xb ha3) (Za ka (Za hb0 (Zz kab))))))))))))))))) hv (by rfl) w
     ·rw[if_neg (by omega)];exact Zb T (Z1S a b c m) (Za (by decide) (Za (Zq (by omega)) (Za kc (Za (by decide) (Za (Zq (by omega)) (Za kb (Za (by decide) (Za (Zq (by omega)) (Za ka (Za (by decide) (Za (Xa hc3) (Za kc (Za (Xb hb3) (Za kb (Za (Xb ha3) (Za ka (Za hb0 (Zz kab)))))))))))))))))) hv (by rfl) w
    ·have hno:¬ (3<cl a∨3<cl b∨3<cl c):=by omega
     rw[if_neg hno,if_neg hno];by_cases ae:cl a=3
     ·rw[if_pos (.inl ae),if_pos (.inl ae)];exact Zb T (Z1T a b c m) (Za kic (Za rfl (Za kab (Za (Z1 ae) (Za ka (Za (Xb hc3) (Za kc (Za (Xb hb3) (Za kb (Za (Xb ha3) (Za ka (Za hb0 (Zz kab))))))))))))) hv (by rfl) w
     ·by_cases be:cl b=3
      ·rw[if_pos (.inr be),if_pos (.inr be)];exact Zb T (Z1U a b c m) (Za kic (Za rfl (Za kab (Za (Z1 be) (Za kb (Za (Zq ae) (Za ka (Za (Xb hc3) (Za kc (Za (Xb hb3) (Za kb (Za (Xb ha3) (Za ka (Za hb0 (Zz kab))))))))))))))) hv (by rfl) w
      ·have hno2:¬ (cl a=3∨cl b=3):=by omega
       rw[if_neg hno2,if_neg hno2];by_cases ce:cl c=3
       ·rw[if_pos ce,if_pos ce];exact Zb T (Z1V a b c m) (Za (Z1 ce) (Za kc (Za (Zq be) (Za kb (Za (Zq ae) (Za ka (Za (Xb hc3) (Za kc (Za (Xb hb3) (Za kb (Za (Xb ha3) (Za ka (Za hb0 (Zz kab)))))))))))))) hv (by rfl) w
       ·rw[if_neg ce,if_neg ce];have hf:=ZxW a b c m;rw[Zps] at hf;exact Zb T hf (Za (Xa (ZZ _)) (Za kE (Za (Xa ⟨by omega,by omega⟩) (Za kab (Za kE (Za kE (Za (Xa ⟨by omega,by omega⟩) (Za kab (Za kc (Za (Xa (by omega)) (Za kc (Za (Zq ce) (Za kc (Za (Zq be) (Za kb (Za (Zq ae) (Za ka (Za (Xb hc3) (Za kc (Za (Xb hb3) (Za kb (Za (Xb ha3) (Za ka (Za hb0 (Zz kab))))))))))))))))))))))))) hv (by rfl) w
def gPF:Ans:=fun vals s=>
 match vals with
 | [.int .u64 a,.int .u64 b,.int .u64 c,.int .i64 m]=>some (rdT (fmP m a b c) (fmF m a b c),s,[(decide (U a∧U b∧U c),true)])
 | _=>none
theorem ZxY:ZJ 19 gPF:=by
 intro vals s v s' lg h hl w;unfold gPF at h;split at h
 ·cases h;obtain⟨h1,h2,h3⟩:=Xc (hl _ Xf);exact Zja _ _ _ _ h1 h2 h3 w
 ·cases h
end Go.Proofs.YtekebccjflilnaaGreat
namespace Go.Proofs.YtekebccjflilnaaGreat
open Go.KRun Go.Wd Go.Pt Go.Rn
theorem ZxZ {n:Bool}{r:Int}(h0:0≤r) (h1:r<9223372036854775808):mag (sS n r)=r∧sgn (sS n r)=n∧U (sS n r)∧uV (sS n r)=uV r:=by
 have e:ex (sS n r)=ex r∧fr (sS n r)=fr r:=by unfold ex fr sS;split<;>omega
 refine⟨by unfold mag sS;split<;>omega,?_,by unfold U sS;split<;>omega,?_⟩
 ·cases n
  ·simp only[sS,Bool.false_eq_true,if_false,sgn];exact Xb (by omega)
  ·simp only[sS,if_true,sgn];exact Xa (by omega)
 ·unfold uV xp sg;rw[e.1,e.2]
theorem Zua {p:Int}(hp:U p):Zf1 p 9223372036854775808=ng p:=Zf2 hp
theorem ZcX {m a b:Int}(ha:cl a=3) (hb:cl b≤3) (h:¬ (cl b=3∧a≠b)):suP m a b=a∧suF m a b=0:=by
 unfold suP suF;have h0:¬ (3<cl a∨3<cl b):=by omega
 rw[if_neg h0,if_pos ha,if_neg h,if_neg h0,if_pos ha,if_neg h];exact⟨rfl,rfl⟩
theorem ZhN {m a b:Int}(ha:cl a=3) (hb:cl b=3) (h:a≠b):suP m a b=9221120237041090560∧suF m a b=1:=by
 unfold suP suF;have h0:¬ (3<cl a∨3<cl b):=by omega
 rw[if_neg h0,if_pos ha,if_pos ⟨hb,h⟩,if_neg h0,if_pos ha,if_pos ⟨hb,h⟩];exact⟨rfl,rfl⟩
theorem Zub {m a b:Int}(h:zh a b=true):muP m a b=9221120237041090560∧muF m a b=1:=by
 unfold muP muF;rw[if_pos h,if_pos h];exact⟨rfl,rfl⟩
theorem Zms {m a b:Int}(h:3<cl a∨3<cl b):muP m a b=9221120237041090560∧muF m a b=if cl a=5∨cl b=5 then 1 else 0:=by
 have hb:¬ zh a b=true:=by unfold zh;rw[decide_eq_true_iff];omega
 unfold muP muF;rw[if_neg hb,if_neg hb,if_pos h,if_pos h];exact⟨rfl,rfl⟩
theorem Zmt {m a b:Int}(hb:¬ zh a b=true) (h:¬ (3<cl a∨3<cl b)) (hi:cl a=3∨cl b=3):muP m a b=sS (prN a b) inf∧muF m a b=0:=by
 unfold muP muF;rw[if_neg hb,if_neg hb,if_neg h,if_neg h,if_pos hi,if_pos hi];exact⟨rfl,rfl⟩
theorem Zuc {m a b:Int}(ha:cl a≤2) (hb:cl b≤2):muP m a b=sS (prN a b) (mlP m a b)∧muF m a b=mlF m a b:=by
 have h0:¬ zh a b=true:=by unfold zh;rw[decide_eq_true_iff];omega
 have h1:¬ (3<cl a∨3<cl b):=by omega
 have h2:¬ (cl a=3∨cl b=3):=by omega
 unfold muP muF;rw[if_neg h0,if_neg h0,if_neg h1,if_neg h1,if_neg h2,if_neg h2];exact⟨rfl,rfl⟩
theorem Zya (m a b:Int):0≤mlP m a b∧mlP m a b<9223372036854775808:=by have:=ZzZ m a b;omega
theorem Z1X (m a b:Int):U (muP m a b):=by
 unfold muP;split
 ·decide
 ·split
  ·decide
  ·split
   ·exact ZxX _
   ·exact (ZxZ (Zya m a b).1 (Zya m a b).2).2.2.1
end Go.Proofs.YtekebccjflilnaaGreat
