/-
  NumTo, ConO2, ConO3, NumDg, NumU, ConO4, ConO5, ConO6, NumDn, ConO7, ConO8, NumQt
-/
import Derived.Test.YtgefjidphfdhdaaGreatDoorG09
import GoSem.Core.Sem
namespace Go.Nt
theorem Zur {P a b x y k br d e l A B D W:Int}(hk:k+x*d=W+4294967296*e) (hs:y-W-br=D-4294967296*l) (h:a+P*((y+4294967296*A)-d*(x+4294967296*B)-k-br)=b):a+P*D+4294967296*P*(A-d*B-e-l)=b:=by
 rw[← h];have e1:(y+4294967296*A)-d*(x+4294967296*B)-k-br=D+4294967296*(A-d*B-e-l):=by
  rw[Int.mul_add d x,← Int.mul_assoc d 4294967296 B,Int.mul_comm d 4294967296,Int.mul_assoc 4294967296 d B,Int.mul_comm d x];omega
 rw[e1];generalize A-d*B-e-l=Z;rw[Int.mul_add P D,← Int.mul_assoc P 4294967296 Z,Int.mul_comm P 4294967296];omega
theorem Zus {P a b x y br e A B D:Int}(hs:y+x+br=D+4294967296*e) (h:a+P*((y+4294967296*A)+(x+4294967296*B)+br)=b):a+P*D+4294967296*P*(A+B+e)=b:=by
 rw[← h];have e1:(y+4294967296*A)+(x+4294967296*B)+br=D+4294967296*(A+B+e):=by omega
 rw[e1];generalize A+B+e=Z;rw[Int.mul_add P D,← Int.mul_assoc P 4294967296 Z,Int.mul_comm P 4294967296];omega
theorem ZfZ {dx:List Int}{D l V:Int}(hd:wds dx) (hD:0≤D∧D<4294967296) (h:vN dx+4294967296^dx.length*(D+4294967296*l)=V):dx++[D]=dg (dx.length+1) V∧V/4294967296^(dx.length+1)=l:=by
 have hw:wds (dx++[D]):=zY hd (fun x hx=>by rw[List.mem_singleton.1 hx];exact hD);have hv:vN (dx++[D])+4294967296^(dx.length+1)*l=V:=by
  rw[zp,← h,pw,Int.mul_add,← Int.mul_assoc,Int.mul_comm (4294967296^dx.length) 4294967296];omega
 have hl:(dx++[D]).length=dx.length+1:=by simp
 have hb:=ZaM (dx++[D]) hw;rw[hl] at hb;constructor
 ·rw[← hv,ZcP,← hl];exact (ZfI _ hw).symm
 ·rw[← hv,Int.add_mul_ediv_left _ _ (by have:=Za0 (dx.length+1);omega),Int.ediv_eq_zero_of_lt hb.1 hb.2,Int.zero_add]
theorem Zut {V Q l:Int}(hQ:0<Q) (h:V/Q=l):V<0↔l<0:=by
 subst h;constructor
 ·intro hv;exact Int.ediv_lt_of_lt_mul hQ (by omega)
 ·intro hl;refine Decidable.byContradiction fun hn=> ?_;have:=Int.ediv_nonneg (a:=V) (b:=Q) (by omega) (by omega);omega
end Go.Nt
namespace Go.Proofs.YtgefjidphfdhdaaGreatDoor.Na
open Go.Proofs.Tryz
open Go.IntKind
open Go.KRun Go.Nt
set_option maxRecDepth 100000
set_option linter.unusedVariables false
theorem Zuu {k x d:Int}(hk:0≤k∧k<4294967296) (hx:0≤x∧x<4294967296) (hd:0≤d∧d<4294967296):
  (0≤toW k x d∧toW k x d<4294967296)∧(0≤toC k x d∧toC k x d<4294967296)∧k+x*d=toW k x d+4294967296*toC k x d:=by
 have hxy:=ZyA hx hd;have e:toT k x d=k+x*d:=by
  unfold toT;simp only[ZcT];rw[Int.emod_eq_of_lt hx.1 (by omega),Int.emod_eq_of_lt hd.1 (by omega),Int.emod_eq_of_lt hxy.1 (by omega),Int.emod_eq_of_lt (by omega) (by omega)]
 unfold toW toC;rw[e,Zg7,show ((2:Int)^min (Int.toNat 32) 64)=4294967296 from by decide,Int.fdiv_eq_ediv_of_nonneg _ (by omega)];generalize x*d=W at*;omega
theorem Zid {x y c:Int}(hx:0≤x∧x<4294967296) (hy:0≤y∧y<4294967296) (hc:0≤c∧c≤1):wd4 x y c=true:=by
 unfold wd4;simp only[Xi];omega
theorem Zuv {F G la lb Y Q:List Value}{o c k:Nat}{M LB:List Int}{d:Int}(hF:F.length=o) (hM:wds M) (RB:Row Y 0 LB) (hl:M.length=LB.length+1) (hN:M.length<1099511627776) (hd:0≤d∧d<4294967296) (hc:M.length≤c) (hs:ZE c=true) (e:Bool) (he:decide (vN M-d*vN LB<0)=e):
  Runs (Zo prog Zg ZhL true) (zo (toP f208) (.seq (.seq (Z1 (toB f208)) (.block 0 (.loop (toL f208)))) (sn 6 f208))) ([sl 2 o M.length c,sl 3 0 LB.length k,uu d]++List.replicate 62 undef,h5 la lb (F++(wU M++G)) Y Q,[]) fun e' y=>(e'=none∨e'=some none)∧zd prog f208 y.1 y.2.1=some (.bool e)∧y.2.1.cut 5=h5 la lb (F++(wU (dg M.length (vN M-d*vN LB))++G)) Y Q:=by
 have hwB:=RB.rng;have hcs:c<4611686018427387904:=Zk.1 hs;have hT:=Zl Zc2;refine Z4 hT (ZyW o M.length c LB.length k d la lb _ Y Q) (Zi hs (Zi (by unfold ZZ;exact Xa (by omega)) (Zv (Xb (by omega))))) fun g=> ?_;refine Runs.seq (P1:=fun e' y=>e'=none∧∃ (dx:List Int) (t cy b:Int) (v11 v12 u1 u2 u3:Value) (g g':Nat→Value),dx.length=LB.length∧wds dx∧(0≤t∧t<4294967296)∧(0≤cy∧cy<4294967296)∧(0≤b∧b≤1)∧y.1=ml (toF o M.length c LB.length k d cy b v11 v12) 5 g [u1,u2,u3] 44 g'∧y.2.1=h5 la lb (F++(wU (dx++t::[])++G)) Y Q∧vN dx+4294967296^dx.length*(t-cy-b)=vN M-d*vN LB) ?_ ?_ (fun e y he=>by cases he.1)
 ·refine Runs.seq (P1:=fun e' y=>e'=none∧(∃ g g',y.1=ml (toF o M.length c LB.length k d 0 0 undef undef) 5 g [sl 3 0 LB.length k,i6' LB.length,i6' 0] 44 g')∧y.2.1=h5 la lb (F++(wU M++G)) Y Q) (Zav hT (Z6y o M.length c LB.length k d 0 0 undef undef _ g) (fun x hx=>by cases hx)) ?_ (fun e y he=>by cases he.1);rintro⟨t,h',s'⟩ ⟨_,⟨g1,g2,ht⟩,hh⟩;simp only at ht hh;subst ht hh;refine (Runs.forLoop (R:=fun _=>False) (P:=fun y=>∃ (dx:List Int) (t cy b:Int) (v11 v12 u1 u2 u3:Value) (g g':Nat→Value),dx.length=LB.length∧wds dx∧(0≤t∧t<4294967296)∧(0≤cy∧cy<4294967296)∧(0≤b∧b≤1)∧y.1=ml (toF o M.length c LB.length k d cy b v11 v12) 5 g [u1,u2,u3] 44 g'∧y.2.1=h5 la lb (F++(wU (dx++t::[])++G)) Y Q∧vN dx+4294967296^dx.length*(t-cy-b)=vN M-d*vN LB)
   (fun r y=>∃ (dx px bx:List Int) (cy b:Int) (v11 v12:Value) (g g':Nat→Value),px.length=r+1∧dx.length+px.length=M.length∧wds dx∧wds px∧bx=LB.drop dx.length∧(0≤cy∧cy<4294967296)∧(0≤b∧b≤1)∧y.1=ml (toF o M.length c LB.length k d cy b v11 v12) 5 g [sl 3 0 LB.length k,i6' LB.length,i6' dx.length] 44 g'∧y.2.1=h5 la lb (F++(wU (dx++px)++G)) Y Q∧vN dx+4294967296^dx.length*(vN px-d*vN bx-cy-b)=vN M-d*vN LB)
   ?_ (n:=LB.length) ⟨[],M,LB,0,0,undef,undef,g1,g2,by omega,by simp,(fun x hx=>by cases hx),hM,rfl,by omega,by omega,rfl,rfl,by simp [vN]⟩).mono fun e' y he=> ?_
  ·rintro r ⟨t,h',s'⟩ ⟨dx,px,bx,cy,b,v11,v12,g,g',hr,hlen,wd1,wd2,hb,hcy,hbb,ht,hh,hv⟩;simp only at ht hh;subst ht hh;cases r with
   | zero=>
    have hl':dx.length=LB.length:=by omega
    match px,hr,wd2,hv with
    | [t],hr,wd2,hv=>
     refine (Zav hT (ZyX o M.length c LB.length k d cy b dx.length v11 v12 _ g g') (Zv (Xb (by omega)))).mono fun e' y he=> ?_;obtain⟨rfl,⟨g1,g2,e2⟩,e3⟩:=he;have hbx:bx=[]:=by rw[hb,List.drop_eq_nil_of_le (by omega)]
     subst hbx;refine⟨rfl,dx,t,cy,b,v11,v12,_,_,_,g1,g2,hl',wd1,wd2 t Xf,hcy,hbb,e2,e3,?_⟩;simpa [vN] using hv
   | succ r=>
    match px,hr,hlen,wd2,hv with
    | y::px,hr,hlen,wd2,hv=>
     obtain⟨wy,wd2⟩:=Zal wd2;have hl':dx.length<LB.length:=by simp at hlen hr;omega
     have hx:=RB.cell (k:=dx.length) (by omega);have hxr:=hwB (LB.getD dx.length 0) (by simp [List.getD,List.getElem?_eq_getElem hl']);have hbx:bx=LB.getD dx.length 0::LB.drop (dx.length+1):=by
      rw[hb,List.drop_eq_getElem_cons hl'];simp [List.getD,List.getElem?_eq_getElem hl']
     generalize LB.getD dx.length 0=x at*;obtain⟨k1,k2,k3⟩:=Zuu hcy hxr hd;obtain⟨s1,s2,s3⟩:=ZfM wy k1 hbb;have cS:=ZdG hF dx y px G;have lS:o+dx.length<(F++(wU (dx++y::px)++G)).length:=(List.getElem?_eq_some_iff.1 cS).1;have l1:decide (o+((dx.length:Int)).toNat*1<(F++(wU (dx++y::px)++G)).length)=true:=by
      rw[Xg,Nat.mul_one];exact Xa lS
     have l2:(inR dx.length LB.length).1=(inR dx.length LB.length).2:=Xa (by omega);refine (Zav hT (Z3F o M.length c LB.length k d cy b dx.length x y v11 v12 la lb _ Y Q g g') (Zi (by decide) (Zi l1 (Zi l2 (Zi (Zid wy k1 hbb) (Zi (Zae cS) (Zi l2 (Zi (Zae hx) (Zi l2 (Zv (Xa (by omega)))))))))))).mono fun e' z he=> ?_;obtain⟨rfl,⟨g1,g2,e2⟩,e3⟩:=he;refine⟨r,by omega,dx++[ZfK y (toW cy x d) b],px,LB.drop (dx.length+1),toC cy x d,ZiV y (toW cy x d) b,i6' dx.length,uu x,g1,g2,by simp at hr;omega,by simp at hlen ⊢;omega,zY wd1 (fun u hu=>by rw[List.mem_singleton.1 hu];exact s1),wd2,by simp,k2,s2,?_,?_,?_⟩
     ·rw[e2,Zw (by omega) (by omega)];simp
     ·rw[e3,Xg,Nat.mul_one,ZdH hF]
     ·rw[hbx] at hv;simp only[vN] at hv;rw[zp,List.length_append,List.length_singleton,pw];exact Zur k3 s3 hv
  ·match e',he with
   | none,he=>exact⟨rfl,he⟩
   | some none,he=>exact he.elim
   | some (some _),he=>exact he.elim
 ·rintro⟨t,h',s'⟩ ⟨_,dx,tw,cy,b,v11,v12,u1,u2,u3,g,g',hdl,wd1,wt,hcy,hbb,ht,hh,hv⟩;simp only at ht hh;subst ht hh;have ew:u32.wrap cy=cy:=by rw[Zg7,Int.emod_eq_of_lt hcy.1 hcy.2]
  obtain⟨s1,s2,s3⟩:=ZfM wt hcy hbb;have cS:=ZdG hF dx tw [] G;have lS:o+dx.length<(F++(wU (dx++tw::[])++G)).length:=(List.getElem?_eq_some_iff.1 cS).1;obtain⟨f1,f2⟩:=ZfZ (l:= - ZiV tw cy b) (V:=vN M-d*vN LB) wd1 s1 (by rw[← hv,s3];congr 2;omega);have hn:=Zut (Za0 (dx.length+1)) f2;have g0:=ZyY e o M.length c LB.length k d cy b tw v11 v12 u1 u2 u3 la lb (F++(wU (dx++tw::[])++G)) Y Q g g';rw[ew,← hdl,Xg,Nat.mul_one,ZdH hF] at g0;have l0:(ZiV tw cy b !=0)=e:=by
   rw[← he];by_cases hneg:vN M-d*vN LB<0
   ·rw[Xa hneg];have:=hn.1 hneg;exact bne_iff_ne.2 (by omega)
   ·rw[Xb hneg];have:ZiV tw cy b=0:=Decidable.byContradiction fun h0=>hneg (hn.2 (by omega));rw[this];rfl
  have l2:(inR dx.length M.length).1=(inR dx.length M.length).2:=Xa (by omega);rw[← hdl];refine (Zb hT g0 (Zi l0 (Zi (Xa lS) (Zi l2 (Zi (Zid wt hcy hbb) (Zi (Zae cS) (Zv l2))))))).mono fun e' y he=> ?_;obtain⟨rfl,⟨g1,e2⟩,e3⟩:=he;refine⟨.inr rfl,?_,?_⟩
  ·rw[e2,e3];rfl
  ·rw[e3,hl,← hdl,← f1,List.append_nil];rfl
def Zj0 (la lb R Y Q:List Value) (t0 t1 t2 t3 t4:TypeId) (o m c n k:Nat):Bool:=Nat.beq t0 tR && Nat.beq t1 tR && Nat.beq t2 tU && Nat.beq t3 tU && Nat.beq t4 tU && Z0 tU R o m c && Z0 tU Y 0 n k && Nat.beq m (n+1) && Nat.blt m 1099511627776 && la.all still && lb.all still && Q.all still
theorem ZeT {la lb R Y Q:List Value}{t0 t1 t2 t3 t4:TypeId}{o m c n k:Nat}(q:Zj0 la lb R Y Q t0 t1 t2 t3 t4 o m c n k=true):t0=tR∧t1=tR∧t2=tU∧t3=tU∧t4=tU∧Z0 tU R o m c=true∧Z0 tU Y 0 n k=true∧m=n+1∧m<1099511627776∧la.all still=true∧lb.all still=true∧Q.all still=true:=by
 unfold Zj0 at q;simp only[Xh] at q;obtain⟨⟨⟨⟨⟨⟨⟨⟨⟨⟨⟨q0,q1⟩,q2⟩,q3⟩,q4⟩,ra⟩,rb⟩,qn⟩,qN⟩,s0⟩,s1⟩,s2⟩:=q;exact⟨Xj q0,Xj q1,Xj q2,Xj q3,Xj q4,ra,rb,Xj qn,Zk.1 qN,s0,s1,s2⟩
theorem Za5 {R:List Value}{o m c:Nat}(ra:Z0 tU R o m c=true):R=R.take o++(wU (Zx R o m)++R.drop (o+m))∧(R.take o).length=o:=by
 obtain⟨a1,a2,a3,a4,a5,a6,a7⟩:=ZC ra;constructor
 ·have h1:=a1.cut;rw[a2] at h1;rw[← h1];unfold Zbp;rw[← List.drop_drop,List.take_append_drop,List.take_append_drop]
 ·have:=a1.len;simp;omega
theorem ZlU {la lb R Y Q:List Value}{o m c n k:Nat}{L:List Int}(ra:Z0 tU R o m c=true) (rb:Z0 tU Y 0 n k=true) (s0:la.all still=true) (s1:lb.all still=true) (s2:Q.all still=true):(h5 la lb (tmS R o m L) Y Q).tight=true:=by
 obtain⟨a1,a2,a3,a4,a5,a6,a7⟩:=ZC ra;obtain⟨b1,b2,b3,b4,b5,b6,b7⟩:=ZC rb;unfold Hp.tight tmS h5;simp only[List.all_cons,List.all_nil,List.all_append,Bool.and_true,Xh];refine⟨ZU (by omega) s2,ZU (by omega) (List.all_eq_true.2 b7),⟨?_,ZbB _ _,?_⟩,ZU (by omega) s1,ZU (by omega) s0⟩
 ·rw[List.all_eq_true];exact fun v hv=>zv (by omega) (a7 v (List.mem_of_mem_take hv))
 ·rw[List.all_eq_true];exact fun v hv=>zv (by omega) (a7 v (List.mem_of_mem_drop hv))
def Z3G:Zag:=fun vals h s=>
 match vals,h,s with
 | [.slice (some ⟨2,o,none⟩) m c,.slice (some ⟨3,0,none⟩) n k,.int .u32 d],⟨5,[(Q,t4),(Y,t3),(R,t2),(lb,t1),(la,t0)]⟩,.inr (.inr (.inr (.inl e)))::s'=>some (.bool e,h5 la lb (tmS R o m (dg m (vN (Zx R o m)-d*vN (Zx Y 0 n)))) Y Q,s',[(Zj0 la lb R Y Q t0 t1 t2 t3 t4 o m c n k && decide (0≤d∧d<4294967296),true),(decide (vN (Zx R o m)-d*vN (Zx Y 0 n)<0),e)])
 | _,_,_=>none
theorem Zuw:Z8 208 Z3G:=by
 intro vals h s v h' s' lg hg hl m B w E hv;unfold Z3G at hg;split at hg
 ·rename_i o mm c n k d Q t4 Y t3 R t2 lb t1 la t0 e s2;cases hg;have l1:=hl _ Xe;have l2:=hl _ (Xd _ Xf);simp only[Xh,Xi] at l1 l2;obtain⟨l1,hd⟩:=l1;obtain⟨q0,q1,q2,q3,q4,ra,rb,qn,qN,st0,st1,st2⟩:=ZeT l1;subst q0 q1 q2 q3 q4;obtain⟨a1,a2,a3,a4,a5,a6,a7⟩:=ZC ra;obtain⟨b1,b2,b3,b4,b5,b6,b7⟩:=ZC rb;obtain⟨eS,hF⟩:=Za5 ra;have r:=Zuv (G:=R.drop (o+mm)) (la:=la) (lb:=lb) (Q:=Q) (c:=c) (k:=k) hF a1.rng b1 (by rw[a2,b2];exact qn) (by rw[a2];exact qN) hd (by rw[a2];exact a3) a4 e l2;rw[a2,b2,← eS] at r;exact ZM (T:=Zo prog Zg ZhL true) func208 Zuq (vals:=[sl 2 o mm c,sl 3 0 n k,uu d]) (v:= .bool e) (h:=h5 la lb R Y Q) (by rfl) (ZlU ra rb st0 st1 st2) r m B w E hv
 ·cases hg
def pbP (F:Func):List Code:=[Z1 (sn 0 F),Z1 (sn 1 F)]
def pbB (F:Func):Code:=Z1 (sn 2 F)
def pbL (F:Func):Code:=cIn (cIn (Zz (pbB F)))
def pbF (o m c n k:Nat) (b:Int) (v6 v7 u1 u2 u3:Value):List Value:=[sl 2 o m c,sl 3 0 n k,undef,undef,.bool false,uu b,v6,v7,u1,u2,u3]
def adD (x y c:Int):Int:=(x+y+c) % 4294967296
def adC (x y c:Int):Int:=(x+y+c)/4294967296
theorem Zux:f209.body=some (zo (pbP f209) (.seq (.seq (Z1 (pbB f209)) (.block 0 (.loop (pbL f209)))) (sn 3 f209))):=by kernel_rfl
theorem ZyZ (o m c n k:Nat) (h:Hp):Zh (evL (Zo prog Zg ZgN true) 100 (pbP f209) ([sl 2 o m c,sl 3 0 n k]++List.replicate 43 undef,h,[]) ⟨[],[],[]⟩) 11 34 none (pbF o m c n k 0 undef undef undef undef undef) h []:=by and_intros<;>kernel_rfl
theorem Z6z (o m c n k:Nat) (b:Int) (v6 v7 u1 u2 u3:Value) (h:Hp) (g:Nat→Value):Zh (evC (Zo prog Zg ZgN true) 100 false (Z1 (pbB f209)) (pbF o m c n k b v6 v7 u1 u2 u3++tl 34 g,h,[]) ⟨[],[],[]⟩) 11 34 none (pbF o m c n k b v6 v7 (sl 3 0 n k) (i6' n) (i6' 0)) h []:=by and_intros<;>kernel_rfl
theorem Zza (o m c n k:Nat) (b j:Int) (v6 v7:Value) (h:Hp) (g:Nat→Value):Zh (evC (Zo prog Zg ZgN true) 100 false (pbL f209) (pbF o m c n k b v6 v7 (sl 3 0 n k) (i6' n) (i6' j)++tl 34 g,h,[cmp false]) ⟨[],[],[]⟩) 11 34 (some (some 0)) (pbF o m c n k b v6 v7 (sl 3 0 n k) (i6' n) (i6' j)) h [(decide (j<n),false)]:=by and_intros<;>kernel_rfl
theorem Z3H (o m c n k:Nat) (b j x y:Int) (v6 v7:Value) (la lb R Y Q:List Value) (g:Nat→Value):Zh (evC (Zo prog Zg ZgN true) 100 false (pbL f209) (pbF o m c n k b v6 v7 (sl 3 0 n k) (i6' n) (i6' j)++tl 34 g,h5 la lb R Y Q,[cmp true,at_,val (uu x),at_,val (uu y),at_,at_]) ⟨[],[],[]⟩) 11 34 none (pbF o m c n k (adC y x b) (i6' j) (uu x) (sl 3 0 n k) (i6' n) (i6' (i64.wrap (j+1)))) (h5 la lb (R.set (o+j.toNat*1) (uu (adD y x b))) Y Q)
  [(decide (o+j.toNat*1<R.length),true),inR j m,(wd4 y x b,true),ZbG R o j y,inR j m,ZbG Y 0 j x,inR j n,(decide (j<n),true)]:=by and_intros<;>kernel_rfl
theorem Zzb (e:Bool) (o m c n k:Nat) (b y:Int) (v6 v7 u1 u2 u3:Value) (la lb R Y Q:List Value) (g:Nat→Value):Zh (evC (Zo prog Zg ZgN true) 100 false (sn 3 f209) (pbF o m c n k b v6 v7 u1 u2 u3++tl 34 g,h5 la lb R Y Q,[at_,val (uu y),at_,at_,cmp e]) ⟨[],[],[]⟩) 5 40 (some none) [sl 2 o m c,sl 3 0 n k,undef,undef,.bool e] (h5 la lb (R.set (o+((n:Int)).toNat*1) (uu (adD y 0 b))) Y Q)
  [(adC y 0 b !=0,e),(decide (o+((n:Int)).toNat*1<R.length),true),inR n m,(wd4 y 0 b,true),ZbG R o n y,inR n m]:=by
 cases e<;>exact by and_intros<;>kernel_rfl
theorem Zga {x y c:Int}(hx:0≤x∧x<4294967296) (hy:0≤y∧y<4294967296) (hc:0≤c∧c≤1):(0≤adD x y c∧adD x y c<4294967296)∧(0≤adC x y c∧adC x y c≤1)∧x+y+c=adD x y c+4294967296*adC x y c:=by
 unfold adD adC;omega
theorem Zuy {F G la lb Y Q:List Value}{o c k:Nat}{M LB:List Int}(hF:F.length=o) (hM:wds M) (RB:Row Y 0 LB) (hl:M.length=LB.length+1) (hN:M.length<1099511627776) (e:Bool) (he:decide (4294967296^M.length≤vN M+vN LB)=e):
  Runs (Zo prog Zg ZgN true) (zo (pbP f209) (.seq (.seq (Z1 (pbB f209)) (.block 0 (.loop (pbL f209)))) (sn 3 f209))) ([sl 2 o M.length c,sl 3 0 LB.length k]++List.replicate 43 undef,h5 la lb (F++(wU M++G)) Y Q,[]) fun e' y=>(e'=none∨e'=some none)∧zd prog f209 y.1 y.2.1=some (.bool e)∧y.2.1.cut 5=h5 la lb (F++(wU (dg M.length (vN M+vN LB))++G)) Y Q:=by
 have hwB:=RB.rng;have hT:=Zl ZbQ;refine Z4 hT (ZyZ o M.length c LB.length k _) (fun x hx=>by cases hx) fun g=> ?_;refine Runs.seq (P1:=fun e' y=>e'=none∧∃ (dx:List Int) (t b:Int) (v6 v7 u1 u2 u3:Value) (g:Nat→Value),dx.length=LB.length∧wds dx∧(0≤t∧t<4294967296)∧(0≤b∧b≤1)∧y.1=pbF o M.length c LB.length k b v6 v7 u1 u2 u3++tl 34 g∧y.2.1=h5 la lb (F++(wU (dx++t::[])++G)) Y Q∧vN dx+4294967296^dx.length*(t+b)=vN M+vN LB) ?_ ?_ (fun e y he=>by cases he.1)
 ·refine Runs.seq (P1:=fun e' y=>e'=none∧(∃ g,y.1=pbF o M.length c LB.length k 0 undef undef (sl 3 0 LB.length k) (i6' LB.length) (i6' 0)++tl 34 g)∧y.2.1=h5 la lb (F++(wU M++G)) Y Q) (Zb hT (Z6z o M.length c LB.length k 0 undef undef undef undef undef _ g) (fun x hx=>by cases hx)) ?_ (fun e y he=>by cases he.1);rintro⟨t,h',s'⟩ ⟨_,⟨g1,ht⟩,hh⟩;simp only at ht hh;subst ht hh;refine (Runs.forLoop (R:=fun _=>False) (P:=fun y=>∃ (dx:List Int) (t b:Int) (v6 v7 u1 u2 u3:Value) (g:Nat→Value),dx.length=LB.length∧wds dx∧(0≤t∧t<4294967296)∧(0≤b∧b≤1)∧y.1=pbF o M.length c LB.length k b v6 v7 u1 u2 u3++tl 34 g∧y.2.1=h5 la lb (F++(wU (dx++t::[])++G)) Y Q∧vN dx+4294967296^dx.length*(t+b)=vN M+vN LB)
   (fun r y=>∃ (dx px bx:List Int) (b:Int) (v6 v7:Value) (g:Nat→Value),px.length=r+1∧dx.length+px.length=M.length∧wds dx∧wds px∧bx=LB.drop dx.length∧(0≤b∧b≤1)∧y.1=pbF o M.length c LB.length k b v6 v7 (sl 3 0 LB.length k) (i6' LB.length) (i6' dx.length)++tl 34 g∧y.2.1=h5 la lb (F++(wU (dx++px)++G)) Y Q∧vN dx+4294967296^dx.length*(vN px+vN bx+b)=vN M+vN LB)
   ?_ (n:=LB.length) ⟨[],M,LB,0,undef,undef,g1,by omega,by simp,(fun x hx=>by cases hx),hM,rfl,by omega,rfl,rfl,by simp [vN]⟩).mono fun e' y he=> ?_
  ·rintro r ⟨t,h',s'⟩ ⟨dx,px,bx,b,v6,v7,g,hr,hlen,wd1,wd2,hb,hbb,ht,hh,hv⟩;simp only at ht hh;subst ht hh;cases r with
   | zero=>
    have hl':dx.length=LB.length:=by omega
    match px,hr,wd2,hv with
    | [t],hr,wd2,hv=>
     refine (Zb hT (Zza o M.length c LB.length k b dx.length v6 v7 _ g) (Zv (Xb (by omega)))).mono fun e' y he=> ?_;obtain⟨rfl,⟨g1,e2⟩,e3⟩:=he;have hbx:bx=[]:=by rw[hb,List.drop_eq_nil_of_le (by omega)]
     subst hbx;refine⟨rfl,dx,t,b,v6,v7,_,_,_,g1,hl',wd1,wd2 t Xf,hbb,e2,e3,?_⟩;simpa [vN] using hv
   | succ r=>
    match px,hr,hlen,wd2,hv with
    | y::px,hr,hlen,wd2,hv=>
     obtain⟨wy,wd2⟩:=Zal wd2;have hl':dx.length<LB.length:=by simp at hlen hr;omega
     have hx:=RB.cell (k:=dx.length) (by omega);have hxr:=hwB (LB.getD dx.length 0) (by simp [List.getD,List.getElem?_eq_getElem hl']);have hbx:bx=LB.getD dx.length 0::LB.drop (dx.length+1):=by
      rw[hb,List.drop_eq_getElem_cons hl'];simp [List.getD,List.getElem?_eq_getElem hl']
     generalize LB.getD dx.length 0=x at*;obtain⟨s1,s2,s3⟩:=Zga wy hxr hbb;have cS:=ZdG hF dx y px G;have lS:o+dx.length<(F++(wU (dx++y::px)++G)).length:=(List.getElem?_eq_some_iff.1 cS).1;have l1:decide (o+((dx.length:Int)).toNat*1<(F++(wU (dx++y::px)++G)).length)=true:=by
      rw[Xg,Nat.mul_one];exact Xa lS
     have l2:(inR dx.length M.length).1=(inR dx.length M.length).2:=Xa (by omega);have l3:(inR dx.length LB.length).1=(inR dx.length LB.length).2:=Xa (by omega);refine (Zb hT (Z3H o M.length c LB.length k b dx.length x y v6 v7 la lb _ Y Q g) (Zi l1 (Zi l2 (Zi (Zid wy hxr hbb) (Zi (Zae cS) (Zi l2 (Zi (Zae hx) (Zi l3 (Zv (Xa (by omega))))))))))).mono fun e' z he=> ?_;obtain⟨rfl,⟨g1,e2⟩,e3⟩:=he;refine⟨r,by omega,dx++[adD y x b],px,LB.drop (dx.length+1),adC y x b,i6' dx.length,uu x,g1,by simp at hr;omega,by simp at hlen ⊢;omega,zY wd1 (fun u hu=>by rw[List.mem_singleton.1 hu];exact s1),wd2,by simp,s2,?_,?_,?_⟩
     ·rw[e2,Zw (by omega) (by omega)];simp
     ·rw[e3,Xg,Nat.mul_one,ZdH hF]
     ·rw[hbx] at hv;simp only[vN] at hv;rw[zp,List.length_append,List.length_singleton,pw];exact Zus s3 hv
  ·match e',he with
   | none,he=>exact⟨rfl,he⟩
   | some none,he=>exact he.elim
   | some (some _),he=>exact he.elim
 ·rintro⟨t,h',s'⟩ ⟨_,dx,tw,b,v6,v7,u1,u2,u3,g,hdl,wd1,wt,hbb,ht,hh,hv⟩;simp only at ht hh;subst ht hh;obtain⟨s1,s2,s3⟩:=Zga wt (show (0:Int)≤0∧(0:Int)<4294967296 by omega) hbb;have cS:=ZdG hF dx tw [] G;have lS:o+dx.length<(F++(wU (dx++tw::[])++G)).length:=(List.getElem?_eq_some_iff.1 cS).1;obtain⟨f1,f2⟩:=ZfZ (l:=adC tw 0 b) (V:=vN M+vN LB) wd1 s1 (by rw[← hv,← s3];congr 2;omega);have g0:=Zzb e o M.length c LB.length k b tw v6 v7 u1 u2 u3 la lb (F++(wU (dx++tw::[])++G)) Y Q g;rw[← hdl,Xg,Nat.mul_one,ZdH hF] at g0;have l0:(adC tw 0 b !=0)=e:=by
   rw[← he,hl,← hdl,← f2];have hp:=Za0 (dx.length+1);by_cases hbig:4294967296^(dx.length+1)≤vN M+vN LB
   ·rw[Xa hbig];have:(1:Int)≤(vN M+vN LB)/4294967296^(dx.length+1):=(Int.le_ediv_iff_mul_le hp).2 (by omega);exact bne_iff_ne.2 (by omega)
   ·rw[Xb hbig];have h1:=ZaM M hM;have h2:=ZaM LB hwB;rw[Int.ediv_eq_zero_of_lt (by omega) (by omega)];rfl
  have l2:(inR dx.length M.length).1=(inR dx.length M.length).2:=Xa (by omega);rw[← hdl];refine (Zb hT g0 (Zi l0 (Zi (Xa lS) (Zi l2 (Zi (Zid wt (by omega) hbb) (Zi (Zae cS) (Zv l2))))))).mono fun e' y he=> ?_;obtain⟨rfl,⟨g1,e2⟩,e3⟩:=he;refine⟨.inr rfl,?_,?_⟩
  ·rw[e2,e3];rfl
  ·rw[e3,hl,← hdl,← f1,List.append_nil];rfl
def Z3I:Zag:=fun vals h s=>
 match vals,h,s with
 | [.slice (some ⟨2,o,none⟩) m c,.slice (some ⟨3,0,none⟩) n k],⟨5,[(Q,t4),(Y,t3),(R,t2),(lb,t1),(la,t0)]⟩,.inr (.inr (.inr (.inl e)))::s'=>some (.bool e,h5 la lb (tmS R o m (dg m (vN (Zx R o m)+vN (Zx Y 0 n)))) Y Q,s',[(Zj0 la lb R Y Q t0 t1 t2 t3 t4 o m c n k,true),(decide (4294967296^m≤vN (Zx R o m)+vN (Zx Y 0 n)),e)])
 | _,_,_=>none
theorem Zuz:Z8 209 Z3I:=by
 intro vals h s v h' s' lg hg hl m B w E hv;unfold Z3I at hg;split at hg
 ·rename_i o mm c n k Q t4 Y t3 R t2 lb t1 la t0 e s2;cases hg;have l1:=hl _ Xe;have l2:=hl _ (Xd _ Xf);simp only at l1 l2;obtain⟨q0,q1,q2,q3,q4,ra,rb,qn,qN,st0,st1,st2⟩:=ZeT l1;subst q0 q1 q2 q3 q4;obtain⟨a1,a2,a3,a4,a5,a6,a7⟩:=ZC ra;obtain⟨b1,b2,b3,b4,b5,b6,b7⟩:=ZC rb;obtain⟨eS,hF⟩:=Za5 ra;have r:=Zuy (G:=R.drop (o+mm)) (la:=la) (lb:=lb) (Q:=Q) (c:=c) (k:=k) hF a1.rng b1 (by rw[a2,b2];exact qn) (by rw[a2];exact qN) e (by rw[a2];exact l2);rw[a2,b2,← eS] at r;exact ZM (T:=Zo prog Zg ZgN true) func209 Zux (vals:=[sl 2 o mm c,sl 3 0 n k]) (v:= .bool e) (h:=h5 la lb R Y Q) (by rfl) (ZlU ra rb st0 st1 st2) r m B w E hv
 ·cases hg
end Go.Proofs.YtgefjidphfdhdaaGreatDoor.Na
namespace Go.Nt
theorem Zqj {M L:List Int}(hM:wds M) (hL:wds L) {n:Nat}(hm:M.length=n+1) (hl:L.length=n) (hn:0<n) (hb:0<L.getD (n-1) 0):vN M/vN L≤(M.getD n 0*4294967296+M.getD (n-1) 0)/L.getD (n-1) 0:=by
 have hP:=Za0 (n-1);have eM:M=(M.take (n-1)++[M.getD (n-1) 0])++[M.getD n 0]:=by
  have h1:=Zap (L:=M) (k:=n) (by omega);have h2:=Zap (L:=M) (k:=n-1) (by omega);rw[show n-1+1=n by omega] at h2;rw[← h2,← h1,← hm,List.take_length]
 have eL:L=L.take (n-1)++[L.getD (n-1) 0]:=by
  have h2:=Zap (L:=L) (k:=n-1) (by omega);rw[← h2,show n-1+1=L.length by omega,List.take_length]
 have vM:vN M=vN (M.take (n-1))+4294967296^(n-1)*(M.getD n 0*4294967296+M.getD (n-1) 0):=by
  have:vN M=vN ((M.take (n-1)++[M.getD (n-1) 0])++[M.getD n 0]):=by rw[← eM]
  rw[this,zp,zp,List.length_append,List.length_take,Nat.min_eq_left (by omega),List.length_singleton,pw,Int.mul_add,Int.mul_comm (M.getD n 0) 4294967296,← Int.mul_assoc,Int.mul_comm (4294967296^(n-1)) 4294967296];omega
 have vL:vN L=vN (L.take (n-1))+4294967296^(n-1)*L.getD (n-1) 0:=by
  have:vN L=vN (L.take (n-1)++[L.getD (n-1) 0]):=by rw[← eL]
  rw[this,zp,List.length_take,Nat.min_eq_left (by omega)]
 have bM:=ZaM (M.take (n-1)) (Zch hM _);have bL:=ZaM (L.take (n-1)) (Zch hL _);rw[List.length_take,Nat.min_eq_left (by omega)] at bM bL;generalize M.getD n 0*4294967296+M.getD (n-1) 0=T at*;generalize L.getD (n-1) 0=b at*;generalize (4294967296:Int)^(n-1)=P at*;have hPb:0<P*b:=Int.mul_pos hP hb;have hq:=Int.mul_ediv_self_le (x:=vN M) (k:=vN L) (by omega);have hq0:0≤vN M/vN L:=by
  by_cases h0:0≤vN M
  ·exact Int.ediv_nonneg h0 (by omega)
  ·have:=(ZaM M hM).1;omega
 generalize hqd:vN M/vN L=q at*;refine (Int.le_ediv_iff_mul_le hb).2 ?_;have h1:P*b*q≤vN L*q:=Int.mul_le_mul_of_nonneg_right (by omega) hq0;have h2:P*b*q<P*(T+1):=by
  rw[Int.mul_add];omega
 rw[Int.mul_assoc] at h2;have h3:=Int.lt_of_mul_lt_mul_left h2 (by omega);rw[Int.mul_comm q b];omega
theorem Zie {h l b:Int}(hh:0≤h) (hl:0≤l∧l<4294967296) (hb:h<b):0≤(h*4294967296+l)/b∧(h*4294967296+l)/b<4294967296:=
 ⟨Int.ediv_nonneg (by omega) (by omega),Int.ediv_lt_of_lt_mul (by omega) (by omega)⟩
theorem Zif {M B:Int}(hB:0<B) (h0:0≤M) (h:M<4294967296*B):0≤M/B∧M/B≤4294967295:=by
 have h1:=Int.ediv_lt_of_lt_mul hB h;exact⟨Int.ediv_nonneg h0 (by omega),by omega⟩
theorem Zu0 {M B d:Int}(hB:0<B) (h1:0≤M-d*B) (h2:M/B≤d):d=M/B∧M-d*B=M % B:=by
 have h3:d≤M/B:=(Int.le_ediv_iff_mul_le hB).2 (by omega);have e:d=M/B:=by omega
 refine⟨e,?_⟩;have:=Int.emod_add_mul_ediv M B;rw[e,Int.mul_comm (M/B) B];omega
theorem ZlV {M B d:Int}(hB:0<B) (h:M-d*B<0):M/B<d:=Int.ediv_lt_of_lt_mul hB (by omega)
theorem Zzc {m:Nat}{V:Int}(h0:V<0) (h1: -(4294967296^m)≤V):vN (dg m V)=V+4294967296^m:=by
 have:=ZcP m V 1;rw[Int.mul_one] at this;rw[← this];exact Zjr m _ (by omega) (by omega)
end Go.Nt
namespace Go.Pt
open Go.IntKind
def Zig (x y:Int):Int:=u64.wrap ((BitVec.ofInt 64 x &&& BitVec.ofInt 64 y).toNat:Nat)
def bOr (x y:Int):Int:=u64.wrap ((BitVec.ofInt 64 x ||| BitVec.ofInt 64 y).toNat:Nat)
def Z3J (x y:Int):Int:=u64.wrap ((BitVec.ofInt 64 x &&& ~~~(BitVec.ofInt 64 y)).toNat:Nat)
abbrev U (p:Int):Prop:=0≤p∧p<18446744073709551616
abbrev I (n:Int):Prop:= -9223372036854775808≤n∧n≤9223372036854775807
theorem Z3K (n:Int):u64.wrap n=n % 18446744073709551616:=by simp [IntKind.wrap,IntKind.bits,IntKind.signed]
theorem ZlW {n:Int}(h:U n):u64.wrap n=n:=by rw[Z3K];unfold U at h;omega
theorem Zih {n:Int}(h:I n):i64.wrap n=n:=by
 unfold I at h;simp [IntKind.wrap,IntKind.bits,IntKind.signed];omega
theorem ofU {Z:Nat}(h:Z<18446744073709551616):(BitVec.ofInt 64 (Z:Int)).toNat=Z:=by simp;omega
theorem Zqk {V:BitVec 64}:u64.wrap (V.toNat:Nat)=(V.toNat:Int):=by
 have:=V.isLt;exact ZlW ⟨by omega,by omega⟩
theorem Zql (x k j:Nat):x &&& (2^k*(2^j-1))=2^k*(x/2^k % 2^j):=by
 refine Nat.eq_of_testBit_eq fun i=> ?_;rw[Nat.testBit_and,Nat.testBit_two_pow_mul,Nat.testBit_two_pow_sub_one,Nat.testBit_two_pow_mul,Nat.testBit_mod_two_pow,Nat.testBit_div_two_pow];by_cases h:k≤i
 ·have e:k+(i-k)=i:=by omega
  have e':i-k+k=i:=by omega
  simp [h,e',Bool.and_comm]
 ·simp [h]
theorem Zb2 {p m:Int}(k j:Nat) (hp:U p) (hm:m=((2^k*(2^j-1):Nat):Int)) (hk:2^k*(2^j-1)<18446744073709551616):Zig p m=2^k*(p/2^k % 2^j):=by
 obtain⟨h0,h1⟩:=hp;obtain⟨Z,rfl⟩:=Int.eq_ofNat_of_zero_le h0;unfold Zig;rw[Zqk,BitVec.toNat_and,ofU (by omega),hm,ofU hk,Zql];simp
theorem or_low {p q:Int}(k:Nat) {z:Int}(hz:0≤z) (hq:q=2^k*z) (hp:0≤p) (hk:p<2^k) (hs:q+p<18446744073709551616):bOr p q=q+p:=by
 obtain⟨Z,rfl⟩:=Int.eq_ofNat_of_zero_le hz;obtain⟨Y,rfl⟩:=Int.eq_ofNat_of_zero_le hp;have ex:(2:Int)^k*(Z:Nat)=((2^k*Z:Nat):Int):=by simp
 have hY:Y<2^k:=by
  have:((Y:Nat):Int)<((2^k:Nat):Int):=by simpa using hk
  exact Int.ofNat_lt.1 this
 subst hq;rw[ex] at hs ⊢;have hX:2^k*Z+Y<18446744073709551616:=by omega
 unfold bOr;rw[Zqk,BitVec.toNat_or,ofU (by omega),ofU (by omega),Nat.or_comm,← Nat.two_pow_add_eq_or_of_lt hY];omega
theorem ZlX {p:Int}(hp:U p):Z3J p 9223372036854775808=p % 9223372036854775808:=by
 obtain⟨h0,h1⟩:=hp;obtain⟨Z,rfl⟩:=Int.eq_ofNat_of_zero_le h0;unfold Z3J;have e:(~~~(BitVec.ofInt 64 9223372036854775808)).toNat=2^63-1:=by decide
 rw[Zqk,BitVec.toNat_and,ofU (by omega),e,Nat.and_two_pow_sub_one_eq_mod];omega
theorem ZlY {p:Int}(hp:U p):Zig p 4503599627370495=p % 4503599627370496:=by
 rw[Zb2 0 52 hp (by rfl) (by decide)];simp
theorem ZlZ {p:Int}(hp:U p):Zig p 9223372036854775808=9223372036854775808*(p/9223372036854775808 % 2):=Zb2 63 1 hp (by rfl) (by decide)
theorem Zj1 {p:Int}(hp:U p):Zig p 2251799813685248=2251799813685248*(p/2251799813685248 % 2):=Zb2 51 1 hp (by rfl) (by decide)
theorem Zqm {p:Int}(hp:U p):Zig p 15=p % 16:=by
 rw[Zb2 0 4 hp (by rfl) (by decide)];simp
def sgn (p:Int):Bool:=decide (9223372036854775808≤p)
def mag (p:Int):Int:=p % 9223372036854775808
def ex (p:Int):Int:=p/4503599627370496 % 2048
def fr (p:Int):Int:=p % 4503599627370496
def cl (p:Int):Int:=if ex p=0 then (if fr p=0 then 0 else 1) else if ex p=2047 then (if fr p=0 then 3 else if 2251799813685248≤fr p then 4 else 5) else 2
def xp (p:Int):Int:=if ex p=0 then -1074 else if ex p=2047 then 0 else ex p-1075
def sg (p:Int):Int:=if ex p=0 then fr p else if ex p=2047 then fr p else fr p+4503599627370496
theorem Zzd (p:Int):mag p/4503599627370496=ex p:=by unfold mag ex;omega
theorem Zhc (p:Int):0≤ex p∧ex p<2048:=by unfold ex;omega
theorem ZdY (p:Int):0≤fr p∧fr p<4503599627370496:=by unfold fr;omega
theorem Zqn {p:Int}(hp:U p):p=(if sgn p=true then 9223372036854775808 else 0)+4503599627370496*ex p+fr p:=by
 unfold sgn ex fr U at*;split<;>rename_i h<;>simp only[Xi] at h<;>omega
end Go.Pt
namespace Go.Proofs.YtgefjidphfdhdaaGreatDoor.Na
open Go.Proofs.Tryz
open Go.IntKind
open Go.KRun Go.Nt
set_option maxRecDepth 100000
set_option linter.unusedVariables false
def gsV (h l b:Int):Int:=if b≤h then 4294967295 else (h*4294967296+l)/b
def Z2p (h l b:Int):Bool:=decide ((0≤h∧h<4294967296)∧(0≤l∧l<4294967296)∧0<b∧b<4294967296)
theorem Z3L (h l b:Int):ZH (Zr (Zo prog Zg Zn true) 100 207 [uu h,uu l,uu b] [cmp true]) (uu 4294967295) [(decide (h≥b),true)]:=by and_intros<;>kernel_rfl
theorem Z3M (h l b q:Int):ZH (Zr (Zo prog Zg Zn true) 100 207 [uu h,uu l,uu b] [cmp false,num q]) (uu (u32.wrap q)) [(decide (u64.wrap b=0),false),(decide (u64.wrap ((Go.Pt.bOr (u64.wrap (u64.wrap h*2^min (Int.toNat 32) 64)) (u64.wrap l)).tdiv (u64.wrap b))=q),true),(decide ((32:Int)<0),false),(decide (h≥b),false)]:=by and_intros<;>kernel_rfl
theorem Zu1 (p q:Int):Go.Pt.bOr p q=Go.Pt.bOr q p:=by unfold Go.Pt.bOr;rw[BitVec.or_comm]
def gGs:Ans:=fun vals s=>
 match vals with
 | [.int .u32 h,.int .u32 l,.int .u32 b]=>some (uu (gsV h l b),s,[(Z2p h l b,true)])
 | _=>none
theorem Zze:z8 207 gGs:=by
 intro vals s v s' lg h hl w;unfold gGs at h;split at h
 ·rename_i x y z;cases h;have hr:=hl _ Xf;simp only[Z2p,Xi] at hr;obtain⟨hx,hy,hz⟩:=hr;unfold gsV;by_cases hc:z≤x
  ·rw[if_pos hc];exact Zf (Zl Ze) (Z3L x y z) (Zv (Xa hc)) (by rfl) (by rfl) w
  ·rw[if_neg hc];have hb:=Zie hx.1 hy (show x<z by omega);have e1:Go.Pt.bOr (u64.wrap (u64.wrap x*2^min (Int.toNat 32) 64)) (u64.wrap y)=x*4294967296+y:=by
    simp only[ZcT];rw[Int.emod_eq_of_lt hx.1 (by omega),Int.emod_eq_of_lt hy.1 (by omega),show ((2:Int)^min (Int.toNat 32) 64)=4294967296 from by decide,Int.emod_eq_of_lt (by omega) (by omega),Zu1];exact Go.Pt.or_low 32 (z:=x) hx.1 (by omega) hy.1 (by omega) (by omega)
   have e2:u64.wrap z=z:=by rw[ZcT,Int.emod_eq_of_lt (by omega) (by omega)]
   have e3:u32.wrap ((x*4294967296+y)/z)=(x*4294967296+y)/z:=by rw[Zg7,Int.emod_eq_of_lt hb.1 hb.2]
   have:=Zf (Zl Ze) (Z3M x y z ((x*4294967296+y)/z)) (Zi (by rw[e2];exact Xb (by omega)) (Zi (by rw[e1,e2,Int.tdiv_eq_ediv_of_nonneg (by omega),ZcT,Int.emod_eq_of_lt hb.1 (by omega)];exact Xa rfl) (Zi (by decide) (Zv (Xb (by omega)))))) (by rfl) (by rfl) w;rw[e3] at this;exact this
 ·cases h
def Zst:Con:=alt 207 gGs Zn
theorem Zu2:ConOk Zst:=ZF func207 rfl Zze Ze
def hcG:Hc:=zx 208 Z3G (zx 209 Z3I hcN)
theorem Zzf:HcOk hcG:=Zt func208 rfl Zuw (Zt func209 rfl Zuz zw)
def tdP (F:Func):List Code:=[Z1 (sn 0 F),Z1 (sn 1 F),Z1 (sn 2 F)]
def tdB (F:Func):Code:=Z1 (sn 3 F)
def tdL (F:Func):Code:=cIn (cIn (Zz (tdB F)))
def tdF (o m c n k:Nat) (d:Int):List Value:=[sl 2 o m c,sl 3 0 n k,undef,undef,uu 0,i6' n,uu d]
def tdG (o m c n k:Nat) (d:Int) (b:Bool):List Value:=[sl 2 o m c,sl 3 0 n k,undef,undef,uu 0,i6' n,uu d,.bool b]
theorem Zu3:f189.body=some (zo (tdP f189) (.seq (.seq (Z1 (tdB f189)) (.block 0 (.loop (tdL f189)))) (sn 4 f189))):=by kernel_rfl
theorem Zzg (o m c n k:Nat) (x y z:Int) (la lb R Y Q:List Value):Zh (evL (Zm prog Zg Zst hcG) 100 (tdP f189) ([sl 2 o m c,sl 3 0 n k]++List.replicate 35 undef,h5 la lb R Y Q,[at_,val (uu x),at_,val (uu y),at_,val (uu z)]) ⟨[],[],[]⟩) 7 30 none (tdF o m c n k (gsV x y z)) (h5 la lb R Y Q) [(Z2p x y z,true),ZbG Y 0 (n1 n) z,inR (n1 n) n,ZbG R o (n1 n) y,inR (n1 n) m,ZbG R o n x,inR n m]:=by and_intros<;>kernel_rfl
theorem Z60 (e:Bool) (o m c n k:Nat) (d:Int) (la lb R Y Q:List Value) (g:Nat→Value):Zh (evC (Zm prog Zg Zst hcG) 100 false (Z1 (tdB f189)) (tdF o m c n k d++tl 30 g,h5 la lb R Y Q,[cmp e]) ⟨[],[],[]⟩) 8 29 none (tdG o m c n k d e) (h5 la lb (tmS R o m (dg m (vN (Zx R o m)-d*vN (Zx Y 0 n)))) Y Q) [(Zj0 la lb R Y Q tR tR tU tU tU o m c n k && decide (0≤d∧d<4294967296),true),(decide (vN (Zx R o m)-d*vN (Zx Y 0 n)<0),e)]:=by and_intros<;>kernel_rfl
theorem Z3N (e:Bool) (o m c n k:Nat) (d:Int) (la lb R Y Q:List Value) (g:Nat→Value):Zh (evC (Zm prog Zg Zst hcG) 100 false (tdL f189) (tdG o m c n k d true++tl 29 g,h5 la lb R Y Q,[cmp e]) ⟨[],[],[]⟩) 8 29 none (tdG o m c n k (u32.wrap (d-1)) (!e)) (h5 la lb (tmS R o m (dg m (vN (Zx R o m)+vN (Zx Y 0 n)))) Y Q) [(Zj0 la lb R Y Q tR tR tU tU tU o m c n k,true),(decide (4294967296^m≤vN (Zx R o m)+vN (Zx Y 0 n)),e)]:=by and_intros<;>kernel_rfl
theorem Zzh (o m c n k:Nat) (d:Int) (h:Hp) (g:Nat→Value):Zh (evC (Zm prog Zg Zst hcG) 100 false (tdL f189) (tdG o m c n k d false++tl 29 g,h,[]) ⟨[],[],[]⟩) 8 29 (some (some 0)) (tdG o m c n k d false) h []:=by and_intros<;>kernel_rfl
theorem Zzi (o m c n k:Nat) (d:Int) (b:Bool) (h:Hp) (g:Nat→Value):Zh (evC (Zm prog Zg Zst hcG) 100 false (sn 4 f189) (tdG o m c n k d b++tl 29 g,h,[]) ⟨[],[],[]⟩) 5 32 (some none) [sl 2 o m c,sl 3 0 n k,undef,undef,uu d] h []:=by and_intros<;>kernel_rfl
theorem Zu4 {R:List Value}{o m c:Nat}{L:List Int}(ra:Z0 tU R o m c=true) (hl:L.length=m):Zx (tmS R o m L) o m=L:=by
 obtain⟨_,hF⟩:=Za5 ra;unfold tmS Zx Zbp;rw[List.drop_left' hF,List.take_left' (by rw[zZ,hl])];unfold wU;rw[List.map_map];exact (List.map_congr_left fun x _=>rfl).trans (List.map_id' _)
theorem Zu5 {R:List Value}{o m c:Nat}{L L':List Int}(ra:Z0 tU R o m c=true) (hl:L.length=m):tmS (tmS R o m L) o m L'=tmS R o m L':=by
 obtain⟨_,hF⟩:=Za5 ra;have e1:(tmS R o m L).take o=R.take o:=by unfold tmS;exact List.take_left' hF
 have e2:(tmS R o m L).drop (o+m)=R.drop (o+m):=by
  unfold tmS;rw[← List.append_assoc];exact List.drop_left' (by rw[List.length_append,hF,zZ,hl])
 show (tmS R o m L).take o++(wU L'++(tmS R o m L).drop (o+m))=_;rw[e1,e2];rfl
theorem Zu6 {R:List Value}{o m c:Nat}{L:List Int}(ra:Z0 tU R o m c=true) (hl:L.length=m) (hw:wds L):Z0 tU (tmS R o m L) o m c=true:=by
 obtain⟨a1,a2,a3,a4,a5,a6,a7⟩:=ZC ra;obtain⟨_,hF⟩:=Za5 ra;have hr:=a1.len;rw[a2] at hr;unfold Z0;have ec:Zbp (tmS R o m L) o m=wU L:=by
  unfold tmS Zbp;rw[List.drop_left' hF,List.take_left' (by rw[zZ,hl])]
 have h3:((Zbp (tmS R o m L) o m).all isU)=true:=by
  rw[ec,List.all_eq_true];intro v hv;unfold wU at hv;obtain⟨x,hx,rfl⟩:=List.mem_map.1 hv;exact Xa (hw x hx)
 have h4:(tmS R o m L).all still=true:=by
  unfold tmS;simp only[List.all_append,Xh];exact⟨List.all_eq_true.2 fun v hv=>a7 v (List.mem_of_mem_take hv),Za4 _,List.all_eq_true.2 fun v hv=>a7 v (List.mem_of_mem_drop hv)⟩
 have h5:o+m≤(tmS R o m L).length:=by
  unfold tmS;rw[List.length_append,List.length_append,hF,zZ,hl];omega
 rw[show zE tU=false from by kernel_rfl,show Nat.beq (rt tU) tU=true from by kernel_rfl,Nat.ble_eq_true_of_le h5,Nat.ble_eq_true_of_le a3,a4,h3,h4];rfl
theorem Zu7 {la lb R Y Q:List Value}{o m c n k:Nat}{M LB:List Int}(hM:Zx R o m=M) (hB:Zx Y 0 n=LB) (hok:Zj0 la lb R Y Q tR tR tU tU tU o m c n k=true) (hn:0<n) (htop:0<LB.getD (n-1) 0) (hlt:vN M<4294967296*vN LB):
  Runs (Zm prog Zg Zst hcG) (zo (tdP f189) (.seq (.seq (Z1 (tdB f189)) (.block 0 (.loop (tdL f189)))) (sn 4 f189))) ([sl 2 o m c,sl 3 0 n k]++List.replicate 35 undef,h5 la lb R Y Q,[]) fun e' y=>(e'=none∨e'=some none)∧zd prog f189 y.1 y.2.1=some (uu (vN M/vN LB))∧y.2.1.cut 5=h5 la lb (tmS R o m (dg m (vN M % vN LB))) Y Q:=by
 have hT:=Zp Zu2 Zzf;obtain⟨_,_,_,_,_,ra,rb,qn,qN,st0,st1,st2⟩:=ZeT hok;obtain⟨a1,a2,a3,a4,a5,a6,a7⟩:=ZC ra;obtain⟨b1,b2,b3,b4,b5,b6,b7⟩:=ZC rb;rw[hM] at a1 a2;rw[hB] at b1 b2;have w1:=a1.rng;have w2:=b1.rng;have bM:=ZaM M w1;have bB:=ZaM LB w2;rw[a2] at bM;rw[b2] at bB;have hpos:0<vN LB:=by
  have:=ZfL (L:=LB) w2 (by omega) (by rw[b2];omega);have h2:=Za0 (LB.length-1);omega
 have hge:=Zqj w1 w2 (n:=n) (by omega) b2 hn htop;have en:n1 n=((n-1:Nat):Int):=by unfold n1;rw[Zw (by omega) (by omega)];omega
 have rng:∀ i,i<M.length→0≤M.getD i 0∧M.getD i 0<4294967296:=fun i hi=>w1 _ (by simp [List.getD,List.getElem?_eq_getElem hi]);have rngB:∀ i,i<LB.length→0≤LB.getD i 0∧LB.getD i 0<4294967296:=fun i hi=>w2 _ (by simp [List.getD,List.getElem?_eq_getElem hi]);have r1:=rng n (by omega);have r2:=rng (n-1) (by omega);have r3:=rngB (n-1) (by omega);have c1:=a1.cell (k:=n) (by omega);have c2:=a1.cell (k:=n-1) (by omega);have c3:=b1.cell (k:=n-1) (by omega);have hq:=Zif hpos bM.1 hlt;have hG:vN M/vN LB≤gsV (M.getD n 0) (M.getD (n-1) 0) (LB.getD (n-1) 0)∧0≤gsV (M.getD n 0) (M.getD (n-1) 0) (LB.getD (n-1) 0)∧gsV (M.getD n 0) (M.getD (n-1) 0) (LB.getD (n-1) 0)<4294967296:=by
  unfold gsV;split
  ·omega
  ·have:=Zie r1.1 r2 (b:=LB.getD (n-1) 0) (by omega);omega
 have g0:=Zzg o m c n k (M.getD n 0) (M.getD (n-1) 0) (LB.getD (n-1) 0) la lb R Y Q;rw[en] at g0;refine Z4 hT g0 (Zi (by unfold Z2p;exact Xa ⟨r1,r2,htop,r3.2⟩) (Zi (Zae c3) (Zi (Xa (by omega)) (Zi (Zae c2) (Zi (Xa (by omega)) (Zi (Zae c1) (Zv (Xa (by omega))))))))) fun g=> ?_;generalize gsV (M.getD n 0) (M.getD (n-1) 0) (LB.getD (n-1) 0)=d at*;refine Runs.seq (P1:=fun e' y=>e'=none∧∃ g,y.1=tdG o m c n k (vN M/vN LB) false++tl 29 g∧y.2.1=h5 la lb (tmS R o m (dg m (vN M % vN LB))) Y Q) ?_ ?_ (fun e y he=>by cases he.1)
 ·have g1:=Z60 (decide (vN M-d*vN LB<0)) o m c n k d la lb R Y Q g;rw[hM,hB] at g1;refine Runs.seq (P1:=fun e' y=>e'=none∧(∃ g,y.1=tdG o m c n k d (decide (vN M-d*vN LB<0))++tl 29 g)∧y.2.1=h5 la lb (tmS R o m (dg m (vN M-d*vN LB))) Y Q) (Zb hT g1 (Zi (by rw[hok,Xa hG.2];rfl) (Zv rfl))) ?_ (fun e y he=>by cases he.1);rintro⟨t,h',s'⟩ ⟨_,⟨g1,ht⟩,hh⟩;simp only at ht hh;subst ht hh;refine (Runs.forLoop (R:=fun _=>False) (P:=fun y=>∃ g,y.1=tdG o m c n k (vN M/vN LB) false++tl 29 g∧y.2.1=h5 la lb (tmS R o m (dg m (vN M % vN LB))) Y Q)
   (fun r y=>∃ (d:Int) (g:Nat→Value),d=vN M/vN LB+r∧d<4294967296∧y.1=tdG o m c n k d (decide (vN M-d*vN LB<0))++tl 29 g∧y.2.1=h5 la lb (tmS R o m (dg m (vN M-d*vN LB))) Y Q)
   ?_ (n:=(d-vN M/vN LB).toNat) ⟨d,g1,by omega,hG.2.2,rfl,rfl⟩).mono fun e' y he=> ?_
  ·rintro r ⟨t,h',s'⟩ ⟨d,g,hd,hdl,ht,hh⟩;simp only at ht hh;subst ht hh;by_cases hneg:vN M-d*vN LB<0
   ·rw[Xa hneg];have hmore:=ZlV hpos hneg;have hlo: -(4294967296^m)≤vN M-d*vN LB:=by
     have h1:d*vN LB≤4294967296*vN LB:=Int.mul_le_mul_of_nonneg_right (by omega) (by omega);rw[qn,pw];omega
    have hvd:=Zzc hneg hlo;have hwd:=ZaA m (vN M-d*vN LB);have hld:=ZP m (vN M-d*vN LB);have ra':=Zu6 ra hld hwd;have ec:=Zu4 ra hld;have eV:vN M-d*vN LB+4294967296^m+vN LB=(vN M-(d-1)*vN LB)+4294967296^m*1:=by
     rw[Int.sub_mul,Int.one_mul,Int.mul_one];omega
    have g2:=Z3N (decide (4294967296^m≤vN M-d*vN LB+4294967296^m+vN LB)) o m c n k d la lb (tmS R o m (dg m (vN M-d*vN LB))) Y Q g;rw[ec,hB,hvd,eV,ZcP,Zu5 ra hld,Zg7,Int.emod_eq_of_lt (by omega) (by omega)] at g2;have hok':Zj0 la lb (tmS R o m (dg m (vN M-d*vN LB))) Y Q tR tR tU tU tU o m c n k=true:=by
     unfold Zj0 at hok ⊢;rw[ra'];rw[ra] at hok;exact hok
    refine (Zb hT g2 (Zi hok' (Zv rfl))).mono fun e' y he=> ?_;obtain⟨rfl,⟨g3,e2⟩,e3⟩:=he;refine⟨r-1,by omega,d-1,g3,by omega,by omega,?_,e3⟩;rw[e2];congr 2;by_cases h0:vN M-(d-1)*vN LB<0
    ·rw[Xa h0,Xb (by omega)];rfl
    ·rw[Xb h0,Xa (by omega)];rfl
   ·rw[Xb hneg];obtain⟨f1,f2⟩:=Zu0 hpos (show 0≤vN M-d*vN LB by omega) (show vN M/vN LB≤d by omega);refine (Zb hT (Zzh o m c n k d _ g) (fun x hx=>by cases hx)).mono fun e' y he=> ?_;obtain⟨rfl,⟨g3,e2⟩,e3⟩:=he;rw[f2] at e3;rw[f1] at e2;exact⟨rfl,g3,e2,e3⟩
  ·match e',he with
   | none,he=>exact⟨rfl,he⟩
   | some none,he=>exact he.elim
   | some (some _),he=>exact he.elim
 ·rintro⟨t,h',s'⟩ ⟨_,g,ht,hh⟩;simp only at ht hh;subst ht hh;refine (Zb hT (Zzi o m c n k (vN M/vN LB) false _ g) (fun x hx=>by cases hx)).mono fun e' y he=> ?_;obtain⟨rfl,⟨g1,e2⟩,e3⟩:=he;refine⟨.inr rfl,?_,?_⟩
  ·rw[e2,e3];rfl
  ·rw[e3];rfl
def Z3O:Zag:=fun vals h s=>
 match vals,h with
 | [.slice (some ⟨2,o,none⟩) m c,.slice (some ⟨3,0,none⟩) n k],⟨5,[(Q,t4),(Y,t3),(R,t2),(lb,t1),(la,t0)]⟩=>some (uu (vN (Zx R o m)/vN (Zx Y 0 n)),h5 la lb (tmS R o m (dg m (vN (Zx R o m) % vN (Zx Y 0 n)))) Y Q,s,[(Zj0 la lb R Y Q t0 t1 t2 t3 t4 o m c n k && decide (0<n∧0<(Zx Y 0 n).getD (n-1) 0∧vN (Zx R o m)<4294967296*vN (Zx Y 0 n)),true)])
 | _,_=>none
theorem Zu8:Z8 189 Z3O:=by
 intro vals h s v h' s' lg hg hl m B w E hv;unfold Z3O at hg;split at hg
 ·rename_i o mm c n k Q t4 Y t3 R t2 lb t1 la t0;cases hg;have l1:=hl _ Xf;simp only[Xh,Xi] at l1;obtain⟨l1,h0,h1,h2⟩:=l1;obtain⟨q0,q1,q2,q3,q4,ra,rb,qn,qN,st0,st1,st2⟩:=ZeT l1;subst q0 q1 q2 q3 q4;have r:=Zu7 rfl rfl l1 h0 h1 h2;exact ZM (T:=Zm prog Zg Zst hcG) func189 Zu3 (vals:=[sl 2 o mm c,sl 3 0 n k]) (v:=uu (vN (Zx R o mm)/vN (Zx Y 0 n))) (h:=h5 la lb R Y Q) (by rfl) (ZlU ra rb st0 st1 st2) r m B w E hv
 ·cases hg
def mB (q:Bool):Nat:=match q with | true=>3 | false=>2
def h4q (q:Bool) (S X la lb:List Value):Hp:=match q with | true=>⟨4,[(S,tU),(X,tU),(lb,tR),(la,tR)]⟩ | false=>⟨4,[(X,tU),(S,tU),(lb,tR),(la,tR)]⟩
theorem Zu9 (q:Bool) (S X la lb:List Value):(h4q q S X la lb).cut 4=h4q q S X la lb:=by cases q<;>rfl
theorem ZuA (q:Bool) (o n c:Nat) (k l j x:Int) (i0 x0:Value) (X la lb S:List Value) (g:Nat→Value):Zh (evC (Zo prog Zg Zn true) 100 false (mL f130) (mF (sl (mB q) o n c) (i6' k) (uu l) i0 x0 (sl (mB q) o n c) (i6' n) (i6' j)++tl 17 g,h4q q S X la lb,[cmp true,at_,val (uu x),at_,at_]) ⟨[],[],[]⟩) 10 17 none
  (mF (sl (mB q) o n c) (i6' k) (uu (ZpV x k)) (i6' j) (uu x) (sl (mB q) o n c) (i6' n) (i6' (i64.wrap (j+1)))) (h4q q (S.set (o+j.toNat*1) (uu (ZpU x k l))) X la lb) [(decide (i64.wrap (32-k)<0),false),(decide (o+j.toNat*1<S.length),true),inR j n,(decide (k<0),false),ZbG S o j x,inR j n,(decide (j<n),true)]:=by
 cases q<;>exact by and_intros<;>kernel_rfl
theorem Zma (q:Bool) {F X la lb G:List Value}{o c k:Nat}{L:List Int}(hF:F.length=o) (hL:wds L) (hk:k<32) (hN:L.length<4611686018427387904):
  Runs (Zo prog Zg Zn true) (zo (mR0 f130) (.block 0 (.loop (mL f130)))) ([sl (mB q) o L.length c,i6' k]++List.replicate 25 undef,h4q q (F++(wU L++G)) X la lb,[]) fun e y=>(e=none∨e=some none)∧zd prog f130 y.1 y.2.1=some (.tuple #[])∧y.2.1.cut 4=h4q q (F++(wU (dg L.length (vN L*2^k))++G)) X la lb:=by
 refine Z4 (Zl Ze) (Zl2 (mB q) o L.length c (i6' k) _) (fun x hx=>by cases hx) fun g=> ?_;refine (Runs.forLoop (R:=fun _=>False) (P:=fun y=>∃ (l i x j:Value) (g:Nat→Value),y.1=mF (sl (mB q) o L.length c) (i6' k) l i x (sl (mB q) o L.length c) (i6' L.length) j++tl 17 g∧y.2.1=h4q q (F++(wU (dg L.length (vN L*2^k))++G)) X la lb)
  (fun r y=>∃ (dx px:List Int) (l:Int) (i0 x0:Value) (g:Nat→Value),px.length=r∧dx.length+px.length=L.length∧wds dx∧wds px∧(0≤l∧l<2^k)∧y.1=mF (sl (mB q) o L.length c) (i6' k) (uu l) i0 x0 (sl (mB q) o L.length c) (i6' L.length) (i6' dx.length)++tl 17 g∧y.2.1=h4q q (F++(wU (dx++px)++G)) X la lb∧vN dx+4294967296^dx.length*(vN px*2^k+l)=vN L*2^k)
  ?_ (n:=L.length) ⟨[],L,0,undef,undef,g,rfl,by simp,(fun x hx=>by cases hx),hL,⟨by omega,Int.pow_pos (by omega)⟩,rfl,rfl,by simp [vN]⟩).mono fun e' y he=> ?_
 ·rintro r ⟨t,h',s'⟩ ⟨dx,px,l,i0,x0,g,hr,hl,wd1,wd2,hlo,ht,hh,hv⟩;simp only at ht hh;subst ht hh
  match px,hr,hl,wd2,hv with
  | [],hr,hl,wd2,hv=>
   have hl':dx.length=L.length:=by simpa using hl
   refine (Zb (Zl Ze) (Zl3 _ _ _ _ _ _ L.length dx.length _ g) (Zv (Xb (by omega)))).mono fun e' y he=> ?_;obtain⟨rfl,⟨g1,e2⟩,e3⟩:=he;refine⟨rfl,_,_,_,_,g1,e2,?_⟩;simp only[vN] at hv;rw[Int.zero_mul,Int.zero_add] at hv;have e5:=ZcP dx.length (vN dx) l;rw[hv,ZfI dx wd1,hl'] at e5;rw[e3,e5,List.append_nil]
  | x::px,hr,hl,wd2,hv=>
   obtain⟨wx,wd2⟩:=Zal wd2;obtain⟨k1,k2,k3⟩:=Z6a wx hlo hk;have cS:=ZdG hF dx x px G;have lS:o+dx.length<(F++(wU (dx++x::px)++G)).length:=(List.getElem?_eq_some_iff.1 cS).1;have hl':dx.length<L.length:=by simp at hl;omega
   have l1:decide (o+((dx.length:Int)).toNat*1<(F++(wU (dx++x::px)++G)).length)=true:=by
    rw[Xg,Nat.mul_one];exact Xa lS
   have l2:(inR dx.length L.length).1=(inR dx.length L.length).2:=Xa (by omega);have l4:(ZbG (F++(wU (dx++x::px)++G)) o dx.length x).1=(ZbG (F++(wU (dx++x::px)++G)) o dx.length x).2:=Zae cS;have e32:i64.wrap (32-(k:Int))=32-(k:Int):=Zw (by omega) (by omega);have l5:decide (i64.wrap (32-(k:Int))<0)=false:=by
    rw[e32];exact Xb (by omega)
   have l6:decide ((k:Int)<0)=false:=Xb (by omega);have l7:decide ((dx.length:Int)<(L.length:Nat))=true:=Xa (by omega);refine (Zb (Zl Ze) (ZuA q o L.length c k l dx.length x i0 x0 X la lb (F++(wU (dx++x::px)++G)) g) (Zi l5 (Zi l1 (Zi l2 (Zi l6 (Zi l4 (Zi l2 (Zv l7)))))))).mono fun e' y he=> ?_;obtain⟨rfl,⟨g1,e2⟩,e3⟩:=he;refine⟨px.length,by simp at hr;omega,dx++[ZpU x k l],px,ZpV x k,i6' dx.length,uu x,g1,rfl,by simp at hl ⊢;omega,zY wd1 (fun z hz=>by rw[List.mem_singleton.1 hz];exact k1),wd2,k2,?_,?_,?_⟩
   ·rw[e2,Zw (by omega) (by omega)];simp
   ·rw[e3,Xg,Nat.mul_one,ZdH hF]
   ·simp only[vN] at hv;rw[zp,List.length_append,List.length_singleton,pw];exact Zl1 k3 hv
 ·match e',he with
  | none,he=>
   obtain⟨l,i,x,j,g,e1,e2⟩:=he;refine⟨.inl rfl,?_,?_⟩
   ·rw[e1];exact Zl4 _ _ _ _ _ _ _ _ _ _
   ·rw[e2];exact Zu9 _ _ _ _ _
  | some none,he=>exact he.elim
  | some (some _),he=>exact he.elim
def Zou (X la lb S:List Value) (t0 t1 t2 t3:TypeId) (o n c:Nat) (k:Int):Bool:=Nat.beq t0 tR && Nat.beq t1 tR && Nat.beq t2 tU && Nat.beq t3 tU && Z0 tU S o n c && X.all still && la.all still && lb.all still && decide (0≤k∧k<32)
theorem Zmb {X la lb S:List Value}{t0 t1 t2 t3:TypeId}{o n c:Nat}{k:Int}(q:Zou X la lb S t0 t1 t2 t3 o n c k=true):t0=tR∧t1=tR∧t2=tU∧t3=tU∧Z0 tU S o n c=true∧X.all still=true∧la.all still=true∧lb.all still=true∧0≤k∧k<32:=by
 unfold Zou at q;simp only[Xh,Xi] at q;obtain⟨⟨⟨⟨⟨⟨⟨⟨q0,q1⟩,q2⟩,q3⟩,ra⟩,s0⟩,s1⟩,s2⟩,h⟩:=q;exact⟨Xj q0,Xj q1,Xj q2,Xj q3,ra,s0,s1,s2,h.1,h.2⟩
def upT (S:List Value) (o n:Nat) (k:Int):List Value:=tmS S o n (dg n (vN (Zx S o n)*2^k.toNat))
def ZuB:Zag:=fun vals h s=>
 match vals,h with
 | [.slice (some ⟨3,o,none⟩) n c,.int .i64 k],⟨4,[(S,t3),(X,t2),(lb,t1),(la,t0)]⟩=>some (.tuple #[],⟨4,[(upT S o n k,tU),(X,tU),(lb,tR),(la,tR)]⟩,s,[(Zou X la lb S t0 t1 t2 t3 o n c k,true)])
 | [.slice (some ⟨2,o,none⟩) n c,.int .i64 k],⟨4,[(X,t3),(S,t2),(lb,t1),(la,t0)]⟩=>some (.tuple #[],⟨4,[(X,tU),(upT S o n k,tU),(lb,tR),(la,tR)]⟩,s,[(Zou X la lb S t0 t1 t2 t3 o n c k,true)])
 | _,_=>none
theorem Zzj (q:Bool) {X la lb S:List Value}{o n c:Nat}{L:List Int}(ra:Z0 tU S o n c=true) (s0:X.all still=true) (s1:la.all still=true) (s2:lb.all still=true):(h4q q (tmS S o n L) X la lb).tight=true:=by
 obtain⟨a1,a2,a3,a4,a5,a6,a7⟩:=ZC ra;have hS:(tmS S o n L).all (lt1 4)=true:=by
  unfold tmS;simp only[List.all_append,Xh];refine⟨?_,ZbB _ _,?_⟩
  ·rw[List.all_eq_true];exact fun v hv=>zv (by omega) (a7 v (List.mem_of_mem_take hv))
  ·rw[List.all_eq_true];exact fun v hv=>zv (by omega) (a7 v (List.mem_of_mem_drop hv))
 have h1:=ZU (n:=4) (by omega) s0;have h2:=ZU (n:=4) (by omega) s1;have h3:=ZU (n:=4) (by omega) s2;cases q<;>simp [Hp.tight,h4q,hS,h1,h2,h3]
theorem Zgb (q:Bool) {X la lb S:List Value}{o n c:Nat}{k:Int}(ra:Z0 tU S o n c=true) (s0:X.all still=true) (s1:la.all still=true) (s2:lb.all still=true) (k0:0≤k) (k1:k<32) (m:Mp) (B:Nat) (w:World) (E:Emb m B (h4q q S X la lb) w) (hv:∀ v∈[sl (mB q) o n c,i6' k],KRun.lt (h4q q S X la lb).n v=true):
  Calls prog 130 (([sl (mB q) o n c,i6' k]:List Value).map (mv m)).toArray w fun e w'=>∃ m',e= .returned (mv m' (.tuple #[]))∧Came m B (h4q q S X la lb) w (.tuple #[]) (h4q q (upT S o n k) X la lb) m' w':=by
 obtain⟨a1,a2,a3,a4,a5,a6,a7⟩:=ZC ra;obtain⟨K,rfl⟩:=Int.eq_ofNat_of_zero_le k0;have hc:c<4611686018427387904:=Zk.1 a4;obtain⟨eS,hF⟩:=Za5 ra;have r:=Zma q (X:=X) (la:=la) (lb:=lb) (G:=S.drop (o+n)) (c:=c) (k:=K) hF a1.rng (by omega) (by omega);rw[a2,← eS] at r;have hn:(h4q q S X la lb).n=4:=by cases q<;>rfl
 exact ZM (T:=Zo prog Zg Zn true) func130 ZhX (vals:=[sl (mB q) o n c,i6' K]) (v:= .tuple #[]) (h:=h4q q S X la lb) (by rfl) (Zzj q ra s0 s1 s2) (by rw[hn];exact r) m B w E hv
theorem Zqo:Z8 130 ZuB:=by
 intro vals h s v h' s' lg hg hl m B w E hv;unfold ZuB at hg;split at hg
 ·rename_i o n c k S t3 X t2 lb t1 la t0;cases hg;obtain⟨q0,q1,q2,q3,ra,s0,s1,s2,k0,k1⟩:=Zmb (hl _ Xf);subst q0 q1 q2 q3;exact Zgb true ra s0 s1 s2 k0 k1 m B w E hv
 ·rename_i o n c k X t3 S t2 lb t1 la t0;cases hg;obtain⟨q0,q1,q2,q3,ra,s0,s1,s2,k0,k1⟩:=Zmb (hl _ Xf);subst q0 q1 q2 q3;exact Zgb false ra s0 s1 s2 k0 k1 m B w E hv
 ·cases hg
def dnX (x k:Int):Int:=x.fdiv (2^min k.toNat 32)
def dnW (x k l:Int):Int:=brr (dnX x k) l
def dnH (x k:Int):Int:=u32.wrap (x*2^min (i64.wrap (32-k)).toNat 32)
def mdP (F:Func):List Code:=[Z1 (sn 0 F),Z1 (sn 1 F)]
def mdL (F:Func):Code:=cIn (cIn (sn 2 F))
def mdF (w:Value) (k l i:Int) (x:Value):List Value:=[w,i6' k,undef,undef,uu l,i6' i,x]
theorem ZuC:f190.body=some (zo (mdP f190) (.block 0 (.loop (mdL f190)))):=by kernel_rfl
theorem Zzk (b o m c:Nat) (k:Int) (h:Hp):Zh (evL (Zo prog Zg Zn true) 100 (mdP f190) ([sl b o m c,i6' k]++List.replicate 28 undef,h,[]) ⟨[],[],[]⟩) 7 23 none (mdF (sl b o m c) k 0 (n1 m) undef) h []:=by and_intros<;>kernel_rfl
theorem Zzl (w x:Value) (k l i:Int) (h:Hp) (g:Nat→Value):Zh (evC (Zo prog Zg Zn true) 100 false (mdL f190) (mdF w k l i x++tl 23 g,h,[cmp false]) ⟨[],[],[]⟩) 7 23 (some (some 0)) (mdF w k l i x) h [(decide (i≥0),false)]:=by and_intros<;>kernel_rfl
theorem Z3P (o m c:Nat) (k l i x:Int) (x0:Value) (la lb R Y Q:List Value) (g:Nat→Value):Zh (evC (Zo prog Zg Zn true) 100 false (mdL f190) (mdF (sl 2 o m c) k l i x0++tl 23 g,h5 la lb R Y Q,[cmp true,at_,val (uu x),at_,at_]) ⟨[],[],[]⟩) 7 23 none (mdF (sl 2 o m c) k (dnH x k) (i64.wrap (i-1)) (uu x)) (h5 la lb (R.set (o+i.toNat*1) (uu (dnW x k l))) Y Q)
  [(decide (i64.wrap (32-k)<0),false),(decide (o+i.toNat*1<R.length),true),inR i m,(decide (k<0),false),ZbG R o i x,inR i m,(decide (i≥0),true)]:=by and_intros<;>kernel_rfl
theorem Zzm (w x:Value) (k l i:Int) (h:Hp) (g:Nat→Value):zd prog f190 (mdF w k l i x++tl 23 g) h=some (.tuple #[]):=by kernel_rfl
end Go.Proofs.YtgefjidphfdhdaaGreatDoor.Na
namespace Go.Nt
theorem Zmc {p q x U:Int}(hq:1≤q) (hp:1≤p) (hpq:q*p=4294967296) (hx:0≤x∧x<4294967296) (_hU:0≤U):
  (0≤x/q∧x/q<p)∧(0≤U % q∧U % q<q)∧(0≤x/q+p*(U % q)∧x/q+p*(U % q)<4294967296)∧(x+4294967296*U)/q=x/q+p*(U % q)+4294967296*(U/q)∧(x+4294967296*U) % q=x % q:=by
 have h1:0≤x/q:=Int.ediv_nonneg hx.1 (by omega);have h2:x/q<p:=Int.ediv_lt_of_lt_mul (by omega) (by rw[Int.mul_comm,hpq];exact hx.2);have h3:=Int.emod_nonneg U (show q≠0 by omega);have h4:=Int.emod_lt_of_pos U (show 0<q by omega);have h5:p*(U % q)≤p*(q-1):=Int.mul_le_mul_of_nonneg_left (by omega) (by omega);have h6:p*(q-1)=4294967296-p:=by rw[Int.mul_sub,Int.mul_one,Int.mul_comm,hpq]
 have h7:0≤p*(U % q):=Int.mul_nonneg (by omega) h3;have hU':=Int.emod_add_mul_ediv U q;have e1:x+4294967296*U=x+q*(p*U):=by rw[← Int.mul_assoc,hpq]
 have e2:p*U=p*(U % q)+4294967296*(U/q):=by
  have:p*U=p*(U % q+q*(U/q)):=by rw[hU']
  rw[this,Int.mul_add,← Int.mul_assoc,Int.mul_comm p q,hpq]
 refine⟨⟨h1,h2⟩,⟨h3,h4⟩,by omega,?_,?_⟩
 ·rw[e1,Int.add_mul_ediv_left _ _ (by omega),e2];omega
 ·rw[e1,Int.add_mul_emod_self_left]
end Go.Nt
namespace Go.Proofs.YtgefjidphfdhdaaGreatDoor.Na
open Go.Proofs.Tryz
open Go.IntKind
open Go.KRun Go.Nt
set_option maxRecDepth 100000
set_option linter.unusedVariables false
theorem Z3Q {x U:Int}{k:Nat}(hk:k<32) (hx:0≤x∧x<4294967296) (hU:0≤U):dnW x k (2^(32-k)*(U % 2^k))=x/2^k+2^(32-k)*(U % 2^k)∧dnH x k=2^(32-k)*(x % 2^k):=by
 have q1:(1:Int)≤2^k:=by have:(0:Int)<2^k:=Int.pow_pos (by omega);omega
 have p1:(1:Int)≤2^(32-k):=by have:(0:Int)<2^(32-k):=Int.pow_pos (by omega);omega
 have hpq:=ZdC (show k≤32 by omega);obtain⟨⟨h1,h2⟩,⟨h3,h4⟩,⟨h5,h6⟩,_,_⟩:=Zmc q1 p1 hpq hx hU;have eX:dnX x k=x/2^k:=by
  unfold dnX;rw[Xg,show min k 32=k from by omega,Int.fdiv_eq_ediv_of_nonneg _ (by omega)]
 constructor
 ·unfold dnW brr;rw[eX,BitVec.or_comm,Zsm h3 h1 h2 (by omega),Zg7,Int.emod_eq_of_lt (by omega) (by omega)];omega
 ·unfold dnH;rw[Zw (by omega) (by omega),show min ((32:Int)-(k:Nat)).toNat 32=32-k from by omega,Zg7,← hpq,Int.mul_comm x,Int.mul_comm (2^k)];exact Int.mul_emod_mul_of_pos _ _ (by omega)
theorem ZuD {F G la lb Y Q:List Value}{o c k:Nat}{L:List Int}(hF:F.length=o) (hL:wds L) (hk:k<32) (hN:L.length<1099511627776):
  Runs (Zo prog Zg Zn true) (zo (mdP f190) (.block 0 (.loop (mdL f190)))) ([sl 2 o L.length c,i6' k]++List.replicate 28 undef,h5 la lb (F++(wU L++G)) Y Q,[]) fun e y=>(e=none∨e=some none)∧zd prog f190 y.1 y.2.1=some (.tuple #[])∧y.2.1.cut 5=h5 la lb (F++(wU (dg L.length (vN L/2^k))++G)) Y Q:=by
 have hT:=Zl Ze;have q1:(1:Int)≤2^k:=by have:(0:Int)<2^k:=Int.pow_pos (by omega);omega
 have p1:(1:Int)≤2^(32-k):=by have:(0:Int)<2^(32-k):=Int.pow_pos (by omega);omega
 have hpq:=ZdC (show k≤32 by omega);have e0:L=L.take L.length++dg (L.length-L.length) (vN (L.drop L.length)/2^k):=by rw[List.take_length,Nat.sub_self];simp [dg]
 refine Z4 hT (Zzk 2 o L.length c k _) (fun x hx=>by cases hx) fun g=> ?_;refine (Runs.forLoop (R:=fun _=>False) (P:=fun y=>∃ (l i:Int) (x:Value) (g:Nat→Value),y.1=mdF (sl 2 o L.length c) k l i x++tl 23 g∧y.2.1=h5 la lb (F++(wU (dg L.length (vN L/2^k))++G)) Y Q)
  (fun r y=>∃ (x0:Value) (g:Nat→Value),r≤L.length∧y.1=mdF (sl 2 o L.length c) k (2^(32-k)*(vN (L.drop r) % 2^k)) ((r:Int)-1) x0++tl 23 g∧y.2.1=h5 la lb (F++(wU (L.take r++dg (L.length-r) (vN (L.drop r)/2^k))++G)) Y Q)
  ?_ (n:=L.length) ⟨undef,g,Nat.le_refl _,?_,by rw[← e0]⟩).mono fun e' y he=> ?_
 ·rintro r ⟨t,h',s'⟩ ⟨x0,g,hr,ht,hh⟩;simp only at ht hh;subst ht hh;cases r with
  | zero=>
   refine (Zb hT (Zzl _ x0 k _ _ _ g) (Zv (Xb (by omega)))).mono fun e' y he=> ?_;obtain⟨rfl,⟨g1,e2⟩,e3⟩:=he;exact⟨rfl,_,_,_,g1,e2,e3⟩
  | succ r=>
   have hlt:r<L.length:=by omega
   have hx:=hL (L.getD r 0) (by simp [List.getD,List.getElem?_eq_getElem hlt]);have et:=Zap hlt;have ed:L.drop r=L.getD r 0::L.drop (r+1):=by
    rw[List.drop_eq_getElem_cons hlt];simp [List.getD,List.getElem?_eq_getElem hlt]
   generalize L.getD r 0=x at*;have hU:=(ZaM (L.drop (r+1)) (fun z hz=>hL z (List.mem_of_mem_drop hz))).1;have hsp:L.take (r+1)++dg (L.length-(r+1)) (vN (L.drop (r+1))/2^k)=L.take r++x::dg (L.length-(r+1)) (vN (L.drop (r+1))/2^k):=by rw[et];simp
   rw[hsp];generalize hux:L.drop (r+1)=ux at*;obtain⟨w1,w2⟩:=Z3Q hk hx hU;obtain⟨_,_,⟨w3,w4⟩,w5,w6⟩:=Zmc q1 p1 hpq hx hU;have lt:(L.take r).length=r:=by rw[List.length_take];omega
   have cS:=ZdG hF (L.take r) x (dg (L.length-(r+1)) (vN ux/2^k)) G;have eS:=ZdH hF (L.take r) x (x/2^k+2^(32-k)*(vN ux % 2^k)) (dg (L.length-(r+1)) (vN ux/2^k)) G;rw[lt] at cS eS;have lS:o+r<(F++(wU (L.take r++x::dg (L.length-(r+1)) (vN ux/2^k))++G)).length:=(List.getElem?_eq_some_iff.1 cS).1;have ei:((r+1:Nat):Int)-1=(r:Int):=by omega
   have g1:=Z3P o L.length c k (2^(32-k)*(vN ux % 2^k)) r x x0 la lb (F++(wU (L.take r++x::dg (L.length-(r+1)) (vN ux/2^k))++G)) Y Q g;rw[w1,w2,Xg,Nat.mul_one,eS] at g1;rw[ei];have l2:(inR r L.length).1=(inR r L.length).2:=Xa (by omega);have d1:decide (i64.wrap (32-(k:Int))<0)=false:=by
    rw[Zw (by omega) (by omega)];exact Xb (by omega)
   have d2:decide ((k:Int)<0)=false:=Xb (by omega);have d3:decide ((r:Int)≥0)=true:=Xa (by omega);have d4:decide (o+r<(F++(wU (L.take r++x::dg (L.length-(r+1)) (vN ux/2^k))++G)).length)=true:=Xa lS;refine (Zb hT g1 (Zi d1 (Zi d4 (Zi l2 (Zi d2 (Zi (Zae cS) (Zi l2 (Zv d3)))))))).mono fun e' y he=> ?_;obtain⟨rfl,⟨g2,e2⟩,e3⟩:=he;refine⟨r,by omega,uu x,g2,by omega,?_,?_⟩
   ·rw[e2,ed];simp only[vN];rw[w6,Zw (by omega) (by omega)]
   ·rw[e3,ed];simp only[vN];rw[w5,show L.length-r=(L.length-(r+1))+1 by omega];simp only[dg];have m1:(x/2^k+2^(32-k)*(vN ux % 2^k)+4294967296*(vN ux/2^k)) % 4294967296=x/2^k+2^(32-k)*(vN ux % 2^k):=by omega
    have m2:(x/2^k+2^(32-k)*(vN ux % 2^k)+4294967296*(vN ux/2^k))/4294967296=vN ux/2^k:=by omega
    rw[m1,m2];simp
 ·show mdF _ _ _ _ _++_=_;rw[List.drop_length,show n1 L.length=((L.length:Nat):Int)-1 from by unfold n1;rw[Zw (by omega) (by omega)]];simp [vN]
 ·match e',he with
  | none,he=>
   obtain⟨l,i,x,g,e1,e2⟩:=he;refine⟨.inl rfl,?_,?_⟩
   ·rw[e1];exact Zzm _ _ _ _ _ _ _
   ·rw[e2];rfl
  | some none,he=>exact he.elim
  | some (some _),he=>exact he.elim
def Zzn (la lb R Y Q:List Value) (t0 t1 t2 t3 t4:TypeId) (o n c:Nat) (k:Int):Bool:=Nat.beq t0 tR && Nat.beq t1 tR && Nat.beq t2 tU && Nat.beq t3 tU && Nat.beq t4 tU && Z0 tU R o n c && Nat.blt n 1099511627776 && la.all still && lb.all still && Y.all still && Q.all still && decide (0≤k∧k<32)
def Z3R:Zag:=fun vals h s=>
 match vals,h with
 | [.slice (some ⟨2,o,none⟩) n c,.int .i64 k],⟨5,[(Q,t4),(Y,t3),(R,t2),(lb,t1),(la,t0)]⟩=>some (.tuple #[],h5 la lb (tmS R o n (dg n (vN (Zx R o n)/2^k.toNat))) Y Q,s,[(Zzn la lb R Y Q t0 t1 t2 t3 t4 o n c k,true)])
 | _,_=>none
theorem ZuE:Z8 190 Z3R:=by
 intro vals h s v h' s' lg hg hl m B w E hv;unfold Z3R at hg;split at hg
 ·rename_i o n c k Q t4 Y t3 R t2 lb t1 la t0;cases hg;have q:=hl _ Xf;unfold Zzn at q;simp only[Xh,Xi] at q;obtain⟨⟨⟨⟨⟨⟨⟨⟨⟨⟨⟨q0,q1⟩,q2⟩,q3⟩,q4⟩,ra⟩,qN⟩,s0⟩,s1⟩,s2⟩,s3⟩,k0,k1⟩:=q;have q0:=Xj q0;have q1:=Xj q1;have q2:=Xj q2;have q3:=Xj q3;have q4:=Xj q4;subst q0 q1 q2 q3 q4;obtain⟨a1,a2,a3,a4,a5,a6,a7⟩:=ZC ra;obtain⟨K,rfl⟩:=Int.eq_ofNat_of_zero_le k0;obtain⟨eS,hF⟩:=Za5 ra;have r:=ZuD (G:=R.drop (o+n)) (la:=la) (lb:=lb) (Y:=Y) (Q:=Q) (c:=c) (k:=K) hF a1.rng (by omega) (by rw[a2];exact Zk.1 qN);rw[a2,← eS] at r;have ht:(h5 la lb (tmS R o n (dg n (vN (Zx R o n)/2^K))) Y Q).tight=true:=by
   unfold Hp.tight tmS h5;simp only[List.all_cons,List.all_nil,List.all_append,Bool.and_true,Xh];refine⟨ZU (by omega) s3,ZU (by omega) s2,⟨?_,ZbB _ _,?_⟩,ZU (by omega) s1,ZU (by omega) s0⟩
   ·rw[List.all_eq_true];exact fun v hv=>zv (by omega) (a7 v (List.mem_of_mem_take hv))
   ·rw[List.all_eq_true];exact fun v hv=>zv (by omega) (a7 v (List.mem_of_mem_drop hv))
  exact ZM (T:=Zo prog Zg Zn true) func190 ZuC (vals:=[sl 2 o n c,i6' K]) (v:= .tuple #[]) (h:=h5 la lb R Y Q) (by rfl) ht r m B w E hv
 ·cases hg
def hcD:Hc:=zx 189 Z3O (zx 130 ZuB (zx 190 Z3R (zx 132 ZiQ (zx 187 Z2i (zx 131 ZfE hcN)))))
theorem Zzo:HcOk hcD:=Zt func189 rfl Zu8 (Zt func130 rfl Zqo (Zt func190 rfl ZuE (Zt func132 rfl Zcg (Zt func187 rfl Zd3 (Zt func131 rfl Zb9 zw)))))
def dmP (F:Func):List Code:=[Z1 (sn 0 F),Z1 (sn 1 F),Z1 (sn 2 F),Z1 (sn 3 F),Z1 (sn 4 F),Z1 (sn 5 F),Z1 (sn 6 F),Z1 (sn 7 F),Z1 (sn 8 F),Z1 (sn 9 F),Z1 (sn 10 F),Z1 (sn 11 F)]
def dmL (F:Func):Code:=cIn (cIn (Zz (Z1 (sn 12 F))))
theorem ZuF:f152.body=some (zo (dmP f152) (.seq (.seq (Z1 (Z1 (sn 12 f152))) (.block 0 (.loop (dmL f152)))) (sn 13 f152))):=by kernel_rfl
theorem Zdg:f152.body=some (Zq f152):=by kernel_rfl
def dmU (x:Int):Int:=i64.wrap (32-((Go.bitLen x.toNat:Nat):Int))
def dmQ (n n':Nat):Int:=i64.wrap (i64.wrap ((n:Int)-(n':Int))+1)
def dmF (o n c o' n' c' zr zb zq:Nat) (u:Int):List Value:=[sl 0 o n c,sl 1 o' n' c',undef,undef,Zs,Zs,.nilIface,.nilIface,sl 2 0 zr zr,i6' u,sl 3 0 zb zb,sl 4 0 zq zq]
def dmY (lb:List Value) (o' n':Nat) (x:Int):List Value:=upT (cpS lb o' n') 0 ((n':Int)).toNat (dmU x)
def dmR (la:List Value) (o n:Nat) (x:Int):List Value:=upT (cpy la o n) 0 (nP n).toNat (dmU x)
theorem Zzp (o n c o' n' c':Nat) (x:Int) (la lb:List Value):Zh (evL (Zm prog Zg Zg8 hcD) 300 (dmP f152) ([sl 0 o n c,sl 1 o' n' c']++List.replicate 87 undef,h2 la lb,[cmp false,cmp false,at_,at_,cmp false,at_,val (uu x),at_,at_,at_]) ⟨[],[],[]⟩) 12 77 none (dmF o n c o' n' c' (nP n).toNat ((n':Int)).toNat (dmQ n n').toNat (dmU x)) (h5 la lb (dmR la o n x) (dmY lb o' n' x) (List.replicate (dmQ n n').toNat (uu 0)))
  [(ZJ 4 (dmQ n n') (dmQ n n'),true),(Zou (dmY lb o' n' x) la lb (cpy la o n) tR tR tU tU 0 (nP n).toNat (nP n).toNat (dmU x),true),(Zou (cpy la o n) la lb (cpS lb o' n') tR tR tU tU 0 ((n':Int)).toNat ((n':Int)).toNat (dmU x),true),(Z2L lb o' n',true),(ZJ 4 n' n',true),(decide (0≤x∧x<4294967296),true),ZbG lb o' (n1 n') x,inR (n1 n') n',
   (decide (ZbP (Zx la o n) (Zx lb o' n')<0),false),(Z0 tR la o n c,true),(Z0 tR lb o' n' c',true),(Z2j la o n,true),(ZJ 4 (nP n) (nP n),true),((n':Int)==0,false),(Z0 tR la o n c,true),(Z0 tR lb o' n' c',true),(ZN (Zx la o n) || ZN (Zx lb o' n'),false)]:=by and_intros<;>kernel_rfl
def dmG (o n c o' n' c' zr zb zq:Nat) (u i:Int):List Value:=[sl 0 o n c,sl 1 o' n' c',undef,undef,Zs,Zs,.nilIface,.nilIface,sl 2 0 zr zr,i6' u,sl 3 0 zb zb,sl 4 0 zq zq,i6' i]
theorem Z61 (o n c o' n' c' zr zb zq:Nat) (u:Int) (h:Hp) (g:Nat→Value):Zh (evC (Zm prog Zg Zg8 hcD) 300 false (Z1 (Z1 (sn 12 f152))) (dmF o n c o' n' c' zr zb zq u++tl 77 g,h,[]) ⟨[],[],[]⟩) 13 76 none (dmG o n c o' n' c' zr zb zq u (n1 zq)) h []:=by and_intros<;>kernel_rfl
theorem Zzq (o n c o' n' c' zr zb zq:Nat) (u i:Int) (h:Hp) (g:Nat→Value):Zh (evC (Zm prog Zg Zg8 hcD) 300 false (dmL f152) (dmG o n c o' n' c' zr zb zq u i++tl 76 g,h,[cmp false]) ⟨[],[],[]⟩) 13 76 (some (some 0)) (dmG o n c o' n' c' zr zb zq u i) h [(decide (i≥0),false)]:=by and_intros<;>kernel_rfl
def dmH (i:Int) (zb:Nat):Int:=i64.wrap (i64.wrap (i+(zb:Int))+1)
def dmN (i:Int) (zb:Nat):Nat:=(dmH i zb).toNat-i.toNat
theorem Z3S (o n c o' n' c' zr zb zq:Nat) (u i:Int) (la lb R Y Q:List Value) (g:Nat→Value):Zh (evC (Zm prog Zg Zg8 hcD) 300 false (dmL f152) (dmG o n c o' n' c' zr zb zq u i++tl 76 g,h5 la lb R Y Q,[cmp true,num 0,at_,at_]) ⟨[],[],[]⟩) 13 76 none (dmG o n c o' n' c' zr zb zq u (i64.wrap (i-1)))
  (h5 la lb (tmS R (pJ i) (dmN i zb) (dg (dmN i zb) (vN (Zx R (pJ i) (dmN i zb)) % vN (Zx Y 0 zb)))) Y (Q.set (pJ i) (uu (vN (Zx R (pJ i) (dmN i zb))/vN (Zx Y 0 zb)))))
  [(decide (pJ i<Q.length),true),inR i zq,(Zj0 la lb R Y Q tR tR tU tU tU (pJ i) (dmN i zb) (zr-i.toNat) zb zb && decide (0<zb∧0<(Zx Y 0 zb).getD (zb-1) 0∧vN (Zx R (pJ i) (dmN i zb))<4294967296*vN (Zx Y 0 zb)),true),(ZE zr,true),(ZZ i (dmH i zb) zr zr,true),(decide ((zr:Int)=i∧i≠0),false),(decide (i≥0),true)]:=by and_intros<;>kernel_rfl
def dmD (R:List Value) (zr:Nat) (u:Int):List Value:=tmS R 0 zr (dg zr (vN (Zx R 0 zr)/2^u.toNat))
theorem Zzr (o n c o' n' c' zr zb zq:Nat) (u i:Int) (la lb R Y Q:List Value) (g:Nat→Value):Zh (evC (Zm prog Zg Zg8 hcD) 300 false (sn 13 f152) (dmG o n c o' n' c' zr zb zq u i++tl 76 g,h5 la lb R Y Q,[]) ⟨[],[],[]⟩) 7 82 (some none) [sl 0 o n c,sl 1 o' n' c',undef,undef,sl 4 0 (Zc (Zx Q 0 zq)) zq,sl 2 0 (Zc (Zx (dmD R zr u) 0 zr)) zr,.nilIface] (h5 la lb (dmD R zr u) Y Q)
  [(Z0 tU (dmD R zr u) 0 zr zr,true),(Z0 tU Q 0 zq zq,true),(Zzn la lb R Y Q tR tR tU tU tU 0 zr zr u,true)]:=by and_intros<;>kernel_rfl
end Go.Proofs.YtgefjidphfdhdaaGreatDoor.Na
namespace Go.Nt
theorem Zii:∀ (a b:Nat) (V:Int),dg (a+b) V=dg a V++dg b (V/4294967296^a)
 | 0,b,V=>by simp [dg]
 | a+1,b,V=>by
  rw[show a+1+b=(a+b)+1 by omega];simp only[dg];rw[Zii a b,pw,Int.ediv_ediv_of_nonneg (show (0:Int)≤4294967296 by omega)];rfl
theorem Zij (i m j:Nat) (W:Int):dg (i+(m+j)) W=dg i W++(dg m (W/4294967296^i)++dg j (W/4294967296^i/4294967296^m)):=by
 rw[Zii,Zii]
def qtW (W X:Int) (i:Nat):Int:=W % 4294967296^i+4294967296^i*X
theorem ZuG (W X:Int) (i:Nat):qtW W X i/4294967296^i=X:=by
 have hp:=Za0 i;unfold qtW;rw[Int.add_mul_ediv_left _ _ (by omega),Int.ediv_eq_zero_of_lt (Int.emod_nonneg _ (by omega)) (Int.emod_lt_of_pos _ hp),Int.zero_add]
theorem ZuH (W X:Int) (i:Nat):dg i (qtW W X i)=dg i W:=by
 have h:=Int.emod_add_mul_ediv W (4294967296^i);have e:qtW W X i=W+4294967296^i*(X-W/4294967296^i):=by
  unfold qtW;rw[Int.mul_sub];omega
 rw[e,ZcP]
theorem Zqp {i m j:Nat}{W X:Int}(hX:0≤X∧X<4294967296^m):dg i W++(dg m X++dg j 0)=dg (i+(m+j)) (qtW W X i):=by
 rw[Zij,ZuH,ZuG,Int.ediv_eq_zero_of_lt hX.1 hX.2]
theorem Zqq {W B W0 v:Int}{i n:Nat}(hB:0<B∧B<4294967296^n) (hW:0≤W∧W<B*4294967296^(i+1)) (h:W0=W+B*(4294967296^(i+1)*v)):
  (0≤W/4294967296^i∧W/4294967296^i<4294967296*B∧W/4294967296^i<4294967296^(n+1))∧(0≤W/4294967296^i % B∧W/4294967296^i % B<4294967296^(n+1))∧(0≤qtW W (W/4294967296^i % B) i∧qtW W (W/4294967296^i % B) i<B*4294967296^i)∧W0=qtW W (W/4294967296^i % B) i+B*(4294967296^i*(W/4294967296^i/B+4294967296*v)):=by
 have hp:=Za0 i;have hn:=Za0 n;have hd:=Int.emod_add_mul_ediv W (4294967296^i);have h1:=Int.emod_nonneg W (show (4294967296:Int)^i≠0 by omega);have h2:=Int.emod_lt_of_pos W hp;have t0:0≤W/4294967296^i:=Int.ediv_nonneg hW.1 (by omega);have t1:W/4294967296^i<4294967296*B:=Int.ediv_lt_of_lt_mul hp (by
  have:=hW.2;rw[pw,← Int.mul_assoc,Int.mul_comm B 4294967296] at this;exact this)
 have t2:W/4294967296^i<4294967296^(n+1):=by rw[pw];omega
 generalize hT:W/4294967296^i=T at*;have x0:=Int.emod_nonneg T (show B≠0 by omega);have x1:=Int.emod_lt_of_pos T hB.1;have hx:=Int.emod_add_mul_ediv T B;generalize T % B=X at*;generalize T/B=q at*;have x2:X<4294967296^(n+1):=by rw[pw];omega
 have y1:4294967296^i*X≤4294967296^i*(B-1):=Int.mul_le_mul_of_nonneg_left (by omega) (by omega);have y2:0≤4294967296^i*X:=Int.mul_nonneg (by omega) x0;rw[Int.mul_sub,Int.mul_one,Int.mul_comm _ B] at y1;refine⟨⟨t0,t1,t2⟩,⟨x0,x2⟩,?_,?_⟩
 ·unfold qtW;omega
 ·unfold qtW;have hT2:4294967296^i*T=4294967296^i*X+4294967296^i*(B*q):=by rw[← Int.mul_add,hx]
  rw[h,pw,Int.mul_add (4294967296^i) q,Int.mul_add B];have e1:B*(4294967296^i*q)=4294967296^i*(B*q):=by rw[← Int.mul_assoc,Int.mul_comm B,Int.mul_assoc]
  have e2:4294967296^i*(4294967296*v)=4294967296*4294967296^i*v:=by rw[← Int.mul_assoc,Int.mul_comm _ (4294967296:Int)]
  rw[e1,e2];omega
theorem Zzs {W B W0 v:Int}(hW:0≤W∧W<B) (h:W0=W+B*v):v=W0/B∧W=W0 % B:=by
 subst h;rw[Int.add_mul_ediv_left _ _ (by omega),Int.ediv_eq_zero_of_lt hW.1 hW.2,Int.add_mul_emod_self_left,Int.emod_eq_of_lt hW.1 hW.2];omega
theorem ZuI {V:Int}{n:Nat}(hn:0<n) (h0:4294967296^(n-1)≤V) (h1:V<4294967296^n):0<(dg n V).getD (n-1) 0:=by
 have e:dg n V=dg (n-1) V++dg 1 (V/4294967296^(n-1)):=by
  rw[← Zii];congr 1;omega
 have hp:=Za0 (n-1);have h2:(1:Int)≤V/4294967296^(n-1):=(Int.le_ediv_iff_mul_le hp).2 (by omega);have h3:V/4294967296^(n-1)<4294967296:=Int.ediv_lt_of_lt_mul hp (by
  rw[← pw,show n-1+1=n by omega];exact h1)
 have e2:(dg (n-1) V++dg 1 (V/4294967296^(n-1)))[n-1]? =some (V/4294967296^(n-1) % 4294967296):=by
  rw[List.getElem?_append_right (by rw[ZP];omega),ZP,Nat.sub_self];rfl
 rw[e,List.getD,e2];simp only[Option.getD_some];omega
theorem ZuJ {L:List Int}{n k:Nat}{x b:Int}(hL:wds L) (hl:L.length=n) (hn:0<n) (hx:L.getD (n-1) 0=x) (hb:x<b) (hbk:b*2^k≤4294967296):vN L*2^k<4294967296^n:=by
 have eL:L=L.take (n-1)++[x]:=by
  have h2:=Zap (L:=L) (k:=n-1) (by omega);rw[← hx,← h2,show n-1+1=L.length by omega,List.take_length]
 have vL:vN L=vN (L.take (n-1))+4294967296^(n-1)*x:=by
  have:vN L=vN (L.take (n-1)++[x]):=by rw[← eL]
  rw[this,zp,List.length_take,Nat.min_eq_left (by omega)]
 have bL:=ZaM (L.take (n-1)) (Zch hL _);rw[List.length_take,Nat.min_eq_left (by omega)] at bL;have hp:=Za0 (n-1);have hk:(0:Int)<2^k:=Int.pow_pos (by omega);have h1:4294967296^(n-1)*(x+1)≤4294967296^(n-1)*b:=Int.mul_le_mul_of_nonneg_left (by omega) (by omega);have h2:vN L<4294967296^(n-1)*b:=by rw[Int.mul_add] at h1;omega
 have h3:=Int.mul_lt_mul_of_pos_right h2 hk;have h4:4294967296^(n-1)*(b*2^k)≤4294967296^(n-1)*4294967296:=Int.mul_le_mul_of_nonneg_left hbk (by omega);have h5:(4294967296:Int)^n=4294967296^(n-1)*4294967296:=by
  have:=pw (n-1);rw[show n-1+1=n by omega] at this;rw[this,Int.mul_comm]
 rw[h5];rw[Int.mul_assoc] at h3;omega
end Go.Nt
